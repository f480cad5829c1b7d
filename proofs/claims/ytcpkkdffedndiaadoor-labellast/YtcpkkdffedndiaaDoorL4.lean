/- Contracts of Next and Rise, of the program and of the document. -/
import Derived.Test.YtcpkkdffedndiaaDoorLB
namespace Go.Proofs.YtcpkkdffedndiaaDoor
open Go.RowKit Go.Proofs.U
set_option linter.unusedSimpArgs false
set_option linter.unusedVariables false

def nxt (e s : Int) : Int × Int × Int := if okL e s then (if s = 1048576 then (0, 0, 32) else (e, s + 1, 0)) else (0, 0, 31)
def ris (e s : Int) : Int × Int × Int := if okL e s then (if e = 1048576 then (0, 0, 33) else (e + 1, 0, 0)) else (0, 0, 31)
/-- A label and an error's number. -/
abbrev labE (t : Int × Int × Int) : Value := .tuple #[lab t.1 t.2.1, .int .i64 t.2.2]

theorem two_boxes (w w1 : World) (e s : Int) (f1 : Fr noB ((w.alloc (.cells #[.int .u32 e, .int .u32 s] 24)).alloc (.cells #[.int .u32 0, .int .u32 0] 24)) w1) :
    Bx w1 w.heap.size e s ∧ Bx w1 (w.heap.size + 1) 0 0 := by
  refine ⟨((Bx.made w e s).alloc _).fr0 f1, Bx.fr0 ?_ f1⟩
  have := Bx.made (w.alloc (.cells #[.int .u32 e, .int .u32 s] 24)) 0 0
  simpa using this

set_option maxHeartbeats 1000000 in
theorem next_any (e s : Int) (w : World) (hu : U2 e s) :
    Calls Tryd.prog 10 #[lab e s] w fun r w' => r = .returned (labE (nxt e s)) ∧ Fr noB w w' := by
  obtain ⟨he0, he1, hs0, hs1⟩ := hu
  have go1 := fun w1 f1 => two_boxes w w1 e s f1
  by_cases h1 : okL e s = true
  · by_cases h2 : s = 1048576
    · have hn : nxt e s = (0, 0, 32) := by unfold nxt; rw [if_pos h1, if_pos h2]
      rw [hn]
      subst h2
      go_enter Tryd.func10, Tryd.ntmps10
      go_wp2_with (first
        | (go_at_call 16; go_must (refine (right_any _ _ _).mono ?_; rintro e1 w1 ⟨rfl, f1⟩; obtain ⟨b1, b2⟩ := go1 w1 f1; obtain ⟨k1, k2, k3, k4⟩ := b1.all; obtain ⟨m1, m2, m3, m4⟩ := b2.all))
        | (refine wpList_stL rfl _ _ rfl (w.heap.size + 1) rfl _ _ _ _ rfl b2 ?_; intro w2 b3 f2 z2; obtain ⟨n1, n2, n3, n4⟩ := b3.all))
      refine bodyPost_ret (v := labE (0, 0, 32)) (by simp [results, Tryd.results10, go_sem, n1, n2]) rfl ⟨rfl, ?_⟩
      exact ((((Fr.refl _ _).alloc _).alloc _).thenN f1).thenT f2 (fun i hi q => by unfold onL at q; omega)
    · have hn : nxt e s = (e, s + 1, 0) := by unfold nxt; rw [if_pos h1, if_neg h2]
      have hb : (s == 1048576) = false := by simpa using h2
      have hle : e ≤ 1048576 ∧ s ≤ 1048576 := by simpa [okL] using h1
      rw [hn]
      go_enter Tryd.func10, Tryd.ntmps10
      go_wp2_with (first
        | (go_at_call 16; go_must (refine (right_any _ _ _).mono ?_; rintro e1 w1 ⟨rfl, f1⟩; obtain ⟨b1, b2⟩ := go1 w1 f1; obtain ⟨k1, k2, k3, k4⟩ := b1.all; obtain ⟨m1, m2, m3, m4⟩ := b2.all))
        | (refine wpList_stL rfl _ _ rfl (w.heap.size + 1) rfl _ _ _ _ rfl b2 ?_; intro w2 b3 f2 z2; obtain ⟨n1, n2, n3, n4⟩ := b3.all))
      refine bodyPost_ret (v := labE (e, s + 1, 0)) (by simp [results, Tryd.results10, go_sem, n1, n2]) rfl ⟨rfl, ?_⟩
      exact ((((Fr.refl _ _).alloc _).alloc _).thenN f1).thenT f2 (fun i hi q => by unfold onL at q; omega)
  · have hn : nxt e s = (0, 0, 31) := by unfold nxt; rw [if_neg h1]
    have h1 : okL e s = false := by simpa using h1
    rw [hn]
    skip
    · skip
      go_enter Tryd.func10, Tryd.ntmps10
      go_wp2_with (first
        | (go_at_call 16; go_must (refine (right_any _ _ _).mono ?_; rintro e1 w1 ⟨rfl, f1⟩; obtain ⟨b1, b2⟩ := go1 w1 f1; obtain ⟨k1, k2, k3, k4⟩ := b1.all; obtain ⟨m1, m2, m3, m4⟩ := b2.all))
        | (refine wpList_stL rfl _ _ rfl (w.heap.size + 1) rfl _ _ _ _ rfl b2 ?_; intro w2 b3 f2 z2; obtain ⟨n1, n2, n3, n4⟩ := b3.all))
      refine bodyPost_ret (v := labE (0, 0, 31)) (by simp [results, Tryd.results10, go_sem, n1, n2]) rfl ⟨rfl, ?_⟩
      exact ((((Fr.refl _ _).alloc _).alloc _).thenN f1).thenT f2 (fun i hi q => by unfold onL at q; omega)

set_option maxHeartbeats 1000000 in
theorem rnext_any (e s : Int) (w : World) (hu : U2 e s) :
    Calls Tryd.prog 14 #[lab e s] w fun r w' => r = .returned (labE (nxt e s)) ∧ Fr noB w w' := by
  obtain ⟨he0, he1, hs0, hs1⟩ := hu
  have go1 := fun w1 f1 => two_boxes w w1 e s f1
  by_cases h1 : okL e s = true
  · by_cases h2 : s = 1048576
    · have hn : nxt e s = (0, 0, 32) := by unfold nxt; rw [if_pos h1, if_pos h2]
      rw [hn]
      subst h2
      go_enter Tryd.func14, Tryd.ntmps14
      go_wp2_with (first
        | (go_at_call 17; go_must (refine (rright_any _ _ _).mono ?_; rintro e1 w1 ⟨rfl, f1⟩; obtain ⟨b1, b2⟩ := go1 w1 f1; obtain ⟨k1, k2, k3, k4⟩ := b1.all; obtain ⟨m1, m2, m3, m4⟩ := b2.all))
        | (refine wpList_stL rfl _ _ rfl (w.heap.size + 1) rfl _ _ _ _ rfl b2 ?_; intro w2 b3 f2 z2; obtain ⟨n1, n2, n3, n4⟩ := b3.all))
      refine bodyPost_ret (v := labE (0, 0, 32)) (by simp [results, Tryd.results14, go_sem, n1, n2]) rfl ⟨rfl, ?_⟩
      exact ((((Fr.refl _ _).alloc _).alloc _).thenN f1).thenT f2 (fun i hi q => by unfold onL at q; omega)
    · have hn : nxt e s = (e, s + 1, 0) := by unfold nxt; rw [if_pos h1, if_neg h2]
      have hb : (s == 1048576) = false := by simpa using h2
      have hle : e ≤ 1048576 ∧ s ≤ 1048576 := by simpa [okL] using h1
      rw [hn]
      go_enter Tryd.func14, Tryd.ntmps14
      go_wp2_with (first
        | (go_at_call 17; go_must (refine (rright_any _ _ _).mono ?_; rintro e1 w1 ⟨rfl, f1⟩; obtain ⟨b1, b2⟩ := go1 w1 f1; obtain ⟨k1, k2, k3, k4⟩ := b1.all; obtain ⟨m1, m2, m3, m4⟩ := b2.all))
        | (refine wpList_stL rfl _ _ rfl (w.heap.size + 1) rfl _ _ _ _ rfl b2 ?_; intro w2 b3 f2 z2; obtain ⟨n1, n2, n3, n4⟩ := b3.all))
      refine bodyPost_ret (v := labE (e, s + 1, 0)) (by simp [results, Tryd.results14, go_sem, n1, n2]) rfl ⟨rfl, ?_⟩
      exact ((((Fr.refl _ _).alloc _).alloc _).thenN f1).thenT f2 (fun i hi q => by unfold onL at q; omega)
  · have hn : nxt e s = (0, 0, 31) := by unfold nxt; rw [if_neg h1]
    have h1 : okL e s = false := by simpa using h1
    rw [hn]
    skip
    · skip
      go_enter Tryd.func14, Tryd.ntmps14
      go_wp2_with (first
        | (go_at_call 17; go_must (refine (rright_any _ _ _).mono ?_; rintro e1 w1 ⟨rfl, f1⟩; obtain ⟨b1, b2⟩ := go1 w1 f1; obtain ⟨k1, k2, k3, k4⟩ := b1.all; obtain ⟨m1, m2, m3, m4⟩ := b2.all))
        | (refine wpList_stL rfl _ _ rfl (w.heap.size + 1) rfl _ _ _ _ rfl b2 ?_; intro w2 b3 f2 z2; obtain ⟨n1, n2, n3, n4⟩ := b3.all))
      refine bodyPost_ret (v := labE (0, 0, 31)) (by simp [results, Tryd.results14, go_sem, n1, n2]) rfl ⟨rfl, ?_⟩
      exact ((((Fr.refl _ _).alloc _).alloc _).thenN f1).thenT f2 (fun i hi q => by unfold onL at q; omega)

set_option maxHeartbeats 1000000 in
theorem rise_any (e s : Int) (w : World) (hu : U2 e s) :
    Calls Tryd.prog 11 #[lab e s] w fun r w' => r = .returned (labE (ris e s)) ∧ Fr noB w w' := by
  obtain ⟨he0, he1, hs0, hs1⟩ := hu
  have go1 := fun w1 f1 => two_boxes w w1 e s f1
  by_cases h1 : okL e s = true
  · by_cases h2 : e = 1048576
    · have hn : ris e s = (0, 0, 33) := by unfold ris; rw [if_pos h1, if_pos h2]
      rw [hn]
      subst h2
      go_enter Tryd.func11, Tryd.ntmps11
      go_wp2_with (first
        | (go_at_call 16; go_must (refine (right_any _ _ _).mono ?_; rintro e1 w1 ⟨rfl, f1⟩; obtain ⟨b1, b2⟩ := go1 w1 f1; obtain ⟨k1, k2, k3, k4⟩ := b1.all; obtain ⟨m1, m2, m3, m4⟩ := b2.all))
        | (refine wpList_stL rfl _ _ rfl (w.heap.size + 1) rfl _ _ _ _ rfl b2 ?_; intro w2 b3 f2 z2; obtain ⟨n1, n2, n3, n4⟩ := b3.all))
      refine bodyPost_ret (v := labE (0, 0, 33)) (by simp [results, Tryd.results11, go_sem, n1, n2]) rfl ⟨rfl, ?_⟩
      exact ((((Fr.refl _ _).alloc _).alloc _).thenN f1).thenT f2 (fun i hi q => by unfold onL at q; omega)
    · have hn : ris e s = (e + 1, 0, 0) := by unfold ris; rw [if_pos h1, if_neg h2]
      have hb : (e == 1048576) = false := by simpa using h2
      have hle : e ≤ 1048576 ∧ s ≤ 1048576 := by simpa [okL] using h1
      rw [hn]
      go_enter Tryd.func11, Tryd.ntmps11
      go_wp2_with (first
        | (go_at_call 16; go_must (refine (right_any _ _ _).mono ?_; rintro e1 w1 ⟨rfl, f1⟩; obtain ⟨b1, b2⟩ := go1 w1 f1; obtain ⟨k1, k2, k3, k4⟩ := b1.all; obtain ⟨m1, m2, m3, m4⟩ := b2.all))
        | (refine wpList_stL rfl _ _ rfl (w.heap.size + 1) rfl _ _ _ _ rfl b2 ?_; intro w2 b3 f2 z2; obtain ⟨n1, n2, n3, n4⟩ := b3.all))
      refine bodyPost_ret (v := labE (e + 1, 0, 0)) (by simp [results, Tryd.results11, go_sem, n1, n2]) rfl ⟨rfl, ?_⟩
      exact ((((Fr.refl _ _).alloc _).alloc _).thenN f1).thenT f2 (fun i hi q => by unfold onL at q; omega)
  · have hn : ris e s = (0, 0, 31) := by unfold ris; rw [if_neg h1]
    have h1 : okL e s = false := by simpa using h1
    rw [hn]
    skip
    · skip
      go_enter Tryd.func11, Tryd.ntmps11
      go_wp2_with (first
        | (go_at_call 16; go_must (refine (right_any _ _ _).mono ?_; rintro e1 w1 ⟨rfl, f1⟩; obtain ⟨b1, b2⟩ := go1 w1 f1; obtain ⟨k1, k2, k3, k4⟩ := b1.all; obtain ⟨m1, m2, m3, m4⟩ := b2.all))
        | (refine wpList_stL rfl _ _ rfl (w.heap.size + 1) rfl _ _ _ _ rfl b2 ?_; intro w2 b3 f2 z2; obtain ⟨n1, n2, n3, n4⟩ := b3.all))
      refine bodyPost_ret (v := labE (0, 0, 31)) (by simp [results, Tryd.results11, go_sem, n1, n2]) rfl ⟨rfl, ?_⟩
      exact ((((Fr.refl _ _).alloc _).alloc _).thenN f1).thenT f2 (fun i hi q => by unfold onL at q; omega)

set_option maxHeartbeats 1000000 in
theorem rrise_any (e s : Int) (w : World) (hu : U2 e s) :
    Calls Tryd.prog 15 #[lab e s] w fun r w' => r = .returned (labE (ris e s)) ∧ Fr noB w w' := by
  obtain ⟨he0, he1, hs0, hs1⟩ := hu
  have go1 := fun w1 f1 => two_boxes w w1 e s f1
  by_cases h1 : okL e s = true
  · by_cases h2 : e = 1048576
    · have hn : ris e s = (0, 0, 33) := by unfold ris; rw [if_pos h1, if_pos h2]
      rw [hn]
      subst h2
      go_enter Tryd.func15, Tryd.ntmps15
      go_wp2_with (first
        | (go_at_call 17; go_must (refine (rright_any _ _ _).mono ?_; rintro e1 w1 ⟨rfl, f1⟩; obtain ⟨b1, b2⟩ := go1 w1 f1; obtain ⟨k1, k2, k3, k4⟩ := b1.all; obtain ⟨m1, m2, m3, m4⟩ := b2.all))
        | (refine wpList_stL rfl _ _ rfl (w.heap.size + 1) rfl _ _ _ _ rfl b2 ?_; intro w2 b3 f2 z2; obtain ⟨n1, n2, n3, n4⟩ := b3.all))
      refine bodyPost_ret (v := labE (0, 0, 33)) (by simp [results, Tryd.results15, go_sem, n1, n2]) rfl ⟨rfl, ?_⟩
      exact ((((Fr.refl _ _).alloc _).alloc _).thenN f1).thenT f2 (fun i hi q => by unfold onL at q; omega)
    · have hn : ris e s = (e + 1, 0, 0) := by unfold ris; rw [if_pos h1, if_neg h2]
      have hb : (e == 1048576) = false := by simpa using h2
      have hle : e ≤ 1048576 ∧ s ≤ 1048576 := by simpa [okL] using h1
      rw [hn]
      go_enter Tryd.func15, Tryd.ntmps15
      go_wp2_with (first
        | (go_at_call 17; go_must (refine (rright_any _ _ _).mono ?_; rintro e1 w1 ⟨rfl, f1⟩; obtain ⟨b1, b2⟩ := go1 w1 f1; obtain ⟨k1, k2, k3, k4⟩ := b1.all; obtain ⟨m1, m2, m3, m4⟩ := b2.all))
        | (refine wpList_stL rfl _ _ rfl (w.heap.size + 1) rfl _ _ _ _ rfl b2 ?_; intro w2 b3 f2 z2; obtain ⟨n1, n2, n3, n4⟩ := b3.all))
      refine bodyPost_ret (v := labE (e + 1, 0, 0)) (by simp [results, Tryd.results15, go_sem, n1, n2]) rfl ⟨rfl, ?_⟩
      exact ((((Fr.refl _ _).alloc _).alloc _).thenN f1).thenT f2 (fun i hi q => by unfold onL at q; omega)
  · have hn : ris e s = (0, 0, 31) := by unfold ris; rw [if_neg h1]
    have h1 : okL e s = false := by simpa using h1
    rw [hn]
    skip
    · skip
      go_enter Tryd.func15, Tryd.ntmps15
      go_wp2_with (first
        | (go_at_call 17; go_must (refine (rright_any _ _ _).mono ?_; rintro e1 w1 ⟨rfl, f1⟩; obtain ⟨b1, b2⟩ := go1 w1 f1; obtain ⟨k1, k2, k3, k4⟩ := b1.all; obtain ⟨m1, m2, m3, m4⟩ := b2.all))
        | (refine wpList_stL rfl _ _ rfl (w.heap.size + 1) rfl _ _ _ _ rfl b2 ?_; intro w2 b3 f2 z2; obtain ⟨n1, n2, n3, n4⟩ := b3.all))
      refine bodyPost_ret (v := labE (0, 0, 31)) (by simp [results, Tryd.results15, go_sem, n1, n2]) rfl ⟨rfl, ?_⟩
      exact ((((Fr.refl _ _).alloc _).alloc _).thenN f1).thenT f2 (fun i hi q => by unfold onL at q; omega)
end Go.Proofs.YtcpkkdffedndiaaDoor
