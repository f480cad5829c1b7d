/- Texts V13 of the proof of RootNames, one behind the other. -/
import Derived.Test.YtijgfojnppcbjaaBundleRootNames1
import Derived.Test.YtijgfojnppcbjaaBundleRootNames2
import Derived.Test.YtijgfojnppcbjaaBundleRootNames3
import Derived.Test.YtijgfojnppcbjaaBundleRootNames4
import Derived.Test.YtijgfojnppcbjaaBundleRootNames5
import Derived.Test.YtijgfojnppcbjaaBundleRootNames6
import Derived.Test.YtijgfojnppcbjaaBundleRootNames7
import Derived.Test.YtijgfojnppcbjaaBundleRootNames8
import Derived.Test.YtijgfojnppcbjaaBundleRootNames9
import Derived.Test.YtijgfojnppcbjaaBundleRootNames10
import Derived.Test.YtijgfojnppcbjaaBundleRootNames11
import Derived.Test.YtijgfojnppcbjaaBundleRootNames12
import Derived.Test.YtijgfojnppcbjaaBundleRootNames13
/- The example that layer 5's statements ask first; RootNames. -/
namespace Go.Proofs.Ytijgfojnppcbjaa
open Go.RowKit Go.Proofs.U
set_option linter.unusedSimpArgs false
set_option linter.unusedVariables false
theorem newD_byt (n : Int) : (newD n).byt := by
  refine ⟨?_, by intro x hx; simp [newD] at hx⟩
  intro p hp
  have : p = zeroP := List.eq_of_mem_replicate hp
  rw [this]; exact zeroP_byt
def XA : DSt := (rWrite (newD 4) [97, 98]).1
theorem aliveW : (rWrite (newD 4) [97, 98]).2 = (1, 0) := by kernel_rfl
theorem aliveR : rRead XA = ([97, 98], 1, 0) := by kernel_rfl
theorem aliveN : XA.pend.length = 0 := by kernel_rfl
theorem write_byt {X : DSt} (h : X.byt) (i : Int) {p : List Int} (hp : Byt p) : (X.write i p).byt := by
  unfold DSt.write
  split
  · split
    · refine ⟨h.1, ?_⟩
      intro x hx
      have hx : x ∈ X.pend ++ [(i, p)] := hx
      rcases List.mem_append.1 hx with hx | hx
      · exact h.2 x hx
      · simp at hx; subst hx; exact hp
    · exact h
  · exact h
theorem getD_byt {L : List (List Int)} (h : ∀ p ∈ L, Byt p) (i : Nat) : Byt (L.getD i []) := by
  by_cases hj : i < L.length
  · have : L.getD i [] = L[i] := by simp [List.getD, hj]
    rw [this]; exact h _ (by simp)
  · have : L.getD i [] = [] := by simp [List.getD, hj]
    rw [this]; intro n hn; simp at hn
theorem setS_byt {pages : List (List Int)} {pend : List (Int × List Int)} (h1 : ∀ p ∈ pages, Byt p) (h2 : ∀ x ∈ pend, Byt x.2) (st : Nat → Nat → Bool) (k : Nat) : ∀ p ∈ setS pages pend st k, Byt p := by
  have nb : Byt [] := by intro n hn; simp at hn
  induction k with
  | zero => exact h1
  | succ k ih =>
    rw [setS_succ]
    unfold setS1
    intro p hp
    rcases List.mem_or_eq_of_mem_set hp with hp | rfl
    · exact ih p hp
    · refine mixS_byt ?_ ?_ _
      · exact getD_byt ih _
      · by_cases hj : k < pend.length
        · have : pend.getD k (0, []) = pend[k] := by simp [List.getD, hj]
          rw [this]; exact h2 _ (by simp)
        · have : pend.getD k (0, []) = (0, []) := by simp [List.getD, hj]
          rw [this]; exact nb
theorem act_byt {X : DSt} (h : X.byt) : X.act.byt := h
theorem sync_byt {X : DSt} (h : X.byt) : X.sync.byt := by
  unfold DSt.sync
  split
  · exact ⟨setS_byt h.1 h.2 _ _, by intro x hx; simp [DSt.settle] at hx⟩
  · exact h
theorem crash_byt {X : DSt} (h : X.byt) (keep : List Int) : (X.crash keep).byt := ⟨setS_byt h.1 h.2 _ _, by intro x hx; simp [DSt.crash] at hx⟩
theorem rWrite_byt {X : DSt} (h : X.byt) {c : List Int} (hc : Byt c) : (rWrite X c).1.byt := by
  unfold rWrite
  split
  · exact h
  · split
    · exact h
    · have h1 : (X.write ((rNext X).1 % 2) (rootP (rNext X).1 c)).byt := write_byt h _ (rootP_byt _ hc)
      dsimp only
      split
      · exact h1
      · split
        · exact sync_byt h1
        · exact sync_byt h1
theorem str97 : ((strOfNums [97, 98]).toList == [97, 98]) = true := by decide +kernel

set_option maxRecDepth 100000 in
set_option maxHeartbeats 2000000 in
theorem ralive_any (w : World) : Calls Try.prog 12 #[] w fun r w' => r = .returned (.bool true) ∧ Fr noB w w' := by
  have hst := str97
  have hby := newD_byt 4
  have hw := aliveW
  have hrd := aliveR
  have hpn := aliveN
  have hbX : XA.byt := rWrite_byt hby (by intro n hn; simp at hn; rcases hn with rfl | rfl <;> decide)
  have hX : (rWrite (newD 4) [97, 98]).1 = XA := rfl
  obtain ⟨X1, HX1⟩ : ∃ X, Hid (XA = X) := ⟨_, rfl⟩
  have hp0 : (newD 4).pend.length ≤ 90000 := by decide
  obtain ⟨X0, HX0⟩ : ∃ X, Hid (newD 4 = X) := ⟨_, rfl⟩
  rw [HX1.out] at hrd hpn hbX hX
  rw [HX0.out] at hby hw hX hp0
  have hwr := show Hid _ from fun (F : Nat → Prop) (g : Nat) (v : Value) (W : World) (h : Disk W F g X0) (hS : SlI .u8 W v [97, 98]) => rwrite_p g v [97, 98] W h hp0 hby hS
  simp only [hw, hX] at hwr
  have hrr := show Hid _ from fun (F : Nat → Prop) (g : Nat) (W : World) (h : Disk W F g X1) => rread_p g W h (by omega) hbX
  unfold ReadIs at hrr
  simp only [hrd] at hrr
  clear hw hrd hX hby hbX hpn hp0
  go_enter Try.func12, Try.ntmps12
  go_wp2_with (first
    | (go_at_call 8; go_must (refine (new_any 4 (by omega) _).mono ?_; rw [HX0.out]; rintro e w1 ⟨g, rfl, d1, f1⟩))
    | (refine at_conv 24 24 _ rfl ?_; refine wpList_const rfl _ rfl w1 _ _ _ [97, 98] rfl rfl rfl (by rfl) (by decide) rfl ?_; intro w2 f2 i2)
    | (go_at_call 10; go_must (refine (hwr.out _ g _ _ (d1.fr0 f2) i2).mono ?_; rintro e w3 ⟨rfl, d3, f3⟩))
    | (go_at_call 9; go_must (refine (hrr.out _ g _ d3).mono ?_; rintro e w4 ⟨v4, rfl, i4, n4, f4⟩))
    | (refine at_conv 24 9 _ rfl ?_; go_must (refine wpList_str rfl _ 24 9 5 rfl Try.underlying24 Try.underlying5 Try.underlying9 _ _ rfl i4 ?_)))
  go_ret
  have z1 := f1.size
  exact ⟨rfl, ((f1.thenN f2).thenT (S := noB) f3 (fun k hk q => by omega)).thenN f4⟩

theorem nmR : rRead (newD 4) = ([], 0, 51) := by kernel_rfl
theorem nmW : rWrite (newD 4) (List.replicate 187 0) = (newD 4, 0, 51) := by kernel_rfl
theorem nmR1 : rRead (newD 1) = ([], 0, 41) := by kernel_rfl
theorem nmX : rNext (newD 4) = (1, 0) := by kernel_rfl

set_option maxRecDepth 100000 in
set_option maxHeartbeats 2000000 in
theorem rnames_walk (w : World) : Calls Try.prog 3 #[] w fun r w' => r = .returned (.bool true) ∧ Below w.heap.size w w' := by
  have hby := newD_byt 4
  have hby1 := newD_byt 1
  have h1 := nmR
  have h2 := nmW
  have h3 := nmR1
  have h4 := nmX
  have hp0 : (newD 4).pend.length ≤ 90000 := by decide
  have hp1 : (newD 1).pend.length ≤ 90000 := by decide
  obtain ⟨X0, HX0⟩ : ∃ X, Hid (newD 4 = X) := ⟨_, rfl⟩
  obtain ⟨X1, HX1⟩ : ∃ X, Hid (newD 1 = X) := ⟨_, rfl⟩
  obtain ⟨Z, HZ⟩ : ∃ X, Hid (List.replicate 187 (0 : Int) = X) := ⟨_, rfl⟩
  have hZb : Byt Z := by rw [← HZ.out]; intro n hn; rw [List.eq_of_mem_replicate hn]; decide
  have hZl : Hid (Z.length = 187) := by show _ = _; rw [← HZ.out]; exact List.length_replicate
  rw [HX0.out] at hby hp0 h1 h2 h4
  rw [HX1.out] at hby1 hp1 h3
  rw [HZ.out] at h2
  have hwr := show Hid _ from fun (F : Nat → Prop) (g : Nat) (v : Value) (W : World) (h : Disk W F g X0) (hS : SlI .u8 W v Z) => rwrite_p g v Z W h hp0 hby hS
  simp only [h2] at hwr
  have hrr := show Hid _ from fun (F : Nat → Prop) (g : Nat) (W : World) (h : Disk W F g X0) => rread_p g W h (by omega) hby
  have hrr1 := show Hid _ from fun (F : Nat → Prop) (g : Nat) (W : World) (h : Disk W F g X1) => rread_p g W h (by omega) hby1
  have hnx := show Hid _ from fun (F : Nat → Prop) (g : Nat) (W : World) (h : Disk W F g X0) => rnext_p g W h (by omega) hby
  unfold ReadIs at hrr hrr1
  simp only [h1] at hrr
  simp only [h3] at hrr1
  simp only [h4] at hnx
  clear h1 h2 h3 h4 hby hby1 hp0 hp1
  go_enter Try.func3, Try.ntmps3
  go_wp2_with (first
    | (go_at_call 8; have d4' := d4; go_must (refine (new_any 1 (by omega) _).mono ?_; rw [HX1.out]; rintro e w5 ⟨g5, rfl, d5, f5⟩))
    | (go_at_call 8; go_must (refine (new_any 4 (by omega) _).mono ?_; rw [HX0.out]; rintro e w1 ⟨g, rfl, d1, f1⟩))
    | (go_at_call 9; have d5' := d5; go_must (refine (hrr1.out _ g5 _ d5).mono ?_; rintro e w6 ⟨v6, rfl, i6, n6, f6⟩))
    | (go_at_call 9; go_must (refine (hrr.out _ g _ d1).mono ?_; rintro e w2 ⟨v2, rfl, i2, n2, f2⟩))
    | (refine at_make 24 _ _ rfl ?_; go_must (refine wpList_mkB rfl _ _ rfl 187 187 rfl rfl rfl (by decide) ?_; rw [HZ.out]; intro g3 w3 b3 f3 s3; have i3 : SlI .u8 w3 (.slice (some ⟨g3, 0, none⟩) 187 187) Z := (by have := BxV.slI b3 hZb 0 187 187 (by have := hZl.out; omega) (by omega); rwa [List.drop_zero, List.take_of_length_le (by have := hZl.out; omega)] at this)))
    | (go_at_call 10; go_must (refine (hwr.out _ g _ _ ((d1.fr0 f2).fr0 f3) i3).mono ?_; rintro e w4 ⟨rfl, d4, f4⟩))
    | (go_at_call 11; go_must (refine (hnx.out _ g _ ((d4.fr0 f5).fr0 f6)).mono ?_; rintro e w7 ⟨rfl, f7⟩))
    | (go_at_call 12; go_must (refine (ralive_any _).mono ?_; rintro e w8 ⟨rfl, f8⟩)))
  go_ret
  have z1 := f1.size
  exact ⟨rfl, (((((((f1.thenN f2).thenN f3).thenT (S := noB) f4 (fun k hk q => by omega)).thenN f5).thenN f6).thenN f7).thenN f8).below⟩
end Go.Proofs.Ytijgfojnppcbjaa
