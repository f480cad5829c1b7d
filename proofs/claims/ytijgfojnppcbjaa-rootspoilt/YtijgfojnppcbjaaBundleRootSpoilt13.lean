/- Texts V8, V9, V10, V11, V12, B5a, C3, C4 of the proof of RootSpoilt, one behind the other. -/
import Derived.Lib.SlBytesConst
import Derived.Test.YtijgfojnppcbjaaBundleRootSpoilt1
import Derived.Test.YtijgfojnppcbjaaBundleRootSpoilt2
import Derived.Test.YtijgfojnppcbjaaBundleRootSpoilt3
import Derived.Test.YtijgfojnppcbjaaBundleRootSpoilt4
import Derived.Test.YtijgfojnppcbjaaBundleRootSpoilt5
import Derived.Test.YtijgfojnppcbjaaBundleRootSpoilt6
import Derived.Test.YtijgfojnppcbjaaBundleRootSpoilt7
import Derived.Test.YtijgfojnppcbjaaBundleRootSpoilt8
import Derived.Test.YtijgfojnppcbjaaBundleRootSpoilt9
import Derived.Test.YtijgfojnppcbjaaBundleRootSpoilt10
import Derived.Test.YtijgfojnppcbjaaBundleRootSpoilt11
import Derived.Test.YtijgfojnppcbjaaBundleRootSpoilt12
/- Read and Next of package root. -/
namespace Go.Proofs.Ytijgfojnppcbjaa
open Go.RowKit Go.Proofs.U
set_option linter.unusedSimpArgs false
set_option linter.unusedVariables false

/-- What Read answers. -/
def ReadIs (w w' : World) (X : DSt) (e : Ending) : Prop := ∃ v, e = .returned (.tuple #[v, .int .u64 (rRead X).2.1, .int .i64 (rRead X).2.2]) ∧ SlI .u8 w' v (rRead X).1 ∧ (∀ q, v.ownBlock = some q → w.heap.size ≤ q ∧ q < w'.heap.size) ∧ Fr noB w w'

set_option maxRecDepth 100000 in
set_option maxHeartbeats 2000000 in
theorem rread_p {F : Nat → Prop} {X : DSt} (g : Nat) (w : World) (hD : Disk w F g X) (hm : X.pend.length ≤ 100000) (hb : X.byt) :
    Calls Try.prog 9 #[ptr g] w fun e w' => ReadIs w w' X e := by
  unfold ReadIs
  have hsl := show Hid _ from fun (W : World) (h : Disk W F g X) => slots_any g W h hm
  have hA : (slA X).length = 256 := by unfold slA; split <;> first | exact readP_len hD 0 | exact zeroP_len
  have hB : (slB X).length = 256 := by unfold slB; split <;> first | exact readP_len hD 1 | exact zeroP_len
  obtain ⟨Z, HZ⟩ : ∃ Z, Hid (zeroP = Z) := ⟨_, rfl⟩
  have hZl : Hid (Z.length = 256) := by show _ = _; rw [← HZ.out]; exact zeroP_len
  have b0 := readP_byt hb 0
  have b1 := readP_byt hb 1
  obtain ⟨E, HE⟩ : ∃ E, Hid (rdE X = E) := ⟨_, rfl⟩
  by_cases he : E = 0
  · subst he
    have hsA : slA X = (readP X 0).1 := by unfold slA; rw [HE.out]; rfl
    have hsB : slB X = (readP X 1).1 := by unfold slB; rw [HE.out]; rfl
    have hnw := show Hid _ from fun W => newestOf_any _ _ (hsA ▸ hA) (hsB ▸ hB) b0 b1 W
    have hrr : rRead X = if (nwst X).1 = 0 then ([], 0, 51) else ((nwst X).2, (nwst X).1, 0) := by unfold rRead; rw [HE.out]; rfl
    rw [hrr]
    unfold nwst
    have hnb := newest_bd b0 b1
    rw [hsA] at hA
    rw [hsB] at hB
    simp only [hsA, hsB, HE.out] at hsl
    clear hsA hsB hrr b0 b1
    obtain ⟨P0, H0⟩ : ∃ P, Hid ((readP X 0).1 = P) := ⟨_, rfl⟩
    obtain ⟨P1, H1⟩ : ∃ P, Hid ((readP X 1).1 = P) := ⟨_, rfl⟩
    simp only [H0.out, H1.out] at hA hB hsl hnw hnb ⊢
    obtain ⟨⟨G, C⟩, HN⟩ : ∃ R, Hid (newest P0 P1 = R) := ⟨_, rfl⟩
    simp only [HN.out] at hnw hnb ⊢
    have hA := show Hid _ from hA
    have hB := show Hid _ from hB
    by_cases hG : G = 0
    · subst hG
      simp only [if_true]
      go_enter Try.func9, Try.ntmps9
      go_wp2_with (first
        | (go_at_call 29; go_must (refine (hsl.out _ hD).mono ?_; rintro e w1 ⟨rfl, f1⟩))
        | (with_reducible refine at_wpP ?_; refine wpList_alloc2 rfl rfl ?_; rw [HZ.out]; intro g2 w2 hg2 b2 f2 s2; have l2 := b2.lt; have z1 := f1.size)
        | (with_reducible refine at_wpP ?_; refine at_st 73 _ _ rfl ?_; go_must (refine wpList_st2P rfl _ _ rfl g2 rfl P0 P1 Z Z rfl b2 hA.out hB.out hZl.out hZl.out ?_; intro w3 b3 f3; have z3 := f3.size))
        | (with_reducible refine at_wpP ?_; refine at_ld 73 _ rfl ?_; go_must (refine wpList_ld2 rfl _ rfl g2 rfl P0 P1 b3 hA.out hB.out ?_))
        | (go_at_call 30; go_must (refine (hnw.out _).mono ?_; rintro e w4 ⟨v4, rfl, i4, n4, f4⟩; have isv : isSl v4 := (by obtain ⟨a, c, rfl, _⟩ := i4.opn; exact isSl_mk _ _ _)))
        | (with_reducible refine at_wpP ?_; refine wpList_allocRt rfl rfl ?_; intro g5 w5 hg5 b5 f5 s5; have l5 := b5.lt; have z4 := f4.size)
        | (with_reducible refine at_wpP ?_; refine at_st 77 _ _ rfl ?_; go_must (refine wpList_stRt rfl _ _ rfl g5 rfl 0 v4 rfl isv _ _ b5 ?_; intro w6 b6 f6; obtain ⟨q0, _⟩ := b6.cell 0 _ rfl; obtain ⟨q1, _⟩ := b6.cell 1 _ rfl)))
      go_ret3
      refine ⟨_, rfl, SlI.nil _ _, (fun q hq => by simp [Value.ownBlock] at hq), ?_⟩
      exact ((((f1.thenN f2).thenT f3 (fun i hi q => by unfold onB1 at q; omega)).thenN f4).thenN f5).thenT f6 (fun i hi q => by unfold onB1 at q; omega)
    · have hG2 : (G == 0) = false := by simpa using hG
      rw [if_neg hG]
      go_enter Try.func9, Try.ntmps9
      go_wp2_with (first
        | (go_at_call 29; go_must (refine (hsl.out _ hD).mono ?_; rintro e w1 ⟨rfl, f1⟩))
        | (with_reducible refine at_wpP ?_; refine wpList_alloc2 rfl rfl ?_; rw [HZ.out]; intro g2 w2 hg2 b2 f2 s2; have l2 := b2.lt; have z1 := f1.size)
        | (with_reducible refine at_wpP ?_; refine at_st 73 _ _ rfl ?_; go_must (refine wpList_st2P rfl _ _ rfl g2 rfl P0 P1 Z Z rfl b2 hA.out hB.out hZl.out hZl.out ?_; intro w3 b3 f3; have z3 := f3.size))
        | (with_reducible refine at_wpP ?_; refine at_ld 73 _ rfl ?_; go_must (refine wpList_ld2 rfl _ rfl g2 rfl P0 P1 b3 hA.out hB.out ?_))
        | (go_at_call 30; go_must (refine (hnw.out _).mono ?_; rintro e w4 ⟨v4, rfl, i4, n4, f4⟩; have isv : isSl v4 := (by obtain ⟨a, c, rfl, _⟩ := i4.opn; exact isSl_mk _ _ _)))
        | (with_reducible refine at_wpP ?_; refine wpList_allocRt rfl rfl ?_; intro g5 w5 hg5 b5 f5 s5; have l5 := b5.lt; have z4 := f4.size)
        | (with_reducible refine at_wpP ?_; refine at_st 77 _ _ rfl ?_; go_must (refine wpList_stRt rfl _ _ rfl g5 rfl G v4 rfl isv _ _ b5 ?_; intro w6 b6 f6; obtain ⟨q0, _⟩ := b6.cell 0 _ rfl; obtain ⟨q1, _⟩ := b6.cell 1 _ rfl)))
      have i6 : SlI .u8 w6 v4 C := (i4.fr0 f5).fr f6 (fun b hb q => by have := (n4 b hb).2; unfold onB1 at q; omega)
      have F6 : Fr noB w w6 := ((((f1.thenN f2).thenT f3 (fun i hi q => by unfold onB1 at q; omega)).thenN f4).thenN f5).thenT f6 (fun i hi q => by unfold onB1 at q; omega)
      have z5 := f5.size
      have z6 := f6.size
      go_quiet (fail)
      go_wp2
      go_ret3
      refine ⟨v4, rfl, i6.fr0 ((Fr.refl _ _).drewN nq), (fun q hq => ?_), F6.drewN nq⟩
      have := n4 q hq
      exact ⟨by omega, by show q < w6.heap.size; omega⟩
  · have hrr : rRead X = ([], 0, E) := by unfold rRead; rw [HE.out, if_neg he]
    rw [hrr]
    have hsA : slA X = Z := by unfold slA; rw [HE.out, if_neg he]; exact HZ.out
    have hsB : slB X = Z := by unfold slB; rw [HE.out, if_neg he]; exact HZ.out
    simp only [hsA, hsB, HE.out] at hsl
    clear hsA hsB hrr hA hB b0 b1
    go_enter Try.func9, Try.ntmps9
    go_wp2_with (first
      | (go_at_call 29; go_must (refine (hsl.out _ hD).mono ?_; rintro e w1 ⟨rfl, f1⟩))
      | (with_reducible refine at_wpP ?_; refine wpList_alloc2 rfl rfl ?_; rw [HZ.out]; intro g2 w2 hg2 b2 f2 s2; have l2 := b2.lt; have z1 := f1.size)
      | (with_reducible refine at_wpP ?_; refine at_st 73 _ _ rfl ?_; go_must (refine wpList_st2P rfl _ _ rfl g2 rfl Z Z Z Z rfl b2 hZl.out hZl.out hZl.out hZl.out ?_; intro w3 b3 f3; have z3 := f3.size)))
    go_ret3
    exact ⟨_, rfl, SlI.nil _ _, (fun q hq => by simp [Value.ownBlock] at hq), (f1.thenN f2).thenT f3 (fun i hi q => by unfold onB1 at q; omega)⟩
end Go.Proofs.Ytijgfojnppcbjaa
/- Next of package root. -/
namespace Go.Proofs.Ytijgfojnppcbjaa
open Go.RowKit Go.Proofs.U
set_option linter.unusedSimpArgs false
set_option linter.unusedVariables false

theorem slotOf_q (g : Int) (h : 0 ≤ g ∧ g < 18446744073709551616) (w : World) :
    Calls Try.prog 31 #[.int .u64 g] w fun e w' => e = .returned (.int .i64 (g % 2)) ∧ ∃ m, w' = w.drewN m := by
  refine (slotOf_any g h w).mono ?_
  rintro e w' ⟨rfl, rfl⟩
  exact ⟨rfl, 0, rfl⟩
set_option maxRecDepth 100000 in
set_option maxHeartbeats 2000000 in
theorem rnext_p {F : Nat → Prop} {X : DSt} (g : Nat) (w : World) (hD : Disk w F g X) (hm : X.pend.length ≤ 100000) (hb : X.byt) :
    Calls Try.prog 11 #[ptr g] w fun e w' => e = .returned (.tuple #[.int .u64 (rNext X).1, .int .i64 (rNext X).2]) ∧ Fr noB w w' := by
  have hsl := show Hid _ from fun (W : World) (h : Disk W F g X) => slots_any g W h hm
  have hA : (slA X).length = 256 := by unfold slA; split <;> first | exact readP_len hD 0 | exact zeroP_len
  have hB : (slB X).length = 256 := by unfold slB; split <;> first | exact readP_len hD 1 | exact zeroP_len
  obtain ⟨Z, HZ⟩ : ∃ Z, Hid (zeroP = Z) := ⟨_, rfl⟩
  have hZl : Hid (Z.length = 256) := by show _ = _; rw [← HZ.out]; exact zeroP_len
  have b0 := readP_byt hb 0
  have b1 := readP_byt hb 1
  obtain ⟨E, HE⟩ : ∃ E, Hid (rdE X = E) := ⟨_, rfl⟩
  by_cases he : E = 0
  · subst he
    have hsA : slA X = (readP X 0).1 := by unfold slA; rw [HE.out]; rfl
    have hsB : slB X = (readP X 1).1 := by unfold slB; rw [HE.out]; rfl
    have hnw := show Hid _ from fun W => newestOf_any _ _ (hsA ▸ hA) (hsB ▸ hB) b0 b1 W
    have htp := show Hid _ from fun W => topOf_any _ _ (hsA ▸ hA) (hsB ▸ hB) b0 b1 W
    have hrr : rNext X = if 18446744073709551612 < tp X then (0, 51) else (nextG X, 0) := by unfold rNext; rw [HE.out]; rfl
    rw [hrr]
    unfold nextG nwst tp
    have hnb := newest_bd b0 b1
    have htb := top_bd b0 b1
    rw [hsA] at hA
    rw [hsB] at hB
    simp only [hsA, hsB, HE.out] at hsl
    clear hsA hsB hrr b0 b1
    obtain ⟨P0, H0⟩ : ∃ P, Hid ((readP X 0).1 = P) := ⟨_, rfl⟩
    obtain ⟨P1, H1⟩ : ∃ P, Hid ((readP X 1).1 = P) := ⟨_, rfl⟩
    simp only [H0.out, H1.out] at hA hB hsl hnw hnb htp htb ⊢
    obtain ⟨⟨G, C⟩, HN⟩ : ∃ R, Hid (newest P0 P1 = R) := ⟨_, rfl⟩
    obtain ⟨T, HT⟩ : ∃ T, Hid (top P0 P1 = T) := ⟨_, rfl⟩
    simp only [HN.out, HT.out] at hnw hnb htp htb ⊢
    have hA := show Hid _ from hA
    have hB := show Hid _ from hB
    obtain ⟨ht0, ht1⟩ := htb
    by_cases hT : 18446744073709551612 < T
    · rw [if_pos hT]
      go_enter Try.func11, Try.ntmps11
      go_wp2_with (first
        | (go_at_call 29; go_must (refine (hsl.out _ hD).mono ?_; rintro e w1 ⟨rfl, f1⟩))
        | (with_reducible refine at_wpP ?_; refine wpList_alloc2 rfl rfl ?_; rw [HZ.out]; intro g2 w2 hg2 b2 f2 s2; have l2 := b2.lt; have z1 := f1.size)
        | (with_reducible refine at_wpP ?_; refine at_st 73 _ _ rfl ?_; go_must (refine wpList_st2P rfl _ _ rfl g2 rfl P0 P1 Z Z rfl b2 hA.out hB.out hZl.out hZl.out ?_; intro w3 b3 f3; have z3 := f3.size))
        | (with_reducible refine at_wpP ?_; refine at_ld 73 _ rfl ?_; go_must (refine wpList_ld2 rfl _ rfl g2 rfl P0 P1 b3 hA.out hB.out ?_))
        | (go_at_call 34; go_must (refine (htp.out _).mono ?_; rintro e w4 ⟨rfl, f4⟩)))
      go_ret2
      exact ⟨rfl, ((f1.thenN f2).thenT f3 (fun i hi q => by unfold onB1 at q; omega)).thenN f4⟩
    · rw [if_neg hT]
      have hT1 : (Lit.int .u64 (T + 1)).wf = true := u64_wf (by omega) (by omega)
      have hq1 : IntKind.u64.wrap (T + 1) = T + 1 := wrap_u64_id _ (by omega) (by omega)
      by_cases hG : G = 0
      · subst hG
        have hres : (if (0 : Int) ≠ 0 ∧ (T + 1) % 2 = 0 % 2 then T + 2 else T + 1) = T + 1 := by simp
        simp only [hres]
        go_enter Try.func11, Try.ntmps11
        go_wp2_with (first
          | (go_at_call 29; go_must (refine (hsl.out _ hD).mono ?_; rintro e w1 ⟨rfl, f1⟩))
          | (with_reducible refine at_wpP ?_; refine wpList_alloc2 rfl rfl ?_; rw [HZ.out]; intro g2 w2 hg2 b2 f2 s2; have l2 := b2.lt; have z1 := f1.size)
          | (with_reducible refine at_wpP ?_; refine at_st 73 _ _ rfl ?_; go_must (refine wpList_st2P rfl _ _ rfl g2 rfl P0 P1 Z Z rfl b2 hA.out hB.out hZl.out hZl.out ?_; intro w3 b3 f3; have z3 := f3.size))
          | (with_reducible refine at_wpP ?_; refine at_ld 73 _ rfl ?_; have f4' := f4; go_must (refine wpList_ld2 rfl _ rfl g2 rfl P0 P1 (b3.fr0 f4) hA.out hB.out ?_))
          | (with_reducible refine at_wpP ?_; refine at_ld 73 _ rfl ?_; go_must (refine wpList_ld2 rfl _ rfl g2 rfl P0 P1 b3 hA.out hB.out ?_))
          | (go_at_call 34; go_must (refine (htp.out _).mono ?_; rintro e w4 ⟨rfl, f4⟩))
          | (go_at_call 30; go_must (refine (hnw.out _).mono ?_; rintro e w5 ⟨v5, rfl, i5, n5, f5⟩; have isv : isSl v5 := (by obtain ⟨a, c, rfl, _⟩ := i5.opn; exact isSl_mk _ _ _)))
          | (with_reducible refine at_wpP ?_; refine wpList_allocRt rfl rfl ?_; intro g6 w6 hg6 b6 f6 s6; have l6 := b6.lt; have z4 := f4.size; have z5 := f5.size)
          | (with_reducible refine at_wpP ?_; refine at_st 77 _ _ rfl ?_; go_must (refine wpList_stRt rfl _ _ rfl g6 rfl 0 v5 rfl isv _ _ b6 ?_; intro w7 b7 f7; obtain ⟨q0, _⟩ := b7.cell 0 _ rfl)))
        have F7 : Fr noB w w7 := (((((f1.thenN f2).thenT f3 (fun i hi q => by unfold onB1 at q; omega)).thenN f4).thenN f5).thenN f6).thenT f7 (fun i hi q => by unfold onB1 at q; omega)
        go_quiet (fail)
        go_wp2
        go_ret2
        exact ⟨rfl, F7.drewN nq⟩
      · have hG2 : ¬ (G = 0) := hG
        obtain ⟨hnb0, hnb1⟩ := hnb
        by_cases hpar : (T + 1) % 2 = G % 2
        · rw [if_pos ⟨hG, hpar⟩]
          have hq2 : IntKind.u64.wrap (T + 1 + 1) = T + 2 := by rw [wrap_u64_id _ (by omega) (by omega)]; omega
          have hpb : ((T + 1) % 2 == G % 2) = true := by simpa using hpar
          go_enter Try.func11, Try.ntmps11
          go_wp2_with (first
            | (go_at_call 29; go_must (refine (hsl.out _ hD).mono ?_; rintro e w1 ⟨rfl, f1⟩))
            | (with_reducible refine at_wpP ?_; refine wpList_alloc2 rfl rfl ?_; rw [HZ.out]; intro g2 w2 hg2 b2 f2 s2; have l2 := b2.lt; have z1 := f1.size)
            | (with_reducible refine at_wpP ?_; refine at_st 73 _ _ rfl ?_; go_must (refine wpList_st2P rfl _ _ rfl g2 rfl P0 P1 Z Z rfl b2 hA.out hB.out hZl.out hZl.out ?_; intro w3 b3 f3; have z3 := f3.size))
            | (with_reducible refine at_wpP ?_; refine at_ld 73 _ rfl ?_; have f4' := f4; go_must (refine wpList_ld2 rfl _ rfl g2 rfl P0 P1 (b3.fr0 f4) hA.out hB.out ?_))
            | (with_reducible refine at_wpP ?_; refine at_ld 73 _ rfl ?_; go_must (refine wpList_ld2 rfl _ rfl g2 rfl P0 P1 b3 hA.out hB.out ?_))
            | (go_at_call 34; go_must (refine (htp.out _).mono ?_; rintro e w4 ⟨rfl, f4⟩))
            | (go_at_call 30; go_must (refine (hnw.out _).mono ?_; rintro e w5 ⟨v5, rfl, i5, n5, f5⟩; have isv : isSl v5 := (by obtain ⟨a, c, rfl, _⟩ := i5.opn; exact isSl_mk _ _ _)))
            | (with_reducible refine at_wpP ?_; refine wpList_allocRt rfl rfl ?_; intro g6 w6 hg6 b6 f6 s6; have l6 := b6.lt; have z4 := f4.size; have z5 := f5.size)
            | (with_reducible refine at_wpP ?_; refine at_st 77 _ _ rfl ?_; go_must (refine wpList_stRt rfl _ _ rfl g6 rfl G v5 rfl isv _ _ b6 ?_; intro w7 b7 f7; obtain ⟨q0, _⟩ := b7.cell 0 _ rfl)))
          have F7 : Fr noB w w7 := (((((f1.thenN f2).thenT f3 (fun i hi q => by unfold onB1 at q; omega)).thenN f4).thenN f5).thenN f6).thenT f7 (fun i hi q => by unfold onB1 at q; omega)
          go_quiet ((go_at_call 31; exact Calls.quiet_of (slotOf_q _ (by constructor <;> omega) _)))
          go_wp2
          go_ret2
          exact ⟨rfl, F7.drewN nq⟩
        · rw [if_neg (fun h => hpar h.2)]
          have hpb : ((T + 1) % 2 == G % 2) = false := by simpa using hpar
          go_enter Try.func11, Try.ntmps11
          go_wp2_with (first
            | (go_at_call 29; go_must (refine (hsl.out _ hD).mono ?_; rintro e w1 ⟨rfl, f1⟩))
            | (with_reducible refine at_wpP ?_; refine wpList_alloc2 rfl rfl ?_; rw [HZ.out]; intro g2 w2 hg2 b2 f2 s2; have l2 := b2.lt; have z1 := f1.size)
            | (with_reducible refine at_wpP ?_; refine at_st 73 _ _ rfl ?_; go_must (refine wpList_st2P rfl _ _ rfl g2 rfl P0 P1 Z Z rfl b2 hA.out hB.out hZl.out hZl.out ?_; intro w3 b3 f3; have z3 := f3.size))
            | (with_reducible refine at_wpP ?_; refine at_ld 73 _ rfl ?_; have f4' := f4; go_must (refine wpList_ld2 rfl _ rfl g2 rfl P0 P1 (b3.fr0 f4) hA.out hB.out ?_))
            | (with_reducible refine at_wpP ?_; refine at_ld 73 _ rfl ?_; go_must (refine wpList_ld2 rfl _ rfl g2 rfl P0 P1 b3 hA.out hB.out ?_))
            | (go_at_call 34; go_must (refine (htp.out _).mono ?_; rintro e w4 ⟨rfl, f4⟩))
            | (go_at_call 30; go_must (refine (hnw.out _).mono ?_; rintro e w5 ⟨v5, rfl, i5, n5, f5⟩; have isv : isSl v5 := (by obtain ⟨a, c, rfl, _⟩ := i5.opn; exact isSl_mk _ _ _)))
            | (with_reducible refine at_wpP ?_; refine wpList_allocRt rfl rfl ?_; intro g6 w6 hg6 b6 f6 s6; have l6 := b6.lt; have z4 := f4.size; have z5 := f5.size)
            | (with_reducible refine at_wpP ?_; refine at_st 77 _ _ rfl ?_; go_must (refine wpList_stRt rfl _ _ rfl g6 rfl G v5 rfl isv _ _ b6 ?_; intro w7 b7 f7; obtain ⟨q0, _⟩ := b7.cell 0 _ rfl)))
          have F7 : Fr noB w w7 := (((((f1.thenN f2).thenT f3 (fun i hi q => by unfold onB1 at q; omega)).thenN f4).thenN f5).thenN f6).thenT f7 (fun i hi q => by unfold onB1 at q; omega)
          go_quiet ((go_at_call 31; exact Calls.quiet_of (slotOf_q _ (by constructor <;> omega) _)))
          go_wp2
          go_ret2
          exact ⟨rfl, F7.drewN nq⟩
  · have hrr : rNext X = (0, E) := by unfold rNext; rw [HE.out, if_neg he]
    rw [hrr]
    have hsA : slA X = Z := by unfold slA; rw [HE.out, if_neg he]; exact HZ.out
    have hsB : slB X = Z := by unfold slB; rw [HE.out, if_neg he]; exact HZ.out
    simp only [hsA, hsB, HE.out] at hsl
    clear hsA hsB hrr hA hB b0 b1
    go_enter Try.func11, Try.ntmps11
    go_wp2_with (first
      | (go_at_call 29; go_must (refine (hsl.out _ hD).mono ?_; rintro e w1 ⟨rfl, f1⟩))
      | (with_reducible refine at_wpP ?_; refine wpList_alloc2 rfl rfl ?_; rw [HZ.out]; intro g2 w2 hg2 b2 f2 s2; have l2 := b2.lt; have z1 := f1.size)
      | (with_reducible refine at_wpP ?_; refine at_st 73 _ _ rfl ?_; go_must (refine wpList_st2P rfl _ _ rfl g2 rfl Z Z Z Z rfl b2 hZl.out hZl.out hZl.out hZl.out ?_; intro w3 b3 f3; have z3 := f3.size)))
    go_ret2
    exact ⟨rfl, (f1.thenN f2).thenT f3 (fun i hi q => by unfold onB1 at q; omega)⟩
end Go.Proofs.Ytijgfojnppcbjaa
/- Write of package root. -/
namespace Go.Proofs.Ytijgfojnppcbjaa
open Go.RowKit Go.Proofs.U
set_option linter.unusedSimpArgs false
set_option linter.unusedVariables false
theorem nextG_bd {X : DSt} (hb : X.byt) (h : (rNext X).2 = 0) : 0 ≤ (rNext X).1 ∧ (rNext X).1 < 18446744073709551616 := by
  have ht := top_bd (readP_byt hb 0) (readP_byt hb 1)
  unfold rNext at h ⊢
  split
  · rename_i he
    rw [if_pos he] at h
    split
    · decide
    · rename_i h1
      have h2 : 0 ≤ tp X ∧ tp X < 18446744073709551616 := ht
      simp only [nextG]
      split <;> omega
  · exact ⟨Int.le_refl _, (by decide : (0 : Int) < 18446744073709551616)⟩

theorem write_pend (X : DSt) (i : Int) (p : List Int) {n : Nat} (h : X.pend.length + 1 ≤ n) : (X.write i p).pend.length ≤ n := by
  unfold DSt.write
  split
  · split
    · show (X.pend ++ [(i, p)]).length ≤ n
      rw [List.length_append]; exact h
    · show X.pend.length ≤ n
      omega
  · omega

set_option maxRecDepth 100000 in
set_option maxHeartbeats 2000000 in
theorem rwrite_p {F : Nat → Prop} {X : DSt} (g : Nat) (vc : Value) (c : List Int) (w : World) (hD : Disk w F g X) (hm : X.pend.length ≤ 90000) (hb : X.byt) (hS : SlI .u8 w vc c) :
    Calls Try.prog 10 #[ptr g, vc] w fun e w' => e = .returned (.tuple #[.int .u64 (rWrite X c).2.1, .int .i64 (rWrite X c).2.2]) ∧ Disk w' (orNew F w) g (rWrite X c).1 ∧ Fr F w w' := by
  obtain ⟨ac, cc, rfl, hcc⟩ := hS.opn
  unfold rWrite
  by_cases hc : 186 < c.length
  · rw [if_pos hc]
    have hc' : (186 : Int) < (c.length : Int) := by omega
    go_enter Try.func10, Try.ntmps10
    go_wp2
    go_ret2
    exact ⟨rfl, hD.mono (fun k _ q => Or.inl q), Fr.refl _ _⟩
  · rw [if_neg hc]
    have hc' : ¬ (186 : Int) < (c.length : Int) := by omega
    have hnx := show Hid _ from fun (W : World) (h : Disk W F g X) => rnext_p g W h (by omega) hb
    have hgb := nextG_bd hb
    obtain ⟨⟨G, E⟩, HN⟩ : ∃ R, Hid (rNext X = R) := ⟨_, rfl⟩
    simp only [HN.out] at hnx hgb ⊢
    by_cases hE : E = 0
    · subst hE
      have hgb := hgb rfl
      obtain ⟨hg0, hg1⟩ := hgb
      simp only [ne_eq, not_true_eq_false, if_false]
      obtain ⟨P, HP⟩ : ∃ P, Hid (rootP G c = P) := ⟨_, rfl⟩
      have hPl : P.length = 256 := by rw [← HP.out, rootP_len]
      have hpg := show Hid _ from fun (W : World) (h : SlI .u8 W (.slice ac c.length cc) c) => pageOf_any G ⟨hg0, hg1⟩ _ c (by omega) W h
      simp only [HP.out] at hpg ⊢
      have hwr := show Hid _ from fun (W : World) (h : Disk W F g X) => write_any g (G % 2) P hPl W h (by omega)
      have hPl := show Hid _ from hPl
      have hYp : (X.write (G % 2) P).pend.length ≤ 100000 := write_pend X _ P (by omega)
      obtain ⟨Y, HY⟩ : ∃ Y, Hid (X.write (G % 2) P = Y) := ⟨_, rfl⟩
      obtain ⟨E1, HE1⟩ : ∃ E, Hid (X.writeE (G % 2) = E) := ⟨_, rfl⟩
      simp only [HY.out, HE1.out] at hwr hYp ⊢
      by_cases hE1 : E1 = 0
      · subst hE1
        have hsy := show Hid _ from fun (F : Nat → Prop) (W : World) (h : Disk W F g Y) => sync_any g W h hYp
        obtain ⟨E2, HE2⟩ : ∃ E, Hid (Y.actE = E) := ⟨_, rfl⟩
        simp only [HE2.out] at hsy ⊢
        by_cases hE2 : E2 = 0
        · subst hE2
          simp only [ne_eq, not_true_eq_false, if_false]
          go_enter Try.func10, Try.ntmps10
          go_wp2_with (first
            | (go_at_call 11; go_must (refine (hnx.out _ hD).mono ?_; rintro e w1 ⟨rfl, f1⟩))
            | (go_at_call 31; go_must (refine (slotOf_any G ⟨hg0, hg1⟩ _).mono ?_; rintro e w' ⟨rfl, rfl⟩))
            | (go_at_call 32; go_must (refine (hpg.out _ (hS.fr0 f1)).mono ?_; rintro e w2 ⟨rfl, f2⟩))
            | (go_at_call 17; go_must (refine (hwr.out _ ((hD.fr0 f1).fr0 f2)).mono ?_; rintro e w3 ⟨rfl, d3, f3⟩))
            | (go_at_call 33; go_must (refine (hsy.out _ _ d3).mono ?_; rintro e w4 ⟨rfl, d4, f4⟩)))
          go_ret2
          have z1 := f1.size
          have z2 := f2.size
          exact ⟨rfl, d4.mono (fun k _ q => by unfold orNew at q ⊢; rcases q with q | q; exact Or.inl q; exact Or.inr (by omega)), ((((f1.thenN f2).mono (fun _ _ q => q.elim)).thenT f3 (fun _ _ q => q))).thenT f4 (fun i hi q => by unfold orNew at q; rcases q with q | q; exact q; omega)⟩
        · rw [if_pos hE2]
          simp only [ne_eq, not_true_eq_false, if_false]
          go_enter Try.func10, Try.ntmps10
          go_wp2_with (first
            | (go_at_call 11; go_must (refine (hnx.out _ hD).mono ?_; rintro e w1 ⟨rfl, f1⟩))
            | (go_at_call 31; go_must (refine (slotOf_any G ⟨hg0, hg1⟩ _).mono ?_; rintro e w' ⟨rfl, rfl⟩))
            | (go_at_call 32; go_must (refine (hpg.out _ (hS.fr0 f1)).mono ?_; rintro e w2 ⟨rfl, f2⟩))
            | (go_at_call 17; go_must (refine (hwr.out _ ((hD.fr0 f1).fr0 f2)).mono ?_; rintro e w3 ⟨rfl, d3, f3⟩))
            | (go_at_call 33; go_must (refine (hsy.out _ _ d3).mono ?_; rintro e w4 ⟨rfl, d4, f4⟩)))
          go_ret2
          have z1 := f1.size
          have z2 := f2.size
          exact ⟨rfl, d4.mono (fun k _ q => by unfold orNew at q ⊢; rcases q with q | q; exact Or.inl q; exact Or.inr (by omega)), ((((f1.thenN f2).mono (fun _ _ q => q.elim)).thenT f3 (fun _ _ q => q))).thenT f4 (fun i hi q => by unfold orNew at q; rcases q with q | q; exact q; omega)⟩
      · rw [if_pos hE1]
        go_enter Try.func10, Try.ntmps10
        go_wp2_with (first
          | (go_at_call 11; go_must (refine (hnx.out _ hD).mono ?_; rintro e w1 ⟨rfl, f1⟩))
          | (go_at_call 31; go_must (refine (slotOf_any G ⟨hg0, hg1⟩ _).mono ?_; rintro e w' ⟨rfl, rfl⟩))
          | (go_at_call 32; go_must (refine (hpg.out _ (hS.fr0 f1)).mono ?_; rintro e w2 ⟨rfl, f2⟩))
          | (go_at_call 17; go_must (refine (hwr.out _ ((hD.fr0 f1).fr0 f2)).mono ?_; rintro e w3 ⟨rfl, d3, f3⟩)))
        go_ret2
        have z1 := f1.size
        have z2 := f2.size
        exact ⟨rfl, d3.mono (fun k _ q => by unfold orNew at q ⊢; rcases q with q | q; exact Or.inl q; exact Or.inr (by omega)), (((f1.thenN f2).mono (fun _ _ q => q.elim)).thenT f3 (fun _ _ q => q))⟩
    · rw [if_pos hE]
      go_enter Try.func10, Try.ntmps10
      go_wp2_with (first
        | (go_at_call 11; go_must (refine (hnx.out _ hD).mono ?_; rintro e w1 ⟨rfl, f1⟩)))
      go_ret2
      exact ⟨rfl, (hD.fr0 f1).mono (fun k _ q => Or.inl q), f1.mono (fun _ _ q => q.elim)⟩
end Go.Proofs.Ytijgfojnppcbjaa
/- Roots, plain: what is written is read; what is torn is no root; the greatest generation. -/
namespace Go.Proofs.Ytijgfojnppcbjaa
open Go.RowKit Go.Proofs.U
set_option linter.unusedSimpArgs false
set_option linter.unusedVariables false

theorem sec_root (g : Int) (c : List Int) (s : Nat) (hs : s < 8) : ((rootP g c).drop (s * 32)).take 8 = leB 8 g := by
  have h8 := leB_length 8 g
  apply ext_getD
  · rw [h8, List.length_take, List.length_drop, rootP_len]; omega
  · intro i hi
    have hi8 : i < 8 := by rw [List.length_take] at hi; omega
    rw [drop_take_get _ _ _ _ hi8, rootP_get _ _ _ (by omega), if_pos (by omega)]
    congr 1; omega
theorem genAt_root (g : Int) (hg : 0 ≤ g ∧ g < 18446744073709551616) (c : List Int) (s : Nat) (hs : s < 8) : genAt (rootP g c) s = g := by
  unfold genAt
  rw [sec_root g c s hs, leNum_leB 8 g hg.1 (by have : (256 : Int) ^ 8 = 18446744073709551616 := by decide
                                                omega)]
theorem strmOf_root (g : Int) (c : List Int) : strmOf (rootP g c) = st192 c := by
  apply ext_getD
  · rw [strmOf_len, st192_len]
  · intro i hi
    rw [strmOf_len] at hi
    rw [strmOf, getD_map _ _ _ hi, rootP_get _ _ _ (by omega), if_neg (by omega)]
    congr 1; omega
theorem strm_take2 (c : List Int) : (strm c).take 2 = leB 2 c.length := by
  unfold strm sealI
  rw [List.append_assoc, List.take_append_of_le_length (by rw [leB_length]; decide), List.take_of_length_le (by rw [leB_length]; decide)]
theorem lenOf_root (g : Int) (c : List Int) (hc : c.length ≤ 186) : lenOf (rootP g c) = c.length := by
  unfold lenOf
  rw [strmOf_root, st192_eq c hc, List.take_append_of_le_length (by rw [strm_len]; omega), strm_take2]
  refine leNum_leB 2 _ (by omega) ?_
  have : (256 : Int) ^ 2 = 65536 := by decide
  omega
theorem contOf_root (g : Int) (c : List Int) (hc : c.length ≤ 186) : contOf (rootP g c) = c := by
  unfold contOf
  rw [lenOf_root g c hc, strmOf_root, st192_eq c hc, Int.toNat_natCast]
  unfold strm sealI
  rw [List.append_assoc, List.append_assoc, List.drop_append_of_le_length (by rw [leB_length]; decide), List.drop_of_length_le (by rw [leB_length]; decide), List.nil_append, List.take_append_of_le_length (Nat.le_refl _), List.take_length]
theorem rootOf_root (g : Int) (hg : 0 ≤ g ∧ g < 18446744073709551616) (c : List Int) (hc : c.length ≤ 186) : rootOf (rootP g c) = (g, c) := by
  unfold rootOf
  rw [lenOf_root g c hc, contOf_root g c hc, genAt_root g hg c 0 (by decide), if_neg (by omega)]
  simp
/-- A page that is a root has its generation in all sectors. -/
theorem rootOf_some {p : List Int} (h : (rootOf p).1 ≠ 0) : p = rootP (rootOf p).1 (rootOf p).2 := by
  unfold rootOf at h ⊢
  split
  · rename_i h1; rw [if_pos h1] at h; simp at h
  · rename_i h1
    rw [if_neg h1] at h
    split
    · rename_i h2
      exact (by simpa using h2 : rootP (genAt p 0) (contOf p) = p).symm
    · rename_i h2; rw [if_neg h2] at h; simp at h
theorem rootOf_gen {p : List Int} (hb : Byt p) (h : (rootOf p).1 ≠ 0) (s : Nat) (hs : s < 8) : genAt p s = (rootOf p).1 := by
  have h1 := rootOf_some h
  have h2 := rootOf_bd hb
  conv => lhs; rw [h1]
  exact genAt_root _ h2 _ s hs
theorem rootOf_none {p : List Int} (h : (rootOf p).1 = 0) (hb : Byt p) (h0 : genAt p 0 ≠ 0) : rootOf p = (0, []) := by
  unfold rootOf at h ⊢
  split
  · rfl
  · rename_i h1
    rw [if_neg h1] at h
    split
    · rename_i h2; rw [if_pos h2] at h; exact absurd h h0
    · rfl
/-- Unlike generations: no root. -/
theorem rootOf_unlike {p : List Int} (hb : Byt p) {s t : Nat} (hs : s < 8) (ht : t < 8) (h : genAt p s ≠ genAt p t) : (rootOf p).1 = 0 := by
  apply Decidable.byContradiction
  intro h0
  exact h ((rootOf_gen hb h0 s hs).trans (rootOf_gen hb h0 t ht).symm)

theorem mixS_get (old new : List Int) (st : Nat → Bool) (i : Nat) (h : i < 256) : (mixS old new st 8).getD i 0 = if st (i / 32) = true then new.getD i 0 else old.getD i 0 := by
  unfold mixS
  rw [getD_map _ _ _ h]
  have : i / 32 < 8 := by omega
  simp [this]
theorem sec_mix (old new : List Int) (st : Nat → Bool) (ho : old.length = 256) (hn : new.length = 256) (s : Nat) (hs : s < 8) : ((mixS old new st 8).drop (s * 32)).take 8 = if st s then (new.drop (s * 32)).take 8 else (old.drop (s * 32)).take 8 := by
  apply ext_getD
  · split <;> simp only [List.length_take, List.length_drop, mixS_len, ho, hn]
  · intro i hi
    have hi8 : i < 8 := by rw [List.length_take] at hi; omega
    rw [drop_take_get _ _ _ _ hi8, mixS_get _ _ _ _ (by omega)]
    have : (s * 32 + i) / 32 = s := by omega
    rw [this]
    split <;> rw [drop_take_get _ _ _ _ hi8]
theorem genAt_mix (old new : List Int) (st : Nat → Bool) (ho : old.length = 256) (hn : new.length = 256) (s : Nat) (hs : s < 8) : genAt (mixS old new st 8) s = if st s then genAt new s else genAt old s := by
  unfold genAt
  rw [sec_mix old new st ho hn s hs]
  split <;> rfl
theorem mixS_byt {old new : List Int} (ho : Byt old) (hn : Byt new) (st : Nat → Bool) : Byt (mixS old new st 8) := by
  refine byt_map _ _ fun i _ => ?_
  split
  · exact hn.at i
  · exact ho.at i
theorem mixS_full (old new : List Int) (st : Nat → Bool) (h : new.length = 256) (hs : ∀ s, s < 8 → st s = true) : mixS old new st 8 = new := by
  apply ext_getD
  · rw [mixS_len, h]
  · intro i hi
    rw [mixS_len] at hi
    rw [mixS_get _ _ _ _ hi, hs _ (by omega)]; rfl
theorem mixS_old (old new : List Int) (st : Nat → Bool) (h : old.length = 256) (hs : ∀ s, s < 8 → st s = false) : mixS old new st 8 = old := by
  apply ext_getD
  · rw [mixS_len, h]
  · intro i hi
    rw [mixS_len] at hi
    rw [mixS_get _ _ _ _ hi, hs _ (by omega)]; rfl

theorem topK_le (p : List Int) (t : Int) (k : Nat) : t ≤ topK p t k ∧ ∀ s, s < k → genAt p s ≤ topK p t k := by
  induction k with
  | zero => exact ⟨Int.le_refl _, fun s h => by omega⟩
  | succ k ih =>
    rw [topK_succ]
    refine ⟨by omega, fun s hs => ?_⟩
    by_cases h : s = k
    · subst h; omega
    · have := ih.2 s (by omega); omega
theorem topK_up {p : List Int} {t B : Int} (k : Nat) (ht : t ≤ B) (h : ∀ s, s < k → genAt p s ≤ B) : topK p t k ≤ B := by
  induction k with
  | zero => exact ht
  | succ k ih =>
    rw [topK_succ]
    have h1 := ih (fun s hs => h s (by omega))
    have h2 := h k (by omega)
    omega
theorem top_p (p q : List Int) (s : Nat) (hs : s < 8) : genAt p s ≤ top p q := by
  have h1 := (topK_le p 0 8).2 s hs
  have h2 := (topK_le q (topK p 0 8) 8).1
  unfold top; omega
theorem top_q (p q : List Int) (s : Nat) (hs : s < 8) : genAt q s ≤ top p q := (topK_le q (topK p 0 8) 8).2 s hs
theorem top_up {p q : List Int} {B : Int} (h0 : 0 ≤ B) (hp : ∀ s, s < 8 → genAt p s ≤ B) (hq : ∀ s, s < 8 → genAt q s ≤ B) : top p q ≤ B := topK_up 8 (topK_up 8 h0 hp) hq
theorem top_nn (p q : List Int) : 0 ≤ top p q := by
  have h1 := (topK_le p 0 8).1
  have h2 := (topK_le q (topK p 0 8) 8).1
  unfold top; omega

/-- What newest tells. -/
theorem newest_cases (p q : List Int) :
    ((rootOf q).1 % 2 = 1 ∧ newest p q = rootOf q ∧ (0 ≤ (rootOf p).1 → 0 < (rootOf q).1)) ∨ ((rootOf p).1 % 2 = 0 ∧ 0 < (rootOf p).1 ∧ newest p q = rootOf p) ∨ newest p q = (0, []) := by
  unfold newest
  generalize rootOf p = a
  generalize rootOf q = b
  by_cases c1 : a.1 % 2 = 0 ∧ 0 < a.1
  · by_cases c2 : b.1 % 2 = 1 ∧ a.1 < b.1
    · simp only [c1, c2, and_self, if_true, true_and]
      exact Or.inl (fun h => by omega)
    · simp only [c1, and_self, if_true, if_neg c2, true_and]
      exact Or.inr (Or.inl trivial)
  · by_cases c2 : b.1 % 2 = 1 ∧ (0 : Int) < b.1
    · simp only [if_neg c1, c2, and_self, if_true, true_and]
      exact Or.inl (fun _ => trivial)
    · simp only [if_neg c1, if_neg c2]
      exact Or.inr (Or.inr trivial)
theorem newest_zero {p q : List Int} (h : (newest p q).1 = 0) (hb : Byt p) (hc : Byt q) : newest p q = (0, []) := by
  have h1 := rootOf_bd hb
  rcases newest_cases p q with ⟨_, h2, h3⟩ | ⟨_, h2, h3⟩ | h2
  · rw [h2] at h
    have := h3 h1.1
    omega
  · rw [h3] at h; omega
  · exact h2
theorem newest_even {p q : List Int} (h : (newest p q).1 ≠ 0) (he : (newest p q).1 % 2 = 0) : newest p q = rootOf p := by
  rcases newest_cases p q with ⟨h1, h2, _⟩ | ⟨_, _, h3⟩ | h2
  · rw [h2] at he; omega
  · exact h3
  · rw [h2] at h; exact absurd rfl h
theorem newest_odd {p q : List Int} (h : (newest p q).1 ≠ 0) (he : (newest p q).1 % 2 = 1) : newest p q = rootOf q := by
  rcases newest_cases p q with ⟨_, h2, _⟩ | ⟨h1, _, h3⟩ | h2
  · exact h2
  · rw [h3] at he; omega
  · rw [h2] at h; exact absurd rfl h
theorem newest_top {p q : List Int} (hb : Byt p) (hc : Byt q) : (newest p q).1 ≤ top p q := by
  by_cases h : (newest p q).1 = 0
  · rw [h]; exact top_nn p q
  · have : (newest p q).1 % 2 = 0 ∨ (newest p q).1 % 2 = 1 := by omega
    rcases this with h2 | h2
    · have h3 := newest_even h h2
      rw [h3] at h ⊢
      rw [← rootOf_gen hb h 0 (by decide)]
      exact top_p p q 0 (by decide)
    · have h3 := newest_odd h h2
      rw [h3] at h ⊢
      rw [← rootOf_gen hc h 0 (by decide)]
      exact top_q p q 0 (by decide)
end Go.Proofs.Ytijgfojnppcbjaa
/- A disk of two pages, plain: what a Write makes of it, cut off or not; what is read behind a crash. -/
namespace Go.Proofs.Ytijgfojnppcbjaa
open Go.RowKit Go.Proofs.U
set_option linter.unusedSimpArgs false
set_option linter.unusedVariables false

/-- Both slots, nothing pending, nothing bad. -/
structure Two (X : DSt) (p q : List Int) : Prop where
  pages : X.pages = [p, q]
  pend : X.pend = []
  bad : ∀ i, X.bad i = false
  lp : p.length = 256
  lq : q.length = 256
  bp : Byt p
  bq : Byt q
section
variable {X : DSt} {p q : List Int}
theorem Two.read0 (h : Two X p q) : readP X 0 = (p, 0) := by
  unfold readP
  rw [h.pages, h.pend, h.bad]
  rfl
theorem Two.read1 (h : Two X p q) : readP X 1 = (q, 0) := by
  unfold readP
  rw [h.pages, h.pend, h.bad]
  rfl
theorem Two.re (h : Two X p q) : rdE X = 0 := by unfold rdE; rw [h.read0, h.read1]; rfl
theorem Two.nw (h : Two X p q) : nwst X = newest p q := by unfold nwst; rw [h.read0, h.read1]
theorem Two.tpp (h : Two X p q) : tp X = top p q := by unfold tp; rw [h.read0, h.read1]
theorem Two.byt (h : Two X p q) : X.byt := by
  refine ⟨?_, by rw [h.pend]; simp⟩
  rw [h.pages]
  intro r hr
  simp at hr
  rcases hr with rfl | rfl
  · exact h.bp
  · exact h.bq
theorem Two.rd (h : Two X p q) : rRead X = ((newest p q).2, (newest p q).1, if (newest p q).1 = 0 then 51 else 0) := by
  unfold rRead
  rw [h.re, h.nw, if_pos rfl]
  by_cases h0 : (newest p q).1 = 0
  · have := newest_zero h0 h.bp h.bq
    rw [this]; rfl
  · rw [if_neg h0, if_neg h0]
theorem Two.nx (h : Two X p q) (ht : top p q ≤ 18446744073709551612) : rNext X = (nextG X, 0) := by
  unfold rNext
  rw [h.re, h.tpp, if_pos rfl, if_neg (by omega)]
theorem Two.nxG (h : Two X p q) : top p q < nextG X ∧ nextG X ≤ top p q + 2 ∧ ((newest p q).1 ≠ 0 → nextG X % 2 ≠ (newest p q).1 % 2) ∧ ((newest p q).1 = 0 → nextG X = top p q + 1) ∧ ((top p q + 1) % 2 ≠ (newest p q).1 % 2 → nextG X = top p q + 1) := by
  unfold nextG
  rw [h.tpp, h.nw]
  split <;> omega
end

/-- The page r in the slot of generation G. -/
def putS0 (G : Int) (r p : List Int) : List Int := if G % 2 = 0 then r else p
def putS1 (G : Int) (r q : List Int) : List Int := if G % 2 = 0 then q else r
theorem newest_new {p q : List Int} (hp : Byt p) (hq : Byt q) {G : Int} (hG : top p q < G) (hGb : G < 18446744073709551616) (c : List Int) (hc : c.length ≤ 186) : newest (putS0 G (rootP G c) p) (putS1 G (rootP G c) q) = (G, c) := by
  have ht := top_nn p q
  have hr := rootOf_root G ⟨by omega, hGb⟩ c hc
  have gp : (rootOf p).1 ≤ top p q := by
    by_cases h : (rootOf p).1 = 0
    · omega
    · rw [← rootOf_gen hp h 0 (by decide)]; exact top_p p q 0 (by decide)
  have gq : (rootOf q).1 ≤ top p q := by
    by_cases h : (rootOf q).1 = 0
    · omega
    · rw [← rootOf_gen hq h 0 (by decide)]; exact top_q p q 0 (by decide)
  unfold putS0 putS1 newest
  by_cases h : G % 2 = 0
  · simp only [if_pos h, hr]
    have h1 : G % 2 = 0 ∧ 0 < G := ⟨h, by omega⟩
    have h2 : ¬ ((rootOf q).1 % 2 = 1 ∧ G < (rootOf q).1) := by omega
    simp only [if_pos h1, if_neg h2]
  · simp only [if_neg h, hr]
    rw [if_pos]
    refine ⟨by omega, ?_⟩
    split
    · omega
    · simp only; omega
theorem newest_torn {p q : List Int} (hp : Byt p) (hq : Byt q) {G : Int} (par : (newest p q).1 ≠ 0 → G % 2 ≠ (newest p q).1 % 2) {r : List Int} (hr : (rootOf r).1 = 0) : newest (putS0 G r p) (putS1 G r q) = newest p q := by
  have gp := (rootOf_bd hp).1
  have gq := (rootOf_bd hq).1
  unfold putS0 putS1
  by_cases h : G % 2 = 0
  · simp only [if_pos h]
    have e1 : newest r q = if (rootOf q).1 % 2 = 1 ∧ 0 < (rootOf q).1 then rootOf q else (0, []) := by
      unfold newest; simp [hr]
    rw [e1]
    by_cases h0 : (newest p q).1 = 0
    · rw [newest_zero h0 hp hq, if_neg]
      rintro ⟨h2, h3⟩
      unfold newest at h0
      simp only at h0
      split at h0
      · split at h0 <;> omega
      · rename_i c1
        rw [if_pos ⟨h2, h3⟩] at h0; omega
    · have h1 := par h0
      have h2 := newest_odd h0 (by omega)
      rw [h2] at h0 h1 ⊢
      rw [if_pos ⟨by omega, by omega⟩]
  · simp only [if_neg h]
    have e1 : newest p r = if (rootOf p).1 % 2 = 0 ∧ 0 < (rootOf p).1 then rootOf p else (0, []) := by
      unfold newest; simp [hr]
    rw [e1]
    by_cases h0 : (newest p q).1 = 0
    · rw [newest_zero h0 hp hq, if_neg]
      rintro h2
      unfold newest at h0
      simp only [if_pos h2] at h0
      split at h0 <;> omega
    · have h1 := par h0
      have h2 := newest_even h0 (by omega)
      rw [h2] at h0 h1 ⊢
      rw [if_pos ⟨by omega, by omega⟩]
/-- Of a torn page all sectors are kept, or none, or it is no root. -/
theorem mix_cases (old new : List Int) (st : Nat → Bool) (ho : old.length = 256) (hn : new.length = 256) (bo : Byt old) (bn : Byt new) {G : Int} (hG : ∀ s, s < 8 → genAt new s = G) (hO : ∀ s, s < 8 → genAt old s < G) :
    mixS old new st 8 = new ∨ mixS old new st 8 = old ∨ (rootOf (mixS old new st 8)).1 = 0 := by
  by_cases h1 : ∀ s, s < 8 → st s = true
  · exact Or.inl (mixS_full _ _ _ hn h1)
  · by_cases h2 : ∀ s, s < 8 → st s = false
    · exact Or.inr (Or.inl (mixS_old _ _ _ ho h2))
    · obtain ⟨t, ht, ht2⟩ : ∃ t, t < 8 ∧ st t = false := by
        apply Decidable.byContradiction; intro h
        exact h1 fun s hs => by
          cases hh : st s with
          | true => rfl
          | false => exact absurd ⟨s, hs, hh⟩ h
      obtain ⟨s, hs, hs2⟩ : ∃ s, s < 8 ∧ st s = true := by
        apply Decidable.byContradiction; intro h
        exact h2 fun s hs => by
          cases hh : st s with
          | false => rfl
          | true => exact absurd ⟨s, hs, hh⟩ h
      refine Or.inr (Or.inr (rootOf_unlike (mixS_byt bo bn st) hs ht ?_))
      rw [genAt_mix _ _ _ ho hn s hs, genAt_mix _ _ _ ho hn t ht, hs2, ht2]
      simp only [if_true, Bool.false_eq_true, if_false]
      have := hG s hs
      have := hO t ht
      omega
theorem top_put {p q : List Int} {G B : Int} {r : List Int} (h0 : 0 ≤ B) (hB : top p q ≤ B) (hr : ∀ s, s < 8 → genAt r s ≤ B) : top (putS0 G r p) (putS1 G r q) ≤ B := by
  refine top_up h0 (fun s hs => ?_) (fun s hs => ?_)
  · unfold putS0; split
    · exact hr s hs
    · have := top_p p q s hs; omega
  · unfold putS1; split
    · have := top_q p q s hs; omega
    · exact hr s hs

section
variable {X : DSt} {p q : List Int}
theorem Two.crash (h : Two X p q) (keep : List Int) : Two (X.crash keep) p q := by
  have e : (X.crash keep).pages = X.pages := by
    show setS X.pages X.pend (stayK keep) X.pend.length = X.pages
    rw [h.pend]; rfl
  exact ⟨by rw [e, h.pages], rfl, h.bad, h.lp, h.lq, h.bp, h.bq⟩
theorem setS_one (p q : List Int) (G : Int) (r : List Int) (st : Nat → Nat → Bool) : setS [p, q] [(G % 2, r)] st 1 = [putS0 G (mixS p r (st 0) 8) p, putS1 G (mixS q r (st 0) 8) q] := by
  unfold setS putS0 putS1
  have : G % 2 = 0 ∨ G % 2 = 1 := by omega
  rcases this with h | h
  · rw [h]; rfl
  · rw [h]; rfl
theorem inR_slot (G : Int) : inR 2 (G % 2) = true := by unfold inR; simp; omega
/-- A Write that is cut off ahead of its page. -/
theorem Two.cut0 (h : Two X p q) (ht : top p q ≤ 18446744073709551612) (hd : X.down = false) (hl : X.left = 0) (c : List Int) (hc : c.length ≤ 186) : rWrite X c = ({ X with left := 0, down := true }, 0, 42) := by
  unfold rWrite
  rw [if_neg (by omega), h.nx ht]
  have e1 : X.actE = 42 := by unfold DSt.actE actP; rw [hl]; simp
  have e2 : X.act = { X with left := 0, down := true } := by unfold DSt.act actP; rw [hl]; simp
  have e3 : X.writeE (nextG X % 2) = 42 := by unfold DSt.writeE; rw [h.pages]; show (if inR 2 _ = true then _ else _) = _; rw [inR_slot, e1]; rfl
  have e4 : ∀ r, X.write (nextG X % 2) r = X.act := by
    intro r; unfold DSt.write; rw [h.pages]; show (if inR 2 _ = true then _ else _) = _; rw [inR_slot, e1]; rfl
  simp only [e3, e4, e2]
  rfl
/-- A Write that goes on behind its page: cut off, or not. -/
theorem Two.goes (h : Two X p q) (ht : top p q ≤ 18446744073709551612) (hd : X.down = false) (hl : X.left ≠ 0) (c : List Int) (hc : c.length ≤ 186) :
    rWrite X c = if X.left = 1 then ({ X with left := 0, down := true, pend := [(nextG X % 2, rootP (nextG X) c)] }, 0, 42)
      else ({ X with left := (if 0 < X.left then X.left - 2 else X.left), pages := [putS0 (nextG X) (rootP (nextG X) c) p, putS1 (nextG X) (rootP (nextG X) c) q] }, nextG X, 0) := by
  have hR := rootP_len (nextG X) c
  have hnx := h.nx ht
  obtain ⟨pages, bad, pend, down, left⟩ := X
  obtain rfl : pages = [p, q] := h.pages
  obtain rfl : pend = [] := h.pend
  obtain rfl : down = false := hd
  have hl : left ≠ 0 := hl
  unfold rWrite
  rw [if_neg (by omega), hnx]
  dsimp only
  generalize nextG _ = G at *
  generalize rootP G c = R at *
  have a1 : actP left false = (if 0 < left then left - 1 else left, false, 0) := by
    unfold actP
    rw [if_neg (by simpa using hl)]
  have e3 : (⟨[p, q], bad, [], false, left⟩ : DSt).writeE (G % 2) = 0 := by
    show (if inR 2 _ = true then (actP left false).2.2 else _) = _
    rw [inR_slot, a1]; rfl
  have e4 : (⟨[p, q], bad, [], false, left⟩ : DSt).write (G % 2) R = ⟨[p, q], bad, [(G % 2, R)], false, if 0 < left then left - 1 else left⟩ := by
    show (if inR 2 _ = true then (if (actP left false).2.2 = 0 then DSt.mk [p, q] bad ([] ++ [(G % 2, R)]) (actP left false).2.1 (actP left false).1 else _) else _) = _
    rw [inR_slot, a1]; rfl
  simp only [e3, e4]
  by_cases h1 : left = 1
  · subst h1
    have e5 : (⟨[p, q], bad, [(G % 2, R)], false, if (0 : Int) < 1 then 1 - 1 else 1⟩ : DSt).actE = 42 := rfl
    simp only [e5]
    rfl
  · rw [if_neg h1]
    have hz : (if 0 < left then left - 1 else left) ≠ 0 := by split <;> omega
    have e7 : (if 0 < left then left - 2 else left) = (if 0 < (if 0 < left then left - 1 else left) then (if 0 < left then left - 1 else left) - 1 else (if 0 < left then left - 1 else left)) := by
      by_cases h2 : 0 < left
      · rw [if_pos h2, if_pos h2, if_pos (by omega)]; omega
      · rw [if_neg h2, if_neg h2, if_neg (by omega)]
    rw [e7]
    generalize (if 0 < left then left - 1 else left) = L at *
    have a2 : actP L false = (if 0 < L then L - 1 else L, false, 0) := by
      unfold actP
      rw [if_neg (by simpa using hz)]
    have e5 : (⟨[p, q], bad, [(G % 2, R)], false, L⟩ : DSt).actE = 0 := by show (actP L false).2.2 = 0; rw [a2]
    have e6 : setS [p, q] [(G % 2, R)] (fun _ _ => true) 1 = [putS0 G R p, putS1 G R q] := by
      rw [setS_one, mixS_all _ _ hR, mixS_all _ _ hR]
    have e8 : (⟨[p, q], bad, [(G % 2, R)], false, L⟩ : DSt).sync = ⟨[putS0 G R p, putS1 G R q], bad, [], false, if 0 < L then L - 1 else L⟩ := by
      unfold DSt.sync
      rw [e5]
      show DSt.mk (setS [p, q] [(G % 2, R)] (fun _ _ => true) 1) bad [] (actP L false).2.1 (actP L false).1 = _
      rw [e6, a2]
    simp only [e5, e8]
    rfl
end
end Go.Proofs.Ytijgfojnppcbjaa
/- Rows of the call's own making: one element read, one stored; no condition. -/
namespace Go.Proofs.U
open Go.RowKit

theorem OwnI.some {k : IntKind} {e : TypeId} {w : World} {base : Nat} {v : Value} {l : List Int} (h : OwnI k e w base v l) (hl : 0 < l.length) :
    ∃ g cap cur, v = .slice (Option.some ⟨g, 0, none⟩) l.length cap ∧ base ≤ g ∧ w.heap[g]? = Option.some (.cells cur e (0, 0)) ∧ l.length ≤ cap ∧ cap ≤ maxLen ∧ cur.size = cap ∧ cur.toList.take l.length = l.map (Value.int k) := by
  rcases h.2 with ⟨_, hn⟩ | ⟨g, cap, cur, hv, h1, h2, h3, h4, h5, h6⟩
  · omega
  · exact ⟨g, cap, cur, hv, h1, h2, h3, h4, by simpa using h5, by simpa using h6⟩

/-- Its cells, one by one. -/
theorem OwnI.cellK {k : IntKind} {e : TypeId} {w : World} {base g n cap : Nat} {l : List Int} (h : OwnI k e w base (.slice (Option.some ⟨g, 0, none⟩) n cap) l) (j : Nat) (hj : j < l.length) :
    w.cell? ⟨g, j, none⟩ = Option.some (.int k (l.getD j 0)) ∧ w.frozen? ⟨g, j, none⟩ = false := by
  obtain ⟨g', cap', cur, hv, h1, h2, h3, h4, h5, h6⟩ := h.some (by omega)
  cases hv
  have hc : cur[j]? = Option.some (.int k (l.getD j 0)) := by
    have h7 : (cur.toList.take l.length)[j]? = Option.some (.int k (l.getD j 0)) := by rw [h6]; simp [List.getD, hj]
    rw [List.getElem?_take, if_pos hj] at h7
    simpa using h7
  simp [World.cell?, World.frozen?, h2, hc]

/-- One element stored. -/
theorem OwnI.setK {k : IntKind} {e : TypeId} {w : World} {base g n cap : Nat} {l : List Int} (h : OwnI k e w base (.slice (Option.some ⟨g, 0, none⟩) n cap) l) (j : Nat) (hj : j < l.length) (y : Int) :
    OwnI k e (w.setCell ⟨g, j, none⟩ (.int k y)) base (.slice (Option.some ⟨g, 0, none⟩) n cap) (l.set j y) := by
  obtain ⟨g', cap', cur, hv, h1, h2, h3, h4, h5, h6⟩ := h.some (by omega)
  cases hv
  have hlt : g < w.heap.size := (Array.getElem?_eq_some_iff.1 h2).1
  have hv2 : w.heap[g] = .cells cur e (0, 0) := (Array.getElem?_eq_some_iff.1 h2).2
  refine ⟨by simp, Or.inr ⟨g, cap, cur.setIfInBounds j (.int k y), by simp, h1, ?_, by simpa using h3, h4, by simpa using h5, ?_⟩⟩
  · simp [World.setCell, Array.getElem?_modify, h2]
  · simp only [List.length_set, Nat.mul_one, Array.toList_setIfInBounds, List.map_set]
    rw [List.take_set, h6]
end Go.Proofs.U
/- Contracts of Open and Turn of package crc, and of crcAlive. -/
namespace Go.Proofs.Ytijgfojnppcbjaa
open Go.RowKit Go.Proofs.U

def okI (l : List Int) : Bool := decide (4 ≤ l.length) && decide (sealI (l.take (l.length - 4)) = l)
def opnI (l : List Int) : List Int := if okI l then l.take (l.length - 4) else []

end Go.Proofs.Ytijgfojnppcbjaa
/- Contracts of Turn of package crc, and of crcAlive. -/
namespace Go.Proofs.Ytijgfojnppcbjaa
open Go.RowKit Go.Proofs.U

def xI (a b : Int) : Int := ((a.toNat ^^^ b.toNat : Nat) : Int)
def turnI (l : List Int) (at' m : Int) : List Int := if 0 ≤ at' ∧ at' < (l.length : Int) then l.set at'.toNat (xI (l.getD at'.toNat 0) m) else l
theorem xI_bd {a b : Int} (ha : 0 ≤ a ∧ a < 256) (hb : 0 ≤ b ∧ b < 256) : 0 ≤ xI a b ∧ xI a b < 256 := by
  have : a.toNat ^^^ b.toNat < 2 ^ 8 := Nat.xor_lt_two_pow (by omega) (by omega)
  unfold xI; omega
theorem turnI_wf (l : List Int) (at' m : Int) (hl : ∀ n ∈ l, (Lit.int .u8 n).wf = true) (hm : 0 ≤ m ∧ m < 256) : ∀ n ∈ turnI l at' m, (Lit.int .u8 n).wf = true := by
  unfold turnI
  split
  · rename_i h
    intro n hn
    rcases List.mem_or_eq_of_mem_set hn with h1 | h1
    · exact hl n h1
    · subst h1
      have hj : at'.toNat < l.length := by omega
      have hd : l.getD at'.toNat 0 = l[at'.toNat] := by simp [List.getD, hj]
      have := xI_bd (u8_bd (hl l[at'.toNat] (by simp))) hm
      rw [hd]; exact wf_byte this.1 this.2
  · exact hl
theorem turnI_length (l : List Int) (at' m : Int) : (turnI l at' m).length = l.length := by unfold turnI; split <;> simp
theorem made_ints (n : Nat) : (madeCells (Value.int IntKind.u8 0).cells (n * 1)).toList = (List.replicate n 0).map (Value.int .u8) := by
  rw [Nat.mul_one]; show (madeCells #[Value.int IntKind.u8 0] n).toList = _; rw [toList_madeCells_one, List.map_replicate]

theorem cpy_all (l : List Int) : (l.map (Value.int .u8)).take l.length ++ ((madeCells (Value.int IntKind.u8 0).cells (l.length * 1)).toList).drop l.length = l.map (Value.int .u8) := by
  rw [made_ints, List.take_of_length_le (by simp), List.drop_of_length_le (by simp), List.append_nil]

theorem sum9 : crcI [49, 50, 51, 52, 53, 54, 55, 56, 57] = 58124007 := by decide +kernel
theorem seal0 : sealI [] = [255, 255, 255, 255] := by decide +kernel
theorem str255 : ((strOfNums [255, 255, 255, 255]).toList == [255, 255, 255, 255]) = true := by decide +kernel

theorem SlB3 (w : World) (t : TypeId) (v1 v2 v3 : Value) (l1 l2 l3 : List Int) (b : Nat) (hb : w.heap.size = b) (h1 : SlI .u8 w v1 l1) (h2 : SlI .u8 w v2 l2) (h3 : SlI .u8 w v3 l3) : SlB (w.alloc (.cells #[v1, v2, v3] t)) (.slice (some ⟨b, 0, none⟩) 3 3) [l1, l2, l3] := by
  refine ⟨[v1, v2, v3], Sl_made w t #[v1, v2, v3] 3 b rfl hb, fun j hj u hu => ?_⟩
  have hf : Fr noB w (w.alloc (.cells #[v1, v2, v3] t)) := (Fr.refl _ _).alloc _
  have hj' : j = 0 ∨ j = 1 ∨ j = 2 := by simp at hj; omega
  rcases hj' with rfl | rfl | rfl <;> simp at hu <;> subst hu
  · exact h1.fr0 hf
  · exact h2.fr0 hf
  · exact h3.fr0 hf
theorem SlI_made (w : World) (t : TypeId) (l : List Int) (cs : Array Value) (n b : Nat) (hn : cs.size = n) (hb : w.heap.size = b) (hc : cs.toList = l.map (Value.int .u8)) (hl : ∀ n ∈ l, (Lit.int .u8 n).wf = true) : SlI .u8 (w.alloc (.cells cs t)) (.slice (some ⟨b, 0, none⟩) n n) l := by
  have hnl : n = l.length := by rw [← hn, ← Array.length_toList, hc]; simp
  subst hnl
  refine ⟨?_, hl⟩
  rw [← hc]; exact Sl_made w t cs _ b hn hb

theorem SlI_marked (w : World) (t : TypeId) (l : List Int) (cs : Array Value) (n b : Nat) (fz : Nat × Nat) (hn : cs.size = n) (hb : w.heap.size = b) (hc : cs.toList = l.map (Value.int .u8)) (hl : ∀ n ∈ l, (Lit.int .u8 n).wf = true) : SlI .u8 (w.alloc (.cells cs t fz)) (.slice (some ⟨b, 0, none⟩) n n) l := by
  subst hb
  have hnl : n = l.length := by rw [← hn, ← Array.length_toList, hc]; simp
  subst hnl
  refine ⟨?_, hl⟩
  rw [← hc]
  refine ⟨_, _, rfl, Nat.le_refl _, by simp [hn], (fun h => by cases h), fun x hx => ?_⟩
  cases hx
  intro j u hj
  rw [Addr.plain, Nat.zero_add]
  have h1 : cs[j]? = some u := by simpa using hj
  have h2 : (w.alloc (.cells cs t fz)).heap[w.heap.size]? = some (.cells cs t fz) := by
    show (w.heap.push _)[w.heap.size]? = _
    simp
  unfold World.cell?
  rw [h2]
  exact h1

section
variable {w0 : World} {ops : Array Oper} {rest : List Oper} {o : Oper} {a : Act} {Q : Exit → Act → World → Prop}
/-- []byte of a constant. -/
theorem wpList_const (hgd : Region.wanted o (yielded ops a.tmps) = true) (x : Operand) (ho : o.op = .convert 24 24 x) (w : World) (cs : Array Value) (n b : Nat) (l : List Int) (hx : a.eval x = .slice (some ⟨b, 0, none⟩) n n) (hn : cs.size = n) (hb : w.heap.size = b)
    (hc : cs.toList = l.map (Value.int .u8)) (hl : ∀ n ∈ l, (Lit.int .u8 n).wf = true) (hw0 : w0 = w.alloc (.cells cs 5))
    (h : ∀ w', Fr noB w w' → SlI .u8 w' (.slice (some ⟨b, 0, none⟩) n n) l → wpList Try.prog ops Q rest (a.put o.dst (.slice (some ⟨b, 0, none⟩) n n)) w') : wpList Try.prog ops Q (o :: rest) a w0 := by
  subst hw0 hb
  refine wpList_wanted hgd fun K hK => ?_
  have hrun := Go.Lib.run_convert_bytes_const (P := Try.prog) w 24 5 cs n n Try.underlying24 Try.underlying5
  unfold Oper.wp
  simp [execOp, ho, hx, hrun, Result.andThen]
  exact hK _ _ (h _ ((Fr.refl _ _).alloc _) (SlI_marked w _ l cs n _ _ hn rfl hc hl))
end

end Go.Proofs.Ytijgfojnppcbjaa
