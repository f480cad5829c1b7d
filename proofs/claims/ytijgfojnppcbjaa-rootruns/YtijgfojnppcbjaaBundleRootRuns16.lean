/- Texts W5, V11, V12, V13 of the proof of RootRuns, one behind the other. -/
import Derived.Test.YtijgfojnppcbjaaBundleRootRuns1
import Derived.Test.YtijgfojnppcbjaaBundleRootRuns2
import Derived.Test.YtijgfojnppcbjaaBundleRootRuns3
import Derived.Test.YtijgfojnppcbjaaBundleRootRuns4
import Derived.Test.YtijgfojnppcbjaaBundleRootRuns5
import Derived.Test.YtijgfojnppcbjaaBundleRootRuns6
import Derived.Test.YtijgfojnppcbjaaBundleRootRuns7
import Derived.Test.YtijgfojnppcbjaaBundleRootRuns8
import Derived.Test.YtijgfojnppcbjaaBundleRootRuns9
import Derived.Test.YtijgfojnppcbjaaBundleRootRuns10
import Derived.Test.YtijgfojnppcbjaaBundleRootRuns11
import Derived.Test.YtijgfojnppcbjaaBundleRootRuns12
import Derived.Test.YtijgfojnppcbjaaBundleRootRuns13
import Derived.Test.YtijgfojnppcbjaaBundleRootRuns14
import Derived.Test.YtijgfojnppcbjaaBundleRootRuns15
/- The document's Next of roots. (Written by w5_gen.py.) -/
namespace Go.Proofs.Ytijgfojnppcbjaa
open Go.RowKit Go.Proofs.U
set_option linter.unusedSimpArgs false
set_option linter.unusedVariables false
theorem rdE_err (X : DSt) : rdE X = 0 ∨ rdE X = 41 ∨ rdE X = 43 := by
  have h0 := readP_err X 0
  have h1 := readP_err X 1
  unfold rdE
  split
  · exact h1
  · exact h0

set_option maxRecDepth 100000 in
set_option maxHeartbeats 4000000 in
theorem dnext_any {X : DSt} (v1 v2 v3 : Value) (bad : List Bool) (c : Bool) (l : Int) (d : Bool) (w : World) (hV : DocV w v1 v2 v3 X bad) (hl0 : (readP X 0).1.length = 256) (hl1 : (readP X 1).1.length = 256) (hb : X.byt) :
    Calls Try.prog 26 #[dkV v1 v2 v3 c l d] w fun e w' => e = .returned (.tuple #[.int .u64 (rNext X).1, .int .i64 (rNext X).2]) ∧ Fr noB w w' := by
  have b0 := readP_byt hb 0
  have b1 := readP_byt hb 1
  have r0 := show Hid _ from fun (W : World) (h : DocV W v1 v2 v3 X bad) => rread_any v1 v2 v3 X.pages bad X.pend c l d 0 W h.s1 h.s2 h.s3 h.lb h.pg h.pn
  have r1 := show Hid _ from fun (W : World) (h : DocV W v1 v2 v3 X bad) => rread_any v1 v2 v3 X.pages bad X.pend c l d 1 W h.s1 h.s2 h.s3 h.lb h.pg h.pn
  simp only [hV.rd] at r0 r1
  have hrd := show Hid _ from fun (W : World) (h : DocV W v1 v2 v3 X bad) => dread_any v1 v2 v3 bad c l d W h hl0 hl1 hb
  unfold DReadIs at hrd
  have hs1 := SlR.isSl hV.s1
  have hs2 := SlR.isSl hV.s2
  have hs3 := SlR.isSl hV.s3
  have herr := rdE_err X
  have hRR : rRead X = if rdE X = 0 then (if (nwst X).1 = 0 then ([], 0, 51) else ((nwst X).2, (nwst X).1, 0)) else ([], 0, rdE X) := rfl
  have hNN : Hid (rNext X = if rdE X = 0 then (if 18446744073709551612 < tp X then (0, 51) else (nextG X, 0)) else (0, rdE X)) := rfl
  have hnb : 0 ≤ (nwst X).1 ∧ (nwst X).1 < 18446744073709551616 := newest_bd b0 b1
  have htb : 0 ≤ tp X ∧ tp X < 18446744073709551616 := top_bd b0 b1
  have htp : Hid (tp X = top (readP X 0).1 (readP X 1).1) := rfl
  have hng : Hid (nextG X = if (nwst X).1 ≠ 0 ∧ (tp X + 1) % 2 = (nwst X).1 % 2 then tp X + 2 else tp X + 1) := rfl
  obtain ⟨Z, HZ⟩ : ∃ Z, Hid (zeroP = Z) := ⟨_, rfl⟩
  have hZl : Hid (Z.length = 256) := by show _ = _; rw [← HZ.out]; exact zeroP_len
  by_cases hE : rdE X = 0
  · -- both pages can be read
    have hE0 : (readP X 0).2 = 0 := by
      unfold rdE at hE
      apply Decidable.byContradiction; intro h
      rw [if_neg h] at hE; exact h hE
    have hE1 : (readP X 1).2 = 0 := by unfold rdE at hE; rw [if_pos hE0] at hE; exact hE
    simp only [hE0] at r0
    simp only [hE1] at r1
    rw [if_pos hE] at hRR hNN
    obtain ⟨GG, e0, HRd⟩ : ∃ (GG e0 : Int), (rRead X).2.1 = GG ∧ (rRead X).2.2 = e0 ∧ GG = (nwst X).1 ∧ (e0 = 0 ∨ e0 = 51) := by
      refine ⟨_, _, rfl, rfl, ?_, ?_⟩
      · rw [hRR]; split
        · rename_i h; rw [h]
        · rfl
      · rw [hRR]; split
        · exact Or.inr rfl
        · exact Or.inl rfl
    obtain ⟨hg1, hg2, hg3, hg4⟩ := HRd
    simp only [hg1, hg2] at hrd
    rw [← hg3] at hnb hng
    clear hE hE0 hE1 herr hRR hg1 hg2 hg3
    obtain ⟨P0, H0⟩ : ∃ P, Hid ((readP X 0).1 = P) := ⟨_, rfl⟩
    obtain ⟨P1, H1⟩ : ∃ P, Hid ((readP X 1).1 = P) := ⟨_, rfl⟩
    simp only [H0.out] at r0 b0 hl0 htp
    simp only [H1.out] at r1 b1 hl1 htp
    have hl0 := show Hid _ from hl0
    have hl1 := show Hid _ from hl1
    obtain ⟨T, HT⟩ : ∃ T, Hid (tp X = T) := ⟨_, rfl⟩
    obtain ⟨NG, HNG⟩ : ∃ T, Hid (nextG X = T) := ⟨_, rfl⟩
    rw [HT.out] at hNN htb htp hng
    rw [HNG.out] at hNN hng
    obtain ⟨NN, HNN⟩ : ∃ T, Hid (rNext X = T) := ⟨_, rfl⟩
    rw [HNN.out] at hNN ⊢
    obtain ⟨ht0, ht1⟩ := htb
    obtain ⟨hnb0, hnb1⟩ := hnb
    rcases hg4 with rfl | rfl
    · skip
      go_enter Try.func26, Try.ntmps26
      go_wp2_with (first
        | (with_reducible refine at_wpP ?_; refine wpList_boxV rfl 39 _ rfl (dkL v1 v2 v3 c l d) rfl ?_; intro g1 w1 hg1 bx1 f1 s1)
        | (with_reducible refine at_wpP ?_; refine wpList_ldD rfl _ rfl g1 rfl _ _ _ _ _ _ bx1 ?_)
        | (go_at_call 25; go_must (refine (hrd.out _ (hV.fr0 f1)).mono ?_; rintro e w2 ⟨v2', rfl, i2, f2⟩; obtain ⟨a2, c2, rfl, _⟩ := i2.opn)))
      have z1 := f1.size
      have bx2 := bx1.fr0 f2
      have F2 := f1.thenN f2
      go_loopw [7, 8] (fun t i wr => ∃ (k : Nat) (n : Int), k ≤ 2 ∧ i = .int .i64 (k : Int) ∧ t = .int .u64 n ∧ Hid (n = tpK P0 P1 k) ∧ BxV wr g1 39 (dkL v1 v2 v3 c l d) ∧ Fr noB w wr) (fun _ i _ => 2 - (intOf i).toNat)
      case atStart => exact ⟨0, 0, by omega, rfl, rfl, (rfl : (0 : Int) = tpK P0 P1 0), bx2, F2⟩
      case round =>
        obtain ⟨k, n, hk, rfl, rfl, hn, hBx, hf⟩ := hrel
        have hk3 : k = 0 ∨ k = 1 ∨ k = 2 := by omega
        rcases hk3 with rfl | rfl | rfl
        · clear hk
          have hsucc := show Hid _ from tpK_succ P0 P1 0 (by decide)
          have hpk : pick2 P0 P1 0 = P0 := by simp [pick2]
          rw [hpk, ← hn.out] at hsucc
          have hnb9 : 0 ≤ n ∧ n < 18446744073709551616 := by rw [hn.out]; exact tpK_bd b0 b1 0
          have htb := fun j => topK_bd b0 n hnb9 j
          have hgb := fun j => genAt_bd b0 j
          clear hpk
          go_wp2_with (first
            | (with_reducible refine at_wpP ?_; refine wpList_ldD rfl _ rfl g1 rfl _ _ _ _ _ _ hBx ?_)
            | (go_at_call 45; go_must (refine (r0.out _ (hV.fr0 hf)).mono ?_; rintro e w3 ⟨rfl, f3⟩))
            | (with_reducible refine at_wpP ?_; refine wpList_allocP rfl rfl ?_; rw [HZ.out]; intro g9 w4 hg9 b4 f4 s4; have l4 := b4.lt; have zf := hf.size; have zf3 := f3.size; have lBx := hBx.lt)
            | (with_reducible refine at_wpP ?_; refine at_st 46 _ _ rfl ?_; go_must (refine wpList_storeP rfl _ _ rfl g9 rfl P0 rfl _ b4 hl0.out hZl.out ?_; intro w5 b5 f5)))
          have B5 := ((hBx.fr0 f3).fr0 f4).ne f5 (by omega)
          have F5 : Fr noB w w5 := ((hf.thenN f3).thenN f4).thenT f5 (fun i hi q => by unfold onB1 at q; omega)
          go_loopw [7, 11] (fun t i wr => ∃ (j : Nat) (m : Int), j ≤ 8 ∧ i = .int .i64 ((j : Int) * 32) ∧ t = .int .u64 m ∧ Hid (m = topK P0 n j) ∧ BxV wr g9 46 (pgv P0) ∧ BxV wr g1 39 (dkL v1 v2 v3 c l d) ∧ Fr noB w wr) (fun _ i _ => (256 - intOf i).toNat)
          case atStart => exact ⟨0, n, by omega, rfl, rfl, (rfl : n = topK P0 n 0), b5, B5, F5⟩
          case round =>
            obtain ⟨j, m, hj, rfl, rfl, hm, hB9, hB1, hf2⟩ := hrel
            by_cases hjl : j < 8
            · have hj' : (j : Int) * 32 < 256 := by omega
              have hmb : 0 ≤ m ∧ m < 18446744073709551616 := by rw [hm.out]; exact htb j
              have hms := show Hid _ from topK_succ P0 n j
              rw [← hm.out] at hms
              have hgen := show Hid _ from fun W => number_any P0 hl0.out b0 j hjl ((j : Int) * 32) rfl W
              have hgj := hgb j
              obtain ⟨Gj, HG⟩ : ∃ G, Hid (genAt P0 j = G) := ⟨_, rfl⟩
              rw [HG.out] at hms hgj
              simp only [HG.out] at hgen
              go_wp2_with (first
                | (with_reducible refine at_wpP ?_; refine at_ld 46 _ rfl ?_; go_must (refine wpList_loadP rfl _ rfl g9 rfl _ hB9 hl0.out ?_))
                | (go_at_call 47; go_must (refine (hgen.out _).mono ?_; rintro e w6 ⟨rfl, f6⟩)))
              go_roundw
              case rel => exact ⟨j + 1, max m Gj, by omega, by first | go_num | (congr 1; omega), rfl, show _ = _ from hms.out.symm, hB9.fr0 f6, hB1.fr0 f6, hf2.thenN f6⟩
              case measure => simp [intOf]; omega
            · obtain rfl : j = 8 := by omega
              go_wp2
              go_roundw
              case rel => exact ⟨0 + 1, m, by omega, by go_num, rfl, show _ = _ by rw [hsucc.out]; exact hm.out, hB1, hf2⟩
              case measure => simp [intOf]
        · clear hk
          have hsucc := show Hid _ from tpK_succ P0 P1 1 (by decide)
          have hpk : pick2 P0 P1 1 = P1 := by simp [pick2]
          rw [hpk, ← hn.out] at hsucc
          have hnb9 : 0 ≤ n ∧ n < 18446744073709551616 := by rw [hn.out]; exact tpK_bd b0 b1 1
          have htb := fun j => topK_bd b1 n hnb9 j
          have hgb := fun j => genAt_bd b1 j
          clear hpk
          go_wp2_with (first
            | (with_reducible refine at_wpP ?_; refine wpList_ldD rfl _ rfl g1 rfl _ _ _ _ _ _ hBx ?_)
            | (go_at_call 45; go_must (refine (r1.out _ (hV.fr0 hf)).mono ?_; rintro e w3 ⟨rfl, f3⟩))
            | (with_reducible refine at_wpP ?_; refine wpList_allocP rfl rfl ?_; rw [HZ.out]; intro g9 w4 hg9 b4 f4 s4; have l4 := b4.lt; have zf := hf.size; have zf3 := f3.size; have lBx := hBx.lt)
            | (with_reducible refine at_wpP ?_; refine at_st 46 _ _ rfl ?_; go_must (refine wpList_storeP rfl _ _ rfl g9 rfl P1 rfl _ b4 hl1.out hZl.out ?_; intro w5 b5 f5)))
          have B5 := ((hBx.fr0 f3).fr0 f4).ne f5 (by omega)
          have F5 : Fr noB w w5 := ((hf.thenN f3).thenN f4).thenT f5 (fun i hi q => by unfold onB1 at q; omega)
          go_loopw [7, 11] (fun t i wr => ∃ (j : Nat) (m : Int), j ≤ 8 ∧ i = .int .i64 ((j : Int) * 32) ∧ t = .int .u64 m ∧ Hid (m = topK P1 n j) ∧ BxV wr g9 46 (pgv P1) ∧ BxV wr g1 39 (dkL v1 v2 v3 c l d) ∧ Fr noB w wr) (fun _ i _ => (256 - intOf i).toNat)
          case atStart => exact ⟨0, n, by omega, rfl, rfl, (rfl : n = topK P1 n 0), b5, B5, F5⟩
          case round =>
            obtain ⟨j, m, hj, rfl, rfl, hm, hB9, hB1, hf2⟩ := hrel
            by_cases hjl : j < 8
            · have hj' : (j : Int) * 32 < 256 := by omega
              have hmb : 0 ≤ m ∧ m < 18446744073709551616 := by rw [hm.out]; exact htb j
              have hms := show Hid _ from topK_succ P1 n j
              rw [← hm.out] at hms
              have hgen := show Hid _ from fun W => number_any P1 hl1.out b1 j hjl ((j : Int) * 32) rfl W
              have hgj := hgb j
              obtain ⟨Gj, HG⟩ : ∃ G, Hid (genAt P1 j = G) := ⟨_, rfl⟩
              rw [HG.out] at hms hgj
              simp only [HG.out] at hgen
              go_wp2_with (first
                | (with_reducible refine at_wpP ?_; refine at_ld 46 _ rfl ?_; go_must (refine wpList_loadP rfl _ rfl g9 rfl _ hB9 hl1.out ?_))
                | (go_at_call 47; go_must (refine (hgen.out _).mono ?_; rintro e w6 ⟨rfl, f6⟩)))
              go_roundw
              case rel => exact ⟨j + 1, max m Gj, by omega, by first | go_num | (congr 1; omega), rfl, show _ = _ from hms.out.symm, hB9.fr0 f6, hB1.fr0 f6, hf2.thenN f6⟩
              case measure => simp [intOf]; omega
            · obtain rfl : j = 8 := by omega
              go_wp2
              go_roundw
              case rel => exact ⟨1 + 1, m, by omega, by go_num, rfl, show _ = _ by rw [hsucc.out]; exact hm.out, hB1, hf2⟩
              case measure => simp [intOf]
        · clear hk
          have hnT : n = T := by rw [hn.out, htp.out]; rfl
          subst hnT
          clear hn
          have hq1 : ¬ 18446744073709551612 < n → IntKind.u64.wrap (n + 1) = n + 1 := fun h => wrap_u64_id _ (by omega) (by omega)
          have hq2 : ¬ 18446744073709551612 < n → IntKind.u64.wrap (n + 1 + 1) = n + 2 := fun h => by rw [wrap_u64_id _ (by omega) (by omega)]; omega
          by_cases hT : 18446744073709551612 < n
          · have hRE : NN = (0, 51) := by rw [hNN.out, if_pos hT]
            subst hRE
            clear hq1 hq2
            go_wp2
            go_ret2
            exact ⟨rfl, hf⟩
          · have hRE : NN = (NG, 0) := by rw [hNN.out, if_neg hT]
            subst hRE
            have hq1 := hq1 hT
            have hq2 := hq2 hT
            by_cases hz : GG = 0
            · subst hz
              have hge : NG = n + 1 := by rw [hng.out]; simp
              subst hge
              go_wp2
              go_ret2
              exact ⟨rfl, hf⟩
            · have hz2 : (0 : Int) < GG := by omega
              have m1 : (n + 1).tmod 2 = (n + 1) % 2 := Int.tmod_eq_emod_of_nonneg (by omega)
              have m2 : GG.tmod 2 = GG % 2 := Int.tmod_eq_emod_of_nonneg (by omega)
              by_cases hpar : (n + 1) % 2 = GG % 2
              · have hge : NG = n + 2 := by rw [hng.out, if_pos ⟨hz, hpar⟩]
                subst hge
                have hpb : ((n + 1) % 2 == GG % 2) = true := by simpa using hpar
                go_wp2
                go_ret2
                exact ⟨rfl, hf⟩
              · have hge : NG = n + 1 := by rw [hng.out, if_neg (fun h => hpar h.2)]
                subst hge
                have hpb : ((n + 1) % 2 == GG % 2) = false := by simpa using hpar
                go_wp2
                go_ret2
                exact ⟨rfl, hf⟩
    · skip
      go_enter Try.func26, Try.ntmps26
      go_wp2_with (first
        | (with_reducible refine at_wpP ?_; refine wpList_boxV rfl 39 _ rfl (dkL v1 v2 v3 c l d) rfl ?_; intro g1 w1 hg1 bx1 f1 s1)
        | (with_reducible refine at_wpP ?_; refine wpList_ldD rfl _ rfl g1 rfl _ _ _ _ _ _ bx1 ?_)
        | (go_at_call 25; go_must (refine (hrd.out _ (hV.fr0 f1)).mono ?_; rintro e w2 ⟨v2', rfl, i2, f2⟩; obtain ⟨a2, c2, rfl, _⟩ := i2.opn)))
      have z1 := f1.size
      have bx2 := bx1.fr0 f2
      have F2 := f1.thenN f2
      go_loopw [7, 8] (fun t i wr => ∃ (k : Nat) (n : Int), k ≤ 2 ∧ i = .int .i64 (k : Int) ∧ t = .int .u64 n ∧ Hid (n = tpK P0 P1 k) ∧ BxV wr g1 39 (dkL v1 v2 v3 c l d) ∧ Fr noB w wr) (fun _ i _ => 2 - (intOf i).toNat)
      case atStart => exact ⟨0, 0, by omega, rfl, rfl, (rfl : (0 : Int) = tpK P0 P1 0), bx2, F2⟩
      case round =>
        obtain ⟨k, n, hk, rfl, rfl, hn, hBx, hf⟩ := hrel
        have hk3 : k = 0 ∨ k = 1 ∨ k = 2 := by omega
        rcases hk3 with rfl | rfl | rfl
        · clear hk
          have hsucc := show Hid _ from tpK_succ P0 P1 0 (by decide)
          have hpk : pick2 P0 P1 0 = P0 := by simp [pick2]
          rw [hpk, ← hn.out] at hsucc
          have hnb9 : 0 ≤ n ∧ n < 18446744073709551616 := by rw [hn.out]; exact tpK_bd b0 b1 0
          have htb := fun j => topK_bd b0 n hnb9 j
          have hgb := fun j => genAt_bd b0 j
          clear hpk
          go_wp2_with (first
            | (with_reducible refine at_wpP ?_; refine wpList_ldD rfl _ rfl g1 rfl _ _ _ _ _ _ hBx ?_)
            | (go_at_call 45; go_must (refine (r0.out _ (hV.fr0 hf)).mono ?_; rintro e w3 ⟨rfl, f3⟩))
            | (with_reducible refine at_wpP ?_; refine wpList_allocP rfl rfl ?_; rw [HZ.out]; intro g9 w4 hg9 b4 f4 s4; have l4 := b4.lt; have zf := hf.size; have zf3 := f3.size; have lBx := hBx.lt)
            | (with_reducible refine at_wpP ?_; refine at_st 46 _ _ rfl ?_; go_must (refine wpList_storeP rfl _ _ rfl g9 rfl P0 rfl _ b4 hl0.out hZl.out ?_; intro w5 b5 f5)))
          have B5 := ((hBx.fr0 f3).fr0 f4).ne f5 (by omega)
          have F5 : Fr noB w w5 := ((hf.thenN f3).thenN f4).thenT f5 (fun i hi q => by unfold onB1 at q; omega)
          go_loopw [7, 11] (fun t i wr => ∃ (j : Nat) (m : Int), j ≤ 8 ∧ i = .int .i64 ((j : Int) * 32) ∧ t = .int .u64 m ∧ Hid (m = topK P0 n j) ∧ BxV wr g9 46 (pgv P0) ∧ BxV wr g1 39 (dkL v1 v2 v3 c l d) ∧ Fr noB w wr) (fun _ i _ => (256 - intOf i).toNat)
          case atStart => exact ⟨0, n, by omega, rfl, rfl, (rfl : n = topK P0 n 0), b5, B5, F5⟩
          case round =>
            obtain ⟨j, m, hj, rfl, rfl, hm, hB9, hB1, hf2⟩ := hrel
            by_cases hjl : j < 8
            · have hj' : (j : Int) * 32 < 256 := by omega
              have hmb : 0 ≤ m ∧ m < 18446744073709551616 := by rw [hm.out]; exact htb j
              have hms := show Hid _ from topK_succ P0 n j
              rw [← hm.out] at hms
              have hgen := show Hid _ from fun W => number_any P0 hl0.out b0 j hjl ((j : Int) * 32) rfl W
              have hgj := hgb j
              obtain ⟨Gj, HG⟩ : ∃ G, Hid (genAt P0 j = G) := ⟨_, rfl⟩
              rw [HG.out] at hms hgj
              simp only [HG.out] at hgen
              go_wp2_with (first
                | (with_reducible refine at_wpP ?_; refine at_ld 46 _ rfl ?_; go_must (refine wpList_loadP rfl _ rfl g9 rfl _ hB9 hl0.out ?_))
                | (go_at_call 47; go_must (refine (hgen.out _).mono ?_; rintro e w6 ⟨rfl, f6⟩)))
              go_roundw
              case rel => exact ⟨j + 1, max m Gj, by omega, by first | go_num | (congr 1; omega), rfl, show _ = _ from hms.out.symm, hB9.fr0 f6, hB1.fr0 f6, hf2.thenN f6⟩
              case measure => simp [intOf]; omega
            · obtain rfl : j = 8 := by omega
              go_wp2
              go_roundw
              case rel => exact ⟨0 + 1, m, by omega, by go_num, rfl, show _ = _ by rw [hsucc.out]; exact hm.out, hB1, hf2⟩
              case measure => simp [intOf]
        · clear hk
          have hsucc := show Hid _ from tpK_succ P0 P1 1 (by decide)
          have hpk : pick2 P0 P1 1 = P1 := by simp [pick2]
          rw [hpk, ← hn.out] at hsucc
          have hnb9 : 0 ≤ n ∧ n < 18446744073709551616 := by rw [hn.out]; exact tpK_bd b0 b1 1
          have htb := fun j => topK_bd b1 n hnb9 j
          have hgb := fun j => genAt_bd b1 j
          clear hpk
          go_wp2_with (first
            | (with_reducible refine at_wpP ?_; refine wpList_ldD rfl _ rfl g1 rfl _ _ _ _ _ _ hBx ?_)
            | (go_at_call 45; go_must (refine (r1.out _ (hV.fr0 hf)).mono ?_; rintro e w3 ⟨rfl, f3⟩))
            | (with_reducible refine at_wpP ?_; refine wpList_allocP rfl rfl ?_; rw [HZ.out]; intro g9 w4 hg9 b4 f4 s4; have l4 := b4.lt; have zf := hf.size; have zf3 := f3.size; have lBx := hBx.lt)
            | (with_reducible refine at_wpP ?_; refine at_st 46 _ _ rfl ?_; go_must (refine wpList_storeP rfl _ _ rfl g9 rfl P1 rfl _ b4 hl1.out hZl.out ?_; intro w5 b5 f5)))
          have B5 := ((hBx.fr0 f3).fr0 f4).ne f5 (by omega)
          have F5 : Fr noB w w5 := ((hf.thenN f3).thenN f4).thenT f5 (fun i hi q => by unfold onB1 at q; omega)
          go_loopw [7, 11] (fun t i wr => ∃ (j : Nat) (m : Int), j ≤ 8 ∧ i = .int .i64 ((j : Int) * 32) ∧ t = .int .u64 m ∧ Hid (m = topK P1 n j) ∧ BxV wr g9 46 (pgv P1) ∧ BxV wr g1 39 (dkL v1 v2 v3 c l d) ∧ Fr noB w wr) (fun _ i _ => (256 - intOf i).toNat)
          case atStart => exact ⟨0, n, by omega, rfl, rfl, (rfl : n = topK P1 n 0), b5, B5, F5⟩
          case round =>
            obtain ⟨j, m, hj, rfl, rfl, hm, hB9, hB1, hf2⟩ := hrel
            by_cases hjl : j < 8
            · have hj' : (j : Int) * 32 < 256 := by omega
              have hmb : 0 ≤ m ∧ m < 18446744073709551616 := by rw [hm.out]; exact htb j
              have hms := show Hid _ from topK_succ P1 n j
              rw [← hm.out] at hms
              have hgen := show Hid _ from fun W => number_any P1 hl1.out b1 j hjl ((j : Int) * 32) rfl W
              have hgj := hgb j
              obtain ⟨Gj, HG⟩ : ∃ G, Hid (genAt P1 j = G) := ⟨_, rfl⟩
              rw [HG.out] at hms hgj
              simp only [HG.out] at hgen
              go_wp2_with (first
                | (with_reducible refine at_wpP ?_; refine at_ld 46 _ rfl ?_; go_must (refine wpList_loadP rfl _ rfl g9 rfl _ hB9 hl1.out ?_))
                | (go_at_call 47; go_must (refine (hgen.out _).mono ?_; rintro e w6 ⟨rfl, f6⟩)))
              go_roundw
              case rel => exact ⟨j + 1, max m Gj, by omega, by first | go_num | (congr 1; omega), rfl, show _ = _ from hms.out.symm, hB9.fr0 f6, hB1.fr0 f6, hf2.thenN f6⟩
              case measure => simp [intOf]; omega
            · obtain rfl : j = 8 := by omega
              go_wp2
              go_roundw
              case rel => exact ⟨1 + 1, m, by omega, by go_num, rfl, show _ = _ by rw [hsucc.out]; exact hm.out, hB1, hf2⟩
              case measure => simp [intOf]
        · clear hk
          have hnT : n = T := by rw [hn.out, htp.out]; rfl
          subst hnT
          clear hn
          have hq1 : ¬ 18446744073709551612 < n → IntKind.u64.wrap (n + 1) = n + 1 := fun h => wrap_u64_id _ (by omega) (by omega)
          have hq2 : ¬ 18446744073709551612 < n → IntKind.u64.wrap (n + 1 + 1) = n + 2 := fun h => by rw [wrap_u64_id _ (by omega) (by omega)]; omega
          by_cases hT : 18446744073709551612 < n
          · have hRE : NN = (0, 51) := by rw [hNN.out, if_pos hT]
            subst hRE
            clear hq1 hq2
            go_wp2
            go_ret2
            exact ⟨rfl, hf⟩
          · have hRE : NN = (NG, 0) := by rw [hNN.out, if_neg hT]
            subst hRE
            have hq1 := hq1 hT
            have hq2 := hq2 hT
            by_cases hz : GG = 0
            · subst hz
              have hge : NG = n + 1 := by rw [hng.out]; simp
              subst hge
              go_wp2
              go_ret2
              exact ⟨rfl, hf⟩
            · have hz2 : (0 : Int) < GG := by omega
              have m1 : (n + 1).tmod 2 = (n + 1) % 2 := Int.tmod_eq_emod_of_nonneg (by omega)
              have m2 : GG.tmod 2 = GG % 2 := Int.tmod_eq_emod_of_nonneg (by omega)
              by_cases hpar : (n + 1) % 2 = GG % 2
              · have hge : NG = n + 2 := by rw [hng.out, if_pos ⟨hz, hpar⟩]
                subst hge
                have hpb : ((n + 1) % 2 == GG % 2) = true := by simpa using hpar
                go_wp2
                go_ret2
                exact ⟨rfl, hf⟩
              · have hge : NG = n + 1 := by rw [hng.out, if_neg (fun h => hpar h.2)]
                subst hge
                have hpb : ((n + 1) % 2 == GG % 2) = false := by simpa using hpar
                go_wp2
                go_ret2
                exact ⟨rfl, hf⟩
  · have hrr : rNext X = (0, rdE X) := by rw [hNN.out, if_neg hE]
    have hrr2 : rRead X = ([], 0, rdE X) := by rw [hRR, if_neg hE]
    rw [hrr]
    simp only [hrr2] at hrd
    obtain ⟨E, HE⟩ : ∃ E, Hid (rdE X = E) := ⟨_, rfl⟩
    rw [HE.out] at hE herr ⊢
    simp only [HE.out] at hrd
    clear hrr hrr2 hRR hnb htb
    rcases herr with h | rfl | rfl
    · exact absurd h hE
    · skip
      go_enter Try.func26, Try.ntmps26
      go_wp2_with (first
        | (with_reducible refine at_wpP ?_; refine wpList_boxV rfl 39 _ rfl (dkL v1 v2 v3 c l d) rfl ?_; intro g1 w1 hg1 bx1 f1 s1)
        | (with_reducible refine at_wpP ?_; refine wpList_ldD rfl _ rfl g1 rfl _ _ _ _ _ _ bx1 ?_)
        | (go_at_call 25; go_must (refine (hrd.out _ (hV.fr0 f1)).mono ?_; rintro e w2 ⟨v2', rfl, i2, f2⟩)))
      go_ret2
      exact ⟨rfl, f1.thenN f2⟩
    · skip
      go_enter Try.func26, Try.ntmps26
      go_wp2_with (first
        | (with_reducible refine at_wpP ?_; refine wpList_boxV rfl 39 _ rfl (dkL v1 v2 v3 c l d) rfl ?_; intro g1 w1 hg1 bx1 f1 s1)
        | (with_reducible refine at_wpP ?_; refine wpList_ldD rfl _ rfl g1 rfl _ _ _ _ _ _ bx1 ?_)
        | (go_at_call 25; go_must (refine (hrd.out _ (hV.fr0 f1)).mono ?_; rintro e w2 ⟨v2', rfl, i2, f2⟩)))
      go_ret2
      exact ⟨rfl, f1.thenN f2⟩
end Go.Proofs.Ytijgfojnppcbjaa
/- Roots, plain: what is written is read; what is torn is no root; the greatest generation. -/
namespace Go.Proofs.Ytijgfojnppcbjaa
open Go.RowKit Go.Proofs.U
set_option linter.unusedSimpArgs false
set_option linter.unusedVariables false

theorem sec_root (g : Int) (c : List Int) (s : Nat) (hs : s < 8) : ((rootP g c).drop (s * 32)).take 8 = leB 8 g := by
  have h8 := leB_length 8 g
  apply ext_getD
  · rw [h8, List.length_take, List.length_drop, rootP_len]; omega
  · intro i hi
    have hi8 : i < 8 := by rw [List.length_take] at hi; omega
    rw [drop_take_get _ _ _ _ hi8, rootP_get _ _ _ (by omega), if_pos (by omega)]
    congr 1; omega
theorem genAt_root (g : Int) (hg : 0 ≤ g ∧ g < 18446744073709551616) (c : List Int) (s : Nat) (hs : s < 8) : genAt (rootP g c) s = g := by
  unfold genAt
  rw [sec_root g c s hs, leNum_leB 8 g hg.1 (by have : (256 : Int) ^ 8 = 18446744073709551616 := by decide
                                                omega)]
theorem strmOf_root (g : Int) (c : List Int) : strmOf (rootP g c) = st192 c := by
  apply ext_getD
  · rw [strmOf_len, st192_len]
  · intro i hi
    rw [strmOf_len] at hi
    rw [strmOf, getD_map _ _ _ hi, rootP_get _ _ _ (by omega), if_neg (by omega)]
    congr 1; omega
theorem strm_take2 (c : List Int) : (strm c).take 2 = leB 2 c.length := by
  unfold strm sealI
  rw [List.append_assoc, List.take_append_of_le_length (by rw [leB_length]; decide), List.take_of_length_le (by rw [leB_length]; decide)]
theorem lenOf_root (g : Int) (c : List Int) (hc : c.length ≤ 186) : lenOf (rootP g c) = c.length := by
  unfold lenOf
  rw [strmOf_root, st192_eq c hc, List.take_append_of_le_length (by rw [strm_len]; omega), strm_take2]
  refine leNum_leB 2 _ (by omega) ?_
  have : (256 : Int) ^ 2 = 65536 := by decide
  omega
theorem contOf_root (g : Int) (c : List Int) (hc : c.length ≤ 186) : contOf (rootP g c) = c := by
  unfold contOf
  rw [lenOf_root g c hc, strmOf_root, st192_eq c hc, Int.toNat_natCast]
  unfold strm sealI
  rw [List.append_assoc, List.append_assoc, List.drop_append_of_le_length (by rw [leB_length]; decide), List.drop_of_length_le (by rw [leB_length]; decide), List.nil_append, List.take_append_of_le_length (Nat.le_refl _), List.take_length]
theorem rootOf_root (g : Int) (hg : 0 ≤ g ∧ g < 18446744073709551616) (c : List Int) (hc : c.length ≤ 186) : rootOf (rootP g c) = (g, c) := by
  unfold rootOf
  rw [lenOf_root g c hc, contOf_root g c hc, genAt_root g hg c 0 (by decide), if_neg (by omega)]
  simp
/-- A page that is a root has its generation in all sectors. -/
theorem rootOf_some {p : List Int} (h : (rootOf p).1 ≠ 0) : p = rootP (rootOf p).1 (rootOf p).2 := by
  unfold rootOf at h ⊢
  split
  · rename_i h1; rw [if_pos h1] at h; simp at h
  · rename_i h1
    rw [if_neg h1] at h
    split
    · rename_i h2
      exact (by simpa using h2 : rootP (genAt p 0) (contOf p) = p).symm
    · rename_i h2; rw [if_neg h2] at h; simp at h
theorem rootOf_gen {p : List Int} (hb : Byt p) (h : (rootOf p).1 ≠ 0) (s : Nat) (hs : s < 8) : genAt p s = (rootOf p).1 := by
  have h1 := rootOf_some h
  have h2 := rootOf_bd hb
  conv => lhs; rw [h1]
  exact genAt_root _ h2 _ s hs
theorem rootOf_none {p : List Int} (h : (rootOf p).1 = 0) (hb : Byt p) (h0 : genAt p 0 ≠ 0) : rootOf p = (0, []) := by
  unfold rootOf at h ⊢
  split
  · rfl
  · rename_i h1
    rw [if_neg h1] at h
    split
    · rename_i h2; rw [if_pos h2] at h; exact absurd h h0
    · rfl
/-- Unlike generations: no root. -/
theorem rootOf_unlike {p : List Int} (hb : Byt p) {s t : Nat} (hs : s < 8) (ht : t < 8) (h : genAt p s ≠ genAt p t) : (rootOf p).1 = 0 := by
  apply Decidable.byContradiction
  intro h0
  exact h ((rootOf_gen hb h0 s hs).trans (rootOf_gen hb h0 t ht).symm)

theorem mixS_get (old new : List Int) (st : Nat → Bool) (i : Nat) (h : i < 256) : (mixS old new st 8).getD i 0 = if st (i / 32) = true then new.getD i 0 else old.getD i 0 := by
  unfold mixS
  rw [getD_map _ _ _ h]
  have : i / 32 < 8 := by omega
  simp [this]
theorem sec_mix (old new : List Int) (st : Nat → Bool) (ho : old.length = 256) (hn : new.length = 256) (s : Nat) (hs : s < 8) : ((mixS old new st 8).drop (s * 32)).take 8 = if st s then (new.drop (s * 32)).take 8 else (old.drop (s * 32)).take 8 := by
  apply ext_getD
  · split <;> simp only [List.length_take, List.length_drop, mixS_len, ho, hn]
  · intro i hi
    have hi8 : i < 8 := by rw [List.length_take] at hi; omega
    rw [drop_take_get _ _ _ _ hi8, mixS_get _ _ _ _ (by omega)]
    have : (s * 32 + i) / 32 = s := by omega
    rw [this]
    split <;> rw [drop_take_get _ _ _ _ hi8]
theorem genAt_mix (old new : List Int) (st : Nat → Bool) (ho : old.length = 256) (hn : new.length = 256) (s : Nat) (hs : s < 8) : genAt (mixS old new st 8) s = if st s then genAt new s else genAt old s := by
  unfold genAt
  rw [sec_mix old new st ho hn s hs]
  split <;> rfl
theorem mixS_byt {old new : List Int} (ho : Byt old) (hn : Byt new) (st : Nat → Bool) : Byt (mixS old new st 8) := by
  refine byt_map _ _ fun i _ => ?_
  split
  · exact hn.at i
  · exact ho.at i
theorem mixS_full (old new : List Int) (st : Nat → Bool) (h : new.length = 256) (hs : ∀ s, s < 8 → st s = true) : mixS old new st 8 = new := by
  apply ext_getD
  · rw [mixS_len, h]
  · intro i hi
    rw [mixS_len] at hi
    rw [mixS_get _ _ _ _ hi, hs _ (by omega)]; rfl
theorem mixS_old (old new : List Int) (st : Nat → Bool) (h : old.length = 256) (hs : ∀ s, s < 8 → st s = false) : mixS old new st 8 = old := by
  apply ext_getD
  · rw [mixS_len, h]
  · intro i hi
    rw [mixS_len] at hi
    rw [mixS_get _ _ _ _ hi, hs _ (by omega)]; rfl

theorem topK_le (p : List Int) (t : Int) (k : Nat) : t ≤ topK p t k ∧ ∀ s, s < k → genAt p s ≤ topK p t k := by
  induction k with
  | zero => exact ⟨Int.le_refl _, fun s h => by omega⟩
  | succ k ih =>
    rw [topK_succ]
    refine ⟨by omega, fun s hs => ?_⟩
    by_cases h : s = k
    · subst h; omega
    · have := ih.2 s (by omega); omega
theorem topK_up {p : List Int} {t B : Int} (k : Nat) (ht : t ≤ B) (h : ∀ s, s < k → genAt p s ≤ B) : topK p t k ≤ B := by
  induction k with
  | zero => exact ht
  | succ k ih =>
    rw [topK_succ]
    have h1 := ih (fun s hs => h s (by omega))
    have h2 := h k (by omega)
    omega
theorem top_p (p q : List Int) (s : Nat) (hs : s < 8) : genAt p s ≤ top p q := by
  have h1 := (topK_le p 0 8).2 s hs
  have h2 := (topK_le q (topK p 0 8) 8).1
  unfold top; omega
theorem top_q (p q : List Int) (s : Nat) (hs : s < 8) : genAt q s ≤ top p q := (topK_le q (topK p 0 8) 8).2 s hs
theorem top_up {p q : List Int} {B : Int} (h0 : 0 ≤ B) (hp : ∀ s, s < 8 → genAt p s ≤ B) (hq : ∀ s, s < 8 → genAt q s ≤ B) : top p q ≤ B := topK_up 8 (topK_up 8 h0 hp) hq
theorem top_nn (p q : List Int) : 0 ≤ top p q := by
  have h1 := (topK_le p 0 8).1
  have h2 := (topK_le q (topK p 0 8) 8).1
  unfold top; omega

/-- What newest tells. -/
theorem newest_cases (p q : List Int) :
    ((rootOf q).1 % 2 = 1 ∧ newest p q = rootOf q ∧ (0 ≤ (rootOf p).1 → 0 < (rootOf q).1)) ∨ ((rootOf p).1 % 2 = 0 ∧ 0 < (rootOf p).1 ∧ newest p q = rootOf p) ∨ newest p q = (0, []) := by
  unfold newest
  generalize rootOf p = a
  generalize rootOf q = b
  by_cases c1 : a.1 % 2 = 0 ∧ 0 < a.1
  · by_cases c2 : b.1 % 2 = 1 ∧ a.1 < b.1
    · simp only [c1, c2, and_self, if_true, true_and]
      exact Or.inl (fun h => by omega)
    · simp only [c1, and_self, if_true, if_neg c2, true_and]
      exact Or.inr (Or.inl trivial)
  · by_cases c2 : b.1 % 2 = 1 ∧ (0 : Int) < b.1
    · simp only [if_neg c1, c2, and_self, if_true, true_and]
      exact Or.inl (fun _ => trivial)
    · simp only [if_neg c1, if_neg c2]
      exact Or.inr (Or.inr trivial)
theorem newest_zero {p q : List Int} (h : (newest p q).1 = 0) (hb : Byt p) (hc : Byt q) : newest p q = (0, []) := by
  have h1 := rootOf_bd hb
  rcases newest_cases p q with ⟨_, h2, h3⟩ | ⟨_, h2, h3⟩ | h2
  · rw [h2] at h
    have := h3 h1.1
    omega
  · rw [h3] at h; omega
  · exact h2
theorem newest_even {p q : List Int} (h : (newest p q).1 ≠ 0) (he : (newest p q).1 % 2 = 0) : newest p q = rootOf p := by
  rcases newest_cases p q with ⟨h1, h2, _⟩ | ⟨_, _, h3⟩ | h2
  · rw [h2] at he; omega
  · exact h3
  · rw [h2] at h; exact absurd rfl h
theorem newest_odd {p q : List Int} (h : (newest p q).1 ≠ 0) (he : (newest p q).1 % 2 = 1) : newest p q = rootOf q := by
  rcases newest_cases p q with ⟨_, h2, _⟩ | ⟨h1, _, h3⟩ | h2
  · exact h2
  · rw [h3] at he; omega
  · rw [h2] at h; exact absurd rfl h
theorem newest_top {p q : List Int} (hb : Byt p) (hc : Byt q) : (newest p q).1 ≤ top p q := by
  by_cases h : (newest p q).1 = 0
  · rw [h]; exact top_nn p q
  · have : (newest p q).1 % 2 = 0 ∨ (newest p q).1 % 2 = 1 := by omega
    rcases this with h2 | h2
    · have h3 := newest_even h h2
      rw [h3] at h ⊢
      rw [← rootOf_gen hb h 0 (by decide)]
      exact top_p p q 0 (by decide)
    · have h3 := newest_odd h h2
      rw [h3] at h ⊢
      rw [← rootOf_gen hc h 0 (by decide)]
      exact top_q p q 0 (by decide)
end Go.Proofs.Ytijgfojnppcbjaa
/- A disk of two pages, plain: what a Write makes of it, cut off or not; what is read behind a crash. -/
namespace Go.Proofs.Ytijgfojnppcbjaa
open Go.RowKit Go.Proofs.U
set_option linter.unusedSimpArgs false
set_option linter.unusedVariables false

/-- Both slots, nothing pending, nothing bad. -/
structure Two (X : DSt) (p q : List Int) : Prop where
  pages : X.pages = [p, q]
  pend : X.pend = []
  bad : ∀ i, X.bad i = false
  lp : p.length = 256
  lq : q.length = 256
  bp : Byt p
  bq : Byt q
section
variable {X : DSt} {p q : List Int}
theorem Two.read0 (h : Two X p q) : readP X 0 = (p, 0) := by
  unfold readP
  rw [h.pages, h.pend, h.bad]
  rfl
theorem Two.read1 (h : Two X p q) : readP X 1 = (q, 0) := by
  unfold readP
  rw [h.pages, h.pend, h.bad]
  rfl
theorem Two.re (h : Two X p q) : rdE X = 0 := by unfold rdE; rw [h.read0, h.read1]; rfl
theorem Two.nw (h : Two X p q) : nwst X = newest p q := by unfold nwst; rw [h.read0, h.read1]
theorem Two.tpp (h : Two X p q) : tp X = top p q := by unfold tp; rw [h.read0, h.read1]
theorem Two.byt (h : Two X p q) : X.byt := by
  refine ⟨?_, by rw [h.pend]; simp⟩
  rw [h.pages]
  intro r hr
  simp at hr
  rcases hr with rfl | rfl
  · exact h.bp
  · exact h.bq
theorem Two.rd (h : Two X p q) : rRead X = ((newest p q).2, (newest p q).1, if (newest p q).1 = 0 then 51 else 0) := by
  unfold rRead
  rw [h.re, h.nw, if_pos rfl]
  by_cases h0 : (newest p q).1 = 0
  · have := newest_zero h0 h.bp h.bq
    rw [this]; rfl
  · rw [if_neg h0, if_neg h0]
theorem Two.nx (h : Two X p q) (ht : top p q ≤ 18446744073709551612) : rNext X = (nextG X, 0) := by
  unfold rNext
  rw [h.re, h.tpp, if_pos rfl, if_neg (by omega)]
theorem Two.nxG (h : Two X p q) : top p q < nextG X ∧ nextG X ≤ top p q + 2 ∧ ((newest p q).1 ≠ 0 → nextG X % 2 ≠ (newest p q).1 % 2) ∧ ((newest p q).1 = 0 → nextG X = top p q + 1) ∧ ((top p q + 1) % 2 ≠ (newest p q).1 % 2 → nextG X = top p q + 1) := by
  unfold nextG
  rw [h.tpp, h.nw]
  split <;> omega
end

/-- The page r in the slot of generation G. -/
def putS0 (G : Int) (r p : List Int) : List Int := if G % 2 = 0 then r else p
def putS1 (G : Int) (r q : List Int) : List Int := if G % 2 = 0 then q else r
theorem newest_new {p q : List Int} (hp : Byt p) (hq : Byt q) {G : Int} (hG : top p q < G) (hGb : G < 18446744073709551616) (c : List Int) (hc : c.length ≤ 186) : newest (putS0 G (rootP G c) p) (putS1 G (rootP G c) q) = (G, c) := by
  have ht := top_nn p q
  have hr := rootOf_root G ⟨by omega, hGb⟩ c hc
  have gp : (rootOf p).1 ≤ top p q := by
    by_cases h : (rootOf p).1 = 0
    · omega
    · rw [← rootOf_gen hp h 0 (by decide)]; exact top_p p q 0 (by decide)
  have gq : (rootOf q).1 ≤ top p q := by
    by_cases h : (rootOf q).1 = 0
    · omega
    · rw [← rootOf_gen hq h 0 (by decide)]; exact top_q p q 0 (by decide)
  unfold putS0 putS1 newest
  by_cases h : G % 2 = 0
  · simp only [if_pos h, hr]
    have h1 : G % 2 = 0 ∧ 0 < G := ⟨h, by omega⟩
    have h2 : ¬ ((rootOf q).1 % 2 = 1 ∧ G < (rootOf q).1) := by omega
    simp only [if_pos h1, if_neg h2]
  · simp only [if_neg h, hr]
    rw [if_pos]
    refine ⟨by omega, ?_⟩
    split
    · omega
    · simp only; omega
theorem newest_torn {p q : List Int} (hp : Byt p) (hq : Byt q) {G : Int} (par : (newest p q).1 ≠ 0 → G % 2 ≠ (newest p q).1 % 2) {r : List Int} (hr : (rootOf r).1 = 0) : newest (putS0 G r p) (putS1 G r q) = newest p q := by
  have gp := (rootOf_bd hp).1
  have gq := (rootOf_bd hq).1
  unfold putS0 putS1
  by_cases h : G % 2 = 0
  · simp only [if_pos h]
    have e1 : newest r q = if (rootOf q).1 % 2 = 1 ∧ 0 < (rootOf q).1 then rootOf q else (0, []) := by
      unfold newest; simp [hr]
    rw [e1]
    by_cases h0 : (newest p q).1 = 0
    · rw [newest_zero h0 hp hq, if_neg]
      rintro ⟨h2, h3⟩
      unfold newest at h0
      simp only at h0
      split at h0
      · split at h0 <;> omega
      · rename_i c1
        rw [if_pos ⟨h2, h3⟩] at h0; omega
    · have h1 := par h0
      have h2 := newest_odd h0 (by omega)
      rw [h2] at h0 h1 ⊢
      rw [if_pos ⟨by omega, by omega⟩]
  · simp only [if_neg h]
    have e1 : newest p r = if (rootOf p).1 % 2 = 0 ∧ 0 < (rootOf p).1 then rootOf p else (0, []) := by
      unfold newest; simp [hr]
    rw [e1]
    by_cases h0 : (newest p q).1 = 0
    · rw [newest_zero h0 hp hq, if_neg]
      rintro h2
      unfold newest at h0
      simp only [if_pos h2] at h0
      split at h0 <;> omega
    · have h1 := par h0
      have h2 := newest_even h0 (by omega)
      rw [h2] at h0 h1 ⊢
      rw [if_pos ⟨by omega, by omega⟩]
/-- Of a torn page all sectors are kept, or none, or it is no root. -/
theorem mix_cases (old new : List Int) (st : Nat → Bool) (ho : old.length = 256) (hn : new.length = 256) (bo : Byt old) (bn : Byt new) {G : Int} (hG : ∀ s, s < 8 → genAt new s = G) (hO : ∀ s, s < 8 → genAt old s < G) :
    mixS old new st 8 = new ∨ mixS old new st 8 = old ∨ (rootOf (mixS old new st 8)).1 = 0 := by
  by_cases h1 : ∀ s, s < 8 → st s = true
  · exact Or.inl (mixS_full _ _ _ hn h1)
  · by_cases h2 : ∀ s, s < 8 → st s = false
    · exact Or.inr (Or.inl (mixS_old _ _ _ ho h2))
    · obtain ⟨t, ht, ht2⟩ : ∃ t, t < 8 ∧ st t = false := by
        apply Decidable.byContradiction; intro h
        exact h1 fun s hs => by
          cases hh : st s with
          | true => rfl
          | false => exact absurd ⟨s, hs, hh⟩ h
      obtain ⟨s, hs, hs2⟩ : ∃ s, s < 8 ∧ st s = true := by
        apply Decidable.byContradiction; intro h
        exact h2 fun s hs => by
          cases hh : st s with
          | false => rfl
          | true => exact absurd ⟨s, hs, hh⟩ h
      refine Or.inr (Or.inr (rootOf_unlike (mixS_byt bo bn st) hs ht ?_))
      rw [genAt_mix _ _ _ ho hn s hs, genAt_mix _ _ _ ho hn t ht, hs2, ht2]
      simp only [if_true, Bool.false_eq_true, if_false]
      have := hG s hs
      have := hO t ht
      omega
theorem top_put {p q : List Int} {G B : Int} {r : List Int} (h0 : 0 ≤ B) (hB : top p q ≤ B) (hr : ∀ s, s < 8 → genAt r s ≤ B) : top (putS0 G r p) (putS1 G r q) ≤ B := by
  refine top_up h0 (fun s hs => ?_) (fun s hs => ?_)
  · unfold putS0; split
    · exact hr s hs
    · have := top_p p q s hs; omega
  · unfold putS1; split
    · have := top_q p q s hs; omega
    · exact hr s hs

section
variable {X : DSt} {p q : List Int}
theorem Two.crash (h : Two X p q) (keep : List Int) : Two (X.crash keep) p q := by
  have e : (X.crash keep).pages = X.pages := by
    show setS X.pages X.pend (stayK keep) X.pend.length = X.pages
    rw [h.pend]; rfl
  exact ⟨by rw [e, h.pages], rfl, h.bad, h.lp, h.lq, h.bp, h.bq⟩
theorem setS_one (p q : List Int) (G : Int) (r : List Int) (st : Nat → Nat → Bool) : setS [p, q] [(G % 2, r)] st 1 = [putS0 G (mixS p r (st 0) 8) p, putS1 G (mixS q r (st 0) 8) q] := by
  unfold setS putS0 putS1
  have : G % 2 = 0 ∨ G % 2 = 1 := by omega
  rcases this with h | h
  · rw [h]; rfl
  · rw [h]; rfl
theorem inR_slot (G : Int) : inR 2 (G % 2) = true := by unfold inR; simp; omega
/-- A Write that is cut off ahead of its page. -/
theorem Two.cut0 (h : Two X p q) (ht : top p q ≤ 18446744073709551612) (hd : X.down = false) (hl : X.left = 0) (c : List Int) (hc : c.length ≤ 186) : rWrite X c = ({ X with left := 0, down := true }, 0, 42) := by
  unfold rWrite
  rw [if_neg (by omega), h.nx ht]
  have e1 : X.actE = 42 := by unfold DSt.actE actP; rw [hl]; simp
  have e2 : X.act = { X with left := 0, down := true } := by unfold DSt.act actP; rw [hl]; simp
  have e3 : X.writeE (nextG X % 2) = 42 := by unfold DSt.writeE; rw [h.pages]; show (if inR 2 _ = true then _ else _) = _; rw [inR_slot, e1]; rfl
  have e4 : ∀ r, X.write (nextG X % 2) r = X.act := by
    intro r; unfold DSt.write; rw [h.pages]; show (if inR 2 _ = true then _ else _) = _; rw [inR_slot, e1]; rfl
  simp only [e3, e4, e2]
  rfl
/-- A Write that goes on behind its page: cut off, or not. -/
theorem Two.goes (h : Two X p q) (ht : top p q ≤ 18446744073709551612) (hd : X.down = false) (hl : X.left ≠ 0) (c : List Int) (hc : c.length ≤ 186) :
    rWrite X c = if X.left = 1 then ({ X with left := 0, down := true, pend := [(nextG X % 2, rootP (nextG X) c)] }, 0, 42)
      else ({ X with left := (if 0 < X.left then X.left - 2 else X.left), pages := [putS0 (nextG X) (rootP (nextG X) c) p, putS1 (nextG X) (rootP (nextG X) c) q] }, nextG X, 0) := by
  have hR := rootP_len (nextG X) c
  have hnx := h.nx ht
  obtain ⟨pages, bad, pend, down, left⟩ := X
  obtain rfl : pages = [p, q] := h.pages
  obtain rfl : pend = [] := h.pend
  obtain rfl : down = false := hd
  have hl : left ≠ 0 := hl
  unfold rWrite
  rw [if_neg (by omega), hnx]
  dsimp only
  generalize nextG _ = G at *
  generalize rootP G c = R at *
  have a1 : actP left false = (if 0 < left then left - 1 else left, false, 0) := by
    unfold actP
    rw [if_neg (by simpa using hl)]
  have e3 : (⟨[p, q], bad, [], false, left⟩ : DSt).writeE (G % 2) = 0 := by
    show (if inR 2 _ = true then (actP left false).2.2 else _) = _
    rw [inR_slot, a1]; rfl
  have e4 : (⟨[p, q], bad, [], false, left⟩ : DSt).write (G % 2) R = ⟨[p, q], bad, [(G % 2, R)], false, if 0 < left then left - 1 else left⟩ := by
    show (if inR 2 _ = true then (if (actP left false).2.2 = 0 then DSt.mk [p, q] bad ([] ++ [(G % 2, R)]) (actP left false).2.1 (actP left false).1 else _) else _) = _
    rw [inR_slot, a1]; rfl
  simp only [e3, e4]
  by_cases h1 : left = 1
  · subst h1
    have e5 : (⟨[p, q], bad, [(G % 2, R)], false, if (0 : Int) < 1 then 1 - 1 else 1⟩ : DSt).actE = 42 := rfl
    simp only [e5]
    rfl
  · rw [if_neg h1]
    have hz : (if 0 < left then left - 1 else left) ≠ 0 := by split <;> omega
    have e7 : (if 0 < left then left - 2 else left) = (if 0 < (if 0 < left then left - 1 else left) then (if 0 < left then left - 1 else left) - 1 else (if 0 < left then left - 1 else left)) := by
      by_cases h2 : 0 < left
      · rw [if_pos h2, if_pos h2, if_pos (by omega)]; omega
      · rw [if_neg h2, if_neg h2, if_neg (by omega)]
    rw [e7]
    generalize (if 0 < left then left - 1 else left) = L at *
    have a2 : actP L false = (if 0 < L then L - 1 else L, false, 0) := by
      unfold actP
      rw [if_neg (by simpa using hz)]
    have e5 : (⟨[p, q], bad, [(G % 2, R)], false, L⟩ : DSt).actE = 0 := by show (actP L false).2.2 = 0; rw [a2]
    have e6 : setS [p, q] [(G % 2, R)] (fun _ _ => true) 1 = [putS0 G R p, putS1 G R q] := by
      rw [setS_one, mixS_all _ _ hR, mixS_all _ _ hR]
    have e8 : (⟨[p, q], bad, [(G % 2, R)], false, L⟩ : DSt).sync = ⟨[putS0 G R p, putS1 G R q], bad, [], false, if 0 < L then L - 1 else L⟩ := by
      unfold DSt.sync
      rw [e5]
      show DSt.mk (setS [p, q] [(G % 2, R)] (fun _ _ => true) 1) bad [] (actP L false).2.1 (actP L false).1 = _
      rw [e6, a2]
    simp only [e5, e8]
    rfl
end
end Go.Proofs.Ytijgfojnppcbjaa
/- The example that layer 5's statements ask first; RootNames. -/
namespace Go.Proofs.Ytijgfojnppcbjaa
open Go.RowKit Go.Proofs.U
set_option linter.unusedSimpArgs false
set_option linter.unusedVariables false
theorem newD_byt (n : Int) : (newD n).byt := by
  refine ⟨?_, by intro x hx; simp [newD] at hx⟩
  intro p hp
  have : p = zeroP := List.eq_of_mem_replicate hp
  rw [this]; exact zeroP_byt
def XA : DSt := (rWrite (newD 4) [97, 98]).1
theorem aliveW : (rWrite (newD 4) [97, 98]).2 = (1, 0) := by kernel_rfl
theorem aliveR : rRead XA = ([97, 98], 1, 0) := by kernel_rfl
theorem aliveN : XA.pend.length = 0 := by kernel_rfl
theorem write_byt {X : DSt} (h : X.byt) (i : Int) {p : List Int} (hp : Byt p) : (X.write i p).byt := by
  unfold DSt.write
  split
  · split
    · refine ⟨h.1, ?_⟩
      intro x hx
      have hx : x ∈ X.pend ++ [(i, p)] := hx
      rcases List.mem_append.1 hx with hx | hx
      · exact h.2 x hx
      · simp at hx; subst hx; exact hp
    · exact h
  · exact h
theorem getD_byt {L : List (List Int)} (h : ∀ p ∈ L, Byt p) (i : Nat) : Byt (L.getD i []) := by
  by_cases hj : i < L.length
  · have : L.getD i [] = L[i] := by simp [List.getD, hj]
    rw [this]; exact h _ (by simp)
  · have : L.getD i [] = [] := by simp [List.getD, hj]
    rw [this]; intro n hn; simp at hn
theorem setS_byt {pages : List (List Int)} {pend : List (Int × List Int)} (h1 : ∀ p ∈ pages, Byt p) (h2 : ∀ x ∈ pend, Byt x.2) (st : Nat → Nat → Bool) (k : Nat) : ∀ p ∈ setS pages pend st k, Byt p := by
  have nb : Byt [] := by intro n hn; simp at hn
  induction k with
  | zero => exact h1
  | succ k ih =>
    rw [setS_succ]
    unfold setS1
    intro p hp
    rcases List.mem_or_eq_of_mem_set hp with hp | rfl
    · exact ih p hp
    · refine mixS_byt ?_ ?_ _
      · exact getD_byt ih _
      · by_cases hj : k < pend.length
        · have : pend.getD k (0, []) = pend[k] := by simp [List.getD, hj]
          rw [this]; exact h2 _ (by simp)
        · have : pend.getD k (0, []) = (0, []) := by simp [List.getD, hj]
          rw [this]; exact nb
theorem act_byt {X : DSt} (h : X.byt) : X.act.byt := h
theorem sync_byt {X : DSt} (h : X.byt) : X.sync.byt := by
  unfold DSt.sync
  split
  · exact ⟨setS_byt h.1 h.2 _ _, by intro x hx; simp [DSt.settle] at hx⟩
  · exact h
theorem crash_byt {X : DSt} (h : X.byt) (keep : List Int) : (X.crash keep).byt := ⟨setS_byt h.1 h.2 _ _, by intro x hx; simp [DSt.crash] at hx⟩
theorem rWrite_byt {X : DSt} (h : X.byt) {c : List Int} (hc : Byt c) : (rWrite X c).1.byt := by
  unfold rWrite
  split
  · exact h
  · split
    · exact h
    · have h1 : (X.write ((rNext X).1 % 2) (rootP (rNext X).1 c)).byt := write_byt h _ (rootP_byt _ hc)
      dsimp only
      split
      · exact h1
      · split
        · exact sync_byt h1
        · exact sync_byt h1
theorem str97 : ((strOfNums [97, 98]).toList == [97, 98]) = true := by decide +kernel

set_option maxRecDepth 100000 in
set_option maxHeartbeats 2000000 in
theorem ralive_any (w : World) : Calls Try.prog 12 #[] w fun r w' => r = .returned (.bool true) ∧ Fr noB w w' := by
  have hst := str97
  have hby := newD_byt 4
  have hw := aliveW
  have hrd := aliveR
  have hpn := aliveN
  have hbX : XA.byt := rWrite_byt hby (by intro n hn; simp at hn; rcases hn with rfl | rfl <;> decide)
  have hX : (rWrite (newD 4) [97, 98]).1 = XA := rfl
  obtain ⟨X1, HX1⟩ : ∃ X, Hid (XA = X) := ⟨_, rfl⟩
  have hp0 : (newD 4).pend.length ≤ 90000 := by decide
  obtain ⟨X0, HX0⟩ : ∃ X, Hid (newD 4 = X) := ⟨_, rfl⟩
  rw [HX1.out] at hrd hpn hbX hX
  rw [HX0.out] at hby hw hX hp0
  have hwr := show Hid _ from fun (F : Nat → Prop) (g : Nat) (v : Value) (W : World) (h : Disk W F g X0) (hS : SlI .u8 W v [97, 98]) => rwrite_p g v [97, 98] W h hp0 hby hS
  simp only [hw, hX] at hwr
  have hrr := show Hid _ from fun (F : Nat → Prop) (g : Nat) (W : World) (h : Disk W F g X1) => rread_p g W h (by omega) hbX
  unfold ReadIs at hrr
  simp only [hrd] at hrr
  clear hw hrd hX hby hbX hpn hp0
  go_enter Try.func12, Try.ntmps12
  go_wp2_with (first
    | (go_at_call 8; go_must (refine (new_any 4 (by omega) _).mono ?_; rw [HX0.out]; rintro e w1 ⟨g, rfl, d1, f1⟩))
    | (refine at_conv 24 24 _ rfl ?_; refine wpList_const rfl _ rfl w1 _ _ _ [97, 98] rfl rfl rfl (by rfl) (by decide) rfl ?_; intro w2 f2 i2)
    | (go_at_call 10; go_must (refine (hwr.out _ g _ _ (d1.fr0 f2) i2).mono ?_; rintro e w3 ⟨rfl, d3, f3⟩))
    | (go_at_call 9; go_must (refine (hrr.out _ g _ d3).mono ?_; rintro e w4 ⟨v4, rfl, i4, n4, f4⟩))
    | (refine at_conv 24 9 _ rfl ?_; go_must (refine wpList_str rfl _ 24 9 5 rfl Try.underlying24 Try.underlying5 Try.underlying9 _ _ rfl i4 ?_)))
  go_ret
  have z1 := f1.size
  exact ⟨rfl, ((f1.thenN f2).thenT (S := noB) f3 (fun k hk q => by omega)).thenN f4⟩

theorem nmR : rRead (newD 4) = ([], 0, 51) := by kernel_rfl
theorem nmW : rWrite (newD 4) (List.replicate 187 0) = (newD 4, 0, 51) := by kernel_rfl
theorem nmR1 : rRead (newD 1) = ([], 0, 41) := by kernel_rfl
theorem nmX : rNext (newD 4) = (1, 0) := by kernel_rfl

set_option maxRecDepth 100000 in
set_option maxHeartbeats 2000000 in
theorem rnames_walk (w : World) : Calls Try.prog 3 #[] w fun r w' => r = .returned (.bool true) ∧ Below w.heap.size w w' := by
  have hby := newD_byt 4
  have hby1 := newD_byt 1
  have h1 := nmR
  have h2 := nmW
  have h3 := nmR1
  have h4 := nmX
  have hp0 : (newD 4).pend.length ≤ 90000 := by decide
  have hp1 : (newD 1).pend.length ≤ 90000 := by decide
  obtain ⟨X0, HX0⟩ : ∃ X, Hid (newD 4 = X) := ⟨_, rfl⟩
  obtain ⟨X1, HX1⟩ : ∃ X, Hid (newD 1 = X) := ⟨_, rfl⟩
  obtain ⟨Z, HZ⟩ : ∃ X, Hid (List.replicate 187 (0 : Int) = X) := ⟨_, rfl⟩
  have hZb : Byt Z := by rw [← HZ.out]; intro n hn; rw [List.eq_of_mem_replicate hn]; decide
  have hZl : Hid (Z.length = 187) := by show _ = _; rw [← HZ.out]; exact List.length_replicate
  rw [HX0.out] at hby hp0 h1 h2 h4
  rw [HX1.out] at hby1 hp1 h3
  rw [HZ.out] at h2
  have hwr := show Hid _ from fun (F : Nat → Prop) (g : Nat) (v : Value) (W : World) (h : Disk W F g X0) (hS : SlI .u8 W v Z) => rwrite_p g v Z W h hp0 hby hS
  simp only [h2] at hwr
  have hrr := show Hid _ from fun (F : Nat → Prop) (g : Nat) (W : World) (h : Disk W F g X0) => rread_p g W h (by omega) hby
  have hrr1 := show Hid _ from fun (F : Nat → Prop) (g : Nat) (W : World) (h : Disk W F g X1) => rread_p g W h (by omega) hby1
  have hnx := show Hid _ from fun (F : Nat → Prop) (g : Nat) (W : World) (h : Disk W F g X0) => rnext_p g W h (by omega) hby
  unfold ReadIs at hrr hrr1
  simp only [h1] at hrr
  simp only [h3] at hrr1
  simp only [h4] at hnx
  clear h1 h2 h3 h4 hby hby1 hp0 hp1
  go_enter Try.func3, Try.ntmps3
  go_wp2_with (first
    | (go_at_call 8; have d4' := d4; go_must (refine (new_any 1 (by omega) _).mono ?_; rw [HX1.out]; rintro e w5 ⟨g5, rfl, d5, f5⟩))
    | (go_at_call 8; go_must (refine (new_any 4 (by omega) _).mono ?_; rw [HX0.out]; rintro e w1 ⟨g, rfl, d1, f1⟩))
    | (go_at_call 9; have d5' := d5; go_must (refine (hrr1.out _ g5 _ d5).mono ?_; rintro e w6 ⟨v6, rfl, i6, n6, f6⟩))
    | (go_at_call 9; go_must (refine (hrr.out _ g _ d1).mono ?_; rintro e w2 ⟨v2, rfl, i2, n2, f2⟩))
    | (refine at_make 24 _ _ rfl ?_; go_must (refine wpList_mkB rfl _ _ rfl 187 187 rfl rfl rfl (by decide) ?_; rw [HZ.out]; intro g3 w3 b3 f3 s3; have i3 : SlI .u8 w3 (.slice (some ⟨g3, 0, none⟩) 187 187) Z := (by have := BxV.slI b3 hZb 0 187 187 (by have := hZl.out; omega) (by omega); rwa [List.drop_zero, List.take_of_length_le (by have := hZl.out; omega)] at this)))
    | (go_at_call 10; go_must (refine (hwr.out _ g _ _ ((d1.fr0 f2).fr0 f3) i3).mono ?_; rintro e w4 ⟨rfl, d4, f4⟩))
    | (go_at_call 11; go_must (refine (hnx.out _ g _ ((d4.fr0 f5).fr0 f6)).mono ?_; rintro e w7 ⟨rfl, f7⟩))
    | (go_at_call 12; go_must (refine (ralive_any _).mono ?_; rintro e w8 ⟨rfl, f8⟩)))
  go_ret
  have z1 := f1.size
  exact ⟨rfl, (((((((f1.thenN f2).thenN f3).thenT (S := noB) f4 (fun k hk q => by omega)).thenN f5).thenN f6).thenN f7).thenN f8).below⟩
end Go.Proofs.Ytijgfojnppcbjaa
