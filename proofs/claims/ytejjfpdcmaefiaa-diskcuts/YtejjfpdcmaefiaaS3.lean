/- DiskCuts. -/
import Derived.Test.YtejjfpdcmaefiaaOpenD
namespace Go.Proofs.Ytejjfpdcmaefiaa
open Go.RowKit Go.Proofs.U
set_option linter.unusedSimpArgs false
set_option linter.unusedVariables false

/-- A disk of four pages, k of its acts asked for, n of them let. -/
structure CI (n : Int) (k : Nat) (X : DSt) : Prop where
  len : X.pages.length = 4
  pend : X.pend.length ≤ k
  up : (k : Int) ≤ n → X.left = n - k ∧ X.down = false
  dn : n < (k : Int) → X.down = true
theorem CI.act {n : Int} {k : Nat} {X : DSt} (h : CI n k X) : X.actE = (if (k : Int) < n then 0 else 42) ∧ X.act.down = decide (n ≤ (k : Int)) ∧ CI n (k + 1) X.act := by
  obtain ⟨h1, h2, h3, h4⟩ := h
  obtain ⟨pages, bad, pend, d, l⟩ := X
  simp only [DSt.actE, DSt.act] at *
  rcases Int.lt_trichotomy (k : Int) n with hlt | heq | hgt
  · obtain ⟨rfl, rfl⟩ := h3 (by omega)
    have hr : actP (n - k) false = (n - k - 1, false, 0) := by
      have : (n - (k : Int) == 0) = false := by simp; omega
      simp [actP, this]; omega
    rw [hr]
    refine ⟨by rw [if_pos hlt], by simp; omega, h1, by simp only; omega, fun _ => ⟨by simp only; omega, rfl⟩, fun h => by omega⟩
  · obtain ⟨rfl, rfl⟩ := h3 (by omega)
    have hr : actP (n - k) false = (n - k, true, 42) := by
      have : (n - (k : Int) == 0) = true := by simp; omega
      simp [actP, this]
    rw [hr]
    refine ⟨by rw [if_neg (by omega)], by simp; omega, h1, by simp only; omega, fun h => by omega, fun _ => rfl⟩
  · have hd := h4 hgt
    subst hd
    have hr : actP l true = (l, true, 42) := by simp [actP]
    rw [hr]
    refine ⟨by rw [if_neg (by omega)], by simp; omega, h1, by simp only; omega, fun h => by omega, fun _ => rfl⟩
theorem CI.sync {n : Int} {k : Nat} {X : DSt} (h : CI n k X) : CI n (k + 1) X.sync ∧ X.sync.down = decide (n ≤ (k : Int)) := by
  obtain ⟨_, h2, h3⟩ := h.act
  unfold DSt.sync
  split
  · exact ⟨⟨by simp [DSt.settle, setS_len, h3.len], by simp [DSt.settle], h3.up, h3.dn⟩, h2⟩
  · exact ⟨h3, h2⟩
theorem CI.write {n : Int} {k : Nat} {X : DSt} (h : CI n k X) (i : Int) (p : List Int) (hi : inR 4 i = true) : X.writeE i = (if (k : Int) < n then 0 else 42) ∧ CI n (k + 1) (X.write i p) ∧ (X.write i p).down = decide (n ≤ (k : Int)) := by
  obtain ⟨h1, h2, h3⟩ := h.act
  have hin : inR X.pages.length i = true := by rw [h.len]; exact hi
  refine ⟨by simp [DSt.writeE, hin, h1], ?_⟩
  unfold DSt.write
  rw [if_pos hin]
  split
  · exact ⟨⟨h3.len, by simp; exact h.pend, h3.up, h3.dn⟩, h2⟩
  · exact ⟨h3, h2⟩

set_option maxRecDepth 100000 in
set_option maxHeartbeats 4000000 in
theorem cuts_walk (n : Int) (v : Value) (l : List Bool) (w : World) (hn : (Lit.int .i64 n).wf = true) (hl : SlR encB 1 w v l) :
    Calls Try.prog 6 #[.int .i64 n, v] w fun r w' => r = .returned (.bool true) ∧ Below w.heap.size w w' := by
  obtain ⟨a1, c1, rfl, _⟩ := hl.opn
  have hnr : -9223372036854775808 ≤ n ∧ n ≤ 9223372036854775807 := by
    simp [Lit.wf, IntKind.min, IntKind.max, IntKind.signed, IntKind.bits] at hn; omega
  by_cases h0 : n < 0
  · go_enter Try.func6, Try.ntmps6
    go_wp2_with (first
      | (go_at_call 13; go_must (refine (alive_any _).mono ?_; rintro e w0 ⟨rfl, f0⟩)))
    go_ret
    exact ⟨rfl, f0.below⟩
  · by_cases h1 : 100 < l.length
    · have h1' : (100 : Int) < (l.length : Int) := by omega
      go_enter Try.func6, Try.ntmps6
      go_wp2_with (first
        | (go_at_call 13; go_must (refine (alive_any _).mono ?_; rintro e w0 ⟨rfl, f0⟩)))
      go_ret
      exact ⟨rfl, f0.below⟩
    · have h1' : ¬ (100 : Int) < (l.length : Int) := by omega
      obtain ⟨X0, HX0⟩ : ∃ X, Hid (newD 4 = X) := ⟨_, rfl⟩
      obtain ⟨X1, HX1⟩ : ∃ X, Hid (({ X0 with left := n } : DSt) = X) := ⟨_, rfl⟩
      have hci : CI n 0 X1 := by
        rw [← HX1.out, ← HX0.out]
        exact ⟨rfl, by simp [newD], fun _ => ⟨by simp, rfl⟩, fun h => by simp at h; omega⟩
      go_enter Try.func6, Try.ntmps6
      go_wp2_with (first
        | (go_at_call 13; go_must (refine (alive_any _).mono ?_; rintro e w0 ⟨rfl, f0⟩; have z0 := f0.size))
        | (go_at_call 9; go_must (refine (new_any 4 (by omega) _).mono ?_; rw [HX0.out]; rintro e w1 ⟨g, rfl, d1, f1⟩; have z1 := f1.size))
        | (go_at_call 12; go_must (refine (pcut_any g n hnr _ d1).mono ?_; rw [HX1.out]; rintro e w2 ⟨rfl, d2, f2⟩; have z2 := f2.size)))
      have G2 := (f0.thenN f1).thenT (S := noB) f2 (fun k hk q => by omega)
      go_loopw [24] (fun i wr => ∃ (k : Nat) (X : DSt), k ≤ l.length ∧ i = .int .i64 (k : Int) ∧ Hid (CI n k X) ∧ Disk wr (fun q => w0.heap.size ≤ q) g X ∧ Fr noB w wr ∧ w0.heap.size ≤ wr.heap.size) (fun i _ => l.length - (intOf i).toNat)
      case atStart => exact ⟨0, X1, Nat.zero_le _, rfl, hci, d2, G2, by omega⟩
      case round =>
        obtain ⟨k, X, hk, rfl, hC, hd, hf, hz⟩ := hrel
        have hpm : X.pend.length ≤ 100000 := by have := hC.out.pend; omega
        by_cases hlt : k < l.length
        · obtain ⟨s, Hs⟩ : ∃ s, Hid (l[k] = s) := ⟨l[k], (rfl : l[k] = l[k])⟩
          by_cases hkn : (k : Int) < n
          · have hnk : ¬ n ≤ (k : Int) := by omega
            have HDn : Hid (decide (n ≤ (k : Int)) = false) := by show _ = _; simpa using hnk
            cases s
            · have hmod : Hid ((k : Int) % 4 = ((k % 4 : Nat) : Int)) := by show _ = _; omega
              obtain ⟨P, HP⟩ : ∃ p, Hid (List.replicate 256 (k : Int) = p) := ⟨_, rfl⟩
              have hPl : Hid (P.length = 256) := by show _ = _; rw [← HP.out, List.length_replicate]
              have hin4 : inR 4 ((k % 4 : Nat) : Int) = true := by simp [inR]; omega
              have hci := fun p => hC.out.write ((k % 4 : Nat) : Int) p hin4
              have he : Hid (X.writeE ((k % 4 : Nat) : Int) = 0) := by show _ = _; rw [(hci []).1, if_pos hkn]
              go_wp2_with (first
                | (refine at_idx 36 _ _ rfl ?_; go_must (refine wpList_idxR rfl 36 _ _ rfl 4 Try.underlying36 1 size_bool _ _ _ rfl (hl.fr0 hf) (by decide) _ _ k rfl rfl hlt ?_; rw [Hs.out]; intro ba oa hba hca; have hc0 := hca 0 _ rfl; rw [Nat.add_zero] at hc0))
                | (go_at_call 19; go_must (refine (full_any (k : Int) _).mono ?_; rw [HP.out]; rintro e w4 ⟨rfl, f4⟩; have z4 := f4.size))
                | (go_at_call 18; go_must (refine (write_any g _ P hPl.out _ (hd.fr0 f4) hpm).mono ?_; rw [hmod.out, he.out]; rintro e w5 ⟨rfl, d5, f5⟩; have z5 := f5.size; have d5 := d5.mono (G := fun q => w0.heap.size ≤ q) (fun k _ q => by unfold orNew at q; omega); have F5 := (hf.thenN f4).thenT (S := noB) f5 (fun k hk q => by omega)))
                | (go_at_call 15; go_must (refine (down_any g _ d5).mono ?_; rw [(hci _).2.2, HDn.out]; rintro e w' ⟨rfl, rfl⟩)))
              go_roundw
              case rel => exact ⟨k + 1, _, by omega, by go_num, (show CI _ _ _ from (hci _).2.1), d5, F5, by omega⟩
              case measure => simp [intOf]; omega
            · have hci := hC.out.sync
              have he : Hid (X.actE = 0) := by show _ = _; rw [hC.out.act.1, if_pos hkn]
              obtain ⟨Y, HY⟩ : ∃ Y, Hid (X.sync = Y) := ⟨_, rfl⟩
              have hdn : Hid (Y.down = false) := by show _ = _; rw [← HY.out, hci.2]; simp; omega
              have hCY : Hid (CI n (k + 1) Y) := by show CI _ _ _; rw [← HY.out]; exact hci.1
              go_wp2_with (first
                | (refine at_idx 36 _ _ rfl ?_; go_must (refine wpList_idxR rfl 36 _ _ rfl 4 Try.underlying36 1 size_bool _ _ _ rfl (hl.fr0 hf) (by decide) _ _ k rfl rfl hlt ?_; rw [Hs.out]; intro ba oa hba hca; have hc0 := hca 0 _ rfl; rw [Nat.add_zero] at hc0))
                | (go_at_call 14; go_must (refine (sync_any g _ hd hpm).mono ?_; rw [he.out, HY.out]; rintro e w5 ⟨rfl, d5, f5⟩; have z5 := f5.size; have F5 := hf.thenT (S := noB) f5 (fun k hk q => by omega)))
                | (go_at_call 15; go_must (refine (down_any g _ d5).mono ?_; rw [hdn.out]; rintro e w' ⟨rfl, rfl⟩)))
              go_roundw
              case rel => exact ⟨k + 1, _, by omega, by go_num, hCY, d5, F5, by omega⟩
              case measure => simp [intOf]; omega
          · have hnk : n ≤ (k : Int) := by omega
            have HDn : Hid (decide (n ≤ (k : Int)) = true) := by show _ = _; simpa using hnk
            cases s
            · have hmod : Hid ((k : Int) % 4 = ((k % 4 : Nat) : Int)) := by show _ = _; omega
              obtain ⟨P, HP⟩ : ∃ p, Hid (List.replicate 256 (k : Int) = p) := ⟨_, rfl⟩
              have hPl : Hid (P.length = 256) := by show _ = _; rw [← HP.out, List.length_replicate]
              have hin4 : inR 4 ((k % 4 : Nat) : Int) = true := by simp [inR]; omega
              have hci := fun p => hC.out.write ((k % 4 : Nat) : Int) p hin4
              have he : Hid (X.writeE ((k % 4 : Nat) : Int) = 42) := by show _ = _; rw [(hci []).1, if_neg hkn]
              go_wp2_with (first
                | (refine at_idx 36 _ _ rfl ?_; go_must (refine wpList_idxR rfl 36 _ _ rfl 4 Try.underlying36 1 size_bool _ _ _ rfl (hl.fr0 hf) (by decide) _ _ k rfl rfl hlt ?_; rw [Hs.out]; intro ba oa hba hca; have hc0 := hca 0 _ rfl; rw [Nat.add_zero] at hc0))
                | (go_at_call 19; go_must (refine (full_any (k : Int) _).mono ?_; rw [HP.out]; rintro e w4 ⟨rfl, f4⟩; have z4 := f4.size))
                | (go_at_call 18; go_must (refine (write_any g _ P hPl.out _ (hd.fr0 f4) hpm).mono ?_; rw [hmod.out, he.out]; rintro e w5 ⟨rfl, d5, f5⟩; have z5 := f5.size; have d5 := d5.mono (G := fun q => w0.heap.size ≤ q) (fun k _ q => by unfold orNew at q; omega); have F5 := (hf.thenN f4).thenT (S := noB) f5 (fun k hk q => by omega)))
                | (go_at_call 15; go_must (refine (down_any g _ d5).mono ?_; rw [(hci _).2.2, HDn.out]; rintro e w' ⟨rfl, rfl⟩)))
              go_roundw
              case rel => exact ⟨k + 1, _, by omega, by go_num, (show CI _ _ _ from (hci _).2.1), d5, F5, by omega⟩
              case measure => simp [intOf]; omega
            · have hci := hC.out.sync
              have he : Hid (X.actE = 42) := by show _ = _; rw [hC.out.act.1, if_neg hkn]
              obtain ⟨Y, HY⟩ : ∃ Y, Hid (X.sync = Y) := ⟨_, rfl⟩
              have hdn : Hid (Y.down = true) := by show _ = _; rw [← HY.out, hci.2]; simp; omega
              have hCY : Hid (CI n (k + 1) Y) := by show CI _ _ _; rw [← HY.out]; exact hci.1
              go_wp2_with (first
                | (refine at_idx 36 _ _ rfl ?_; go_must (refine wpList_idxR rfl 36 _ _ rfl 4 Try.underlying36 1 size_bool _ _ _ rfl (hl.fr0 hf) (by decide) _ _ k rfl rfl hlt ?_; rw [Hs.out]; intro ba oa hba hca; have hc0 := hca 0 _ rfl; rw [Nat.add_zero] at hc0))
                | (go_at_call 14; go_must (refine (sync_any g _ hd hpm).mono ?_; rw [he.out, HY.out]; rintro e w5 ⟨rfl, d5, f5⟩; have z5 := f5.size; have F5 := hf.thenT (S := noB) f5 (fun k hk q => by omega)))
                | (go_at_call 15; go_must (refine (down_any g _ d5).mono ?_; rw [hdn.out]; rintro e w' ⟨rfl, rfl⟩)))
              go_roundw
              case rel => exact ⟨k + 1, _, by omega, by go_num, hCY, d5, F5, by omega⟩
              case measure => simp [intOf]; omega
        · obtain rfl : k = l.length := by omega
          obtain ⟨XC, HXC⟩ : ∃ Y, Hid (X.crash [] = Y) := ⟨_, rfl⟩
          obtain ⟨XS, HXS⟩ : ∃ Y, Hid (XC.sync = Y) := ⟨_, rfl⟩
          have hC1 : XC.pages.length = 4 ∧ XC.pend = [] ∧ XC.left = -1 ∧ XC.down = false := by rw [← HXC.out]; exact ⟨by simp [DSt.crash, setS_len, hC.out.len], rfl, rfl, rfl⟩
          have heC : Hid (XC.actE = 0) := by show _ = _; simp [DSt.actE, actP, hC1.2.2.1, hC1.2.2.2]
          have hS1 : XS.pages.length = 4 ∧ XS.pend = [] ∧ XS.left = -1 ∧ XS.down = false := by
            rw [← HXS.out]; unfold DSt.sync; rw [if_pos heC.out]
            exact ⟨by simp [DSt.settle, setS_len, DSt.act, hC1.1], rfl, by simp [DSt.settle, DSt.act, actP, hC1.2.2.1, hC1.2.2.2], by simp [DSt.settle, DSt.act, actP, hC1.2.2.1, hC1.2.2.2]⟩
          have heS : Hid (XS.writeE 0 = 0) := by show _ = _; simp [DSt.writeE, DSt.actE, actP, hS1.1, hS1.2.2.1, hS1.2.2.2, inR]
          have pC : XC.pend.length ≤ 100000 := by rw [hC1.2.1]; simp
          have pS : XS.pend.length ≤ 100000 := by rw [hS1.2.1]; simp
          clear hC1 hS1
          obtain ⟨Z, HZ⟩ : ∃ p, Hid (zeroP = p) := ⟨_, rfl⟩
          have hZl : Hid (Z.length = 256) := by show _ = _; rw [← HZ.out]; exact zeroP_len
          go_wp2_with (first
            | (go_at_call 23; go_must (refine (crash_any g _ [] _ hd hpm ⟨Sl.nil _ _, by simp⟩ (fun b hb _ => by simp [Value.ownBlock] at hb)).mono ?_; rw [HXC.out]; rintro e w5 ⟨rfl, d5, f5⟩; have z5 := f5.size))
            | (go_at_call 14; go_must (refine (sync_any g _ d5 pC).mono ?_; rw [heC.out, HXS.out]; rintro e w6 ⟨rfl, d6, f6⟩; have z6 := f6.size))
            | (with_reducible refine at_wpP ?_; refine wpList_buildP rfl rfl ?_; rw [HZ.out])
            | (go_at_call 18; go_must (refine (write_any g 0 Z hZl.out _ d6 pS).mono ?_; rw [heS.out]; rintro e w7 ⟨rfl, d7, f7⟩; have z7 := f7.size)))
          have G5 := hf.thenT (S := noB) f5 (fun k hk q => by omega)
          have G6 := G5.thenT (S := noB) f6 (fun k hk q => by omega)
          have G7 := G6.thenT (S := noB) f7 (fun k hk q => by omega)
          go_ret
          exact ⟨rfl, G7.below⟩
end Go.Proofs.Ytejjfpdcmaefiaa
