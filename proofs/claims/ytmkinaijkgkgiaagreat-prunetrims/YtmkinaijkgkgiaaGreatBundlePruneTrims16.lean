/- Texts H22, J0, J1, J2, J3 of the proof of PruneTrims, one behind the other. -/
import Derived.Test.YtmkinaijkgkgiaaGreatBundlePruneTrims1
import Derived.Test.YtmkinaijkgkgiaaGreatBundlePruneTrims2
import Derived.Test.YtmkinaijkgkgiaaGreatBundlePruneTrims3
import Derived.Test.YtmkinaijkgkgiaaGreatBundlePruneTrims4
import Derived.Test.YtmkinaijkgkgiaaGreatBundlePruneTrims5
import Derived.Test.YtmkinaijkgkgiaaGreatBundlePruneTrims6
import Derived.Test.YtmkinaijkgkgiaaGreatBundlePruneTrims7
import Derived.Test.YtmkinaijkgkgiaaGreatBundlePruneTrims8
import Derived.Test.YtmkinaijkgkgiaaGreatBundlePruneTrims9
import Derived.Test.YtmkinaijkgkgiaaGreatBundlePruneTrims10
import Derived.Test.YtmkinaijkgkgiaaGreatBundlePruneTrims11
import Derived.Test.YtmkinaijkgkgiaaGreatBundlePruneTrims12
import Derived.Test.YtmkinaijkgkgiaaGreatBundlePruneTrims13
import Derived.Test.YtmkinaijkgkgiaaGreatBundlePruneTrims14
import Derived.Test.YtmkinaijkgkgiaaGreatBundlePruneTrims15
/- What NodesExact may make, plain: a node of a block and of roots keeps each page held as often as needed; no condition. -/
namespace Go.Proofs.YtmkinaijkgkgiaaGreat
open Go.RowKit Go.Proofs.U
set_option linter.unusedSimpArgs false
set_option linter.unusedVariables false
theorem hold_at {L : List Pg} {q : Int} (h : (plHold L q).2 = 0) (i : Nat) : plAt (plHold L q).1 i = ⟨(plAt L i).c + (if q = (i : Int) then 1 else 0), (plAt L i).s⟩ := by
  rcases hold_cases L q with ⟨_, e⟩ | ⟨_, _, e⟩ | ⟨hh, _, e⟩
  · rw [e] at h; cases h
  · rw [e] at h; cases h
  · obtain ⟨j, rfl, hj⟩ := plHeld_in hh
    rw [e]
    simp only [Int.toNat_natCast]
    rw [plAt_set _ _ _ _ hj]
    by_cases hi : i = j
    · subst hi; rw [if_pos rfl, if_pos rfl]
    · rw [if_neg hi, if_neg (by omega), Int.add_zero]
theorem eachHold_at : ∀ (l : List Int) {L : List Pg}, (eachF plHold L l).2 = 0 → ∀ i : Nat, plAt (eachF plHold L l).1 i = ⟨(plAt L i).c + ((l.count (i : Int) : Nat) : Int), (plAt L i).s⟩
  | [], L, _, i => by simp [eachF]
  | q :: l, L, h, i => by
    by_cases h0 : (plHold L q).2 = 0
    · rw [eachF_cons0 h0] at h ⊢
      rw [eachHold_at l h i, hold_at h0 i]
      congr 1
      rw [List.count_cons]
      by_cases e : q = (i : Int)
      · subst e; simp; omega
      · have e2 : (q == (i : Int)) = false := by simpa using e
        rw [if_neg e, e2]; simp
    · rw [eachF_cons1 h0] at h
      exact absurd h h0
theorem rises_snoc {y : Int × Int} (hy : y.1 ≤ 63 ∧ 0 ≤ y.2 ∧ y.2 ≤ 239) : ∀ {l : List (Int × Int)} {last : Int}, rises last l = true → last < y.1 → (∀ x ∈ l, x.1 < y.1) → rises last (l ++ [y]) = true
  | [], last, _, h1, _ => by
    obtain ⟨a, p⟩ := y
    simp only at hy h1
    simp [rises]
    omega
  | (a, p) :: l, last, h, h1, h2 => by
    simp only [rises, Bool.and_eq_true] at h
    rw [List.cons_append]
    simp only [rises, Bool.and_eq_true]
    exact ⟨h.1, rises_snoc hy h.2 (h2 (a, p) (by simp)) (fun x hx => h2 x (by simp [hx]))⟩
theorem entsW_keys (R keys : List Int) (pg : Int) : ∀ j, ∀ x ∈ entsW R keys pg j, 0 ≤ x.1 ∧ x.1 ≤ (j : Int)
  | 0, x, hx => by
    obtain rfl : x = (0, pg) := List.mem_singleton.1 hx
    simp
  | j + 1, x, hx => by
    unfold entsW at hx
    rcases List.mem_append.1 hx with hx | hx
    · have := entsW_keys R keys pg j x hx; omega
    · split at hx
      · obtain rfl := List.mem_singleton.1 hx
        simp only
        omega
      · cases hx
theorem pickW_mem {R : List Int} (k : Int) (h : 0 < R.length) : pickW R k ∈ R := by
  unfold pickW
  have hlt : (max 0 (min k ((R.length : Int) - 1))).toNat < R.length := by omega
  simp only [List.getD]
  rw [List.getElem?_eq_getElem hlt]
  simp
theorem entsW_rises {R : List Int} (hR : ∀ x ∈ R, 0 ≤ x ∧ x ≤ 239) (keys : List Int) {pg : Int} (h0 : 0 ≤ pg) (h1 : pg ≤ 239) : ∀ j, rises (-1) (entsW R keys pg j) = true
  | 0 => by simp [entsW, rises]; omega
  | j + 1 => by
    unfold entsW
    split
    · rename_i hc
      have hp := hR _ (pickW_mem (keys.getD j 0) hc.1)
      refine rises_snoc ⟨?_, hp⟩ (entsW_rises hR keys h0 h1 j) ?_ (fun x hx => ?_)
      · show (j : Int) + 1 ≤ 63; omega
      · show (-1 : Int) < (j : Int) + 1; omega
      · have := entsW_keys R keys pg j x hx
        show x.1 < (j : Int) + 1; omega
    · rw [List.append_nil]; exact entsW_rises hR keys h0 h1 j
theorem entsW_kids (R keys : List Int) (pg : Int) : ∀ j, ∃ pk, (entsW R keys pg j).map (·.2) = pg :: pk ∧ ∀ x ∈ pk, x ∈ R
  | 0 => ⟨[], rfl, by simp⟩
  | j + 1 => by
    obtain ⟨pk, h, hm⟩ := entsW_kids R keys pg j
    unfold entsW
    rw [List.map_append, h]
    split
    · rename_i hc
      refine ⟨pk ++ [pickW R (keys.getD j 0)], by simp, fun x hx => ?_⟩
      rcases List.mem_append.1 hx with hx | hx
      · exact hm x hx
      · rw [List.mem_singleton.1 hx]; exact pickW_mem _ hc.1
    · exact ⟨pk, by simp, hm⟩
theorem entsW_pos (R keys : List Int) (pg : Int) : ∀ j, 1 ≤ (entsW R keys pg j).length
  | 0 => by simp [entsW]
  | j + 1 => by
    have := entsW_pos R keys pg j
    unfold entsW
    rw [List.length_append]
    omega
theorem ndW_right {R : List Int} (hR : ∀ x ∈ R, 0 ≤ x ∧ x ≤ 239) (keys : List Int) {pg : Int} (h0 : 0 ≤ pg) (h1 : pg ≤ 239) : (ndW R keys pg).right = true := by
  unfold Nd.right ndW
  simp only
  rw [if_neg (by decide)]
  simp [entsW_rises hR keys h0 h1, (entsW_len R keys pg keys.length).1]
  exact entsW_pos R keys pg keys.length
theorem ndA_right (b : List Int) : (ndA b).right = true := by unfold Nd.right ndA; rfl
theorem Exact.mores {n : Nat} {ch : Nat → List Nat} : ∀ (P : List Nat) {c : Nat → Nat} {R : List Nat}, Exact n c ch R → (∀ p ∈ P, 0 < c p) → Exact n (fun q => c q + P.count q) ch (R ++ P)
  | [], c, R, h, _ => by simpa using h
  | p :: P, c, R, h, hp => by
    have h1 := Exact.mores P (Exact.more h (hp p (by simp))) (fun q hq => by
      by_cases e : q = p
      · subst e; rw [updG_at]; omega
      · rw [updG_ne _ _ e]; exact hp q (by simp [hq]))
    have e : (fun q => updG c p (c p + 1) q + P.count q) = fun q => c q + (p :: P).count q := by
      funext q
      rw [List.count_cons]
      by_cases e : q = p
      · subst e; rw [updG_at]; simp; omega
      · have : (p == q) = false := by simp; omega
        rw [updG_ne _ _ e, this]; simp
    rw [e, List.append_assoc] at h1
    exact h1
theorem Inv.rng {X : DSt} {L : List Pg} {R : List Int} (h : Inv X L R) : ∀ x ∈ R, 0 ≤ x ∧ x ≤ 239 ∧ 0 < cntL L x.toNat := by
  intro x hx
  have hc : 0 < cntL L x.toNat := Exact.pos h.di.ex (List.mem_map_of_mem hx)
  have := h.di.low hc
  exact ⟨h.nn x hx, by omega, hc⟩
theorem free_cnt {L : List Pg} {k : Nat} (h : (plAt L k).free = true) : cntL L k = 0 := by
  unfold Pg.free at h
  simp only [Bool.and_eq_true, beq_iff_eq] at h
  unfold cntL
  rw [h.1]
  rfl
theorem Inv.make {X : DSt} {L : List Pg} {R : List Int} {m : Nat} (h0 : Inv X L R) (hU0 : Up X L.length m) (keys : List Int) {b : List Int} (hb : b.length = 16) (hby : Byt b) :
    ((wmk X L R keys b).2 = 0 ∨ (wmk X L R keys b).2 = 71 ∨ (wmk X L R keys b).2 = 72) ∧ Inv (wmk X L R keys b).1.1 (wmk X L R keys b).1.2.1 (wmk X L R keys b).1.2.2 := by
  have h := h0.mark
  have hU : Up X (plMark L).length m := by rw [mark_len]; exact hU0
  clear hU0
  have w1 := fun {X1 L1 pg e1} => @wmk_1 X X1 L L1 R keys b pg e1
  have w2 := fun {X1 X2 L1 L2 pg rt e2} => @wmk_2 X X1 X2 L L1 L2 R keys b pg rt e2
  have w4 := fun {X1 X2 L1 L2 L3 pg rt} => @wmk_4 X X1 X2 L L1 L2 L3 R keys b pg rt
  generalize plMark L = M at *
  have hAr := ndA_right b
  have hAo : (ndA b).ok := ⟨hb, hby⟩
  have hAk : kids (ndA b) = [] := rfl
  by_cases hf : plFree M = 0
  · have e := makeB_full X (L := M) hAr (by rw [hAk]; rfl) hf
    rw [w1 e (by decide)]
    exact ⟨Or.inr (Or.inl rfl), h⟩
  · obtain ⟨k, hk, hfr, hT⟩ := free_some hf
    have ck := free_cnt hfr
    have k0 : (0 : Int) ≤ (k : Int) := by omega
    have k1 : (k : Int) < (M.length : Int) := by omega
    have hM240 := h.di.ok.1
    have e1 : makeF X M (ndA b) = ((X.write ((k : Int) + 4) (ndA b).page, M.set k ⟨0, 1⟩), (k : Int), 0) := by
      unfold makeF
      rw [hAr, hAk, hT]
      rfl
    have r1 := fun {r : Int} => rdN_write hU k0 k1 hAr hAo (r := r)
    have hU1 := (hU.write k0 k1 (page_len hAr hb) (page_byt hAr hAo)).2.1
    generalize X.write ((k : Int) + 4) (ndA b).page = X1 at *
    have hR := h.rng
    have hRk : ∀ x ∈ R, x ≠ (k : Int) := by
      intro x hx e
      have := (hR x hx).2.2
      rw [e, Int.toNat_natCast] at this
      omega
    have hWr : (ndW R keys (k : Int)).right = true := ndW_right (fun x hx => ⟨(hR x hx).1, (hR x hx).2.1⟩) keys k0 (by omega)
    have hWo : (ndW R keys (k : Int)).ok := ⟨zerB_len 16, zerB_byt 16⟩
    obtain ⟨pk, hWk, hpk⟩ := entsW_kids R keys (k : Int) keys.length
    have hWk : kids (ndW R keys (k : Int)) = (k : Int) :: pk := hWk
    have hok1 : plOk (M.set k ⟨0, 1⟩) := by have := take_ok h.di.ok; rw [hT] at this; exact this
    have hheld : ∀ q ∈ kids (ndW R keys (k : Int)), plHeld (M.set k ⟨0, 1⟩) q = true := by
      intro q hq
      rw [hWk] at hq
      rw [held_set hk]
      rcases List.mem_cons.1 hq with rfl | hq
      · rw [if_pos rfl]; rfl
      · rw [if_neg (hRk q (hpk q hq))]
        exact (h.di.held q).2 ⟨(hR q (hpk q hq)).1, (hR q (hpk q hq)).2.2⟩
    have hany : (kids (ndW R keys (k : Int))).any (fun p => !plHeld (M.set k ⟨0, 1⟩) p) = false := by
      rw [List.any_eq_false]
      intro q hq
      rw [hheld q hq]
      decide
    have hw1 : ∀ q : Nat, 0 < cntL M q → rdN X1 (q : Int) = rdN X (q : Int) := by
      intro q hq
      have hlt := Exact.lt h.di.ex hq
      rw [r1 (by omega) (by omega), if_neg (by intro e; have : q = k := by omega
                                               subst this; omega)]
    have hI1 : Inv X1 M R := h.write hw1
    by_cases hf2 : plFree (M.set k ⟨0, 1⟩) = 0
    · have e2 := makeB_full X1 (L := M.set k ⟨0, 1⟩) hWr hany hf2
      rw [w2 e1 e2 (by decide)]
      exact ⟨Or.inr (Or.inl rfl), hI1⟩
    · obtain ⟨k2, hk2, hfr2, hT2⟩ := free_some hf2
      rw [List.length_set] at hk2
      have hne : k2 ≠ k := by
        intro e
        subst e
        rw [plAt_set _ _ _ _ hk, if_pos rfl] at hfr2
        cases hfr2
      have hfrM : (plAt M k2).free = true := by rwa [plAt_set _ _ _ _ hk, if_neg hne] at hfr2
      have ck2 := free_cnt hfrM
      have k20 : (0 : Int) ≤ (k2 : Int) := by omega
      have k21 : (k2 : Int) < (M.length : Int) := by omega
      have r2 := fun {r : Int} => rdN_write hU1 k20 k21 hWr hWo (r := r)
      have hkl : k2 < (M.set k ⟨0, 1⟩).length := by rw [List.length_set]; exact hk2
      have hok2 : plOk ((M.set k ⟨0, 1⟩).set k2 ⟨0, 1⟩) := by have := take_ok hok1; rw [hT2] at this; exact this
      have hheld2 : ∀ q ∈ kids (ndW R keys (k : Int)), plHeld ((M.set k ⟨0, 1⟩).set k2 ⟨0, 1⟩) q = true := by
        intro q hq
        rw [held_set hkl]
        split
        · rfl
        · exact hheld q hq
      have hkn : ∀ q ∈ kids (ndW R keys (k : Int)), q ≠ (k2 : Int) := by
        intro q hq e
        rw [hWk] at hq
        rcases List.mem_cons.1 hq with rfl | hq
        · omega
        · have := (hR q (hpk q hq)).2.2
          rw [e, Int.toNat_natCast] at this
          omega
      have hEr := eachHold_err (kids (ndW R keys (k : Int))) hok2 hheld2
      have hat := fun hz i => eachHold_at (kids (ndW R keys (k : Int))) (L := (M.set k ⟨0, 1⟩).set k2 ⟨0, 1⟩) hz i
      have hEok := eachHold_ok (kids (ndW R keys (k : Int))) hok2
      have hElen := eachHold_len (kids (ndW R keys (k : Int))) ((M.set k ⟨0, 1⟩).set k2 ⟨0, 1⟩)
      have hEk := eachHold_keeps (kids (ndW R keys (k : Int))) hok2
      have em : makeF X1 (M.set k ⟨0, 1⟩) (ndW R keys (k : Int)) = if (eachF plHold ((M.set k ⟨0, 1⟩).set k2 ⟨0, 1⟩) (kids (ndW R keys (k : Int)))).2 = 0 then ((X1.write ((k2 : Int) + 4) (ndW R keys (k : Int)).page, (eachF plHold ((M.set k ⟨0, 1⟩).set k2 ⟨0, 1⟩) (kids (ndW R keys (k : Int)))).1), (k2 : Int), 0) else ((X1.write ((k2 : Int) + 4) (ndW R keys (k : Int)).page, (eachF plHold ((M.set k ⟨0, 1⟩).set k2 ⟨0, 1⟩) (kids (ndW R keys (k : Int)))).1), -1, (eachF plHold ((M.set k ⟨0, 1⟩).set k2 ⟨0, 1⟩) (kids (ndW R keys (k : Int)))).2) := by
        unfold makeF
        rw [hWr, hany, hT2]
        rfl
      generalize X1.write ((k2 : Int) + 4) (ndW R keys (k : Int)).page = X2 at *
      generalize eachF plHold ((M.set k ⟨0, 1⟩).set k2 ⟨0, 1⟩) (kids (ndW R keys (k : Int))) = E at *
      obtain ⟨L2, e2⟩ := E
      simp only at hEr hat hEok hElen hEk em
      have hw2 : ∀ q : Nat, 0 < cntL M q → rdN X2 (q : Int) = rdN X (q : Int) := by
        intro q hq
        have hlt := Exact.lt h.di.ex hq
        rw [r2 (by omega) (by omega), if_neg (by intro e; have : q = k2 := by omega
                                                 subst this; omega)]
        exact hw1 q hq
      rcases hEr with rfl | rfl
      · rw [if_pos rfl] at em
        have hat := hat rfl
        have hk2n : (kids (ndW R keys (k : Int))).count (k2 : Int) = 0 := List.count_eq_zero.2 fun hm => hkn _ hm rfl
        have h2k2 : plAt L2 k2 = ⟨0, 1⟩ := by
          rw [hat k2, plAt_set _ _ _ _ hkl, if_pos rfl, hk2n]; rfl
        have hh2 : plHold L2 (k2 : Int) = (L2.set k2 ⟨1, 1⟩, 0) := by
          have hhd : plHeld L2 (k2 : Int) = true := by rw [hEk, held_set hkl, if_pos rfl]; rfl
          rcases hold_cases L2 (k2 : Int) with ⟨e, _⟩ | ⟨_, e, _⟩ | ⟨_, _, e⟩
          · rw [hhd] at e; cases e
          · rw [Int.toNat_natCast, h2k2] at e; exact absurd e (by decide)
          · rw [e, Int.toNat_natCast, h2k2]; rfl
        rw [w4 e1 em hh2]
        refine ⟨Or.inl rfl, ?_⟩
        have hlen2 : L2.length = M.length := by rw [hElen, List.length_set, List.length_set]
        have hk2L : k2 < L2.length := by omega
        have hok3 : plOk (L2.set k2 ⟨1, 1⟩) := by have := hold_ok hEok (k2 : Int); rw [hh2] at this; exact this
        -- what is held then
        have c2 : ∀ q, cntL L2 q = cntL M q + ((k : Int) :: pk).count (q : Int) := by
          intro q
          have hq := hat q
          rw [hWk] at hq
          unfold cntL
          rw [hq, plAt_set _ _ _ _ hkl]
          simp only
          by_cases e : q = k2
          · subst e
            rw [if_pos rfl]
            unfold cntL at ck2
            rw [ck2]
            simp
          · rw [if_neg e, plAt_set _ _ _ _ hk]
            by_cases e' : q = k
            · subst e'
              rw [if_pos rfl]
              unfold cntL at ck
              rw [ck]
              simp
            · rw [if_neg e']
              have := (h.di.ok.2 q).1
              omega
        obtain ⟨rk, hfl⟩ := h.fl
        have E0 : Exact M.length (cntL M) (chX X) (R.map Int.toNat ++ []) := by rw [List.append_nil]; exact h.di.ex
        have E1 := Exact.adopt E0 ck hk
        have F1 := Falls.adopt hfl E0 ck
        have hP : ∀ p ∈ pk.map Int.toNat, 0 < updG (cntL M) k 1 p := by
          intro p hp
          obtain ⟨x, hx, rfl⟩ := List.mem_map.1 hp
          by_cases e : x.toNat = k
          · rw [e, updG_at]; omega
          · rw [updG_ne _ _ e]; exact (hR x (hpk x hx)).2.2
        have E2 := Exact.mores (pk.map Int.toNat) E1 hP
        have F2 : Falls (fun q => updG (cntL M) k 1 q + (pk.map Int.toNat).count q) (updG (chX X) k []) _ := F1.less fun q hq => by
          rcases Nat.eq_zero_or_pos ((pk.map Int.toNat).count q) with hz | hz
          · simp only [hz, Nat.add_zero] at hq; exact hq
          · exact hP q (List.count_pos_iff.1 hz)
        have E2' : Exact M.length (fun q => updG (cntL M) k 1 q + (pk.map Int.toNat).count q) (updG (chX X) k []) (R.map Int.toNat ++ k :: pk.map Int.toNat) := by
          have := E2
          rw [List.append_assoc] at this
          exact this
        have cP : (pk.map Int.toNat).count k2 = 0 := by
          rw [count_toNat (fun x hx => (hR x (hpk x hx)).1)]
          refine List.count_eq_zero.2 fun hm => hkn (k2 : Int) ?_ rfl
          rw [hWk]
          exact List.mem_cons_of_mem _ hm
        have cz : (fun q => updG (cntL M) k 1 q + (pk.map Int.toNat).count q) k2 = 0 := by
          show updG (cntL M) k 1 k2 + (pk.map Int.toNat).count k2 = 0
          rw [updG_ne _ _ hne, ck2, cP]
        have E3 := Exact.adopt E2' cz hk2
        have F3 := Falls.adopt F2 E2' cz
        have ceq : updG (fun q => updG (cntL M) k 1 q + (pk.map Int.toNat).count q) k2 1 = cntL (L2.set k2 ⟨1, 1⟩) := by
          rw [cntL_set L2 _ _ hk2L]
          funext q
          by_cases e : q = k2
          · subst e; rw [updG_at, updG_at]; rfl
          · rw [updG_ne _ _ e, updG_ne _ _ e, c2 q, List.count_cons, count_toNat (fun x hx => (hR x (hpk x hx)).1)]
            by_cases e' : q = k
            · subst e'; rw [updG_at, ck]; simp; omega
            · have e'' : ((k : Int) == (q : Int)) = false := by simp; omega
              rw [updG_ne _ _ e', e'']; simp
        rw [ceq] at E3 F3
        have hchk : chX X2 k2 = k :: pk.map Int.toNat := by
          unfold chX
          rw [r2 k20 k21, if_pos rfl]
          show (kids (ndW R keys (k : Int))).map Int.toNat = _
          rw [hWk]
          simp
        have hrk : rdN X2 (k : Int) = (ndA b, 0) := by rw [r2 k0 k1, if_neg (by omega), r1 k0 k1, if_pos rfl]
        have hlive : ∀ q, 0 < cntL (L2.set k2 ⟨1, 1⟩) q → q = k2 ∨ q = k ∨ 0 < cntL M q := by
          intro q hq
          by_cases e : q = k2
          · exact Or.inl e
          by_cases e' : q = k
          · exact Or.inr (Or.inl e')
          right; right
          rw [cntL_set L2 _ _ hk2L, updG_ne _ _ e, c2 q, List.count_cons] at hq
          have e'' : ((k : Int) == (q : Int)) = false := by simp; omega
          rw [e''] at hq
          simp only [Bool.false_eq_true, if_false, Nat.add_zero] at hq
          rcases Nat.eq_zero_or_pos (pk.count (q : Int)) with hz | hz
          · omega
          · have := (hR _ (hpk _ (List.count_pos_iff.1 hz))).2.2
            simpa using this
        have hch : ∀ q, 0 < cntL (L2.set k2 ⟨1, 1⟩) q → updG (updG (chX X) k []) k2 (k :: pk.map Int.toNat) q = chX X2 q := by
          intro q hq
          by_cases e : q = k2
          · subst e; rw [updG_at, hchk]
          by_cases e' : q = k
          · subst e'
            rw [updG_ne _ _ e, updG_at]
            unfold chX
            rw [hrk]
            rfl
          · rw [updG_ne _ _ e, updG_ne _ _ e']
            rcases hlive q hq with q1 | q1 | q1
            · exact absurd q1 e
            · exact absurd q1 e'
            · unfold chX; rw [hw2 q q1]
        refine ⟨fun x hx => ?_, ⟨hok3, ?_, fun i hi => ?_, fun q hq => ?_⟩, ⟨_, Falls.congr F3 hch⟩⟩
        · rcases List.mem_append.1 hx with hx | hx
          · exact h.nn x hx
          · rw [List.mem_singleton.1 hx]; exact k20
        · unfold PlEx
          rw [List.length_set, hlen2, List.map_append]
          exact Exact.congr E3 hch
        · rw [plAt_set _ _ _ _ hk2L] at hi ⊢
          split
          · show (0 : Int) < 1; decide
          · rename_i hni
            rw [if_neg hni] at hi
            have hq := hat i
            rw [hWk, plAt_set _ _ _ _ hkl, if_neg hni, plAt_set _ _ _ _ hk] at hq
            by_cases e' : i = k
            · subst e'
              rw [if_pos rfl] at hq
              rw [hq, List.count_cons]
              simp
            · rw [if_neg e'] at hq
              rw [hq] at hi ⊢
              have := h.di.nf i hi
              show 0 < (plAt M i).c + _
              omega
        · rcases hlive q hq with q1 | q1 | q1
          · rw [q1, r2 k20 k21, if_pos rfl]
          · rw [q1, hrk]
          · rw [hw2 q q1]; exact h.di.rd q q1
      · rw [if_neg (by decide)] at em
        rw [w2 e1 em (by decide)]
        exact ⟨Or.inr (Or.inr rfl), h.write hw2⟩
end Go.Proofs.YtmkinaijkgkgiaaGreat
/- Entries in order, plain: one put, one cut, one found; no condition. -/
namespace Go.Proofs.YtmkinaijkgkgiaaGreat
open Go.RowKit Go.Proofs.U
set_option linter.unusedSimpArgs false
set_option linter.unusedVariables false
/-- Keys rise. -/
def KeysUp (l : List (Int × Int)) : Prop := l.Pairwise fun x y => x.1 < y.1
/-- Entries with one for a key. -/
def putL : List (Int × Int) → Int × Int → List (Int × Int)
  | [], x => [x]
  | y :: l, x => if x.1 ≤ y.1 then x :: (y :: l).filter (fun z => !(z.1 == x.1)) else y :: putL l x
def cutL (l : List (Int × Int)) (k : Int) : List (Int × Int) := l.filter fun z => !(z.1 == k)
def findL (l : List (Int × Int)) (k : Int) : Int := match l.find? (fun z => z.1 == k) with | some z => z.2 | none => -1
theorem KeysUp.tail {y : Int × Int} {l : List (Int × Int)} (h : KeysUp (y :: l)) : KeysUp l := (List.pairwise_cons.1 h).2
theorem KeysUp.head {y : Int × Int} {l : List (Int × Int)} (h : KeysUp (y :: l)) : ∀ z ∈ l, y.1 < z.1 := (List.pairwise_cons.1 h).1
theorem mem_putL : ∀ {l : List (Int × Int)} {x z : Int × Int}, KeysUp l → (z ∈ putL l x ↔ z = x ∨ (z ∈ l ∧ ¬ z.1 = x.1))
  | [], x, z, _ => by simp [putL]
  | y :: l, x, z, h => by
    unfold putL
    split
    · simp
    · rename_i hlt
      rw [List.mem_cons, mem_putL h.tail, List.mem_cons]
      constructor
      · rintro (rfl | rfl | ⟨hz, hn⟩)
        · exact Or.inr ⟨Or.inl rfl, by omega⟩
        · exact Or.inl rfl
        · exact Or.inr ⟨Or.inr hz, hn⟩
      · rintro (rfl | ⟨rfl | hz, hn⟩)
        · exact Or.inr (Or.inl rfl)
        · exact Or.inl rfl
        · exact Or.inr (Or.inr ⟨hz, hn⟩)
theorem putL_up : ∀ {l : List (Int × Int)} {x : Int × Int}, KeysUp l → KeysUp (putL l x)
  | [], x, _ => by simp [putL, KeysUp]
  | y :: l, x, h => by
    unfold putL
    split
    · rename_i hle
      refine List.pairwise_cons.2 ⟨fun z hz => ?_, List.Pairwise.filter _ h⟩
      obtain ⟨hz1, hz2⟩ := List.mem_filter.1 hz
      have hne : ¬ z.1 = x.1 := by simpa using hz2
      rcases List.mem_cons.1 hz1 with rfl | hz1
      · omega
      · have := h.head z hz1; omega
    · rename_i hlt
      refine List.pairwise_cons.2 ⟨fun z hz => ?_, putL_up h.tail⟩
      rcases (mem_putL h.tail).1 hz with rfl | ⟨hz, _⟩
      · omega
      · exact h.head z hz
theorem mem_cutL {l : List (Int × Int)} {k : Int} {z : Int × Int} : z ∈ cutL l k ↔ z ∈ l ∧ ¬ z.1 = k := by
  unfold cutL
  rw [List.mem_filter]
  simp
theorem cutL_up {l : List (Int × Int)} (h : KeysUp l) (k : Int) : KeysUp (cutL l k) := List.Pairwise.filter _ h
theorem KeysUp.one {l : List (Int × Int)} (h : KeysUp l) : ∀ {x y : Int × Int}, x ∈ l → y ∈ l → x.1 = y.1 → x = y := by
  induction l with
  | nil => intro x y hx; cases hx
  | cons a l ih =>
    intro x y hx hy e
    rcases List.mem_cons.1 hx with e1 | hx'
    · rcases List.mem_cons.1 hy with e2 | hy'
      · rw [e1, e2]
      · have := h.head y hy'; rw [e1] at e; omega
    · rcases List.mem_cons.1 hy with e2 | hy'
      · have := h.head x hx'; rw [e2] at e; omega
      · exact ih h.tail hx' hy' e
/-- Rising entries are told by what is among them. -/
theorem KeysUp.ext : ∀ {l m : List (Int × Int)}, KeysUp l → KeysUp m → (∀ z, z ∈ l ↔ z ∈ m) → l = m
  | [], [], _, _, _ => rfl
  | [], y :: m, _, _, h => by have := (h y).2 (by simp); cases this
  | x :: l, [], _, _, h => by have := (h x).1 (by simp); cases this
  | x :: l, y :: m, hl, hm, h => by
    have e : x = y := by
      have h1 := (h x).1 (by simp)
      have h2 := (h y).2 (by simp)
      rcases List.mem_cons.1 h1 with e | h1
      · exact e
      · rcases List.mem_cons.1 h2 with e | h2
        · exact e.symm
        · have a := hm.head x h1
          have b := hl.head y h2
          omega
    subst e
    congr 1
    refine KeysUp.ext hl.tail hm.tail fun z => ⟨fun hz => ?_, fun hz => ?_⟩
    · rcases List.mem_cons.1 ((h z).1 (by simp [hz])) with rfl | q
      · have := hl.head z hz; omega
      · exact q
    · rcases List.mem_cons.1 ((h z).2 (by simp [hz])) with rfl | q
      · have := hm.head z hz; omega
      · exact q
theorem findL_some {l : List (Int × Int)} (h : KeysUp l) {z : Int × Int} (hz : z ∈ l) : findL l z.1 = z.2 := by
  unfold findL
  cases hf : l.find? (fun y => y.1 == z.1) with
  | none =>
    have := List.find?_eq_none.1 hf z hz
    simp at this
  | some y =>
    have h1 := List.find?_some hf
    have h2 := List.mem_of_find?_eq_some hf
    rw [h.one h2 hz (by simpa using h1)]
theorem findL_none {l : List (Int × Int)} {k : Int} (h : ∀ z ∈ l, ¬ z.1 = k) : findL l k = -1 := by
  unfold findL
  have : l.find? (fun y => y.1 == k) = none := List.find?_eq_none.2 fun z hz => by simpa using h z hz
  rw [this]
/-- As many entries as keys, at most. -/
theorem KeysUp.len {l : List (Int × Int)} (h : KeysUp l) {a b : Int} (hab : a ≤ b) (hr : ∀ z ∈ l, a ≤ z.1 ∧ z.1 ≤ b) : (l.length : Int) ≤ b - a + 1 := by
  induction l generalizing a with
  | nil => simp; omega
  | cons x l ih =>
    have hx := hr x (by simp)
    by_cases hxb : x.1 = b
    · cases l with
      | nil => simp; omega
      | cons y l =>
        have h1 := h.head y (by simp)
        have h2 := (hr y (by simp)).2
        omega
    · have := ih h.tail (a := x.1 + 1) (by omega) (fun z hz => ⟨by have := h.head z hz; omega, (hr z (by simp [hz])).2⟩)
      simp only [List.length_cons]
      omega
end Go.Proofs.YtmkinaijkgkgiaaGreat
/- What may be known of a store in which nodes are made that nobody holds yet, plain; no condition. -/
namespace Go.Proofs.YtmkinaijkgkgiaaGreat
open Go.RowKit Go.Proofs.U
set_option linter.unusedSimpArgs false
set_option linter.unusedVariables false
/-- How often a page is held, what is made and not held yet counted once more. -/
def cntT (L : List Pg) (T : List Nat) (q : Nat) : Nat := cntL L q + T.count q
/-- What holds of a store with roots R in which the pages T are made and not held yet. -/
structure InvT (X : DSt) (L : List Pg) (R : List Int) (T : List Nat) : Prop where
  nn : ∀ r ∈ R, 0 ≤ r
  ok : plOk L
  ex : Exact L.length (cntT L T) (chX X) (R.map Int.toNat ++ T)
  nf : ∀ i, (plAt L i).frsh = true → 0 < cntT L T i
  tf : ∀ t ∈ T, (plAt L t).frsh = true
  rd : ∀ q : Nat, 0 < cntT L T q → (rdN X (q : Int)).2 = 0
  fl : ∃ rk, Falls (cntT L T) (chX X) rk
theorem cntT_nil (L : List Pg) : cntT L [] = cntL L := by funext q; simp [cntT]
theorem Inv.toT {X : DSt} {L : List Pg} {R : List Int} (h : Inv X L R) : InvT X L R [] := by
  refine ⟨h.nn, h.di.ok, ?_, ?_, by simp, ?_, ?_⟩
  · rw [cntT_nil, List.append_nil]; exact h.di.ex
  · rw [cntT_nil]; exact fun i hi => (cnt_pos i).2 (h.di.nf i hi)
  · rw [cntT_nil]; exact h.di.rd
  · rw [cntT_nil]; exact h.fl
theorem InvT.toI {X : DSt} {L : List Pg} {R : List Int} (h : InvT X L R []) : Inv X L R := by
  obtain ⟨nn, ok, ex, nf, tf, rd, fl⟩ := h
  rw [cntT_nil] at ex nf rd fl
  rw [List.append_nil] at ex
  exact ⟨nn, ⟨ok, ex, fun i hi => (cnt_pos i).1 (nf i hi), rd⟩, fl⟩
theorem InvT.perm {X : DSt} {L : List Pg} {R : List Int} {T T' : List Nat} (h : InvT X L R T) (hp : ∀ q, T.count q = T'.count q) : InvT X L R T' := by
  have hc : cntT L T = cntT L T' := by funext q; unfold cntT; rw [hp q]
  refine ⟨h.nn, h.ok, ?_, ?_, ?_, ?_, ?_⟩
  · rw [← hc]; exact Exact.perm h.ex fun p => by rw [List.count_append, List.count_append, hp p]
  · rw [← hc]; exact h.nf
  · intro t ht
    refine h.tf t (List.count_pos_iff.1 ?_)
    rw [hp t]; exact List.count_pos_iff.2 ht
  · rw [← hc]; exact h.rd
  · rw [← hc]; exact h.fl
theorem free_frsh {x : Pg} (h : x.frsh = true) : x.free = false := by
  unfold Pg.frsh at h
  unfold Pg.free
  simp only [Bool.or_eq_true, beq_iff_eq] at h
  rcases h with h | h <;> rw [h] <;> simp
theorem InvT.live {X : DSt} {L : List Pg} {R : List Int} {T : List Nat} (h : InvT X L R T) {q : Nat} (hq : 0 < cntT L T q) : (plAt L q).free = false ∧ q < L.length ∧ plHeld L (q : Int) = true := by
  have hlt := Exact.lt h.ex hq
  unfold cntT at hq
  rcases Nat.eq_zero_or_pos (cntL L q) with hz | hz
  · have hf := h.tf q (List.count_pos_iff.1 (by omega))
    refine ⟨free_frsh hf, hlt, ?_⟩
    unfold plHeld plIn Pg.held
    unfold Pg.frsh at hf
    rw [Int.toNat_natCast, hf]
    simp; omega
  · have hc : (0 : Int) < (plAt L q).c := (cnt_pos q).1 hz
    refine ⟨?_, hlt, ?_⟩
    · unfold Pg.free
      have e : ((plAt L q).c == 0) = false := by simp; omega
      rw [e]; rfl
    · unfold plHeld plIn Pg.held
      have e : ((plAt L q).c == 0) = false := by simp; omega
      rw [Int.toNat_natCast, e]
      simp; omega
theorem InvT.held {X : DSt} {L : List Pg} {R : List Int} {T : List Nat} (h : InvT X L R T) {p : Int} (h0 : 0 ≤ p) (hq : 0 < cntT L T p.toNat) : plHeld L p = true := by
  have := (h.live hq).2.2
  rwa [Int.toNat_of_nonneg h0] at this
theorem InvT.low {X : DSt} {L : List Pg} {R : List Int} {T : List Nat} (h : InvT X L R T) {q : Nat} (hq : 0 < cntT L T q) : q < 240 := by
  have := Exact.lt h.ex hq
  have := h.ok.1
  omega
theorem InvT.kid {X : DSt} {L : List Pg} {R : List Int} {T : List Nat} (h : InvT X L R T) {p : Int} (h0 : 0 ≤ p) (hq : 0 < cntT L T p.toNat) : ∀ x ∈ kids (rdN X p).1, 0 ≤ x ∧ x ≤ 239 ∧ 0 < cntT L T x.toNat := by
  intro x hx
  have e : ((p.toNat : Nat) : Int) = p := Int.toNat_of_nonneg h0
  have hrd := h.rd p.toNat hq
  rw [e] at hrd
  have hr := kids_rng (rdN_right hrd) x hx
  refine ⟨hr.1, hr.2, Exact.child h.ex hq (show x.toNat ∈ chX X p.toNat from ?_)⟩
  unfold chX
  rw [e]
  exact List.mem_map_of_mem hx
theorem InvT.root {X : DSt} {L : List Pg} {R : List Int} {T : List Nat} (h : InvT X L R T) {r : Int} (hr : r ∈ R) : 0 ≤ r ∧ 0 < cntT L T r.toNat :=
  ⟨h.nn r hr, Exact.pos h.ex (List.mem_append_left _ (List.mem_map_of_mem hr))⟩
theorem InvT.mem {X : DSt} {L : List Pg} {R : List Int} {T : List Nat} (h : InvT X L R T) {t : Nat} (ht : t ∈ T) : 0 < cntT L T t := Exact.pos h.ex (List.mem_append_right _ ht)
/-- A page that is made and held by a node needs no hold of its own. -/
theorem InvT.less1 {X : DSt} {L : List Pg} {R : List Int} {T : List Nat} {t : Nat} (h : InvT X L R (t :: T)) (hc : 0 < cntL L t) : InvT X L R T := by
  have hcu : updG (cntT L (t :: T)) t (cntT L (t :: T) t - 1) = cntT L T := by
    funext q
    by_cases e : q = t
    · subst e; rw [updG_at]; unfold cntT; simp
    · rw [updG_ne _ _ e]; unfold cntT
      have : (t == q) = false := by simp; omega
      rw [List.count_cons, this]; simp
  have h2 : 2 ≤ cntT L (t :: T) t := by unfold cntT; simp; omega
  have hpos : ∀ q, 0 < cntT L (t :: T) q → 0 < cntT L T q := by
    intro q hq
    by_cases e : q = t
    · subst e; unfold cntT; omega
    · unfold cntT at hq ⊢
      have : (t == q) = false := by simp; omega
      rw [List.count_cons, this] at hq; simpa using hq
  have hpos' : ∀ q, 0 < cntT L T q → 0 < cntT L (t :: T) q := by
    intro q hq
    unfold cntT at hq ⊢
    rw [List.count_cons]; omega
  have hE : Exact L.length (cntT L (t :: T)) (chX X) (t :: (R.map Int.toNat ++ T)) := Exact.perm h.ex fun p => by
    simp only [List.count_append, List.count_cons]; omega
  refine ⟨h.nn, h.ok, ?_, fun i hi => hpos i (h.nf i hi), fun x hx => h.tf x (by simp [hx]), fun q hq => h.rd q (hpos' q hq), ?_⟩
  · rw [← hcu]; exact Exact.less hE h2
  · obtain ⟨rk, hf⟩ := h.fl
    exact ⟨rk, hf.less hpos'⟩
/-- A page that is made is held as a root. -/
theorem InvT.hold {X : DSt} {L : List Pg} {R : List Int} {T : List Nat} {t : Int} (h : InvT X L R (t.toNat :: T)) (h0 : 0 ≤ t) (hc : cntL L t.toNat < 255) :
    ∃ L', plHold L t = (L', 0) ∧ InvT X L' (R ++ [t]) T ∧ (∀ i, plAt L' i = ⟨(plAt L i).c + (if t = (i : Int) then 1 else 0), (plAt L i).s⟩) ∧ L'.length = L.length := by
  have hlv := h.mem (t := t.toNat) (by simp)
  have hh := h.held h0 hlv
  rcases hold_cases L t with ⟨e, _⟩ | ⟨_, e, _⟩ | ⟨_, _, e⟩
  · rw [hh] at e; cases e
  · unfold cntL at hc; rw [e] at hc; exact absurd hc (by decide)
  · have hat := hold_at (L := L) (q := t) (by rw [e])
    have hlen : (plHold L t).1.length = L.length := hold_len L t
    have hok := hold_ok h.ok t
    rw [e] at hat hlen hok
    simp only at hat hlen hok
    refine ⟨_, e, ?_, hat, hlen⟩
    generalize L.set t.toNat ⟨(plAt L t.toNat).c + 1, (plAt L t.toNat).s⟩ = L' at *
    have hcc : cntT L' T = cntT L (t.toNat :: T) := by
      funext q
      unfold cntT cntL
      rw [hat q, List.count_cons]
      simp only
      have h0c := (h.ok.2 q).1
      by_cases eq : t = (q : Int)
      · have : (t.toNat == q) = true := by simp; omega
        rw [if_pos eq, this]; simp; omega
      · have : (t.toNat == q) = false := by simp; omega
        rw [if_neg eq, this]; simp
    have hfr : ∀ i, (plAt L' i).frsh = (plAt L i).frsh := fun i => by rw [hat i]; rfl
    refine ⟨?_, hok, ?_, ?_, ?_, ?_, ?_⟩
    · intro r hr
      rcases List.mem_append.1 hr with hr | hr
      · exact h.nn r hr
      · simp at hr; omega
    · rw [hlen, hcc]
      refine Exact.perm h.ex fun p => ?_
      simp only [List.map_append, List.map_cons, List.map_nil, List.count_append, List.count_cons, List.count_nil]
      omega
    · intro i hi; rw [hcc]; exact h.nf i (by rw [← hfr i]; exact hi)
    · intro x hx; rw [hfr x]; exact h.tf x (by simp [hx])
    · rw [hcc]; exact h.rd
    · rw [hcc]; exact h.fl
/-- No page was there at a Commit, or at a Mark. -/
def PlY (L : List Pg) : Prop := ∀ i, (plAt L i).s = 1 ∨ ((plAt L i).s = 0 ∧ (plAt L i).c = 0)
/-- What was not free stays as it is, and isn't free. -/
structure Ext (X : DSt) (L : List Pg) (X' : DSt) (L' : List Pg) : Prop where
  ln : L'.length = L.length
  ok : plOk L'
  yg : PlY L → PlY L'
  kp : ∀ q : Nat, (plAt L q).free = false → rdN X' (q : Int) = rdN X (q : Int) ∧ (plAt L' q).free = false ∧ cntL L q ≤ cntL L' q
theorem Ext.refl {X : DSt} {L : List Pg} (h : plOk L) : Ext X L X L := ⟨rfl, h, fun q => q, fun q hq => ⟨rfl, hq, Nat.le_refl _⟩⟩
theorem Ext.trans {X Y Z : DSt} {L M N : List Pg} (h : Ext X L Y M) (k : Ext Y M Z N) : Ext X L Z N :=
  ⟨k.ln.trans h.ln, k.ok, fun y => k.yg (h.yg y), fun q hq => ⟨((k.kp q (h.kp q hq).2.1).1).trans (h.kp q hq).1, (k.kp q (h.kp q hq).2.1).2.1, Nat.le_trans (h.kp q hq).2.2 (k.kp q (h.kp q hq).2.1).2.2⟩⟩
theorem eachHold_all : ∀ (l : List Int) {L : List Pg}, plOk L → (∀ q ∈ l, plHeld L q = true) → (∀ q, cntL L q + l.length ≤ 255) → (eachF plHold L l).2 = 0
  | [], L, _, _, _ => rfl
  | q :: l, L, hL, h, hc => by
    have hq := h q (by simp)
    have h0 : (plHold L q).2 = 0 := by
      rcases hold_cases L q with ⟨e, _⟩ | ⟨_, e, _⟩ | ⟨_, _, e⟩
      · rw [e] at hq; cases hq
      · have := hc q.toNat
        unfold cntL at this
        rw [e] at this
        simp at this
        omega
      · rw [e]
    rw [eachF_cons0 h0]
    refine eachHold_all l (hold_ok hL q) (fun x hx => by rw [hold_keeps hL]; exact h x (by simp [hx])) (fun x => ?_)
    have := hc x
    have h1 := hold_at h0 x
    have h2 := (hL.2 x).1
    unfold cntL at this ⊢
    rw [h1]
    simp only [List.length_cons] at this ⊢
    split <;> omega
theorem eachHold_ext (l : List Int) {X : DSt} {L : List Pg} (hL : plOk L) : Ext X L X (eachF plHold L l).1 ∧ plFree (eachF plHold L l).1 = plFree L := by
  refine eachF_inv (I := fun M => Ext X L X M ∧ plFree M = plFree L) (fun M q h => ?_) l L ⟨Ext.refl hL, rfl⟩
  have hM := h.1.ok
  rcases hold_cases M q with ⟨_, e⟩ | ⟨_, _, e⟩ | ⟨hh, hc, e⟩
  · rw [e]; exact h
  · rw [e]; exact h
  · have h0 : (plHold M q).2 = 0 := by rw [e]
    have hat := hold_at h0
    have hok := hold_ok hM q
    have hln : (plHold M q).1.length = M.length := hold_len M q
    have hfr : ∀ i, (plAt (plHold M q).1 i).free = (plAt M i).free := by
      intro i
      rw [hat i]
      unfold Pg.free
      simp only
      split
      · rename_i hqi
        subst hqi
        have h2 := (hM.2 i).1
        have h3 : (plAt M i).held = true := by
          unfold plHeld at hh
          simp only [Bool.and_eq_true, Int.toNat_natCast] at hh
          exact hh.2
        have e1 : ((plAt M i).c + 1 == 0) = false := by simp; omega
        rw [e1]
        unfold Pg.held at h3
        cases h4 : ((plAt M i).c == 0) with
        | false => rfl
        | true =>
          rw [h4] at h3
          simp at h3
          rcases h3 with h3 | h3 <;> rw [h3] <;> rfl
      · simp
    refine ⟨h.1.trans ⟨hln, hok, fun y i => ?_, fun i hi => ⟨rfl, by rw [hfr i]; exact hi, ?_⟩⟩, ?_⟩
    · rw [hat i]
      simp only
      rcases y i with y | ⟨y, yc⟩
      · exact Or.inl y
      · split
        · rename_i hqi
          subst hqi
          unfold plHeld Pg.held at hh
          rw [Int.toNat_natCast, y, yc] at hh
          simp at hh
        · exact Or.inr ⟨y, by omega⟩
    · have h2 := (hM.2 i).1
      unfold cntL
      rw [hat i]
      simp only
      split <;> omega
    · rw [← h.2]
      unfold plFree
      have key : ∀ (A B : List Pg), A.length = B.length → (∀ i, (plAt A i).free = (plAt B i).free) → A.countP Pg.free = B.countP Pg.free := by
        intro A
        induction A with
        | nil => intro B hl _; have : B = [] := List.eq_nil_of_length_eq_zero (by simpa using hl.symm); rw [this]
        | cons a A ih =>
          intro B hl hi
          cases B with
          | nil => simp at hl
          | cons b B =>
            have h00 : a.free = b.free := hi 0
            rw [List.countP_cons, List.countP_cons, h00, ih B (by simpa using hl) (fun i => hi (i + 1))]
      exact key _ _ hln hfr
theorem free_set {L : List Pg} {k : Nat} (hk : k < L.length) (hf : (plAt L k).free = true) : plFree (L.set k ⟨0, 1⟩) + 1 = plFree L := by
  unfold plFree
  rw [List.countP_set (h := hk)]
  have hp : 0 < L.countP Pg.free := List.countP_pos_iff.2 ⟨L[k], by simp, by rw [← plAt_get L k hk]; exact hf⟩
  rw [← plAt_get L k hk, hf]
  have : (Pg.mk 0 1).free = false := rfl
  rw [this]
  simp
  omega
end Go.Proofs.YtmkinaijkgkgiaaGreat
/- A node is made in a store in which others are made that nobody holds yet; entries in nodes; plain, no condition. -/
namespace Go.Proofs.YtmkinaijkgkgiaaGreat
open Go.RowKit Go.Proofs.U
set_option linter.unusedSimpArgs false
set_option linter.unusedVariables false
theorem Ext.write {X : DSt} {L : List Pg} {m : Nat} {n : Nd} {k : Nat} (hU : Up X L.length m) (hr : n.right = true) (ho : n.ok) (hk : k < L.length) (hf : (plAt L k).free = true) (hL : plOk L) :
    Ext X L (X.write ((k : Int) + 4) n.page) (L.set k ⟨0, 1⟩) := by
  have hok : plOk (L.set k ⟨0, 1⟩) := by
    refine ⟨by rw [List.length_set]; exact hL.1, fun i => ?_⟩
    rw [plAt_set _ _ _ _ hk]
    split
    · unfold Pg.ok; simp
    · exact hL.2 i
  refine ⟨by rw [List.length_set], hok, fun y i => ?_, fun q hq => ?_⟩
  · rw [plAt_set _ _ _ _ hk]
    split
    · exact Or.inl rfl
    · exact y i
  have hne : q ≠ k := by intro e; subst e; rw [hf] at hq; cases hq
  have hql : q < L.length := by
    rcases Nat.lt_or_ge q L.length with h | h
    · exact h
    · rw [plAt_out _ _ h] at hq; cases hq
  refine ⟨?_, ?_, ?_⟩
  · rw [rdN_write hU (by omega) (by omega) hr ho (by omega) (by omega), if_neg (by omega)]
  · rw [plAt_set _ _ _ _ hk, if_neg hne]; exact hq
  · unfold cntL; rw [plAt_set _ _ _ _ hk, if_neg hne]; exact Nat.le_refl _
theorem InvT.make {X : DSt} {L : List Pg} {R : List Int} {T : List Nat} {m : Nat} {n : Nd} (h : InvT X L R T) (hU : Up X L.length m) (hr : n.right = true) (ho : n.ok) (hk : ∀ x ∈ kids n, 0 ≤ x ∧ 0 < cntT L T x.toNat) :
    ∃ X' L' p e, makeF X L n = ((X', L'), p, e) ∧ Ext X L X' L' ∧ Up X' L'.length (m + 1) ∧ (e = 0 ∨ e = 71 ∨ e = 72) ∧ (e = 71 → plFree L = 0) ∧ (e = 72 → ¬ ∀ q, cntL L q + (kids n).length ≤ 255) ∧
      (e = 0 → 0 ≤ p ∧ p ≤ 239 ∧ (plAt L p.toNat).free = true ∧ rdN X' p = (n, 0) ∧ InvT X' L' R (p.toNat :: T) ∧ plFree L' + 1 = plFree L ∧ ∀ q : Nat, cntL L' q = cntL L q + (kids n).count (q : Int)) := by
  have hkh : ∀ q ∈ kids n, plHeld L q = true := fun q hq => h.held (hk q hq).1 (hk q hq).2
  have hany : (kids n).any (fun p => !plHeld L p) = false := by
    rw [List.any_eq_false]
    intro q hq
    rw [hkh q hq]
    decide
  by_cases hf : plFree L = 0
  · exact ⟨X, L, -1, 71, makeB_full X hr hany hf, Ext.refl h.ok, hU.mono (Nat.le_succ m), Or.inr (Or.inl rfl), fun _ => hf, fun e => absurd e (by decide), fun e => absurd e (by decide)⟩
  obtain ⟨k, hkl, hfr, hT⟩ := free_some hf
  have k0 : (0 : Int) ≤ (k : Int) := by omega
  have k1 : (k : Int) < (L.length : Int) := by omega
  have hL240 := h.ok.1
  have hnk : plHeld L (k : Int) = false := free_not_held hfr
  have hne : ∀ q ∈ kids n, q ≠ (k : Int) := by
    intro q hq e
    have := hkh q hq
    rw [e, hnk] at this
    cases this
  have hX := Ext.write hU hr ho hkl hfr h.ok
  have hUw := (hU.write k0 k1 (page_len hr ho.1) (page_byt hr ho)).2.1
  have r1 := fun {r : Int} => rdN_write hU k0 k1 hr ho (r := r)
  have hfs := free_set hkl hfr
  have hckL : cntL L k = 0 := free_cnt hfr
  have hkT : T.count k = 0 := List.count_eq_zero.2 fun hm => by
    have := free_frsh (h.tf k hm)
    rw [hfr] at this; cases this
  have hok1 : plOk (L.set k ⟨0, 1⟩) := hX.ok
  have hkh1 : ∀ q ∈ kids n, plHeld (L.set k ⟨0, 1⟩) q = true := by
    intro q hq
    rw [held_set hkl]
    split
    · rfl
    · exact hkh q hq
  have hEr := eachHold_err (kids n) hok1 hkh1
  have hEx := eachHold_ext (kids n) (X := X.write ((k : Int) + 4) n.page) hok1
  have hat := fun hz i => eachHold_at (kids n) (L := L.set k ⟨0, 1⟩) hz i
  have hall := eachHold_all (kids n) hok1 hkh1
  have em : makeF X L n = if (eachF plHold (L.set k ⟨0, 1⟩) (kids n)).2 = 0 then ((X.write ((k : Int) + 4) n.page, (eachF plHold (L.set k ⟨0, 1⟩) (kids n)).1), (k : Int), 0)
      else ((X.write ((k : Int) + 4) n.page, (eachF plHold (L.set k ⟨0, 1⟩) (kids n)).1), -1, (eachF plHold (L.set k ⟨0, 1⟩) (kids n)).2) := by
    unfold makeF
    rw [hr, hany, hT]
    rfl
  have hset : ∀ q, cntL (L.set k ⟨0, 1⟩) q = cntL L q := by
    intro q
    unfold cntL
    rw [plAt_set _ _ _ _ hkl]
    split
    · rename_i e; subst e; unfold cntL at hckL; rw [hckL]; rfl
    · rfl
  generalize X.write ((k : Int) + 4) n.page = X1 at *
  have hlk : (plAt (L.set k ⟨0, 1⟩) k) = ⟨0, 1⟩ := by rw [plAt_set _ _ _ _ hkl, if_pos rfl]
  have hsetat : ∀ i, i ≠ k → plAt (L.set k ⟨0, 1⟩) i = plAt L i := fun i hi => by rw [plAt_set _ _ _ _ hkl, if_neg hi]
  have hln1 : (L.set k ⟨0, 1⟩).length = L.length := List.length_set
  generalize L.set k ⟨0, 1⟩ = M at *
  generalize eachF plHold M (kids n) = E at *
  obtain ⟨L', eE⟩ := E
  simp only at hEr hEx hat hall em
  have hln : L'.length = L.length := hEx.1.ln.trans hln1
  have hUp : Up X1 L'.length (m + 1) := by rw [hln]; exact hUw
  have hEx2 : Ext X L X1 L' := hX.trans hEx.1
  rcases hEr with rfl | rfl
  · rw [if_pos rfl] at em
    have hat := hat rfl
    refine ⟨X1, L', k, 0, em, hEx2, hUp, Or.inl rfl, fun e => absurd e (by decide), fun e => absurd e (by decide), fun _ => ?_⟩
    have hcnt : ∀ q : Nat, cntL L' q = cntL L q + (kids n).count (q : Int) := by
      intro q
      have h1 := hset q
      have h2 := (hok1.2 q).1
      unfold cntL at h1 ⊢
      rw [hat q]
      simp only
      omega
    have hkk : (kids n).count (k : Int) = 0 := List.count_eq_zero.2 fun hm => hne _ hm rfl
    have hrk : rdN X1 (k : Int) = (n, 0) := by rw [r1 k0 k1, if_pos rfl]
    have hkid0 : ∀ x ∈ kids n, 0 ≤ x := fun x hx => (hk x hx).1
    refine ⟨k0, by omega, by rw [Int.toNat_natCast]; exact hfr, hrk, ?_, by rw [hEx.2]; exact hfs, hcnt⟩
    rw [Int.toNat_natCast]
    -- the counts
    obtain ⟨rk, hfl⟩ := h.fl
    have hP : ∀ p ∈ (kids n).map Int.toNat, 0 < cntT L T p := by
      intro p hp
      obtain ⟨x, hx, rfl⟩ := List.mem_map.1 hp
      exact (hk x hx).2
    have E1 := Exact.mores ((kids n).map Int.toNat) h.ex hP
    have F1 : Falls (fun q => cntT L T q + ((kids n).map Int.toNat).count q) (chX X) rk := hfl.less fun q hq => by
      rcases Nat.eq_zero_or_pos (((kids n).map Int.toNat).count q) with hz | hz
      · simp only [hz, Nat.add_zero] at hq; exact hq
      · exact hP q (List.count_pos_iff.1 hz)
    have cz : (fun q => cntT L T q + ((kids n).map Int.toNat).count q) k = 0 := by
      show cntT L T k + _ = 0
      rw [count_toNat hkid0, hkk]
      unfold cntT
      omega
    have E2 := Exact.adopt E1 cz hkl
    have F2 := Falls.adopt F1 E1 cz
    have ceq : updG (fun q => cntT L T q + ((kids n).map Int.toNat).count q) k 1 = cntT L' (k :: T) := by
      funext q
      by_cases e : q = k
      · subst e
        rw [updG_at]
        unfold cntT
        rw [hcnt q, hkk, hckL, List.count_cons, hkT]
        simp
      · rw [updG_ne _ _ e]
        unfold cntT
        have : (k == q) = false := by simp; omega
        rw [hcnt q, List.count_cons, this, count_toNat hkid0]
        simp; omega
    rw [ceq] at E2 F2
    have hchk : chX X1 k = (kids n).map Int.toNat := by unfold chX; rw [hrk]
    have hlv : ∀ q, 0 < cntT L' (k :: T) q → q = k ∨ 0 < cntT L T q := by
      intro q hq
      by_cases e : q = k
      · exact Or.inl e
      · refine Or.inr ?_
        rw [← ceq, updG_ne _ _ e] at hq
        rcases Nat.eq_zero_or_pos (((kids n).map Int.toNat).count q) with hz | hz
        · simp only [hz, Nat.add_zero] at hq; exact hq
        · exact hP q (List.count_pos_iff.1 hz)
    have hrd1 : ∀ q : Nat, 0 < cntT L T q → rdN X1 (q : Int) = rdN X (q : Int) := fun q hq => (hEx2.kp q (h.live hq).1).1
    have hch : ∀ q, 0 < cntT L' (k :: T) q → updG (chX X) k ((kids n).map Int.toNat) q = chX X1 q := by
      intro q hq
      rcases hlv q hq with rfl | hq'
      · rw [updG_at, hchk]
      · by_cases e : q = k
        · subst e; rw [updG_at, hchk]
        · rw [updG_ne _ _ e]
          unfold chX
          rw [hrd1 q hq']
    refine ⟨h.nn, hEx2.ok, ?_, ?_, ?_, ?_, ⟨_, Falls.congr F2 hch⟩⟩
    · rw [hln]
      refine Exact.perm (Exact.congr E2 hch) fun p => ?_
      simp only [List.count_append, List.count_cons, List.count_nil]
      omega
    · intro i hi
      by_cases e : i = k
      · subst e; unfold cntT; simp; omega
      · have : (plAt L' i).frsh = (plAt L i).frsh := by
          rw [hat i, hsetat i e]; rfl
        rw [this] at hi
        have h1 := h.nf i hi
        rw [← ceq, updG_ne _ _ e]
        show 0 < cntT L T i + _
        omega
    · intro t ht
      have hs : (plAt L' t).frsh = (plAt M t).frsh := by rw [hat t]; rfl
      rw [hs]
      rcases List.mem_cons.1 ht with rfl | ht
      · rw [hlk]; rfl
      · by_cases e : t = k
        · subst e; rw [hlk]; rfl
        · rw [hsetat t e]; exact h.tf t ht
    · intro q hq
      rcases hlv q hq with rfl | hq'
      · rw [hrk]
      · rw [hrd1 q hq']; exact h.rd q hq'
  · rw [if_neg (by decide)] at em
    refine ⟨X1, L', -1, 72, em, hEx2, hUp, Or.inr (Or.inr rfl), fun e => absurd e (by decide), fun _ hc => ?_, fun e => absurd e (by decide)⟩
    exact absurd (hall fun q => by rw [hset q]; exact hc q) (by decide)
end Go.Proofs.YtmkinaijkgkgiaaGreat
/- Entries are put into nodes, one or two, plain; no condition. -/
namespace Go.Proofs.YtmkinaijkgkgiaaGreat
open Go.RowKit Go.Proofs.U
set_option linter.unusedSimpArgs false
set_option linter.unusedVariables false
/-- What goes into one node each. -/
def partsL (es : List (Int × Int)) : List (List (Int × Int)) := if es.length = 0 then [] else if es.length ≤ 6 then [es] else [es.take (es.length / 2), es.drop (es.length / 2)]
def key0 (es : List (Int × Int)) : Int := (es.headD (0, 0)).1
/-- Nodes are made of parts, one behind the other. -/
def splA (k : Int) : DSt × List Pg → List (Int × Int) → List (List (Int × Int)) → (DSt × List Pg) × List (Int × Int) × Int
  | S, tops, [] => (S, tops, 0)
  | S, tops, p :: ps => if (makeF S.1 S.2 ⟨k, zerB 16, p⟩).2.2 = 0 then splA k (makeF S.1 S.2 ⟨k, zerB 16, p⟩).1 (tops ++ [(key0 p, (makeF S.1 S.2 ⟨k, zerB 16, p⟩).2.1)]) ps
    else ((makeF S.1 S.2 ⟨k, zerB 16, p⟩).1, [], (makeF S.1 S.2 ⟨k, zerB 16, p⟩).2.2)
/-- Split. -/
def splF (S : DSt × List Pg) (k : Int) (es : List (Int × Int)) : (DSt × List Pg) × List (Int × Int) × Int := if 12 < es.length then (S, [], 81) else splA k S [] (partsL es)
theorem splA_cons0 {k : Int} {S S' : DSt × List Pg} {tops : List (Int × Int)} {p : List (Int × Int)} {ps : List (List (Int × Int))} {pg : Int} (h : makeF S.1 S.2 ⟨k, zerB 16, p⟩ = (S', pg, 0)) : splA k S tops (p :: ps) = splA k S' (tops ++ [(key0 p, pg)]) ps := by
  rw [splA, h, if_pos rfl]
theorem splA_cons1 {k : Int} {S S' : DSt × List Pg} {tops : List (Int × Int)} {p : List (Int × Int)} {ps : List (List (Int × Int))} {pg e : Int} (h : makeF S.1 S.2 ⟨k, zerB 16, p⟩ = (S', pg, e)) (he : ¬ e = 0) : splA k S tops (p :: ps) = (S', [], e) := by
  rw [splA, h, if_neg he]
theorem splA_one {k : Int} {S S' : DSt × List Pg} {A : List (Int × Int)} {p : Int} (h : makeF S.1 S.2 ⟨k, zerB 16, A⟩ = (S', p, 0)) : splA k S [] [A] = (S', [(key0 A, p)], 0) := by
  rw [splA_cons0 h, splA]; rfl
theorem splA_two {k : Int} {S S1 S2 : DSt × List Pg} {A B : List (Int × Int)} {p q : Int} (h : makeF S.1 S.2 ⟨k, zerB 16, A⟩ = (S1, p, 0)) (h' : makeF S1.1 S1.2 ⟨k, zerB 16, B⟩ = (S2, q, 0)) : splA k S [] [A, B] = (S2, [(key0 A, p), (key0 B, q)], 0) := by
  rw [splA_cons0 h, splA_cons0 h', splA]; rfl
theorem splA_two1 {k : Int} {S S1 S2 : DSt × List Pg} {A B : List (Int × Int)} {p q e : Int} (h : makeF S.1 S.2 ⟨k, zerB 16, A⟩ = (S1, p, 0)) (h' : makeF S1.1 S1.2 ⟨k, zerB 16, B⟩ = (S2, q, e)) (he : ¬ e = 0) : splA k S [] [A, B] = (S2, [], e) := by
  rw [splA_cons0 h, splA_cons1 h' he]
theorem rises_up : ∀ {es : List (Int × Int)} {last : Int}, KeysUp es → (∀ x ∈ es, last < x.1 ∧ x.1 ≤ 63 ∧ 0 ≤ x.2 ∧ x.2 ≤ 239) → rises last es = true
  | [], _, _, _ => rfl
  | x :: r, last, hu, h => by
    obtain ⟨a, p⟩ := x
    have h0 := h (a, p) (by simp)
    have ih := rises_up (last := a) hu.tail fun y hy => ⟨hu.head y hy, (h y (by simp [hy])).2⟩
    simp only [rises, Bool.and_eq_true, decide_eq_true_eq]
    simp only at h0
    refine ⟨?_, ih⟩
    omega
theorem up_rises : ∀ {es : List (Int × Int)} {last : Int}, rises last es = true → KeysUp es
  | [], _, _ => List.Pairwise.nil
  | x :: r, last, h => by
    obtain ⟨a, p⟩ := x
    simp only [rises, Bool.and_eq_true, decide_eq_true_eq] at h
    refine List.pairwise_cons.2 ⟨fun y hy => ?_, up_rises h.2⟩
    obtain ⟨i, hi, rfl⟩ := List.mem_iff_getElem.1 hy
    exact rises_lt h.2 i hi
theorem nd_right {k : Int} {es : List (Int × Int)} (hk : k = 2 ∨ k = 3) (h1 : 1 ≤ es.length) (h6 : es.length ≤ 6) (hu : KeysUp es) (hr : ∀ x ∈ es, 0 ≤ x.1 ∧ x.1 ≤ 63 ∧ 0 ≤ x.2 ∧ x.2 ≤ 239) : (Nd.mk k (zerB 16) es).right = true := by
  have hne : ¬ k = 1 := by omega
  have hri := rises_up (last := -1) hu fun x hx => ⟨by have := hr x hx; omega, (hr x hx).2⟩
  unfold Nd.right
  rw [if_neg hne]
  simp only [hri, Bool.and_true]
  simp only [Bool.and_eq_true, Bool.or_eq_true, beq_iff_eq, decide_eq_true_eq]
  exact ⟨⟨⟨hk, trivial⟩, h1⟩, h6⟩
/-- A node that was made on a page that was free. -/
structure NewN (X' : DSt) (L : List Pg) (p k : Int) (es : List (Int × Int)) : Prop where
  p0 : 0 ≤ p
  p1 : p ≤ 239
  fr : (plAt L p.toNat).free = true
  rd : rdN X' p = (⟨k, zerB 16, es⟩, 0)
def pgsT (tops : List (Int × Int)) : List Nat := tops.map fun x => x.2.toNat
/-- What comes of Split. -/
structure SplIs (X : DSt) (L : List Pg) (R : List Int) (T : List Nat) (k : Int) (es : List (Int × Int)) (X' : DSt) (L' : List Pg) (tops : List (Int × Int)) : Prop where
  iv : InvT X' L' R (pgsT tops ++ T)
  fr : plFree L ≤ plFree L' + 2
  ct : ∀ q : Nat, cntL L' q = cntL L q + (es.map (·.2)).count (q : Int)
  ways : (es.length ≤ 6 ∧ ∃ p, tops = [(key0 es, p)] ∧ NewN X' L p k es ∧ plFree L ≤ plFree L' + 1) ∨
    (6 < es.length ∧ ∃ p q, tops = [(key0 (es.take (es.length / 2)), p), (key0 (es.drop (es.length / 2)), q)] ∧ NewN X' L p k (es.take (es.length / 2)) ∧ NewN X' L q k (es.drop (es.length / 2)))
theorem split_T {X : DSt} {L : List Pg} {R : List Int} {T : List Nat} {m : Nat} {k : Int} {es : List (Int × Int)} (h : InvT X L R T) (hU : Up X L.length m) (hk : k = 2 ∨ k = 3) (h1 : 1 ≤ es.length) (hl : es.length ≤ 12) (hu : KeysUp es)
    (hr : ∀ x ∈ es, (0 ≤ x.1 ∧ x.1 ≤ 63 ∧ 0 ≤ x.2 ∧ x.2 ≤ 239) ∧ 0 < cntT L T x.2.toNat) :
    ∃ X' L' tops e, splF (X, L) k es = ((X', L'), tops, e) ∧ Ext X L X' L' ∧ Up X' L'.length (m + 2) ∧ (e = 0 ∨ e = 71 ∨ e = 72) ∧ (e = 71 → plFree L < 2 ∧ (es.length ≤ 6 → plFree L = 0)) ∧ (e = 72 → ¬ ∀ q, cntL L q + es.length ≤ 255) ∧ (¬ e = 0 → tops = []) ∧
      (e = 0 → SplIs X L R T k es X' L' tops) := by
  have hkid : ∀ {k : Int} {b : List Int} {l : List (Int × Int)}, kids ⟨k, b, l⟩ = l.map (·.2) := rfl
  unfold splF partsL
  rw [if_neg (by omega), if_neg (by omega)]
  by_cases h6 : es.length ≤ 6
  · rw [if_pos h6]
    obtain ⟨X', L', p, e, em, hx, hup, he, h71, h72, h0⟩ := h.make (n := ⟨k, zerB 16, es⟩) hU (nd_right hk h1 h6 hu fun x hx => (hr x hx).1) ⟨zerB_len 16, zerB_byt 16⟩ (by
      rw [hkid]
      intro x hx
      obtain ⟨y, hy, rfl⟩ := List.mem_map.1 hx
      exact ⟨(hr y hy).1.2.2.1, (hr y hy).2⟩)
    by_cases e0 : e = 0
    · subst e0
      obtain ⟨p0, p1, pf, prd, piv, pfr, pct⟩ := h0 rfl
      refine ⟨X', L', [(key0 es, p)], 0, splA_one em, hx, hup.mono (by omega), Or.inl rfl, fun e => absurd e (by decide), fun e => absurd e (by decide), fun e => absurd rfl e, fun _ => ?_⟩
      exact ⟨piv, by omega, pct, Or.inl ⟨h6, p, rfl, ⟨p0, p1, pf, prd⟩, by omega⟩⟩
    · refine ⟨X', L', [], e, splA_cons1 em e0, hx, hup.mono (by omega), he, fun e => ?_, fun e hc => h72 e fun q => ?_, fun _ => rfl, fun e => absurd e e0⟩
      · have := h71 e; exact ⟨by omega, fun _ => this⟩
      · rw [hkid, List.length_map]; exact hc q
  · rw [if_neg h6]
    have hta : ∀ x ∈ es.take (es.length / 2), x ∈ es := fun x hx => List.mem_of_mem_take hx
    have htb : ∀ x ∈ es.drop (es.length / 2), x ∈ es := fun x hx => List.mem_of_mem_drop hx
    have hua : KeysUp (es.take (es.length / 2)) := List.Pairwise.sublist (List.take_sublist _ _) hu
    have hub : KeysUp (es.drop (es.length / 2)) := List.Pairwise.sublist (List.drop_sublist _ _) hu
    have hla : (es.take (es.length / 2)).length = es.length / 2 := by rw [List.length_take]; omega
    have hlb : (es.drop (es.length / 2)).length = es.length - es.length / 2 := List.length_drop
    have hsum : ∀ q : Int, (es.map (·.2)).count q = ((es.take (es.length / 2)).map (·.2)).count q + ((es.drop (es.length / 2)).map (·.2)).count q := by
      intro q
      conv => lhs; rw [← List.take_append_drop (es.length / 2) es]
      rw [List.map_append, List.count_append]
    generalize hA : es.take (es.length / 2) = A at *
    generalize hB : es.drop (es.length / 2) = B at *
    obtain ⟨X1, L1, p, e, em, hx, hup, he, h71, h72, h0⟩ := h.make (n := ⟨k, zerB 16, A⟩) hU (nd_right hk (by omega) (by omega) hua fun x hx => (hr x (hta x hx)).1) ⟨zerB_len 16, zerB_byt 16⟩ (by
      rw [hkid]
      intro x hx
      obtain ⟨y, hy, rfl⟩ := List.mem_map.1 hx
      exact ⟨(hr y (hta y hy)).1.2.2.1, (hr y (hta y hy)).2⟩)
    by_cases e0 : e = 0
    · subst e0
      obtain ⟨p0, p1, pf, prd, piv, pfr, pct⟩ := h0 rfl
      have hlive : ∀ q, 0 < cntT L T q → 0 < cntT L1 (p.toNat :: T) q := by
        intro q hq
        have := pct q
        unfold cntT at hq ⊢
        rw [List.count_cons]; omega
      obtain ⟨X2, L2, p', e', em', hx', hup', he', h71', h72', h0'⟩ := piv.make (n := ⟨k, zerB 16, B⟩) hup (nd_right hk (by omega) (by omega) hub fun x hx => (hr x (htb x hx)).1) ⟨zerB_len 16, zerB_byt 16⟩ (by
        rw [hkid]
        intro x hx
        obtain ⟨y, hy, rfl⟩ := List.mem_map.1 hx
        exact ⟨(hr y (htb y hy)).1.2.2.1, hlive _ (hr y (htb y hy)).2⟩)
      have hext := hx.trans hx'
      by_cases e0' : e' = 0
      · subst e0'
        obtain ⟨p0', p1', pf', prd', piv', pfr', pct'⟩ := h0' rfl
        refine ⟨X2, L2, [(key0 A, p), (key0 B, p')], 0, splA_two em em', hext, hup', Or.inl rfl, fun e => absurd e (by decide), fun e => absurd e (by decide), fun e => absurd rfl e, fun _ => ?_⟩
        refine ⟨piv'.perm fun q => ?_, by omega, fun q => ?_, Or.inr ⟨by omega, p, p', by rw [hA, hB], ?_, ?_⟩⟩
        · simp only [pgsT, List.map_cons, List.map_nil, List.cons_append, List.nil_append, List.count_cons]; omega
        · rw [pct' q, pct q, hkid, hkid, hsum q]; omega
        · rw [hA]
          have hlp := piv.live (piv.mem (t := p.toNat) (by simp))
          have := (hx'.kp p.toNat hlp.1).1
          rw [Int.toNat_of_nonneg p0] at this
          exact ⟨p0, p1, pf, by rw [this, prd]⟩
        · rw [hB]
          refine ⟨p0', p1', ?_, prd'⟩
          cases hff : (plAt L p'.toNat).free with
          | true => rfl
          | false => have := (hx.kp p'.toNat hff).2.1; rw [pf'] at this; cases this
      · refine ⟨X2, L2, [], e', splA_two1 em em' e0', hext, hup', he', fun e => ?_, fun e hc => h72' e fun q => ?_, fun _ => rfl, fun e => absurd e e0'⟩
        · have := h71' e; exact ⟨by omega, fun h => absurd h (by omega)⟩
        · rw [pct q, hkid, hkid, List.length_map]
          have := hc q
          have : (A.map (·.2)).count (q : Int) ≤ A.length := by have := List.count_le_length (a := (q : Int)) (l := A.map (·.2)); rwa [List.length_map] at this
          omega
    · refine ⟨X1, L1, [], e, splA_cons1 em e0, hx, hup.mono (by omega), he, fun e => ?_, fun e hc => h72 e fun q => ?_, fun _ => rfl, fun e => absurd e e0⟩
      · have := h71 e; exact ⟨by omega, fun h => absurd h (by omega)⟩
      · rw [hkid, List.length_map]
        have := hc q
        omega
end Go.Proofs.YtmkinaijkgkgiaaGreat
