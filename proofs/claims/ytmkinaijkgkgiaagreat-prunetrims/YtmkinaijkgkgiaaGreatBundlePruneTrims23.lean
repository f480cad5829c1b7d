/- Texts UC, UD, TK2, VB, TH0 of the proof of PruneTrims, one behind the other. -/
import Derived.Test.YtmkinaijkgkgiaaGreatBundlePruneTrims1
import Derived.Test.YtmkinaijkgkgiaaGreatBundlePruneTrims2
import Derived.Test.YtmkinaijkgkgiaaGreatBundlePruneTrims3
import Derived.Test.YtmkinaijkgkgiaaGreatBundlePruneTrims4
import Derived.Test.YtmkinaijkgkgiaaGreatBundlePruneTrims5
import Derived.Test.YtmkinaijkgkgiaaGreatBundlePruneTrims6
import Derived.Test.YtmkinaijkgkgiaaGreatBundlePruneTrims7
import Derived.Test.YtmkinaijkgkgiaaGreatBundlePruneTrims8
import Derived.Test.YtmkinaijkgkgiaaGreatBundlePruneTrims9
import Derived.Test.YtmkinaijkgkgiaaGreatBundlePruneTrims10
import Derived.Test.YtmkinaijkgkgiaaGreatBundlePruneTrims11
import Derived.Test.YtmkinaijkgkgiaaGreatBundlePruneTrims12
import Derived.Test.YtmkinaijkgkgiaaGreatBundlePruneTrims13
import Derived.Test.YtmkinaijkgkgiaaGreatBundlePruneTrims14
import Derived.Test.YtmkinaijkgkgiaaGreatBundlePruneTrims15
import Derived.Test.YtmkinaijkgkgiaaGreatBundlePruneTrims16
import Derived.Test.YtmkinaijkgkgiaaGreatBundlePruneTrims17
import Derived.Test.YtmkinaijkgkgiaaGreatBundlePruneTrims18
import Derived.Test.YtmkinaijkgkgiaaGreatBundlePruneTrims19
import Derived.Test.YtmkinaijkgkgiaaGreatBundlePruneTrims20
import Derived.Test.YtmkinaijkgkgiaaGreatBundlePruneTrims21
import Derived.Test.YtmkinaijkgkgiaaGreatBundlePruneTrims22
/- A key cut out below a node's entries: with room it is done, plain; no condition. -/
namespace Go.Proofs.YtmkinaijkgkgiaaGreat
open Go.RowKit Go.Proofs.U
set_option linter.unusedSimpArgs false
set_option linter.unusedVariables false
/-- The child in which a key is. -/
theorem pick_has {X : DSt} {lv : Nat} {es : List (Int × Int)} {lo hi key : Int} (hu : KeysUp es) (h1 : 1 ≤ es.length) (hn : okN X (lv + 1) es lo hi) (hr : rises (-1) es = true) (hk : ∃ z ∈ lsN X (lv + 1) es, z.1 = key) :
    ∃ A c B, es = A ++ c :: B ∧ pickX es key = A.length ∧ okT X lv c.2 c.1 (nxt B hi) ∧ (∀ z ∈ A.flatMap fun x => lsT X lv x.2, ¬ z.1 = key) ∧ (∀ z ∈ B.flatMap fun x => lsT X lv x.2, ¬ z.1 = key) ∧ (∃ z ∈ lsT X lv c.2, z.1 = key) ∧ c.1 ≤ key := by
  obtain ⟨hj, hsp, hca, hcb⟩ := pick_is (key := key) hr h1
  generalize hjj : pickX es key = j at *
  have hln : (es.take j).length = j := by rw [List.length_take]; omega
  refine ⟨es.take j, es[j], es.drop (j + 1), hsp, hln.symm, ?_⟩
  have hC := hn.2
  have hu2 := hu
  have hR := fun y hy => (hn.1 y hy).2
  rw [hsp] at hC hu2
  have hR' : ∀ y ∈ es.take j ++ es[j] :: es.drop (j + 1), y.1 < hi := fun y hy => hR y (by rw [hsp]; exact hy)
  obtain ⟨pa, pc, pb, pf⟩ := row_parts (f := okT X lv) (g := lsT X lv) (fun p a b k => lsT_rng k) hu2 hR' hC
  have hin : ∀ z ∈ lsN X (lv + 1) es, z ∈ ((es.take j).flatMap fun x => lsT X lv x.2) ∨ z ∈ lsT X lv es[j].2 ∨ z ∈ ((es.drop (j + 1)).flatMap fun x => lsT X lv x.2) := fun z hz => by
    have hz : z ∈ (es.flatMap fun x => lsT X lv x.2) := hz
    rw [hsp, List.flatMap_append, List.flatMap_cons, List.mem_append, List.mem_append] at hz
    exact hz
  have hB : ∀ z ∈ ((es.drop (j + 1)).flatMap fun x => lsT X lv x.2), key < z.1 := fun z hz => by
    have h3 := pb z hz
    cases hd : es.drop (j + 1) with
    | nil => rw [hd] at hz; simp at hz
    | cons y r =>
      rw [hd] at h3
      have := hcb y (by rw [hd]; simp)
      simp only [nxt] at h3
      omega
  have hA : ∀ z ∈ ((es.take j).flatMap fun x => lsT X lv x.2), z.1 < key := fun z hz => by
    have h3 := pa z hz
    have hne : es.take j ≠ [] := by intro e; rw [e] at hz; simp at hz
    have := hca hne
    omega
  obtain ⟨z, hz, hzk⟩ := hk
  have hzc : z ∈ lsT X lv es[j].2 := by
    rcases hin z hz with h | h | h
    · have := hA z h; omega
    · exact h
    · have := hB z h; omega
  exact ⟨pf, fun w hw => by have := hA w hw; omega, fun w hw => by have := hB w hw; omega, ⟨z, hzc, hzk⟩, by have := pc z hzc; omega⟩
theorem cutA_some {n : Nat} {t : Tr (n + 1)} {k : Int} {c : Int × Tr n} {c' : Tr n} (h1 : (show List (Int × Tr n) from t)[pickG (α := Tr n) t k]? = some c) (h2 : cutA n c.2 k = some c') : cutA (n + 1) t k = some (rowA c' (List.take (pickG (α := Tr n) t k) (show List (Int × Tr n) from t)) (List.drop (pickG (α := Tr n) t k + 1) (show List (Int × Tr n) from t))) := by
  unfold cutA
  simp only
  rw [h1]
  simp only
  rw [h2]
  rfl
theorem splF_ok {S : DSt × List Pg} {k : Int} {es : List (Int × Int)} {S' : DSt × List Pg} {t : Int × Int} (h : splF S k es = (S', [t], 0)) : (splF S k es).1 = S' ∧ (splF S k es).2.1 = [t] ∧ (splF S k es).2.2 = 0 := by rw [h]; exact ⟨rfl, rfl, rfl⟩
theorem wio_ok {X : DSt} {L : List Pg} {R : List Int} {T : List Nat} (hI : InvT X L R T) (key : Int) : ∀ (lv : Nat) {m : Nat} {es : List (Int × Int)} {lo hi : Int}, Up X L.length m → KeysUp es → 1 ≤ es.length → okN X lv es lo hi → (∀ x ∈ es, (0 ≤ x.1 ∧ x.1 ≤ 63 ∧ 0 ≤ x.2 ∧ x.2 ≤ 239) ∧ 0 < cntT L T x.2.toNat) → 0 ≤ lo → hi ≤ 64 →
    (∃ z ∈ lsN X lv es, z.1 = key) → lv ≤ plFree L → (∀ q, cntL L q + 6 * lv ≤ 255) →
    ∃ X' L' es' M, wioF X L lv es key = ((X', L'), es', 0) ∧ Up X' L'.length (m + 2 * lv) ∧ WioIs X L R T lv es lo hi key X' L' es' M
  | 0, m, es, lo, hi, hU, hu, h1, hn, hlive, hlo, hhi, hk, hf, hc => by
    obtain ⟨z, hz, hzk⟩ := hk
    have hz : z ∈ es := hz
    have hlt : (cutL es key).length < es.length := by
      unfold cutL
      rcases Nat.lt_or_ge (es.filter fun z => !(z.1 == key)).length es.length with q | q
      · exact q
      · have h2 := List.length_filter_le (fun z : Int × Int => !(z.1 == key)) es
        have h3 := List.length_filter_eq_length_iff.1 (Nat.le_antisymm h2 q) z hz
        simp [hzk] at h3
    have hm : ∀ x ∈ cutL es key, x ∈ es := fun x hx => (mem_cutL.1 hx).1
    refine ⟨X, L, cutL es key, [], rfl, hU.mono (by omega), Ext.refl hI.ok, by simpa using hI, by simp, by simp, cutL_up hu key, fun x hx => hn x (hm x hx), rfl, fun x hx => hlive x (hm x hx), ⟨by omega, by have := cutL_one hu key hlt; omega⟩, by omega, fun q => by omega, ?_⟩
    unfold cutA
    rw [if_pos (show (cutL (absN X 0 es) key).length < List.length (α := Int × Int) (absN X 0 es) from hlt)]
    rfl
  | lv + 1, m, es, lo, hi, hU, hu, h1, hn, hlive, hlo, hhi, hk, hf, hc => by
    have hri : rises (-1) es = true := rises_up hu fun x hx => ⟨by have := hlive x hx; omega, by have := hlive x hx; omega⟩
    obtain ⟨A, c, B, hes, hpk, hok, hkA, hkB, hkc, hck⟩ := pick_has hu h1 hn hri hk
    have hcm : c ∈ es := by rw [hes]; simp
    have hgd : es.getD A.length (0, 0) = c := getD_at hes
    have hcl := hlive c hcm
    have hrngc := hn.1 c hcm
    have hCr := hn.2
    have hu0 := hu
    rw [hes] at hCr hu0
    have hR' : ∀ y ∈ A ++ c :: B, y.1 < hi := fun y hy => (hn.1 y (by rw [hes]; exact hy)).2
    obtain ⟨uA, uB, hAc, hcB, hAB⟩ := hu0.split
    obtain ⟨ca, ccb⟩ := (okC_app _ A (c :: B) hi).1 hCr
    obtain ⟨_, cb⟩ := (okC_app _ [c] B hi).1 ccb
    have hnxt : nxt B hi ≤ hi ∧ c.1 < nxt B hi := by
      cases B with
      | nil => exact ⟨Int.le_refl _, hrngc.2⟩
      | cons y r => exact ⟨by have := hR' y (by simp); simp only [nxt]; omega, by have := hcB y (by simp); simp only [nxt]; omega⟩
    obtain ⟨cu, c1, c6, cr⟩ := hok.es
    have ckid : ∀ y ∈ es, ∀ x ∈ esX X y.2, 0 < cntT L T x.2.toNat := fun y hy x hx => (hI.kid (hlive y hy).1.2.2.1 (hlive y hy).2 x.2 (by unfold kids; exact List.mem_map_of_mem hx)).2.2
    obtain ⟨X1, L1, c', M1, ew, hU1, s⟩ := wio_ok hI key lv (es := esX X c.2) (lo := c.1) (hi := nxt B hi) hU cu c1 hok.n (fun x hx => ⟨cr x hx, ckid c hcm x hx⟩) (by omega) (by omega) (by rw [← lsT_N]; exact hkc) (by omega) (fun q => by have := hc q; omega)
    have hmono : ∀ q : Nat, 0 < cntT L T q → 0 < cntT L1 (M1 ++ T) q := fun q hq => by
      have := (s.ext.kp q (hI.live hq).1).2.2
      unfold cntT at hq ⊢
      rw [List.count_append]; omega
    have nb : ∀ y ∈ es, ∀ a b, okT X lv y.2 a b → okN X1 lv (esX X1 y.2) a b ∧ KeysUp (esX X1 y.2) ∧ lsN X1 lv (esX X1 y.2) = lsT X lv y.2 ∧ absN X1 lv (esX X1 y.2) = absT X lv y.2 ∧ szX X1 y.2 = szX X y.2 ∧ ∀ x ∈ esX X1 y.2, (0 ≤ x.1 ∧ x.1 ≤ 63 ∧ 0 ≤ x.2 ∧ x.2 ≤ 239) ∧ 0 < cntT L1 (M1 ++ T) x.2.toNat := fun y hy a b k => by
      have hl := hlive y hy
      obtain ⟨k1, k2, _⟩ := okT.ext hI s.ext k hl.1.2.2.1 hl.2
      have e : esX X1 y.2 = esX X y.2 := by unfold esX; rw [rdN_ext hI s.ext hl.1.2.2.1 hl.2]
      refine ⟨k1.n, k1.es.1, by rw [← lsT_N]; exact k2, by rw [← absT_N]; exact absT.ext hI s.ext k hl.1.2.2.1 hl.2, by unfold szX; rw [e], fun x hx => ⟨k1.es.2.2.2 x hx, ?_⟩⟩
      rw [e] at hx
      exact hmono _ (ckid y hy x hx)
    have eab : cutA (lv + 1) (absN X (lv + 1) es) key = some (rowA (absN X1 lv c') (absL X lv A) (absL X lv B)) := by
      have hab : cutA lv (absT X lv c.2) key = some (absN X1 lv c') := by rw [absT_N]; exact s.ab
      have g0 : absN X (lv + 1) es = absL X lv es := rfl
      have g1 : (absL X lv es)[A.length]? = some (c.1, absT X lv c.2) := by
        unfold absL
        rw [List.getElem?_map, hes]
        simp
      have t1 : (absL X lv es).take A.length = absL X lv A := by unfold absL; rw [← List.map_take, hes]; simp
      have t2 : (absL X lv es).drop (A.length + 1) = absL X lv B := by unfold absL; rw [← List.map_drop, hes]; simp [List.drop_append]
      have hpg : pickG (absL X lv es) key = A.length := by rw [← pickX_G, hpk]
      rw [← hpg] at g1 t1 t2
      have := cutA_some (t := absL X lv es) g1 hab
      rw [g0, this]
      exact congrArg some (by rw [t1, t2])
    have hfr1 : 1 ≤ plFree L1 := by have := s.fr; omega
    have hct1 : ∀ q, cntL L1 q + 6 ≤ 255 := fun q => by have := s.ct q; have := hc q; omega
    have hw : wioF X L (lv + 1) es key = placeF (X1, L1) (kdL lv) es A.length c' := by
      unfold wioF
      rw [hpk, hgd, ew]
      exact if_pos rfl
    rw [hw]
    have hcl6 : c'.length ≤ 6 := by have := s.ln; omega
    by_cases hc0 : c'.length = 0
    · have hcn : c' = [] := List.eq_nil_of_length_eq_zero hc0
      have hM : M1 = [] := by
        cases M1 with
        | nil => rfl
        | cons t M =>
          obtain ⟨x, hx, _⟩ := s.ms t (by simp)
          rw [hcn] at hx; cases hx
      subst hM
      have hdr : dropAt es A.length = A ++ B := by unfold dropAt; rw [hes]; simp [List.drop_append]
      have hp : placeF (X1, L1) (kdL lv) es A.length c' = ((X1, L1), A ++ B, 0) := by unfold placeF; rw [if_pos hc0, hdr]
      have hsub : ∀ x ∈ A ++ B, x ∈ es := fun x hx => by
        rw [hes]
        rcases List.mem_append.1 hx with q | q
        · exact List.mem_append_left _ q
        · exact List.mem_append_right _ (List.mem_cons_of_mem _ q)
      have hlc : cutL (lsT X lv c.2) key = [] := by
        have := s.ls
        rw [hcn, ← lsT_N] at this
        rw [← this]
        cases lv <;> rfl
      have ext_ok : ∀ x ∈ es, ∀ w, okT X lv x.2 x.1 w → okT X1 lv x.2 x.1 w := fun x hx w hw => (okT.ext hI s.ext hw (hlive x hx).1.2.2.1 (hlive x hx).2).1
      have ext_ls : ∀ l hi', okC (okT X lv) l hi' → (∀ x ∈ l, x ∈ es) → (l.flatMap fun x => lsT X1 lv x.2) = l.flatMap fun x => lsT X lv x.2 := fun l hi' k hl => flatMap_congr fun x hx => by
        obtain ⟨w, hw⟩ := okC_mem k x hx
        exact (okT.ext hI s.ext hw (hlive x (hl x hx)).1.2.2.1 (hlive x (hl x hx)).2).2.1
      have hA : ∀ x ∈ A, x ∈ es := fun x hx => hsub x (List.mem_append_left _ hx)
      have hB : ∀ x ∈ B, x ∈ es := fun x hx => hsub x (List.mem_append_right _ hx)
      refine ⟨X1, L1, A ++ B, [], hp, hU1.mono (by omega), s.ext, s.iv, by simp, by simp, KeysUp.app uA uB hAB, ⟨fun x hx => hn.1 x (hsub x hx), (okC_app _ A B hi).2 ⟨?_, okC_mono (fun x hx w hw => ext_ok x (hB x hx) w hw) cb⟩⟩, ?_, fun x hx => ⟨(hlive x (hsub x hx)).1, hmono _ (hlive x (hsub x hx)).2⟩, ?_, by have := s.fr; omega, fun q => by have := s.ct q; omega, ?_⟩
      · refine okC_hi (f := okT X1 lv) (fun p a b c k hbc => okT_mono k (Int.le_refl a) hbc) (hi := c.1) (by omega) (okC_mono (fun x hx w hw => ext_ok x (hA x hx) w hw) ca)
      · show ((A ++ B).flatMap fun x => lsT X1 lv x.2) = cutL (es.flatMap fun x => lsT X lv x.2) key
        rw [hes, List.flatMap_append, List.flatMap_append, List.flatMap_cons, cutL_mid hkA hkB, hlc, ext_ls A _ ca hA, ext_ls B _ cb hB]
        rfl
      · rw [hes]
        simp only [List.length_append, List.length_cons]
        omega
      · rw [eab, rowA_none (by rw [len_abN]; exact hc0)]
        congr 1
        show _ = absL X1 lv (A ++ B)
        have : absL X1 lv (A ++ B) = absL X1 lv A ++ absL X1 lv B := List.map_append
        rw [this, absL.ext hI s.ext (es := A) fun y hy => by
          obtain ⟨w, hw⟩ := okC_mem ca y hy
          exact ⟨⟨_, _, hw⟩, (hlive y (hA y hy)).1.2.2.1, (hlive y (hA y hy)).2⟩, absL.ext hI s.ext (es := B) fun y hy => by
          obtain ⟨w, hw⟩ := okC_mem cb y hy
          exact ⟨⟨_, _, hw⟩, (hlive y (hB y hy)).1.2.2.1, (hlive y (hB y hy)).2⟩]
    · have hcne : ¬ lenTr lv (absN X1 lv c') = 0 := by rw [len_abN]; exact hc0
      have hp : placeF (X1, L1) (kdL lv) es A.length c' = ((splF (X1, L1) (kdL lv) (joinF X1 es A.length (besF X1 es A.length c'.length) c')).1, es.take (min A.length (besF X1 es A.length c'.length)) ++ ((splF (X1, L1) (kdL lv) (joinF X1 es A.length (besF X1 es A.length c'.length) c')).2.1 ++ es.drop (max A.length (besF X1 es A.length c'.length) + 1)), (splF (X1, L1) (kdL lv) (joinF X1 es A.length (besF X1 es A.length c'.length) c')).2.2) := by
        unfold placeF; rw [if_neg hc0]
      rw [hp]
      have hcl' : lsN X1 lv c' = cutL (lsT X lv c.2) key := by rw [s.ls, ← lsT_N]
      rcases bes_cases X1 A B c c' with ⟨A', a, hA, h6, hb, hlt, hj, ht, hd⟩ | ⟨hA, b, B', hB, h6, hb, hj, ht, hd⟩ | ⟨hA, hB, hb, hj, ht, hd⟩
      · rw [← hes] at hj ht hd
        have hes2 : es = A' ++ ([a, c] ++ B) := by rw [hes, hA]; simp
        have ham : a ∈ es := by rw [hes2]; simp
        have hca2 : okT X lv a.2 a.1 c.1 := by
          rw [hA] at ca
          exact ((okC_app _ A' [a] c.1).1 ca).2
        obtain ⟨n1, n2, n3, n4, n5, n6⟩ := nb a ham _ _ hca2
        have hac : a.1 < c.1 := hAc a (by rw [hA]; simp)
        have hka : ∀ z ∈ lsT X lv a.2, ¬ z.1 = key := fun z hz => hkA z (by rw [hA, List.flatMap_append]; simp [hz])
        obtain ⟨X2, L2, t, hs, hU2, g⟩ := seg_ok (A := A') (S := [a, c]) (B := B) (es2 := esX X1 a.2 ++ c') hI s.ext s.iv hU1 (by simp) (by rw [← hes2]; exact hu) (by rw [← hes2]; exact hn) (by rw [← hes2]; exact hlive) hlo hhi
          (fun z hz => hkA z (by rw [hA, List.flatMap_append]; exact List.mem_append_left _ hz)) hkB (up_join n2 s.up n1 s.ok) (okN_join n1 s.ok (by show a.1 ≤ c.1; omega) (by omega))
          (by
            rw [lsN_app, n3, hcl']
            simp only [List.flatMap_cons, List.flatMap_nil, List.append_nil]
            rw [cutL_app, cutL_none hka]) (by rw [List.length_append]; omega) (by rw [List.length_append]; exact h6)
          (fun x hx => by rcases List.mem_append.1 hx with q | q; · exact n6 x q
                          · exact s.mem x q)
          (fun t ht => by obtain ⟨x, hx, e⟩ := s.ms t ht; exact ⟨x, List.mem_append_right _ hx, e⟩) hfr1 hct1
        obtain ⟨s1, s2, s3⟩ := splF_ok hs
        refine ⟨X2, L2, A' ++ t :: B, [t.2.toNat], by rw [hj, ht, hd, s1, s2, s3]; rfl, hU2.mono (by omega), s.ext.trans g.ext, g.iv, fun q hq => ⟨t, by simp, (List.mem_singleton.1 hq).symm⟩, by simp, g.up, g.ok, by rw [hes2]; exact g.ls, g.mem, ?_, by have := g.fr; have := s.fr; omega, fun q => by have := g.ct q; have := s.ct q; omega, ?_⟩
        · rw [hes2]; simp only [List.length_append, List.length_cons, List.length_nil]; omega
        · rw [eab, hA]
          have e2 : absL X lv (A' ++ [a]) = absL X lv A' ++ [(a.1, absT X lv a.2)] := by unfold absL; rw [List.map_append]; rfl
          rw [e2, rowA_left hcne (a := (a.1, absT X lv a.2)) (by rw [len_abN, len_abT, ← n5]; exact h6)]
          congr 1
          show _ = absL X2 lv (A' ++ t :: B)
          rw [g.ab, ab_app, n4]
      · rw [← hes] at hj ht hd
        have hes2 : es = A ++ ([c, b] ++ B') := by rw [hes, hB]; simp
        have hbm : b ∈ es := by rw [hes2]; simp
        have hcb2 : okT X lv b.2 b.1 (nxt B' hi) := by
          rw [hB] at cb
          exact ((okC_app _ [b] B' hi).1 cb).1
        obtain ⟨n1, n2, n3, n4, n5, n6⟩ := nb b hbm _ _ hcb2
        have hnb : nxt B hi = b.1 := by rw [hB]; rfl
        have sok := s.ok
        rw [hnb] at sok
        have hbn : b.1 ≤ nxt B' hi := by
          rw [hB] at uB
          cases B' with
          | nil => have := hR' b (by rw [hB]; simp); simp only [nxt]; omega
          | cons y r => have := uB.head y (by simp); simp only [nxt]; omega
        have hkb : ∀ z ∈ lsT X lv b.2, ¬ z.1 = key := fun z hz => hkB z (by rw [hB, List.flatMap_cons]; exact List.mem_append_left _ hz)
        obtain ⟨X2, L2, t, hs, hU2, g⟩ := seg_ok (A := A) (S := [c, b]) (B := B') (es2 := c' ++ esX X1 b.2) hI s.ext s.iv hU1 (by simp) (by rw [← hes2]; exact hu) (by rw [← hes2]; exact hn) (by rw [← hes2]; exact hlive) hlo hhi
          hkA (fun z hz => hkB z (by rw [hB, List.flatMap_cons]; exact List.mem_append_right _ hz)) (up_join s.up n2 sok n1) (okN_join sok n1 (by show c.1 ≤ b.1; omega) hbn)
          (by
            rw [lsN_app, n3, hcl']
            simp only [List.flatMap_cons, List.flatMap_nil, List.append_nil]
            rw [cutL_app, cutL_none hkb]) (by rw [List.length_append]; omega) (by rw [List.length_append]; have : (esX X1 b.2).length = szX X1 b.2 := rfl; omega)
          (fun x hx => by rcases List.mem_append.1 hx with q | q; · exact s.mem x q
                          · exact n6 x q)
          (fun t ht => by obtain ⟨x, hx, e⟩ := s.ms t ht; exact ⟨x, List.mem_append_left _ hx, e⟩) hfr1 hct1
        obtain ⟨s1, s2, s3⟩ := splF_ok hs
        refine ⟨X2, L2, A ++ t :: B', [t.2.toNat], by rw [hj, ht, hd, s1, s2, s3]; rfl, hU2.mono (by omega), s.ext.trans g.ext, g.iv, fun q hq => ⟨t, by simp, (List.mem_singleton.1 hq).symm⟩, by simp, g.up, g.ok, by rw [hes2]; exact g.ls, g.mem, ?_, by have := g.fr; have := s.fr; omega, fun q => by have := g.ct q; have := s.ct q; omega, ?_⟩
        · rw [hes2]; simp only [List.length_append, List.length_cons, List.length_nil]; omega
        · rw [eab]
          have hA2 : absL X lv A = [] ∨ ∃ A' a, absL X lv A = A' ++ [a] ∧ ¬ lenTr lv a.2 + lenTr lv (absN X1 lv c') ≤ 6 := by
            rcases hA with e | ⟨A', a, e, hn6⟩
            · exact Or.inl (by rw [e]; rfl)
            · refine Or.inr ⟨absL X lv A', (a.1, absT X lv a.2), by rw [e]; unfold absL; rw [List.map_append]; rfl, ?_⟩
              have ham : a ∈ es := by rw [hes, e]; simp
              obtain ⟨w, hw⟩ := okC_mem hn.2 a ham
              rw [len_abN, len_abT, ← (nb a ham _ _ hw).2.2.2.2.1]
              exact hn6
          rw [rowA_right hcne hA2, hB]
          have e2 : absL X lv (b :: B') = (b.1, absT X lv b.2) :: absL X lv B' := rfl
          rw [e2, joinB_cons, if_pos (by rw [len_abN, len_abT, ← n5]; omega)]
          congr 1
          show _ = absL X2 lv (A ++ t :: B')
          rw [g.ab, ab_app, n4]
      · rw [← hes] at hj ht hd
        have hes2 : es = A ++ ([c] ++ B) := by rw [hes]; simp
        obtain ⟨X2, L2, t, hs, hU2, g⟩ := seg_ok (A := A) (S := [c]) (B := B) (es2 := c') hI s.ext s.iv hU1 (by simp) (by rw [← hes2]; exact hu) (by rw [← hes2]; exact hn) (by rw [← hes2]; exact hlive) hlo hhi
          hkA hkB s.up s.ok
          (by
            rw [hcl']
            simp only [List.flatMap_cons, List.flatMap_nil, List.append_nil]) (by omega) hcl6
          s.mem s.ms hfr1 hct1
        obtain ⟨s1, s2, s3⟩ := splF_ok hs
        refine ⟨X2, L2, A ++ t :: B, [t.2.toNat], by rw [hj, ht, hd, s1, s2, s3]; rfl, hU2.mono (by omega), s.ext.trans g.ext, g.iv, fun q hq => ⟨t, by simp, (List.mem_singleton.1 hq).symm⟩, by simp, g.up, g.ok, by rw [hes2]; exact g.ls, g.mem, ?_, by have := g.fr; have := s.fr; omega, fun q => by have := g.ct q; have := s.ct q; omega, ?_⟩
        · rw [hes2]; simp only [List.length_append, List.length_cons, List.length_nil]; omega
        · rw [eab]
          have hA2 : absL X lv A = [] ∨ ∃ A' a, absL X lv A = A' ++ [a] ∧ ¬ lenTr lv a.2 + lenTr lv (absN X1 lv c') ≤ 6 := by
            rcases hA with e | ⟨A', a, e, hn6⟩
            · exact Or.inl (by rw [e]; rfl)
            · refine Or.inr ⟨absL X lv A', (a.1, absT X lv a.2), by rw [e]; unfold absL; rw [List.map_append]; rfl, ?_⟩
              have ham : a ∈ es := by rw [hes, e]; simp
              obtain ⟨w, hw⟩ := okC_mem hn.2 a ham
              rw [len_abN, len_abT, ← (nb a ham _ _ hw).2.2.2.2.1]
              exact hn6
          rw [rowA_right hcne hA2]
          have e3 : joinB (absN X1 lv c') (absL X lv B) = nodA (absN X1 lv c') :: absL X lv B := by
            rcases hB with e | ⟨b, B', e, hn6⟩
            · rw [e]; rfl
            · have hbm : b ∈ es := by rw [hes, e]; simp
              obtain ⟨w, hw⟩ := okC_mem hn.2 b hbm
              have e2 : absL X lv (b :: B') = (b.1, absT X lv b.2) :: absL X lv B' := rfl
              rw [e, e2, joinB_cons, if_neg (by rw [len_abN, len_abT, ← (nb b hbm _ _ hw).2.2.2.2.1]; omega)]
          rw [e3]
          congr 1
          show _ = absL X2 lv (A ++ t :: B)
          rw [g.ab]
end Go.Proofs.YtmkinaijkgkgiaaGreat
/- A key cut out of a tree: the root; plain; no condition. -/
namespace Go.Proofs.YtmkinaijkgkgiaaGreat
open Go.RowKit Go.Proofs.U
set_option linter.unusedSimpArgs false
set_option linter.unusedVariables false
/-- What is made of a root's entries. -/
def topF (lv : Nat) (r : (DSt × List Pg) × List (Int × Int) × Int) : (DSt × List Pg) × Int × Int :=
  if r.2.2 = 0 then
    (if 0 < lv ∧ r.2.1.length = 1 then (r.1, (r.2.1.getD 0 (0, 0)).2, 0) else
      ((splF r.1 (kdL lv) r.2.1).1, (if (splF r.1 (kdL lv) r.2.1).2.1.length = 0 then -1 else ((splF r.1 (kdL lv) r.2.1).2.1.getD 0 (0, 0)).2), (splF r.1 (kdL lv) r.2.1).2.2))
  else (r.1, -1, r.2.2)
/-- Cut of a tree in which the key is. -/
def cutF (X : DSt) (L : List Pg) : Nat → Int → Int → (DSt × List Pg) × Int × Int
  | 0, p, key => topF 0 (wioF X L 0 (esX X p) key)
  | lv + 1, p, key => if szX X p = 1 then cutF X L lv ((esX X p).getD 0 (0, 0)).2 key else topF (lv + 1) (wioF X L (lv + 1) (esX X p) key)
/-- .. of a tree without pages. -/
def topA (n : Nat) (t : List (Int × Tr n)) : Option ((n : Nat) × Tr n) := match t with
  | [c] => some ⟨n, c.2⟩
  | t => some ⟨n + 1, t⟩
def cutW : (lv : Nat) → Tr lv → Int → Option ((n : Nat) × Tr n)
  | 0, t, k => if (cutL t k).length = 0 then none else some ⟨0, cutL t k⟩
  | n + 1, t, k =>
    let u : List (Int × Tr n) := t
    match u with
    | [c] => cutW n c.2 k
    | _ => match cutA (n + 1) t k with
      | some t' => topA n t'
      | none => none
theorem cutW_sole {n : Nat} {c : Int × Tr n} {k : Int} : cutW (n + 1) (show Tr (n + 1) from [c]) k = cutW n c.2 k := rfl
theorem cutW_more {n : Nat} {t : Tr (n + 1)} {k : Int} (h : ¬ lenTr (n + 1) t = 1) {t' : Tr (n + 1)} (hc : cutA (n + 1) t k = some t') : cutW (n + 1) t k = topA n t' := by
  have h : ¬ List.length (α := Int × Tr n) t = 1 := h
  unfold cutW
  match t, h, hc with
  | [], _, hc => simp only; rw [hc]
  | [c], h, _ => exact absurd rfl h
  | c :: d :: r, _, hc => simp only; rw [hc]
theorem topA_more {n : Nat} {t : List (Int × Tr n)} (h : ¬ t.length = 1) : topA n t = some ⟨n + 1, t⟩ := by
  unfold topA
  match t, h with
  | [], _ => rfl
  | [c], h => exact absurd rfl h
  | c :: d :: r, _ => rfl
/-- What comes of Cut of a key that is there. -/
structure CutR (X : DSt) (L : List Pg) (R : List Int) (T : List Nat) (lv : Nat) (p key : Int) (X' : DSt) (L' : List Pg) (p' : Int) : Prop where
  ext : Ext X L X' L'
  fr : plFree L ≤ plFree L' + (lv + 1)
  ct : ∀ q, cntL L' q ≤ cntL L q + (6 * lv + 6)
  ways : (p' = -1 ∧ cutL (lsT X lv p) key = [] ∧ InvT X' L' R T ∧ cutW lv (absT X lv p) key = none) ∨
    (0 ≤ p' ∧ ∃ lv', lv' ≤ lv ∧ okT X' lv' p' 0 64 ∧ lsT X' lv' p' = cutL (lsT X lv p) key ∧ cutW lv (absT X lv p) key = some ⟨lv', absT X' lv' p'⟩ ∧ (InvT X' L' R (p'.toNat :: T) ∨ (InvT X' L' R T ∧ 0 < cntT L' T p'.toNat)))
theorem cut_ok {X : DSt} {L : List Pg} {R : List Int} {T : List Nat} (hI : InvT X L R T) (key : Int) : ∀ (lv : Nat) {m : Nat} {p : Int}, Up X L.length m → okT X lv p 0 64 → 0 ≤ p → 0 < cntT L T p.toNat → (∃ z ∈ lsT X lv p, z.1 = key) → lv + 1 ≤ plFree L → (∀ q, cntL L q + (6 * lv + 6) ≤ 255) →
    ∃ X' L' p', cutF X L lv p key = ((X', L'), p', 0) ∧ Up X' L'.length (m + 2 * lv + 2) ∧ CutR X L R T lv p key X' L' p'
  | lv, m, p, hU, hok, h0, hp, hk, hf, hc => by
    have key1 : ∀ lv, okT X lv p 0 64 → (∃ z ∈ lsT X lv p, z.1 = key) → lv + 1 ≤ plFree L → (∀ q, cntL L q + (6 * lv + 6) ≤ 255) → ∃ X1 L1 es' M, wioF X L lv (esX X p) key = ((X1, L1), es', 0) ∧ Up X1 L1.length (m + 2 * lv) ∧ WioIs X L R T lv (esX X p) 0 64 key X1 L1 es' M := fun lv hok hk hf hc => by
      obtain ⟨eu, e1, e6, er⟩ := hok.es
      exact wio_ok hI key lv hU eu e1 hok.n (fun x hx => ⟨er x hx, (hI.kid h0 hp x.2 (by unfold kids; exact List.mem_map_of_mem hx)).2.2⟩) (by omega) (by omega) (by rw [← lsT_N]; exact hk) (by omega) (fun q => by have := hc q; omega)
    -- a root with so many entries as one node
    have key2 : ∀ lv {X1 : DSt} {L1 : List Pg} {es' : List (Int × Int)} {M : List Nat}, okT X lv p 0 64 → lv + 1 ≤ plFree L → (∀ q, cntL L q + (6 * lv + 6) ≤ 255) → wioF X L lv (esX X p) key = ((X1, L1), es', 0) → Up X1 L1.length (m + 2 * lv) → WioIs X L R T lv (esX X p) 0 64 key X1 L1 es' M → 1 ≤ es'.length → ¬ (0 < lv ∧ es'.length = 1) →
        ∃ X' L' p', topF lv (wioF X L lv (esX X p) key) = ((X', L'), p', 0) ∧ Up X' L'.length (m + 2 * lv + 2) ∧ Ext X L X' L' ∧ plFree L ≤ plFree L' + (lv + 1) ∧ (∀ q, cntL L' q ≤ cntL L q + (6 * lv + 6)) ∧ 0 ≤ p' ∧ okT X' lv p' 0 64 ∧ lsT X' lv p' = cutL (lsT X lv p) key ∧ absT X' lv p' = absN X1 lv es' ∧ InvT X' L' R (p'.toNat :: T) := fun lv {X1} {L1} {es'} {M} hok hf hc ew hU1 s h1 hns => by
      obtain ⟨eu, e1, e6, er⟩ := hok.es
      have hl6 : es'.length ≤ 6 := by have := s.ln; omega
      obtain ⟨X2, L2, tops, e, es, hx2, hup, he, h71, h72, hno, hys⟩ := split_T (k := kdL lv) s.iv hU1 (by unfold kdL; split <;> simp) h1 (by omega) s.up s.mem
      have e0 : e = 0 := by
        rcases he with q | q | q
        · exact q
        · have := (h71 q).2 hl6; have := s.fr; omega
        · exact absurd (fun x => by have := s.ct x; have := hc x; omega) (h72 q)
      subst e0
      have sp := hys rfl
      have w := split_row (lv := lv) s.iv hx2 sp s.up s.ok h1 (by omega) (fun _ x hx => ⟨(s.mem x hx).1.2.2.1, (s.mem x hx).2⟩)
      have ab := split_ab (lv := lv) s.iv hx2 sp (fun x hx q => by
        obtain ⟨a, b, k⟩ := okN_kid s.ok x hx q
        exact ⟨⟨a, b, k⟩, (s.mem x hx).1.2.2.1, (s.mem x hx).2⟩)
      rcases w.sz with ⟨t, rfl, hsz, _⟩ | ⟨_, _, _, h7, _⟩
      · have htp := w.pg t (by simp)
        have ht := w.ok.1 t (by simp)
        refine ⟨X2, L2, t.2, ?_, hup.mono (by omega), s.ext.trans hx2, ?_, fun q => ?_, htp.1, okT_mono w.ok.2 ht.1 (Int.le_refl _), ?_, ?_, ?_⟩
        · unfold topF
          rw [ew]
          simp only
          rw [if_neg hns, es]
          simp
        · have := s.fr
          rcases sp.ways with ⟨_, p, _, _, hfr⟩ | ⟨h6, _⟩
          · omega
          · omega
        · rw [sp.ct q]
          have := cnt_le es' (q : Int)
          have := s.ct q
          omega
        · have hw : ([t].flatMap fun x => lsT X2 lv x.2) = lsN X1 lv es' := w.ls
          simp only [List.flatMap_cons, List.flatMap_nil, List.append_nil] at hw
          rw [hw, s.ls, ← lsT_N]
        · rw [spl_one (by rw [len_abN]; exact hl6)] at ab
          unfold absL nodA at ab
          simp only [List.map_cons, List.map_nil, List.cons.injEq, Prod.mk.injEq, and_true] at ab
          exact ab.2
        · refine InvT.lessL (S := M) (T := t.2.toNat :: T) ?_ fun q hq => ?_
          · have := InvT.swap sp.iv
            exact this
          · obtain ⟨x, hx, rfl⟩ := s.ms q hq
            rw [sp.ct x.2.toNat]
            have hp0 := (s.mem x hx).1.2.2.1
            have : 0 < (es'.map (·.2)).count ((x.2.toNat : Nat) : Int) := List.count_pos_iff.2 (by
              rw [Int.toNat_of_nonneg hp0]
              exact List.mem_map_of_mem (f := fun x : Int × Int => x.2) hx)
            omega
      · omega
    cases lv with
    | zero =>
      obtain ⟨X1, L1, es', M, ew, hU1, s⟩ := key1 0 hok hk hf hc
      have hls : es' = cutL (lsT X 0 p) key := s.ls
      by_cases h1 : 1 ≤ es'.length
      · obtain ⟨X', L', p', et, hup, hx, hfr, hct, hp', hok', hls', hab', hiv'⟩ := key2 0 hok hf hc ew hU1 s h1 (by omega)
        refine ⟨X', L', p', ?_, hup, hx, hfr, hct, Or.inr ⟨hp', 0, Nat.le_refl _, hok', hls', ?_, Or.inl hiv'⟩⟩
        · unfold cutF; exact et
        · rw [hab']
          show cutW 0 (esX X p) key = _
          have e2 : cutL (esX X p) key = es' := hls.symm
          have : cutW 0 (esX X p) key = if (cutL (esX X p) key).length = 0 then none else some ⟨0, cutL (esX X p) key⟩ := rfl
          rw [this, e2, if_neg (by omega)]
          rfl
      · have hn : es' = [] := List.eq_nil_of_length_eq_zero (by omega)
        have hM : M = [] := by
          cases M with
          | nil => rfl
          | cons t M =>
            obtain ⟨x, hx, _⟩ := s.ms t (by simp)
            rw [hn] at hx; cases hx
        subst hM
        rw [hn] at hls
        refine ⟨X1, L1, -1, ?_, hU1.mono (by omega), s.ext, by have := s.fr; omega, fun q => by have := s.ct q; omega, Or.inl ⟨rfl, hls.symm, s.iv, ?_⟩⟩
        · unfold cutF topF
          rw [ew, hn]
          have : splF (X1, L1) (kdL 0) [] = ((X1, L1), [], 0) := rfl
          simp only [this]
          rfl
        · show cutW 0 (esX X p) key = none
          have e2 : cutL (esX X p) key = [] := hls.symm
          have : cutW 0 (esX X p) key = if (cutL (esX X p) key).length = 0 then none else some ⟨0, cutL (esX X p) key⟩ := rfl
          rw [this, e2]
          rfl
    | succ lv =>
      by_cases hs : szX X p = 1
      · obtain ⟨c, hcs⟩ : ∃ c, esX X p = [c] := List.length_eq_one_iff.1 hs
        have hokc : okT X lv c.2 c.1 64 := by
          have := hok.2.2.2
          rw [hcs] at this
          exact this
        have hc0 := hok.2.2.1 c (by rw [hcs]; simp)
        have hkid := hI.kid h0 hp c.2 (by unfold kids; exact List.mem_map_of_mem (by show c ∈ esX X p; rw [hcs]; simp))
        have hlsc : lsT X (lv + 1) p = lsT X lv c.2 := by
          show ((esX X p).flatMap fun x => lsT X lv x.2) = _
          rw [hcs]; simp
        rw [hlsc] at hk
        obtain ⟨X', L', p', ec, hup, r⟩ := cut_ok hI key lv hU (okT_mono hokc hc0.1 (Int.le_refl _)) hkid.1 hkid.2.2 hk (by omega) (fun q => by have := hc q; omega)
        have hw : cutW (lv + 1) (absT X (lv + 1) p) key = cutW lv (absT X lv c.2) key := by
          have e : absT X (lv + 1) p = (show Tr (lv + 1) from [(c.1, absT X lv c.2)]) := by
            show (esX X p).map _ = _
            rw [hcs]
            rfl
          rw [e, cutW_sole]
        refine ⟨X', L', p', ?_, hup.mono (by omega), r.ext, by have := r.fr; omega, fun q => by have := r.ct q; omega, ?_⟩
        · unfold cutF
          rw [if_pos hs, hcs]
          exact ec
        · rw [hlsc, hw]
          rcases r.ways with q | ⟨q, lv', q1, q2⟩
          · exact Or.inl q
          · exact Or.inr ⟨q, lv', by omega, q2⟩
      · obtain ⟨X1, L1, es', M, ew, hU1, s⟩ := key1 (lv + 1) hok hk hf hc
        have hsz : (esX X p).length = szX X p := rfl
        have h1 : 1 ≤ es'.length := by have := s.ln; have := hok.es.2.1; omega
        have hcf : cutF X L (lv + 1) p key = topF (lv + 1) (wioF X L (lv + 1) (esX X p) key) := by
          unfold cutF; rw [if_neg hs]
        have hcw : cutW (lv + 1) (absT X (lv + 1) p) key = topA lv (absN X1 (lv + 1) es') := cutW_more (by rw [len_abT]; exact hs) (by rw [absT_N]; exact s.ab)
        by_cases h2 : es'.length = 1
        · obtain ⟨c, rfl⟩ : ∃ c, es' = [c] := List.length_eq_one_iff.1 h2
          have hcm := s.mem c (by simp)
          have hc0 := s.ok.1 c (by simp)
          have hokc : okT X1 lv c.2 c.1 64 := s.ok.2
          have hls : lsT X1 lv c.2 = cutL (lsT X (lv + 1) p) key := by
            have := s.ls
            rw [← lsT_N] at this
            rw [← this]
            show _ = ([c].flatMap fun x => lsT X1 lv x.2)
            simp
          refine ⟨X1, L1, c.2, ?_, hU1.mono (by omega), s.ext, by have := s.fr; omega, fun q => by have := s.ct q; omega, Or.inr ⟨hcm.1.2.2.1, lv, by omega, okT_mono hokc hc0.1 (Int.le_refl _), hls, ?_, ?_⟩⟩
          · rw [hcf]
            unfold topF
            rw [ew]
            simp
          · rw [hcw]
            show topA lv ([c].map fun x => (x.1, absT X1 lv x.2)) = _
            rfl
          · have hm1 := s.m1
            have hms := s.ms
            have hiv := s.iv
            have hmem := hcm.2
            match M, hm1, hms, hiv, hmem with
            | [], _, _, hiv, hmem => exact Or.inr ⟨hiv, hmem⟩
            | [t], _, hms, hiv, _ =>
              obtain ⟨x, hx, rfl⟩ := hms t (by simp)
              obtain rfl := List.mem_singleton.1 hx
              exact Or.inl hiv
            | _ :: _ :: _, hm1, _, _, _ => simp at hm1
        · obtain ⟨X', L', p', et, hup, hx, hfr, hct, hp', hok', hls', hab', hiv'⟩ := key2 (lv + 1) hok hf hc ew hU1 s h1 (by omega)
          refine ⟨X', L', p', by rw [hcf]; exact et, hup.mono (by omega), hx, hfr, hct, Or.inr ⟨hp', lv + 1, Nat.le_refl _, hok', hls', ?_, Or.inl hiv'⟩⟩
          rw [hcw, hab']
          have hlen : ¬ List.length (α := Int × Tr lv) (absN X1 (lv + 1) es') = 1 := by
            have := len_abN X1 (lv + 1) es'
            have h3 : lenTr (lv + 1) (absN X1 (lv + 1) es') = List.length (α := Int × Tr lv) (absN X1 (lv + 1) es') := rfl
            omega
          exact topA_more hlen
end Go.Proofs.YtmkinaijkgkgiaaGreat
/- How many nodes a tree has that lacks so much, and how often a page is held, plain; no condition. -/
namespace Go.Proofs.YtmkinaijkgkgiaaGreat
open Go.RowKit Go.Proofs.U
set_option linter.unusedSimpArgs false
set_option linter.unusedVariables false
/-- A tree's nodes are few where its nodes lack little. -/
theorem occ_df {X : DSt} : ∀ {lv : Nat} {p lo hi : Int}, okT X lv p lo hi → 2 * ((occT X lv p).length : Int) + (szX X p : Int) ≤ ((lsT X lv p).length : Int) + dfT X lv p + 2
  | 0, p, lo, hi, h => by
    show 2 * (([p].length : Nat) : Int) + ((esX X p).length : Int) ≤ ((esX X p).length : Int) + 0 + 2
    simp only [List.length_singleton]
    omega
  | lv + 1, p, lo, hi, h => by
    have key : ∀ es : List (Int × Int), (∀ x ∈ es, ∃ b, okT X lv x.2 x.1 b) → 2 * ((es.flatMap fun x => occT X lv x.2).length : Int) + (es.length : Int) ≤ ((es.flatMap fun x => lsT X lv x.2).length : Int) + (es.map fun x => lackZ (szX X x.2) + dfT X lv x.2).sum := by
      intro es
      induction es with
      | nil => intro _; simp
      | cons x es ih =>
        intro hh
        obtain ⟨b, hb⟩ := hh x (by simp)
        have h1 := occ_df hb
        have h2 : 3 - (szX X x.2 : Int) ≤ lackZ (szX X x.2) := by unfold lackZ; omega
        have h3 := ih fun y hy => hh y (by simp [hy])
        simp only [List.flatMap_cons, List.length_append, List.length_cons, List.map_cons, List.sum_cons]
        omega
    have := key (esX X p) h.child
    show 2 * ((p :: (esX X p).flatMap fun x => occT X lv x.2).length : Int) + ((esX X p).length : Int) ≤ (((esX X p).flatMap fun x => lsT X lv x.2).length : Int) + ((esX X p).map fun x => lackZ (szX X x.2) + dfT X lv x.2).sum + 2
    rw [List.length_cons]
    omega
end Go.Proofs.YtmkinaijkgkgiaaGreat
/- What puts and cuts do to a tree's count; put into any tree, with room; no condition. -/
namespace Go.Proofs.YtmkinaijkgkgiaaGreat
open Go.RowKit Go.Proofs.U
set_option linter.unusedSimpArgs false
set_option linter.unusedVariables false
/-- What a tree counts: its nodes below the root, and a root of one entry. -/
def psiA : (lv : Nat) → Tr lv → Int
  | 0, _ => 0
  | n + 1, t => dfA (n + 1) t + (if List.length (α := Int × Tr n) t = 1 then 1 else 0)
theorem dfA_T (X : DSt) : ∀ (lv : Nat) (p : Int), dfA lv (absT X lv p) = dfT X lv p
  | 0, _ => rfl
  | n + 1, p => by
    show (((esX X p).map fun x => (x.1, absT X n x.2)).map (fun x : Int × Tr n => lackZ (lenTr n x.2) + dfA n x.2)).sum = ((esX X p).map fun x => lackZ (szX X x.2) + dfT X n x.2).sum
    rw [List.map_map]
    congr 1
    refine List.map_congr_left fun x _ => ?_
    show lackZ (lenTr n (absT X n x.2)) + dfA n (absT X n x.2) = _
    rw [len_abT, dfA_T X n x.2]
theorem ne_T {X : DSt} : ∀ {lv : Nat} {p lo hi : Int}, okT X lv p lo hi → neA lv (absT X lv p) ∧ upA lv (absT X lv p)
  | 0, p, lo, hi, h => ⟨trivial, h.es.1⟩
  | n + 1, p, lo, hi, h => by
    have key : ∀ x ∈ (esX X p).map (fun x => (x.1, absT X n x.2)), (1 ≤ lenTr n x.2 ∧ neA n x.2) ∧ upA n x.2 := by
      intro x hx
      obtain ⟨y, hy, rfl⟩ := List.mem_map.1 hx
      obtain ⟨b, hb⟩ := h.child y hy
      have := ne_T hb
      exact ⟨⟨by rw [len_abT]; exact hb.es.2.1, this.1⟩, this.2⟩
    exact ⟨fun x hx => (key x hx).1, fun x hx => (key x hx).2⟩
theorem lackZ_ge (s : Nat) : -1 ≤ lackZ s := by unfold lackZ; omega
theorem psi_one {n : Nat} (c : Int × Tr n) : psiA n c.2 ≤ dfA (n + 1) (show Tr (n + 1) from [c]) + 1 := by
  have e : dfA (n + 1) (show Tr (n + 1) from [c]) = lackZ (lenTr n c.2) + dfA n c.2 := by
    show ([c].map fun x : Int × Tr n => lackZ (lenTr n x.2) + dfA n x.2).sum = _
    simp
  rw [e]
  have h1 := lackZ_ge (lenTr n c.2)
  cases n with
  | zero => show (0 : Int) ≤ lackZ (lenTr 0 c.2) + 0 + 1; omega
  | succ n =>
    show dfA (n + 1) c.2 + (if List.length (α := Int × Tr n) c.2 = 1 then 1 else 0) ≤ _
    split
    · rename_i h
      have h : lenTr (n + 1) c.2 = 1 := h
      rw [h]
      have : lackZ 1 = 2 := by decide
      omega
    · omega
theorem cutW_psi : ∀ (lv : Nat) (t : Tr lv) (k : Int) (n : Nat) (t' : Tr n), neA lv t → upA lv t → 1 ≤ lenTr lv t → cutW lv t k = some ⟨n, t'⟩ → psiA n t' ≤ psiA lv t + 1
  | 0, t, k, n, t', _, _, _, h => by
    unfold cutW at h
    split at h
    · cases h
    · cases h
      show (0 : Int) ≤ 0 + 1
      omega
  | lv + 1, t, k, n, t', hne, hu, h1, h => by
    by_cases hs : List.length (α := Int × Tr lv) t = 1
    · obtain ⟨c, hc⟩ : ∃ c, (show List (Int × Tr lv) from t) = [c] := List.length_eq_one_iff.1 hs
      have hc : t = (show Tr (lv + 1) from [c]) := hc
      subst hc
      rw [cutW_sole] at h
      have hm : c ∈ (show List (Int × Tr lv) from [c]) := by show c ∈ [c]; simp
      have ih := cutW_psi lv c.2 k n t' (hne c hm).2 (hu c hm) (hne c hm).1 h
      have h2 := psi_one c
      have h3 : psiA (lv + 1) (show Tr (lv + 1) from [c]) = dfA (lv + 1) (show Tr (lv + 1) from [c]) + 1 := rfl
      omega
    · have hps : psiA (lv + 1) t = dfA (lv + 1) t := by
        show dfA (lv + 1) t + (if List.length (α := Int × Tr lv) t = 1 then 1 else 0) = _
        rw [if_neg hs]; omega
      cases hc : cutA (lv + 1) t k with
      | none =>
        exfalso
        unfold cutW at h
        revert h hs hc
        match t with
        | [] => intro hs hc h; simp only at h; rw [hc] at h; cases h
        | [c] => intro hs; exact absurd rfl hs
        | c :: d :: r => intro hs hc h; simp only at h; rw [hc] at h; cases h
      | some t'' =>
        have hz := (cutA_z (lv + 1) t k t'' hne hu hc).1
        rw [cutW_more hs hc] at h
        by_cases h2 : List.length (α := Int × Tr lv) t'' = 1
        · obtain ⟨c, hcc⟩ : ∃ c, (show List (Int × Tr lv) from t'') = [c] := List.length_eq_one_iff.1 h2
          have hcc : t'' = (show Tr (lv + 1) from [c]) := hcc
          subst hcc
          rw [show topA lv (show Tr (lv + 1) from [c]) = some ⟨lv, c.2⟩ from rfl] at h
          cases h
          have h3 := psi_one c
          have h4 : lenTr (lv + 1) (show Tr (lv + 1) from [c]) = 1 := rfl
          have h5 : lenTr (lv + 1) t = List.length (α := Int × Tr lv) t := rfl
          rcases hz with ⟨g1, g2⟩ | ⟨g1, g2⟩
          · omega
          · omega
        · rw [topA_more (n := lv) (t := t'') h2] at h
          cases h
          have h3 : psiA (lv + 1) t'' = dfA (lv + 1) t'' := by
            show dfA (lv + 1) t'' + (if List.length (α := Int × Tr lv) t'' = 1 then 1 else 0) = _
            rw [if_neg h2]; omega
          rcases hz with ⟨g1, g2⟩ | ⟨g1, g2⟩ <;> omega
/-- Put, of trees without pages. -/
def putW (lv : Nat) (t : Tr lv) (x : Int × Int) : (n : Nat) × Tr n := match putA lv t x with
  | [c] => ⟨lv, c.2⟩
  | l => ⟨lv + 1, l⟩
theorem putW_one {lv : Nat} {t : Tr lv} {x : Int × Int} {c : Int × Tr lv} (h : putA lv t x = [c]) : putW lv t x = ⟨lv, c.2⟩ := by unfold putW; rw [h]
theorem putW_two {lv : Nat} {t : Tr lv} {x : Int × Int} {c d : Int × Tr lv} (h : putA lv t x = [c, d]) : putW lv t x = ⟨lv + 1, [c, d]⟩ := by unfold putW; rw [h]
/-- What comes of Put with room. -/
structure PutQ (X : DSt) (L : List Pg) (R : List Int) (T : List Nat) (lv : Nat) (p : Int) (x : Int × Int) (X' : DSt) (L' : List Pg) (p' : Int) (lv' : Nat) : Prop where
  ext : Ext X L X' L'
  iv : InvT X' L' R (p'.toNat :: T)
  p0 : 0 ≤ p'
  ok : okT X' lv' p' 0 64
  ls : lsT X' lv' p' = putL (lsT X lv p) x
  hg : (lv' = lv ∧ szX X p ≤ szX X' p') ∨ (lv' = lv + 1 ∧ szX X p = 6 ∧ szX X' p' = 2)
  df : dfT X' lv' p' ≤ dfT X lv p
  ab : putW lv (absT X lv p) x = ⟨lv', absT X' lv' p'⟩
  ct : ∀ q, cntL L' q ≤ cntL L q + (7 * lv + 14)
theorem put_ok {X : DSt} {L : List Pg} {R : List Int} {T : List Nat} {m lv : Nat} {p : Int} (hI : InvT X L R T) (hok : okT X lv p 0 64) (h0 : 0 ≤ p) (hp : 0 < cntT L T p.toNat) (hlv : lv < 8) (hm : m ≤ 80000) (x : Int × Int) (hk : 0 ≤ x.1 ∧ x.1 ≤ 63) (hpg : 0 ≤ x.2 ∧ 0 < cntT L T x.2.toNat) (hU : Up X L.length m)
    (hf : 2 * lv + 3 ≤ plFree L) (hc : ∀ q, cntL L q + (7 * lv + 14) ≤ 255) :
    ∃ X' L' p' lv', PutQ X L R T lv p x X' L' p' lv' ∧ Up X' L'.length (m + 20) ∧ PutEx X L p x m X' L' p' 0 := by
  have hE := putF_E hI (x := x) hk hpg lv hU hok h0 hp (Int.le_refl _) (Int.le_refl _) hk.1 (by show x.1 < 64; omega)
  have hA := fun {X' L' tops} => putF_ab hI hk hpg lv hU hok h0 hp (Int.le_refl _) (Int.le_refl _) hk.1 (by show x.1 < 64; omega) (X' := X') (L' := L') (tops := tops)
  have hPc := fun (F : Nat → Prop) (gs gp : Nat) W (s : Sto W F gs gp X L m) => put_lv hI hm x hk hpg lv 0 W hok h0 hp (Int.le_refl _) (by omega) (Int.le_refl _) (Int.le_refl _) hk.1 (by show x.1 < 64; omega) s
  generalize putF X L lv p x = S at *
  obtain ⟨⟨X1, L1⟩, tops, e⟩ := S
  simp only at hE
  have e0 : e = 0 := by
    rcases hE.2.er with q | q | q
    · exact q
    · have := hE.2.e71 q; omega
    · exact absurd (fun z => by have := hc z; omega) (hE.2.e72 q)
  subst e0
  have hab := hA rfl
  have i := hE.2.ys rfl
  rcases i.sz with ⟨t, rfl, hs⟩ | ⟨t, u, rfl, h6, h3, h4⟩
  · have ht := i.ok.1 t (by simp)
    refine ⟨X1, L1, t.2, lv, ⟨hE.2.ext, i.iv, (i.pg t (by simp)).1, okT_mono i.ok.2 ht.1 (Int.le_refl _), ?_, Or.inl ⟨rfl, by omega⟩, ?_, ?_, fun q => by have := i.ct q; omega⟩, hE.1.mono (by omega), fun F gs gp w h => ?_⟩
    · have := i.ls
      simpa [lsN] using this
    · have := i.df
      simpa using this
    · exact putW_one hab.symm
    · refine (Put_one p x.1 x.2 hk w h ((X1, L1), [t], 0) (by simp) (fun _ => rfl) (hPc F gs gp)).mono ?_
      rintro r w' ⟨F', er, s⟩
      exact ⟨F', er, s.mono (by omega)⟩
  · have hmem : ∀ y ∈ [t, u], (0 ≤ y.1 ∧ y.1 ≤ 63 ∧ 0 ≤ y.2 ∧ y.2 ≤ 239) ∧ 0 < cntT L1 (pgsT [t, u] ++ T) y.2.toNat := fun y hy => by
      have g1 := i.ok.1 y hy
      have g2 := i.pg y hy
      exact ⟨by omega, i.iv.mem (List.mem_append_left _ (List.mem_map_of_mem (f := fun x : Int × Int => x.2.toNat) hy))⟩
    obtain ⟨X2, L2, tops2, e2, em, hx2, hup, he, h71, h72, hno, hys⟩ := split_T (k := 3) i.iv hE.1 (Or.inr rfl) (by simp) (by simp) i.up hmem
    have e20 : e2 = 0 := by
      rcases he with q | q | q
      · exact q
      · have := (h71 q).2 (by simp); have := i.fr; omega
      · exact absurd (fun z => by have := hc z; have := i.ct z; simp only [List.length_cons, List.length_nil]; omega) (h72 q)
    subst e20
    have sp := hys rfl
    have w := split_row (lv := lv + 1) i.iv hx2 sp i.up i.ok (by simp) (by simp) (fun _ y hy => ⟨(hmem y hy).1.2.2.1, (hmem y hy).2⟩)
    have ab := split_ab (lv := lv + 1) i.iv hx2 sp (fun y hy _ => by
      obtain ⟨b, hb⟩ := okC_mem i.ok.2 y hy
      exact ⟨⟨_, _, hb⟩, (hmem y hy).1.2.2.1, (hmem y hy).2⟩)
    rcases w.sz with ⟨c, rfl, hsz, _⟩ | ⟨_, _, _, h7, _⟩
    · have hcr := w.ok.1 c (by simp)
      have hd := (TreeAt.put2_df hE.2 hE.1 (by simp) em)
      simp only [List.getD_cons_zero] at hd
      refine ⟨X2, L2, c.2, lv + 1, ⟨hE.2.ext.trans hx2, ?_, (w.pg c (by simp)).1, okT_mono w.ok.2 hcr.1 (Int.le_refl _), ?_, Or.inr ⟨rfl, h6, by rw [hsz]; rfl⟩, hd.2.1, ?_, fun q => ?_⟩, hup.mono (by omega), fun F gs gp w h => ?_⟩
      · refine InvT.lessL (S := pgsT [t, u]) (T := c.2.toNat :: T) ?_ fun y hy => ?_
        · exact InvT.swap sp.iv
        · obtain ⟨x', hx', rfl⟩ := List.mem_map.1 hy
          rw [sp.ct x'.2.toNat]
          have hp0 := (i.pg x' hx').1
          have : 0 < ([t, u].map (·.2)).count ((x'.2.toNat : Nat) : Int) := List.count_pos_iff.2 (by
            rw [Int.toNat_of_nonneg hp0]
            exact List.mem_map_of_mem (f := fun x : Int × Int => x.2) hx')
          omega
      · have g1 := w.ls
        have g2 := i.ls
        rw [g2] at g1
        simpa [lsN] using g1
      · rw [spl_one (by rw [len_abN]; simp)] at ab
        unfold absL nodA at ab
        simp only [List.map_cons, List.map_nil, List.cons.injEq, Prod.mk.injEq, and_true] at ab
        have hab2 : putA lv (absT X lv p) x = [(t.1, absT X1 lv t.2), (u.1, absT X1 lv u.2)] := hab.symm
        rw [putW_two hab2, ab.2]
        rfl
      · rw [sp.ct q]
        have := cnt_le [t, u] (q : Int)
        have := i.ct q
        simp only [List.length_cons, List.length_nil] at *
        omega
      · refine (Put_two p x.1 x.2 hk w h ((X1, L1), [t, u], 0) (by simp) (by simp) (fun y hy => by
          have g1 := i.ok.1 y hy
          have g2 := i.pg y hy
          exact ⟨wfSm (by omega) (by omega), wfSm (by omega) (by omega)⟩) (hPc F gs gp) (by omega) _ em (fun _ => rfl)).mono ?_
        rintro r w' ⟨F', er, s⟩
        exact ⟨F', er, s.mono (by omega)⟩
    · simp at h7
end Go.Proofs.YtmkinaijkgkgiaaGreat
/- Pages of blocks, and that just so many pages are used as are reached, plain; no condition. -/
namespace Go.Proofs.YtmkinaijkgkgiaaGreat
open Go.RowKit Go.Proofs.U
set_option linter.unusedSimpArgs false
set_option linter.unusedVariables false
/-- A store that holds pages of blocks alone, each once. -/
structure Bks (X : DSt) (L : List Pg) (B : List Int) (N : Nat) : Prop where
  iv : Inv X L B
  yg : PlY L
  bl : ∀ b ∈ B, 0 ≤ b ∧ (rdN X b).1.k = 1 ∧ (rdN X b).1.es = []
  nd : B.Nodup
  fr : plFree L + B.length = N
  ln : L.length = N
  ct : ∀ q, cntL L q ≤ B.length
theorem Bks.base {X : DSt} {L : List Pg} {pg : Int} {N : Nat} (b : Base1 X L pg N) : Bks X L [pg] N :=
  ⟨b.iv, b.yg, by intro x hx; simp at hx; subst hx; exact ⟨b.p0, by rw [b.rd], by rw [b.rd]⟩, by simp, b.fr, b.ln, fun q => by simpa using b.ct q⟩
theorem Bks.blk {X : DSt} {L : List Pg} {B : List Int} {N m : Nat} {b : List Int} (h : Bks X L B N) (hU : Up X L.length m) (hb : b.length = 16) (hby : Byt b) (hN : B.length < N) (hB : B.length ≤ 100) : ∃ X' L1 p L2, BlkIs X L B b X' L1 p L2 m ∧ Bks X' L2 (B ++ [p]) N := by
  have hf := h.fr
  obtain ⟨X', L1, p, L2, k⟩ := h.iv.block hU hb hby (by omega) (fun q => by have := h.ct q; omega)
  have hlive : ∀ x ∈ B, (plAt L x.toNat).free = false ∧ rdN X' x = rdN X x := fun x hx => by
    have hr := h.iv.toT.root hx
    refine ⟨(h.iv.toT.live hr.2).1, ?_⟩
    have := k.kp x.toNat (by have := hr.2; rwa [cntT_nil] at this)
    rwa [Int.toNat_of_nonneg hr.1] at this
  refine ⟨X', L1, p, L2, k, k.iv, k.yg h.yg, fun x hx => ?_, ?_, ?_, k.ln.trans h.ln, fun q => ?_⟩
  · rcases List.mem_append.1 hx with q | q
    · rw [(hlive x q).2]; exact h.bl x q
    · obtain rfl := List.mem_singleton.1 q
      rw [k.rd]; exact ⟨k.p0, rfl, rfl⟩
  · refine List.nodup_append.2 ⟨h.nd, by simp, fun a ha c hc => ?_⟩
    obtain rfl := List.mem_singleton.1 hc
    intro e
    subst e
    have := (hlive a ha).1
    rw [k.pf] at this
    cases this
  · rw [List.length_append, List.length_singleton]
    have := k.fr
    omega
  · rw [k.ct q, List.length_append, List.length_singleton]
    have := h.ct q
    split <;> omega
theorem Bks.one {X : DSt} {L : List Pg} {B : List Int} {N : Nat} (h : Bks X L B N) : OneT X L B [] 0 (-1) [] := OneT.start (by simpa using h.iv) (by intro t ht; simp at ht) h.bl
/-- A tree's nodes are seen where the root is. -/
theorem occ_seen {X : DSt} {T : Int → Bool} (hT : ∀ x, T x = true → ∀ y ∈ kids (rdN X x).1, T y = true) : ∀ {lv : Nat} {p lo hi : Int}, okT X lv p lo hi → T p = true → ∀ q ∈ occT X lv p, T q = true
  | 0, p, lo, hi, _, hp, q, hq => by simp [occT] at hq; subst hq; exact hp
  | lv + 1, p, lo, hi, h, hp, q, hq => by
    unfold occT at hq
    rcases List.mem_cons.1 hq with rfl | hq
    · exact hp
    · obtain ⟨y, hy, hq⟩ := List.mem_flatMap.1 hq
      obtain ⟨b, hb⟩ := h.child y hy
      exact occ_seen hT hb (hT p hp y.2 (List.mem_map_of_mem hy)) q hq
theorem OneT.reach {X : DSt} {L : List Pg} {B : List Int} {lv : Nat} {root : Int} {l : List (Int × Int)} (o : OneT X L B [] lv root l) : ∃ S, reachF (getF X L) [root] = (S, 0) ∧ (∀ x, S x = true → 0 ≤ x ∧ 0 < cntL L x.toNat) ∧ (¬ root = -1 → ∀ q ∈ occT X lv root, S q = true) := by
  by_cases hr : root = -1
  · subst hr
    exact ⟨fun _ => false, rfl, fun x hx => (by cases hx), fun h => absurd rfl h⟩
  · obtain ⟨r0, _, t⟩ := o.tree hr
    have hp := (o.iv.toT.root (r := root) (by unfold rtsB; rw [if_neg hr]; simp)).2
    rw [cntT_nil] at hp
    have hf : ∀ S p, nS S < 241 → 0 ≤ p → 0 < cntL L p.toNat → (rootF (getF X L) S p).2 = 0 ∧ PostS X L S (rootF (getF X L) S p).1 ∧ (rootF (getF X L) S p).1 p = true := by
      intro S p hn h0 hc
      have e : rootF (getF X L) S p = seeF (getF X L) 241 S p := by unfold rootF; rw [if_neg (by omega)]
      rw [e]
      exact see_good o.iv.di 241 S p hn h0 hc
    obtain ⟨k1, k2, k3⟩ := each_see hf [root] (fun _ => false) (nS_lt _) (fun p h => by obtain rfl := List.mem_singleton.1 h; exact ⟨r0, hp⟩)
    refine ⟨(reachF (getF X L) [root]).1, by unfold reachF; rw [← k1], fun x hx => ?_, fun _ => ?_⟩
    · rcases k2.2 x hx with q | q
      · cases q
      · exact ⟨q.1, q.2.1⟩
    · refine occ_seen (fun x hx => ?_) t.ok (k3 root (by simp))
      rcases k2.2 x hx with q | q
      · cases q
      · exact q.2.2
def inL (X : DSt) (l : List Int) : List Int := l.filter fun p => !((rdN X p).1.k == 1)
theorem used_live {X : DSt} {L : List Pg} {R : List Int} (h : Inv X L R) (y : PlY L) : plFree L + (U.live L.length (cntL L)).length = L.length := by
  have key : ∀ n, n ≤ L.length → (L.take n).countP Pg.free + ((List.range n).filter fun q => decide (0 < cntL L q)).length = n := by
    intro n
    induction n with
    | zero => intro _; rfl
    | succ n ih =>
      intro hn
      have := ih (by omega)
      rw [List.take_succ_eq_append_getElem (by omega), List.countP_append, List.range_succ, List.filter_append, List.length_append]
      have hx : [L[n]].countP Pg.free + ([n].filter fun q => decide (0 < cntL L q)).length = 1 := by
        have hp : plAt L n = L[n] := plAt_get L n (by omega)
        rcases y n with hy | ⟨hs, hc⟩
        · have hf : (plAt L n).frsh = true := by unfold Pg.frsh; rw [hy]; rfl
          have hc := h.di.nf n hf
          have h1 : 0 < cntL L n := (cnt_pos n).2 hc
          have h2 : L[n].free = false := by rw [← hp]; unfold Pg.free; rw [hy]; simp
          simp [List.filter, List.countP_cons, h1, h2]
        · have h1 : L[n].free = true := by rw [← hp]; unfold Pg.free; rw [hs, hc]; rfl
          have h2 : ¬ 0 < cntL L n := fun q => by have := (cnt_pos n).1 q; omega
          simp [List.filter, List.countP_cons, h1, h2]
      omega
  have := key L.length (Nat.le_refl _)
  rw [List.take_length] at this
  exact this
theorem OneT.exactL {X : DSt} {L : List Pg} {B : List Int} {lv : Nat} {root : Int} {l : List (Int × Int)} (o : OneT X L B [] lv root l) (y : PlY L) (hn : B.Nodup) {S : Int → Bool} (h1 : ∀ x, S x = true → 0 ≤ x ∧ 0 < cntL L x.toNat) (h2 : ¬ root = -1 → ∀ q ∈ occT X lv root, S q = true) {l' : List Int} (hl : SeenL S l') :
    plFree L + ((inL X l').length + B.length) = L.length := by
  have hu := used_live o.iv y
  have hf := o.fam
  have hin : ∀ x ∈ inL X l', 0 ≤ x ∧ 0 < cntL L x.toNat ∧ ¬ (rdN X x).1.k = 1 := fun x hx => by
    obtain ⟨a, b⟩ := List.mem_filter.1 hx
    have := h1 x ((hl.mem x).1 a)
    exact ⟨this.1, this.2, by simpa using b⟩
  have hroot : ∀ b ∈ B, 0 ≤ b ∧ 0 < cntL L b.toNat := fun b hb => by
    have := o.iv.toT.root (rtsB_B (root := root) (List.mem_append_left (([] : List (Nat × Int)).map (·.2)) hb))
    rwa [cntT_nil] at this
  have hlt : ∀ q : Nat, 0 < cntL L q → q < L.length := fun q hq => (o.iv.toT.live (by rwa [cntT_nil])).2.1
  have hle : (U.live L.length (cntL L)).length ≤ (B ++ inL X l').length := by
    have := len_sub (W := (B ++ inL X l').map Int.toNat) (live_nodup L.length (cntL L)) fun r hr => by
      have hc := (mem_live.1 hr).2
      have hm := hf.live o.iv hc
      refine List.mem_map.2 ⟨(r : Int), ?_, by simp⟩
      unfold famP at hm
      rcases List.mem_append.1 hm with q | q
      · exact List.mem_append_left _ q
      · obtain ⟨t, ht, hq⟩ := List.mem_flatMap.1 q
        rcases oneTs_mem ht with h | ⟨hne, rfl⟩
        · cases h
        · obtain ⟨_, _, t⟩ := o.tree hne
          refine List.mem_append_right _ (List.mem_filter.2 ⟨(hl.mem _).2 (h2 hne _ hq), ?_⟩)
          have := occ_kd t.ok _ hq
          simpa using this
    rwa [List.length_map] at this
  have hge : (B ++ inL X l').length ≤ (U.live L.length (cntL L)).length := by
    have hnd : ((B ++ inL X l').map Int.toNat).Nodup := by
      have h3 : (B ++ inL X l').Nodup := List.nodup_append.2 ⟨hn, hl.nd.filter _, fun a ha c hc e => by
        subst e
        exact (hin a hc).2.2 (o.bl a ha).2.1⟩
      refine List.pairwise_map.2 (List.Pairwise.imp_of_mem (fun {a b} ha hb hab => ?_) h3)
      have pa : 0 ≤ a := by
        rcases List.mem_append.1 ha with q | q
        · exact (hroot a q).1
        · exact (hin a q).1
      have pb : 0 ≤ b := by
        rcases List.mem_append.1 hb with q | q
        · exact (hroot b q).1
        · exact (hin b q).1
      omega
    have := len_sub (W := U.live L.length (cntL L)) hnd fun r hr => by
      obtain ⟨x, hx, rfl⟩ := List.mem_map.1 hr
      have hc : 0 < cntL L x.toNat := by
        rcases List.mem_append.1 hx with q | q
        · exact (hroot x q).2
        · exact (hin x q).2.1
      exact mem_live.2 ⟨hlt _ hc, hc⟩
    rwa [List.length_map] at this
  rw [List.length_append] at hle hge
  omega
end Go.Proofs.YtmkinaijkgkgiaaGreat
