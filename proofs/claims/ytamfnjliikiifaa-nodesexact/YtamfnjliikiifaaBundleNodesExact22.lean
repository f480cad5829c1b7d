/- Texts H20, H21, H22 of the proof of NodesExact, one behind the other. -/
import Derived.Test.YtamfnjliikiifaaBundleNodesExact1
import Derived.Test.YtamfnjliikiifaaBundleNodesExact2
import Derived.Test.YtamfnjliikiifaaBundleNodesExact3
import Derived.Test.YtamfnjliikiifaaBundleNodesExact4
import Derived.Test.YtamfnjliikiifaaBundleNodesExact5
import Derived.Test.YtamfnjliikiifaaBundleNodesExact6
import Derived.Test.YtamfnjliikiifaaBundleNodesExact7
import Derived.Test.YtamfnjliikiifaaBundleNodesExact8
import Derived.Test.YtamfnjliikiifaaBundleNodesExact9
import Derived.Test.YtamfnjliikiifaaBundleNodesExact10
import Derived.Test.YtamfnjliikiifaaBundleNodesExact11
import Derived.Test.YtamfnjliikiifaaBundleNodesExact12
import Derived.Test.YtamfnjliikiifaaBundleNodesExact13
import Derived.Test.YtamfnjliikiifaaBundleNodesExact14
import Derived.Test.YtamfnjliikiifaaBundleNodesExact15
import Derived.Test.YtamfnjliikiifaaBundleNodesExact16
import Derived.Test.YtamfnjliikiifaaBundleNodesExact17
import Derived.Test.YtamfnjliikiifaaBundleNodesExact18
import Derived.Test.YtamfnjliikiifaaBundleNodesExact19
import Derived.Test.YtamfnjliikiifaaBundleNodesExact20
import Derived.Test.YtamfnjliikiifaaBundleNodesExact21
/- What NodesExact may read of a store, plain: whatever is reached is held, as often as it should be; no condition. -/
namespace Go.Proofs.Ytamfnjliikiifaa
open Go.RowKit Go.Proofs.U
set_option linter.unusedSimpArgs false
set_option linter.unusedVariables false
/-- A page's children, as the disk tells them. -/
def chX (X : DSt) (q : Nat) : List Nat := (kids (rdN X (q : Int)).1).map Int.toNat
/-- What holds of a store whose holds are those of R and of what is held. -/
structure DI (X : DSt) (L : List Pg) (R : List Nat) : Prop where
  ok : plOk L
  ex : PlEx L (chX X) R
  nf : ∀ i, (plAt L i).frsh = true → 0 < (plAt L i).c
  rd : ∀ q : Nat, 0 < cntL L q → (rdN X (q : Int)).2 = 0
structure Inv (X : DSt) (L : List Pg) (R : List Int) : Prop where
  nn : ∀ r ∈ R, 0 ≤ r
  di : DI X L (R.map Int.toNat)
  fl : ∃ rk, Falls (cntL L) (chX X) rk
theorem cnt_pos {L : List Pg} (q : Nat) : 0 < cntL L q ↔ 0 < (plAt L q).c := by unfold cntL; omega
theorem DI.held {X : DSt} {L : List Pg} {R : List Nat} (h : DI X L R) (p : Int) : plHeld L p = true ↔ (0 ≤ p ∧ 0 < cntL L p.toNat) := by
  constructor
  · intro hp
    obtain ⟨j, rfl, hj⟩ := plHeld_in hp
    refine ⟨by omega, ?_⟩
    rw [cnt_pos, Int.toNat_natCast]
    unfold plHeld at hp
    simp only [Bool.and_eq_true, Int.toNat_natCast] at hp
    have h2 := hp.2
    unfold Pg.held at h2
    cases hf : ((plAt L j).s == 1 || (plAt L j).s == 2) with
    | true => exact h.nf j hf
    | false =>
      rw [hf] at h2
      simp at h2
      have := (h.ok.2 j).1
      omega
  · rintro ⟨h0, hc⟩
    have hlt := Exact.lt h.ex hc
    rw [cnt_pos] at hc
    unfold plHeld plIn Pg.held
    have e1 : ((plAt L p.toNat).c == 0) = false := by simp; omega
    rw [e1]
    simp
    omega
theorem rdN_right {X : DSt} {p : Int} (h : (rdN X p).2 = 0) : (rdN X p).1.right = true := by
  unfold rdN at *
  rcases opN_cases (ct X p) with ⟨e, hr, _⟩ | e
  · rw [e]; exact hr
  · rw [e] at h; cases h
theorem kids_rng {n : Nd} (h : n.right = true) : ∀ x ∈ kids n, 0 ≤ x ∧ x ≤ 239 := by
  intro x hx
  by_cases hk : n.k = 1
  · unfold kids at hx
    rw [right_data h hk] at hx
    cases hx
  · obtain ⟨_, _, _, _, hr⟩ := right_tree h hk
    unfold kids at hx
    obtain ⟨y, hy, rfl⟩ := List.mem_map.1 hx
    exact (rises_all hr (by omega) y hy).2
theorem DI.kid {X : DSt} {L : List Pg} {R : List Nat} (h : DI X L R) {q : Nat} (hq : 0 < cntL L q) : ∀ x ∈ kids (rdN X (q : Int)).1, 0 ≤ x ∧ x ≤ 239 ∧ 0 < cntL L x.toNat := by
  intro x hx
  have hr := kids_rng (rdN_right (h.rd q hq)) x hx
  refine ⟨hr.1, hr.2, ?_⟩
  exact Exact.child h.ex hq (show x.toNat ∈ chX X q from List.mem_map_of_mem hx)
theorem DI.low {X : DSt} {L : List Pg} {R : List Nat} (h : DI X L R) {q : Nat} (hq : 0 < cntL L q) : q < 240 := by
  have := Exact.lt h.ex hq
  have := h.ok.1
  omega
/-- What a search has put: whatever is new is held, and its children are there. -/
def PostS (X : DSt) (L : List Pg) (S T : Int → Bool) : Prop := (∀ x, S x = true → T x = true) ∧ ∀ x, T x = true → S x = true ∨ (0 ≤ x ∧ 0 < cntL L x.toNat ∧ ∀ y ∈ kids (rdN X x).1, T y = true)
theorem PostS.refl (X : DSt) (L : List Pg) (S : Int → Bool) : PostS X L S S := ⟨fun _ h => h, fun _ h => Or.inl h⟩
theorem PostS.trans {X : DSt} {L : List Pg} {S T U : Int → Bool} (h : PostS X L S T) (k : PostS X L T U) : PostS X L S U :=
  ⟨fun x hx => k.1 x (h.1 x hx), fun x hx => by
    rcases k.2 x hx with q | q
    · rcases h.2 x q with p | ⟨a, b, c⟩
      · exact Or.inl p
      · exact Or.inr ⟨a, b, fun y hy => k.1 y (c y hy)⟩
    · exact Or.inr q⟩
theorem each_see {X : DSt} {L : List Pg} {n : Nat} {f : (Int → Bool) → Int → (Int → Bool) × Int} (hf : ∀ S p, nS S < n → 0 ≤ p → 0 < cntL L p.toNat → (f S p).2 = 0 ∧ PostS X L S (f S p).1 ∧ (f S p).1 p = true) :
    ∀ (ps : List Int) (S : Int → Bool), nS S < n → (∀ p ∈ ps, 0 ≤ p ∧ 0 < cntL L p.toNat) → (eachF f S ps).2 = 0 ∧ PostS X L S (eachF f S ps).1 ∧ ∀ p ∈ ps, (eachF f S ps).1 p = true
  | [], S, _, _ => ⟨rfl, PostS.refl _ _ _, by simp⟩
  | p :: ps, S, hn, hp => by
    obtain ⟨h1, h2, h3⟩ := hf S p hn (hp p (by simp)).1 (hp p (by simp)).2
    rw [eachF_cons0 h1]
    obtain ⟨k1, k2, k3⟩ := each_see hf ps (f S p).1 (Nat.lt_of_le_of_lt (nS_mono h2.1) hn) (fun q hq => hp q (by simp [hq]))
    refine ⟨k1, h2.trans k2, fun q hq => ?_⟩
    rcases List.mem_cons.1 hq with rfl | hq
    · exact k2.1 _ h3
    · exact k3 q hq
theorem getF_live {X : DSt} {L : List Pg} {R : List Nat} (h : DI X L R) {p : Int} (h0 : 0 ≤ p) (hc : 0 < cntL L p.toNat) : getF X L p = rdN X p ∧ (rdN X p).2 = 0 := by
  refine ⟨?_, ?_⟩
  · unfold getF
    rw [(h.held p).2 ⟨h0, hc⟩]
    rfl
  · have := h.rd p.toNat hc
    rwa [Int.toNat_of_nonneg h0] at this
theorem see_good {X : DSt} {L : List Pg} {R : List Nat} (h : DI X L R) : ∀ (n : Nat) (S : Int → Bool) (p : Int), nS S < n → 0 ≤ p → 0 < cntL L p.toNat → (seeF (getF X L) n S p).2 = 0 ∧ PostS X L S (seeF (getF X L) n S p).1 ∧ (seeF (getF X L) n S p).1 p = true
  | 0, S, p, hn, _, _ => absurd hn (by omega)
  | n + 1, S, p, hn, h0, hc => by
    rw [seeF_succ]
    cases hS : S p with
    | true => rw [if_pos rfl]; exact ⟨rfl, PostS.refl _ _ _, hS⟩
    | false =>
      rw [if_neg (by decide)]
      obtain ⟨g1, g2⟩ := getF_live h h0 hc
      rw [g1, if_pos g2]
      have hp240 : p < 240 := by have := h.low hc; omega
      have hlt := nS_put h0 hp240 hS
      have hk : ∀ x ∈ kids (rdN X p).1, 0 ≤ x ∧ 0 < cntL L x.toNat := by
        intro x hx
        have := h.kid hc x (by rwa [Int.toNat_of_nonneg h0])
        exact ⟨this.1, this.2.2⟩
      obtain ⟨k1, k2, k3⟩ := each_see (see_good h n) (kids (rdN X p).1) (fun x => if x == p then true else S x) (by omega) hk
      have hpp := k2.1 p (by simp)
      refine ⟨k1, ⟨fun x hx => k2.1 x (by simp only; split; rfl; exact hx), fun x hx => ?_⟩, hpp⟩
      rcases k2.2 x hx with q | q
      · by_cases hxp : x = p
        · subst hxp
          exact Or.inr ⟨h0, hc, k3⟩
        · have e : (x == p) = false := by simpa using hxp
          simp only [e] at q
          exact Or.inl (by simpa using q)
      · exact Or.inr q
theorem reach_good {X : DSt} {L : List Pg} {R : List Int} (h : Inv X L R) : ∃ S, reachF (getF X L) R = (S, 0) ∧ ∀ x, S x = true ↔ (0 ≤ x ∧ 0 < cntL L x.toNat) := by
  have hR : ∀ p ∈ R, 0 ≤ p ∧ 0 < cntL L p.toNat := fun p hp => ⟨h.nn p hp, Exact.pos h.di.ex (List.mem_map_of_mem hp)⟩
  have hf : ∀ S p, nS S < 241 → 0 ≤ p → 0 < cntL L p.toNat → (rootF (getF X L) S p).2 = 0 ∧ PostS X L S (rootF (getF X L) S p).1 ∧ (rootF (getF X L) S p).1 p = true := by
    intro S p hn h0 hc
    have e : rootF (getF X L) S p = seeF (getF X L) 241 S p := by unfold rootF; rw [if_neg (by omega)]
    rw [e]
    exact see_good h.di 241 S p hn h0 hc
  obtain ⟨k1, k2, k3⟩ := each_see hf R (fun _ => false) (nS_lt _) hR
  refine ⟨(reachF (getF X L) R).1, by unfold reachF; rw [← k1], fun x => ⟨fun hx => ?_, fun ⟨h0, hc⟩ => ?_⟩⟩
  · rcases k2.2 x hx with q | q
    · cases q
    · exact ⟨q.1, q.2.1⟩
  · obtain ⟨rk, hfl⟩ := h.fl
    have hr := (Exact.live_iff h.di.ex hfl).1 hc
    have key : ∀ q : Nat, Rch (chX X) (R.map Int.toNat) q → (eachF (rootF (getF X L)) (fun _ => false) R).1 (q : Int) = true := by
      intro q hq
      induction hq with
      | root hm =>
        obtain ⟨r, hr, rfl⟩ := List.mem_map.1 hm
        have := k3 r hr
        rwa [Int.toNat_of_nonneg (h.nn r hr)]
      | child hq hm ih =>
        rcases k2.2 _ ih with p | p
        · cases p
        · obtain ⟨y, hy, rfl⟩ := List.mem_map.1 hm
          have hy0 := (h.di.kid (by simpa using p.2.1) y hy).1
          have := p.2.2 y hy
          rwa [Int.toNat_of_nonneg hy0]
    have := key x.toNat hr
    rwa [Int.toNat_of_nonneg h0] at this
/-- The pages that a check counts: the roots, and the children of what was reached. -/
def heldL (X : DSt) (R l : List Int) : List Int := R ++ l.flatMap fun q => kids (rdN X q).1
theorem count_toNat : ∀ {l : List Int}, (∀ x ∈ l, 0 ≤ x) → ∀ p : Nat, (l.map Int.toNat).count p = l.count (p : Int)
  | [], _, p => rfl
  | x :: l, h, p => by
    have ih := count_toNat (l := l) (fun y hy => h y (by simp [hy])) p
    have hx := h x (by simp)
    rw [List.map_cons, List.count_cons, List.count_cons, ih]
    congr 1
    by_cases e : x = (p : Int)
    · subst e; simp
    · have : ¬ x.toNat = p := by omega
      simp [e, this]
theorem held_exact {X : DSt} {L : List Pg} {R : List Int} (h : Inv X L R) {S : Int → Bool} (hS : ∀ x, S x = true ↔ (0 ≤ x ∧ 0 < cntL L x.toNat)) {l : List Int} (hl : SeenL S l) (p : Nat) : (heldL X R l).count (p : Int) = cntL L p := by
  have h0 : ∀ x ∈ l, 0 ≤ x ∧ 0 < cntL L x.toNat := fun x hx => (hS x).1 ((hl.mem x).1 hx)
  rw [h.di.ex.cnt p]
  unfold heldL byCh
  rw [List.count_append, count_toNat h.nn p, List.count_flatMap]
  congr 1
  have hperm : (l.map Int.toNat).Perm (live L.length (cntL L)) := by
    refine (List.perm_ext_iff_of_nodup ?_ (live_nodup _ _)).2 fun q => ?_
    · refine List.pairwise_map.2 (List.Pairwise.imp_of_mem (fun {a b} ha hb hne e => hne ?_) hl.nd)
      have := (h0 a ha).1
      have := (h0 b hb).1
      omega
    · rw [mem_live]
      constructor
      · intro hq
        obtain ⟨x, hx, rfl⟩ := List.mem_map.1 hq
        exact ⟨Exact.lt h.di.ex (h0 x hx).2, (h0 x hx).2⟩
      · rintro ⟨_, hc⟩
        refine List.mem_map.2 ⟨(q : Int), (hl.mem _).2 ((hS _).2 ⟨by omega, by simpa using hc⟩), by simp⟩
  have e2 : (l.map fun x => (chX X x.toNat).count p).sum = ((live L.length (cntL L)).map fun q => (chX X q).count p).sum := by
    have := (hperm.map fun q => (chX X q).count p).sum_nat
    rw [List.map_map] at this
    exact this
  rw [← e2]
  congr 1
  refine List.map_congr_left fun x hx => ?_
  have hx0 := h0 x hx
  show (kids (rdN X x).1).count (p : Int) = _
  unfold chX
  rw [Int.toNat_of_nonneg hx0.1]
  refine (count_toNat (fun y hy => ?_) p).symm
  have := h.di.kid hx0.2 y (by rwa [Int.toNat_of_nonneg hx0.1])
  exact this.1
end Go.Proofs.Ytamfnjliikiifaa
/- What NodesExact may do to a store, plain: drops, holds, makes, commits keep each page held as often as needed; no condition. -/
namespace Go.Proofs.Ytamfnjliikiifaa
open Go.RowKit Go.Proofs.U
set_option linter.unusedSimpArgs false
set_option linter.unusedVariables false
theorem cntL_mono_set {L : List Pg} {p : Nat} {x : Pg} (hp : p < L.length) (hx : x.c.toNat ≤ cntL L p) (q : Nat) (h : 0 < cntL (L.set p x) q) : 0 < cntL L q := by
  rw [cntL_set L p x hp] at h
  by_cases e : q = p
  · subst e; rw [updG_at] at h; omega
  · rwa [updG_ne _ _ e] at h
/-- Less is held. -/
def LessL (L L' : List Pg) : Prop := (∀ q, 0 < cntL L' q → 0 < cntL L q) ∧ muL L' ≤ muL L
theorem LessL.trans {A B C : List Pg} (h : LessL A B) (k : LessL B C) : LessL A C := ⟨fun q hq => h.1 q (k.1 q hq), Nat.le_trans k.2 h.2⟩
theorem each_drop {X : DSt} {n : Nat} {R : List Nat} (hf : ∀ (L : List Pg) (p : Nat) (R : List Nat), muL L < n → DI X L (p :: R) → (dropF X n L (p : Int)).2 = 0 ∧ DI X (dropF X n L (p : Int)).1 R ∧ LessL L (dropF X n L (p : Int)).1) :
    ∀ (ps : List Int) (L : List Pg), muL L < n → (∀ p ∈ ps, 0 ≤ p) → DI X L (ps.map Int.toNat ++ R) → (eachF (dropF X n) L ps).2 = 0 ∧ DI X (eachF (dropF X n) L ps).1 R ∧ LessL L (eachF (dropF X n) L ps).1
  | [], L, _, _, h => ⟨rfl, h, fun _ h => h, Nat.le_refl _⟩
  | p :: ps, L, hn, h0, h => by
    have hp0 := h0 p (by simp)
    obtain ⟨h1, h2, h3⟩ := hf L p.toNat (ps.map Int.toNat ++ R) hn h
    rw [Int.toNat_of_nonneg hp0] at h1 h2 h3
    rw [eachF_cons0 h1]
    obtain ⟨k1, k2, k3⟩ := each_drop hf ps _ (Nat.lt_of_le_of_lt h3.2 hn) (fun q hq => h0 q (by simp [hq])) h2
    exact ⟨k1, k2, h3.trans k3⟩
theorem drop_ex {X : DSt} : ∀ (n : Nat) (L : List Pg) (p : Nat) (R : List Nat), muL L < n → DI X L (p :: R) → (dropF X n L (p : Int)).2 = 0 ∧ DI X (dropF X n L (p : Int)).1 R ∧ LessL L (dropF X n L (p : Int)).1
  | 0, L, p, R, hn, _ => absurd hn (by omega)
  | n + 1, L, p, R, hn, h => by
    obtain ⟨hp, hc, hh⟩ := h.ex.pos h.ok (List.mem_cons_self)
    have hdo := drop_ok h.ok (p : Int)
    rcases h.ex.drop h.ok with ⟨h1, e, k⟩ | ⟨h1, e, k⟩
    · have e3 : dropF X (n + 1) L (p : Int) = (L.set p ⟨(plAt L p).c - 1, (plAt L p).s⟩, 0) := by rw [dropF_succ e]; rfl
      rw [e3]
      have hmu := drop_mu h.ok e
      rw [e] at hdo
      have hle : (⟨(plAt L p).c - 1, (plAt L p).s⟩ : Pg).c.toNat ≤ cntL L p := by unfold cntL; simp only; omega
      refine ⟨rfl, ⟨hdo, k, fun i hi => ?_, fun q hq => h.rd q (cntL_mono_set hp hle q hq)⟩, ⟨fun q hq => cntL_mono_set hp hle q hq, hmu.1⟩⟩
      rw [plAt_set _ _ _ _ hp] at hi ⊢
      split
      · show 0 < (plAt L p).c - 1; omega
      · rename_i hne; rw [if_neg hne] at hi; exact h.nf i hi
    · rw [dropF_succ e]
      have hmu := drop_mu h.ok e
      rw [e] at hdo
      have hle : (⟨0, dropS (plAt L p).s⟩ : Pg).c.toNat ≤ cntL L p := Nat.zero_le _
      have hcp : 0 < cntL L p := (cnt_pos p).2 hc
      have hrd := h.rd p hcp
      have hD : DI X (L.set p ⟨0, dropS (plAt L p).s⟩) (chX X p ++ R) := by
        refine ⟨hdo, k, fun i hi => ?_, fun q hq => h.rd q (cntL_mono_set hp hle q hq)⟩
        rw [plAt_set _ _ _ _ hp] at hi ⊢
        split
        · rename_i he; rw [if_pos he, dropS_frsh] at hi; cases hi
        · rename_i hne; rw [if_neg hne] at hi; exact h.nf i hi
      have hL1 : LessL L (L.set p ⟨0, dropS (plAt L p).s⟩) := ⟨fun q hq => cntL_mono_set hp hle q hq, hmu.1⟩
      simp only [if_true]
      rw [if_pos hrd]
      obtain ⟨k1, k2, k3⟩ := each_drop (R := R) (drop_ex n) (kids (rdN X (p : Int)).1) (L.set p ⟨0, dropS (plAt L p).s⟩) (by have := (hmu.2 rfl).2.1; omega) (fun x hx => (h.kid hcp x hx).1) hD
      exact ⟨k1, k2, hL1.trans k3⟩
theorem DI.perm {X : DSt} {L : List Pg} {R R' : List Nat} (h : DI X L R) (hp : ∀ p, R.count p = R'.count p) : DI X L R' := { h with ex := Exact.perm h.ex hp }
/-- A root is dropped. -/
theorem Inv.drop {X : DSt} {L : List Pg} {R : List Int} (h : Inv X L R) (k : Nat) (hk : k < R.length) : (dropF X (muL L + 1) L R[k]).2 = 0 ∧ Inv X (dropF X (muL L + 1) L R[k]).1 (R.take k ++ R.drop (k + 1)) := by
  have h0 : 0 ≤ R[k] := h.nn _ (by simp)
  have e : R = R.take k ++ R[k] :: R.drop (k + 1) := by rw [← List.drop_eq_getElem_cons hk, List.take_append_drop]
  have hperm : ∀ p, (R.map Int.toNat).count p = (R[k].toNat :: (R.take k ++ R.drop (k + 1)).map Int.toNat).count p := by
    intro p
    have e2 : R.map Int.toNat = (R.take k).map Int.toNat ++ R[k].toNat :: (R.drop (k + 1)).map Int.toNat := by
      have := congrArg (List.map Int.toNat) e
      rw [List.map_append, List.map_cons] at this
      exact this
    rw [e2]
    simp only [List.count_append, List.count_cons, List.map_append]
    omega
  obtain ⟨k1, k2, k3⟩ := drop_ex (muL L + 1) L R[k].toNat _ (by omega) (h.di.perm hperm)
  rw [Int.toNat_of_nonneg h0] at k1 k2 k3
  refine ⟨k1, fun r hr => ?_, k2, ?_⟩
  · rcases List.mem_append.1 hr with hr | hr
    · exact h.nn r (List.mem_of_mem_take hr)
    · exact h.nn r (List.mem_of_mem_drop hr)
  · obtain ⟨rk, hf⟩ := h.fl
    exact ⟨rk, hf.less k3.1⟩
/-- A root is held once more, or can't be. -/
theorem Inv.hold {X : DSt} {L : List Pg} {R : List Int} (h : Inv X L R) {r : Int} (hr : r ∈ R) : (∃ L', plHold L r = (L', 0) ∧ Inv X L' (R ++ [r])) ∨ plHold L r = (L, 72) := by
  have h0 := h.nn r hr
  have hc : 0 < cntL L r.toNat := Exact.pos h.di.ex (List.mem_map_of_mem hr)
  have hh : plHeld L r = true := (h.di.held r).2 ⟨h0, hc⟩
  have hlt := Exact.lt h.di.ex hc
  have hok := hold_ok h.di.ok r
  rcases hold_cases L r with ⟨e, _⟩ | ⟨_, _, e⟩ | ⟨_, _, e⟩
  · rw [hh] at e; cases e
  · exact Or.inr e
  · refine Or.inl ⟨_, e, ?_⟩
    rw [e] at hok
    have hcp := (cnt_pos r.toNat).1 hc
    have hpos : ∀ q, 0 < cntL (L.set r.toNat ⟨(plAt L r.toNat).c + 1, (plAt L r.toNat).s⟩) q → 0 < cntL L q := by
      intro q hq
      rw [cntL_set L _ _ hlt] at hq
      by_cases e : q = r.toNat
      · subst e; exact hc
      · rwa [updG_ne _ _ e] at hq
    obtain ⟨rk, hf⟩ := h.fl
    refine ⟨fun x hx => ?_, ⟨hok, ?_, fun i hi => ?_, fun q hq => h.di.rd q (hpos q hq)⟩, ⟨rk, hf.less hpos⟩⟩
    · rcases List.mem_append.1 hx with hx | hx
      · exact h.nn x hx
      · rw [List.mem_singleton.1 hx]; exact h0
    · rw [List.map_append]
      exact h.di.ex.hold hcp
    · rw [plAt_set _ _ _ _ hlt] at hi ⊢
      split
      · show 0 < (plAt L r.toNat).c + 1; omega
      · rename_i hne; rw [if_neg hne] at hi; exact h.di.nf i hi
theorem cntL_comm (L : List Pg) : cntL (plCommit L) = cntL L := by funext q; unfold cntL; rw [comm_at]
theorem Inv.comm {X : DSt} {L : List Pg} {R : List Int} (h : Inv X L R) : Inv X (plCommit L) R := by
  refine ⟨h.nn, ⟨comm_ok h.di.ok, h.di.ex.comm, fun i hi => ?_, fun q hq => h.di.rd q (by rwa [cntL_comm] at hq)⟩, by rw [cntL_comm]; exact h.fl⟩
  rw [comm_at] at hi
  cases hi
theorem cntL_mark (L : List Pg) : cntL (plMark L) = cntL L := by
  funext q
  unfold cntL plMark
  rw [plAt_map _ _ mark0]
  unfold markP
  split <;> rfl
theorem Inv.mark {X : DSt} {L : List Pg} {R : List Int} (h : Inv X L R) : Inv X (plMark L) R := by
  refine ⟨h.nn, ⟨mark_ok h.di.ok, h.di.ex.mark, fun i hi => ?_, fun q hq => h.di.rd q (by rwa [cntL_mark] at hq)⟩, by rw [cntL_mark]; exact h.fl⟩
  have hm : (plAt (plMark L) i) = markP (plAt L i) := by unfold plMark; rw [plAt_map _ _ mark0]
  rw [hm] at hi ⊢
  have hf : (plAt L i).frsh = true := by
    unfold markP at hi
    split at hi
    · rename_i h1; unfold Pg.frsh; rw [h1]; rfl
    · exact hi
  have := h.di.nf i hf
  unfold markP
  split
  · exact this
  · exact this
/-- What isn't held may be written. -/
theorem byCh_congr {n : Nat} {c : Nat → Nat} {ch ch' : Nat → List Nat} (h : ∀ q, 0 < c q → ch q = ch' q) (p : Nat) : byCh ch (live n c) p = byCh ch' (live n c) p := by
  unfold byCh
  congr 1
  refine List.map_congr_left fun q hq => ?_
  rw [h q (mem_live.1 hq).2]
theorem Exact.congr {n : Nat} {c : Nat → Nat} {ch ch' : Nat → List Nat} {R : List Nat} (hE : Exact n c ch R) (h : ∀ q, 0 < c q → ch q = ch' q) : Exact n c ch' R := ⟨fun p => by rw [← byCh_congr h p]; exact hE.cnt p, hE.out⟩
theorem Falls.congr {c : Nat → Nat} {ch ch' : Nat → List Nat} {rk : Nat → Nat} (hF : Falls c ch rk) (h : ∀ q, 0 < c q → ch q = ch' q) : Falls c ch' rk := fun q hq p hp => hF q hq p (by rw [h q hq]; exact hp)
theorem Inv.write {X X' : DSt} {L : List Pg} {R : List Int} (h : Inv X L R) (hx : ∀ q : Nat, 0 < cntL L q → rdN X' (q : Int) = rdN X (q : Int)) : Inv X' L R := by
  have hch : ∀ q, 0 < cntL L q → chX X q = chX X' q := fun q hq => by unfold chX; rw [hx q hq]
  obtain ⟨rk, hf⟩ := h.fl
  exact ⟨h.nn, ⟨h.di.ok, Exact.congr h.di.ex hch, h.di.nf, fun q hq => by rw [hx q hq]; exact h.di.rd q hq⟩, ⟨rk, Falls.congr hf hch⟩⟩
theorem Inv.new (n : Int) (X : DSt) : Inv X (plNew n) [] := by
  have hat : ∀ i, plAt (plNew n) i = Pg0 := by
    intro i
    unfold plAt plNew
    simp only [List.getD, List.getElem?_replicate]
    split <;> rfl
  have hc : ∀ q, cntL (plNew n) q = 0 := fun q => by unfold cntL; rw [hat q]; rfl
  refine ⟨by simp, ⟨plNew_ok n, ⟨fun p => ?_, fun p _ => hc p⟩, fun i hi => ?_, fun q hq => ?_⟩, ⟨fun _ => 0, fun q hq => ?_⟩⟩
  · rw [hc p]
    have : live (plNew n).length (cntL (plNew n)) = [] := by
      unfold live
      rw [List.filter_eq_nil_iff]
      intro q _
      rw [hc q]
      decide
    rw [this]
    rfl
  · rw [hat i] at hi; cases hi
  · rw [hc q] at hq; omega
  · rw [hc q] at hq; omega
/-- Behind the last drop and a commit all is free. -/
theorem Inv.allFree {X : DSt} {L : List Pg} (h : Inv X L []) : plFree (plCommit L) = (plCommit L).length := by
  obtain ⟨rk, hf⟩ := h.fl
  have hz := PlEx.none_held h.di.ex hf
  unfold plFree
  rw [List.countP_eq_length]
  intro x hx
  obtain ⟨j, hj, rfl⟩ := List.mem_iff_getElem.1 hx
  rw [← plAt_get _ j hj, comm_at]
  have h0 := hz j
  have h1 := (h.di.ok.2 j).1
  have : (plAt L j).c = 0 := by unfold cntL at h0; omega
  unfold Pg.free
  rw [this]
  rfl
end Go.Proofs.Ytamfnjliikiifaa
/- What NodesExact may make, plain: a node of a block and of roots keeps each page held as often as needed; no condition. -/
namespace Go.Proofs.Ytamfnjliikiifaa
open Go.RowKit Go.Proofs.U
set_option linter.unusedSimpArgs false
set_option linter.unusedVariables false
theorem hold_at {L : List Pg} {q : Int} (h : (plHold L q).2 = 0) (i : Nat) : plAt (plHold L q).1 i = ⟨(plAt L i).c + (if q = (i : Int) then 1 else 0), (plAt L i).s⟩ := by
  rcases hold_cases L q with ⟨_, e⟩ | ⟨_, _, e⟩ | ⟨hh, _, e⟩
  · rw [e] at h; cases h
  · rw [e] at h; cases h
  · obtain ⟨j, rfl, hj⟩ := plHeld_in hh
    rw [e]
    simp only [Int.toNat_natCast]
    rw [plAt_set _ _ _ _ hj]
    by_cases hi : i = j
    · subst hi; rw [if_pos rfl, if_pos rfl]
    · rw [if_neg hi, if_neg (by omega), Int.add_zero]
theorem eachHold_at : ∀ (l : List Int) {L : List Pg}, (eachF plHold L l).2 = 0 → ∀ i : Nat, plAt (eachF plHold L l).1 i = ⟨(plAt L i).c + ((l.count (i : Int) : Nat) : Int), (plAt L i).s⟩
  | [], L, _, i => by simp [eachF]
  | q :: l, L, h, i => by
    by_cases h0 : (plHold L q).2 = 0
    · rw [eachF_cons0 h0] at h ⊢
      rw [eachHold_at l h i, hold_at h0 i]
      congr 1
      rw [List.count_cons]
      by_cases e : q = (i : Int)
      · subst e; simp; omega
      · have e2 : (q == (i : Int)) = false := by simpa using e
        rw [if_neg e, e2]; simp
    · rw [eachF_cons1 h0] at h
      exact absurd h h0
theorem rises_snoc {y : Int × Int} (hy : y.1 ≤ 63 ∧ 0 ≤ y.2 ∧ y.2 ≤ 239) : ∀ {l : List (Int × Int)} {last : Int}, rises last l = true → last < y.1 → (∀ x ∈ l, x.1 < y.1) → rises last (l ++ [y]) = true
  | [], last, _, h1, _ => by
    obtain ⟨a, p⟩ := y
    simp only at hy h1
    simp [rises]
    omega
  | (a, p) :: l, last, h, h1, h2 => by
    simp only [rises, Bool.and_eq_true] at h
    rw [List.cons_append]
    simp only [rises, Bool.and_eq_true]
    exact ⟨h.1, rises_snoc hy h.2 (h2 (a, p) (by simp)) (fun x hx => h2 x (by simp [hx]))⟩
theorem entsW_keys (R keys : List Int) (pg : Int) : ∀ j, ∀ x ∈ entsW R keys pg j, 0 ≤ x.1 ∧ x.1 ≤ (j : Int)
  | 0, x, hx => by
    obtain rfl : x = (0, pg) := List.mem_singleton.1 hx
    simp
  | j + 1, x, hx => by
    unfold entsW at hx
    rcases List.mem_append.1 hx with hx | hx
    · have := entsW_keys R keys pg j x hx; omega
    · split at hx
      · obtain rfl := List.mem_singleton.1 hx
        simp only
        omega
      · cases hx
theorem pickW_mem {R : List Int} (k : Int) (h : 0 < R.length) : pickW R k ∈ R := by
  unfold pickW
  have hlt : (max 0 (min k ((R.length : Int) - 1))).toNat < R.length := by omega
  simp only [List.getD]
  rw [List.getElem?_eq_getElem hlt]
  simp
theorem entsW_rises {R : List Int} (hR : ∀ x ∈ R, 0 ≤ x ∧ x ≤ 239) (keys : List Int) {pg : Int} (h0 : 0 ≤ pg) (h1 : pg ≤ 239) : ∀ j, rises (-1) (entsW R keys pg j) = true
  | 0 => by simp [entsW, rises]; omega
  | j + 1 => by
    unfold entsW
    split
    · rename_i hc
      have hp := hR _ (pickW_mem (keys.getD j 0) hc.1)
      refine rises_snoc ⟨?_, hp⟩ (entsW_rises hR keys h0 h1 j) ?_ (fun x hx => ?_)
      · show (j : Int) + 1 ≤ 63; omega
      · show (-1 : Int) < (j : Int) + 1; omega
      · have := entsW_keys R keys pg j x hx
        show x.1 < (j : Int) + 1; omega
    · rw [List.append_nil]; exact entsW_rises hR keys h0 h1 j
theorem entsW_kids (R keys : List Int) (pg : Int) : ∀ j, ∃ pk, (entsW R keys pg j).map (·.2) = pg :: pk ∧ ∀ x ∈ pk, x ∈ R
  | 0 => ⟨[], rfl, by simp⟩
  | j + 1 => by
    obtain ⟨pk, h, hm⟩ := entsW_kids R keys pg j
    unfold entsW
    rw [List.map_append, h]
    split
    · rename_i hc
      refine ⟨pk ++ [pickW R (keys.getD j 0)], by simp, fun x hx => ?_⟩
      rcases List.mem_append.1 hx with hx | hx
      · exact hm x hx
      · rw [List.mem_singleton.1 hx]; exact pickW_mem _ hc.1
    · exact ⟨pk, by simp, hm⟩
theorem entsW_pos (R keys : List Int) (pg : Int) : ∀ j, 1 ≤ (entsW R keys pg j).length
  | 0 => by simp [entsW]
  | j + 1 => by
    have := entsW_pos R keys pg j
    unfold entsW
    rw [List.length_append]
    omega
theorem ndW_right {R : List Int} (hR : ∀ x ∈ R, 0 ≤ x ∧ x ≤ 239) (keys : List Int) {pg : Int} (h0 : 0 ≤ pg) (h1 : pg ≤ 239) : (ndW R keys pg).right = true := by
  unfold Nd.right ndW
  simp only
  rw [if_neg (by decide)]
  simp [entsW_rises hR keys h0 h1, (entsW_len R keys pg keys.length).1]
  exact entsW_pos R keys pg keys.length
theorem ndA_right (b : List Int) : (ndA b).right = true := by unfold Nd.right ndA; rfl
theorem Exact.mores {n : Nat} {ch : Nat → List Nat} : ∀ (P : List Nat) {c : Nat → Nat} {R : List Nat}, Exact n c ch R → (∀ p ∈ P, 0 < c p) → Exact n (fun q => c q + P.count q) ch (R ++ P)
  | [], c, R, h, _ => by simpa using h
  | p :: P, c, R, h, hp => by
    have h1 := Exact.mores P (Exact.more h (hp p (by simp))) (fun q hq => by
      by_cases e : q = p
      · subst e; rw [updG_at]; omega
      · rw [updG_ne _ _ e]; exact hp q (by simp [hq]))
    have e : (fun q => updG c p (c p + 1) q + P.count q) = fun q => c q + (p :: P).count q := by
      funext q
      rw [List.count_cons]
      by_cases e : q = p
      · subst e; rw [updG_at]; simp; omega
      · have : (p == q) = false := by simp; omega
        rw [updG_ne _ _ e, this]; simp
    rw [e, List.append_assoc] at h1
    exact h1
theorem Inv.rng {X : DSt} {L : List Pg} {R : List Int} (h : Inv X L R) : ∀ x ∈ R, 0 ≤ x ∧ x ≤ 239 ∧ 0 < cntL L x.toNat := by
  intro x hx
  have hc : 0 < cntL L x.toNat := Exact.pos h.di.ex (List.mem_map_of_mem hx)
  have := h.di.low hc
  exact ⟨h.nn x hx, by omega, hc⟩
theorem free_cnt {L : List Pg} {k : Nat} (h : (plAt L k).free = true) : cntL L k = 0 := by
  unfold Pg.free at h
  simp only [Bool.and_eq_true, beq_iff_eq] at h
  unfold cntL
  rw [h.1]
  rfl
theorem Inv.make {X : DSt} {L : List Pg} {R : List Int} {m : Nat} (h0 : Inv X L R) (hU0 : Up X L.length m) (keys : List Int) {b : List Int} (hb : b.length = 16) (hby : Byt b) :
    ((wmk X L R keys b).2 = 0 ∨ (wmk X L R keys b).2 = 71 ∨ (wmk X L R keys b).2 = 72) ∧ Inv (wmk X L R keys b).1.1 (wmk X L R keys b).1.2.1 (wmk X L R keys b).1.2.2 := by
  have h := h0.mark
  have hU : Up X (plMark L).length m := by rw [mark_len]; exact hU0
  clear hU0
  have w1 := fun {X1 L1 pg e1} => @wmk_1 X X1 L L1 R keys b pg e1
  have w2 := fun {X1 X2 L1 L2 pg rt e2} => @wmk_2 X X1 X2 L L1 L2 R keys b pg rt e2
  have w4 := fun {X1 X2 L1 L2 L3 pg rt} => @wmk_4 X X1 X2 L L1 L2 L3 R keys b pg rt
  generalize plMark L = M at *
  have hAr := ndA_right b
  have hAo : (ndA b).ok := ⟨hb, hby⟩
  have hAk : kids (ndA b) = [] := rfl
  by_cases hf : plFree M = 0
  · have e := makeB_full X (L := M) hAr (by rw [hAk]; rfl) hf
    rw [w1 e (by decide)]
    exact ⟨Or.inr (Or.inl rfl), h⟩
  · obtain ⟨k, hk, hfr, hT⟩ := free_some hf
    have ck := free_cnt hfr
    have k0 : (0 : Int) ≤ (k : Int) := by omega
    have k1 : (k : Int) < (M.length : Int) := by omega
    have hM240 := h.di.ok.1
    have e1 : makeF X M (ndA b) = ((X.write ((k : Int) + 4) (ndA b).page, M.set k ⟨0, 1⟩), (k : Int), 0) := by
      unfold makeF
      rw [hAr, hAk, hT]
      rfl
    have r1 := fun {r : Int} => rdN_write hU k0 k1 hAr hAo (r := r)
    have hU1 := (hU.write k0 k1 (page_len hAr hb) (page_byt hAr hAo)).2.1
    generalize X.write ((k : Int) + 4) (ndA b).page = X1 at *
    have hR := h.rng
    have hRk : ∀ x ∈ R, x ≠ (k : Int) := by
      intro x hx e
      have := (hR x hx).2.2
      rw [e, Int.toNat_natCast] at this
      omega
    have hWr : (ndW R keys (k : Int)).right = true := ndW_right (fun x hx => ⟨(hR x hx).1, (hR x hx).2.1⟩) keys k0 (by omega)
    have hWo : (ndW R keys (k : Int)).ok := ⟨zerB_len 16, zerB_byt 16⟩
    obtain ⟨pk, hWk, hpk⟩ := entsW_kids R keys (k : Int) keys.length
    have hWk : kids (ndW R keys (k : Int)) = (k : Int) :: pk := hWk
    have hok1 : plOk (M.set k ⟨0, 1⟩) := by have := take_ok h.di.ok; rw [hT] at this; exact this
    have hheld : ∀ q ∈ kids (ndW R keys (k : Int)), plHeld (M.set k ⟨0, 1⟩) q = true := by
      intro q hq
      rw [hWk] at hq
      rw [held_set hk]
      rcases List.mem_cons.1 hq with rfl | hq
      · rw [if_pos rfl]; rfl
      · rw [if_neg (hRk q (hpk q hq))]
        exact (h.di.held q).2 ⟨(hR q (hpk q hq)).1, (hR q (hpk q hq)).2.2⟩
    have hany : (kids (ndW R keys (k : Int))).any (fun p => !plHeld (M.set k ⟨0, 1⟩) p) = false := by
      rw [List.any_eq_false]
      intro q hq
      rw [hheld q hq]
      decide
    have hw1 : ∀ q : Nat, 0 < cntL M q → rdN X1 (q : Int) = rdN X (q : Int) := by
      intro q hq
      have hlt := Exact.lt h.di.ex hq
      rw [r1 (by omega) (by omega), if_neg (by intro e; have : q = k := by omega
                                               subst this; omega)]
    have hI1 : Inv X1 M R := h.write hw1
    by_cases hf2 : plFree (M.set k ⟨0, 1⟩) = 0
    · have e2 := makeB_full X1 (L := M.set k ⟨0, 1⟩) hWr hany hf2
      rw [w2 e1 e2 (by decide)]
      exact ⟨Or.inr (Or.inl rfl), hI1⟩
    · obtain ⟨k2, hk2, hfr2, hT2⟩ := free_some hf2
      rw [List.length_set] at hk2
      have hne : k2 ≠ k := by
        intro e
        subst e
        rw [plAt_set _ _ _ _ hk, if_pos rfl] at hfr2
        cases hfr2
      have hfrM : (plAt M k2).free = true := by rwa [plAt_set _ _ _ _ hk, if_neg hne] at hfr2
      have ck2 := free_cnt hfrM
      have k20 : (0 : Int) ≤ (k2 : Int) := by omega
      have k21 : (k2 : Int) < (M.length : Int) := by omega
      have r2 := fun {r : Int} => rdN_write hU1 k20 k21 hWr hWo (r := r)
      have hkl : k2 < (M.set k ⟨0, 1⟩).length := by rw [List.length_set]; exact hk2
      have hok2 : plOk ((M.set k ⟨0, 1⟩).set k2 ⟨0, 1⟩) := by have := take_ok hok1; rw [hT2] at this; exact this
      have hheld2 : ∀ q ∈ kids (ndW R keys (k : Int)), plHeld ((M.set k ⟨0, 1⟩).set k2 ⟨0, 1⟩) q = true := by
        intro q hq
        rw [held_set hkl]
        split
        · rfl
        · exact hheld q hq
      have hkn : ∀ q ∈ kids (ndW R keys (k : Int)), q ≠ (k2 : Int) := by
        intro q hq e
        rw [hWk] at hq
        rcases List.mem_cons.1 hq with rfl | hq
        · omega
        · have := (hR q (hpk q hq)).2.2
          rw [e, Int.toNat_natCast] at this
          omega
      have hEr := eachHold_err (kids (ndW R keys (k : Int))) hok2 hheld2
      have hat := fun hz i => eachHold_at (kids (ndW R keys (k : Int))) (L := (M.set k ⟨0, 1⟩).set k2 ⟨0, 1⟩) hz i
      have hEok := eachHold_ok (kids (ndW R keys (k : Int))) hok2
      have hElen := eachHold_len (kids (ndW R keys (k : Int))) ((M.set k ⟨0, 1⟩).set k2 ⟨0, 1⟩)
      have hEk := eachHold_keeps (kids (ndW R keys (k : Int))) hok2
      have em : makeF X1 (M.set k ⟨0, 1⟩) (ndW R keys (k : Int)) = if (eachF plHold ((M.set k ⟨0, 1⟩).set k2 ⟨0, 1⟩) (kids (ndW R keys (k : Int)))).2 = 0 then ((X1.write ((k2 : Int) + 4) (ndW R keys (k : Int)).page, (eachF plHold ((M.set k ⟨0, 1⟩).set k2 ⟨0, 1⟩) (kids (ndW R keys (k : Int)))).1), (k2 : Int), 0) else ((X1.write ((k2 : Int) + 4) (ndW R keys (k : Int)).page, (eachF plHold ((M.set k ⟨0, 1⟩).set k2 ⟨0, 1⟩) (kids (ndW R keys (k : Int)))).1), -1, (eachF plHold ((M.set k ⟨0, 1⟩).set k2 ⟨0, 1⟩) (kids (ndW R keys (k : Int)))).2) := by
        unfold makeF
        rw [hWr, hany, hT2]
        rfl
      generalize X1.write ((k2 : Int) + 4) (ndW R keys (k : Int)).page = X2 at *
      generalize eachF plHold ((M.set k ⟨0, 1⟩).set k2 ⟨0, 1⟩) (kids (ndW R keys (k : Int))) = E at *
      obtain ⟨L2, e2⟩ := E
      simp only at hEr hat hEok hElen hEk em
      have hw2 : ∀ q : Nat, 0 < cntL M q → rdN X2 (q : Int) = rdN X (q : Int) := by
        intro q hq
        have hlt := Exact.lt h.di.ex hq
        rw [r2 (by omega) (by omega), if_neg (by intro e; have : q = k2 := by omega
                                                 subst this; omega)]
        exact hw1 q hq
      rcases hEr with rfl | rfl
      · rw [if_pos rfl] at em
        have hat := hat rfl
        have hk2n : (kids (ndW R keys (k : Int))).count (k2 : Int) = 0 := List.count_eq_zero.2 fun hm => hkn _ hm rfl
        have h2k2 : plAt L2 k2 = ⟨0, 1⟩ := by
          rw [hat k2, plAt_set _ _ _ _ hkl, if_pos rfl, hk2n]; rfl
        have hh2 : plHold L2 (k2 : Int) = (L2.set k2 ⟨1, 1⟩, 0) := by
          have hhd : plHeld L2 (k2 : Int) = true := by rw [hEk, held_set hkl, if_pos rfl]; rfl
          rcases hold_cases L2 (k2 : Int) with ⟨e, _⟩ | ⟨_, e, _⟩ | ⟨_, _, e⟩
          · rw [hhd] at e; cases e
          · rw [Int.toNat_natCast, h2k2] at e; exact absurd e (by decide)
          · rw [e, Int.toNat_natCast, h2k2]; rfl
        rw [w4 e1 em hh2]
        refine ⟨Or.inl rfl, ?_⟩
        have hlen2 : L2.length = M.length := by rw [hElen, List.length_set, List.length_set]
        have hk2L : k2 < L2.length := by omega
        have hok3 : plOk (L2.set k2 ⟨1, 1⟩) := by have := hold_ok hEok (k2 : Int); rw [hh2] at this; exact this
        -- what is held then
        have c2 : ∀ q, cntL L2 q = cntL M q + ((k : Int) :: pk).count (q : Int) := by
          intro q
          have hq := hat q
          rw [hWk] at hq
          unfold cntL
          rw [hq, plAt_set _ _ _ _ hkl]
          simp only
          by_cases e : q = k2
          · subst e
            rw [if_pos rfl]
            unfold cntL at ck2
            rw [ck2]
            simp
          · rw [if_neg e, plAt_set _ _ _ _ hk]
            by_cases e' : q = k
            · subst e'
              rw [if_pos rfl]
              unfold cntL at ck
              rw [ck]
              simp
            · rw [if_neg e']
              have := (h.di.ok.2 q).1
              omega
        obtain ⟨rk, hfl⟩ := h.fl
        have E0 : Exact M.length (cntL M) (chX X) (R.map Int.toNat ++ []) := by rw [List.append_nil]; exact h.di.ex
        have E1 := Exact.adopt E0 ck hk
        have F1 := Falls.adopt hfl E0 ck
        have hP : ∀ p ∈ pk.map Int.toNat, 0 < updG (cntL M) k 1 p := by
          intro p hp
          obtain ⟨x, hx, rfl⟩ := List.mem_map.1 hp
          by_cases e : x.toNat = k
          · rw [e, updG_at]; omega
          · rw [updG_ne _ _ e]; exact (hR x (hpk x hx)).2.2
        have E2 := Exact.mores (pk.map Int.toNat) E1 hP
        have F2 : Falls (fun q => updG (cntL M) k 1 q + (pk.map Int.toNat).count q) (updG (chX X) k []) _ := F1.less fun q hq => by
          rcases Nat.eq_zero_or_pos ((pk.map Int.toNat).count q) with hz | hz
          · simp only [hz, Nat.add_zero] at hq; exact hq
          · exact hP q (List.count_pos_iff.1 hz)
        have E2' : Exact M.length (fun q => updG (cntL M) k 1 q + (pk.map Int.toNat).count q) (updG (chX X) k []) (R.map Int.toNat ++ k :: pk.map Int.toNat) := by
          have := E2
          rw [List.append_assoc] at this
          exact this
        have cP : (pk.map Int.toNat).count k2 = 0 := by
          rw [count_toNat (fun x hx => (hR x (hpk x hx)).1)]
          refine List.count_eq_zero.2 fun hm => hkn (k2 : Int) ?_ rfl
          rw [hWk]
          exact List.mem_cons_of_mem _ hm
        have cz : (fun q => updG (cntL M) k 1 q + (pk.map Int.toNat).count q) k2 = 0 := by
          show updG (cntL M) k 1 k2 + (pk.map Int.toNat).count k2 = 0
          rw [updG_ne _ _ hne, ck2, cP]
        have E3 := Exact.adopt E2' cz hk2
        have F3 := Falls.adopt F2 E2' cz
        have ceq : updG (fun q => updG (cntL M) k 1 q + (pk.map Int.toNat).count q) k2 1 = cntL (L2.set k2 ⟨1, 1⟩) := by
          rw [cntL_set L2 _ _ hk2L]
          funext q
          by_cases e : q = k2
          · subst e; rw [updG_at, updG_at]; rfl
          · rw [updG_ne _ _ e, updG_ne _ _ e, c2 q, List.count_cons, count_toNat (fun x hx => (hR x (hpk x hx)).1)]
            by_cases e' : q = k
            · subst e'; rw [updG_at, ck]; simp; omega
            · have e'' : ((k : Int) == (q : Int)) = false := by simp; omega
              rw [updG_ne _ _ e', e'']; simp
        rw [ceq] at E3 F3
        have hchk : chX X2 k2 = k :: pk.map Int.toNat := by
          unfold chX
          rw [r2 k20 k21, if_pos rfl]
          show (kids (ndW R keys (k : Int))).map Int.toNat = _
          rw [hWk]
          simp
        have hrk : rdN X2 (k : Int) = (ndA b, 0) := by rw [r2 k0 k1, if_neg (by omega), r1 k0 k1, if_pos rfl]
        have hlive : ∀ q, 0 < cntL (L2.set k2 ⟨1, 1⟩) q → q = k2 ∨ q = k ∨ 0 < cntL M q := by
          intro q hq
          by_cases e : q = k2
          · exact Or.inl e
          by_cases e' : q = k
          · exact Or.inr (Or.inl e')
          right; right
          rw [cntL_set L2 _ _ hk2L, updG_ne _ _ e, c2 q, List.count_cons] at hq
          have e'' : ((k : Int) == (q : Int)) = false := by simp; omega
          rw [e''] at hq
          simp only [Bool.false_eq_true, if_false, Nat.add_zero] at hq
          rcases Nat.eq_zero_or_pos (pk.count (q : Int)) with hz | hz
          · omega
          · have := (hR _ (hpk _ (List.count_pos_iff.1 hz))).2.2
            simpa using this
        have hch : ∀ q, 0 < cntL (L2.set k2 ⟨1, 1⟩) q → updG (updG (chX X) k []) k2 (k :: pk.map Int.toNat) q = chX X2 q := by
          intro q hq
          by_cases e : q = k2
          · subst e; rw [updG_at, hchk]
          by_cases e' : q = k
          · subst e'
            rw [updG_ne _ _ e, updG_at]
            unfold chX
            rw [hrk]
            rfl
          · rw [updG_ne _ _ e, updG_ne _ _ e']
            rcases hlive q hq with q1 | q1 | q1
            · exact absurd q1 e
            · exact absurd q1 e'
            · unfold chX; rw [hw2 q q1]
        refine ⟨fun x hx => ?_, ⟨hok3, ?_, fun i hi => ?_, fun q hq => ?_⟩, ⟨_, Falls.congr F3 hch⟩⟩
        · rcases List.mem_append.1 hx with hx | hx
          · exact h.nn x hx
          · rw [List.mem_singleton.1 hx]; exact k20
        · unfold PlEx
          rw [List.length_set, hlen2, List.map_append]
          exact Exact.congr E3 hch
        · rw [plAt_set _ _ _ _ hk2L] at hi ⊢
          split
          · show (0 : Int) < 1; decide
          · rename_i hni
            rw [if_neg hni] at hi
            have hq := hat i
            rw [hWk, plAt_set _ _ _ _ hkl, if_neg hni, plAt_set _ _ _ _ hk] at hq
            by_cases e' : i = k
            · subst e'
              rw [if_pos rfl] at hq
              rw [hq, List.count_cons]
              simp
            · rw [if_neg e'] at hq
              rw [hq] at hi ⊢
              have := h.di.nf i hi
              show 0 < (plAt M i).c + _
              omega
        · rcases hlive q hq with q1 | q1 | q1
          · rw [q1, r2 k20 k21, if_pos rfl]
          · rw [q1, hrk]
          · rw [hw2 q q1]; exact h.di.rd q q1
      · rw [if_neg (by decide)] at em
        rw [w2 e1 em (by decide)]
        exact ⟨Or.inr (Or.inr rfl), h.write hw2⟩
end Go.Proofs.Ytamfnjliikiifaa
