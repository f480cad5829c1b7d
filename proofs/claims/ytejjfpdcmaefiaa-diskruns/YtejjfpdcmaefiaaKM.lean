/- DiskKeeps, the plain part: what may be read behind a crash. -/
import Derived.Test.YtejjfpdcmaefiaaK12
namespace Go.Proofs.Ytejjfpdcmaefiaa
open Go.RowKit Go.Proofs.U
set_option linter.unusedSimpArgs false
set_option linter.unusedVariables false

abbrev rep (c : Int) : List Int := List.replicate 256 c
/-- What a page may hold: its own byte, and the bytes of its pending writes. -/
def mayL (c : List Int) (ps : List (Nat × Int)) (i : Nat) : List Int := c.getD i 0 :: (ps.filter (fun x => x.1 == i)).map (·.2)
structure KX (N : Nat) (X : DSt) (c : List Int) (ps : List (Nat × Int)) : Prop where
  pages : X.pages = c.map rep
  pend : X.pend = ps.map (fun x => ((x.1 : Int), rep x.2))
  len : c.length = N
  inN : ∀ x ∈ ps, x.1 < N
  bad : X.bad = fun _ => false
theorem KX.act {N : Nat} {X : DSt} {c : List Int} {ps : List (Nat × Int)} (h : KX N X c ps) : KX N X.act c ps := ⟨h.pages, h.pend, h.len, h.inN, h.bad⟩
theorem KX.cut {N : Nat} {X : DSt} {c : List Int} {ps : List (Nat × Int)} (h : KX N X c ps) (n : Int) : KX N { X with left := n } c ps := ⟨h.pages, h.pend, h.len, h.inN, h.bad⟩
theorem KX.new (n : Int) (N : Nat) (hN : newN n = N) : KX N (newD n) (List.replicate N 0) [] :=
  ⟨by show List.replicate (newN n) zeroP = _; rw [hN, List.map_replicate]; rfl, rfl, by simp, by simp, rfl⟩
theorem KX.plen {N : Nat} {X : DSt} {c : List Int} {ps : List (Nat × Int)} (h : KX N X c ps) : X.pages.length = N := by rw [h.pages, List.length_map, h.len]
theorem KX.write {N : Nat} {X : DSt} {c : List Int} {ps : List (Nat × Int)} (h : KX N X c ps) (i : Int) (b : Int) :
    (X.writeE i = 0 → ∃ j : Nat, i = j ∧ j < N ∧ KX N (X.write i (rep b)) c (ps ++ [(j, b)])) ∧ (X.writeE i ≠ 0 → KX N (X.write i (rep b)) c ps) := by
  unfold DSt.writeE DSt.write
  rw [h.plen]
  cases hin : inR N i with
  | false =>
    simp only [Bool.false_eq_true, if_false]
    exact ⟨fun h0 => by simp at h0, fun _ => h⟩
  | true =>
    simp only [if_true]
    constructor
    · intro h0
      simp only [inR, Bool.and_eq_true, decide_eq_true_eq] at hin
      refine ⟨i.toNat, by omega, by omega, ?_⟩
      rw [if_pos h0]
      refine ⟨h.pages, ?_, h.len, ?_, h.bad⟩
      · show X.pend ++ _ = _
        rw [h.pend, List.map_append]
        simp
        omega
      · intro x hx
        rcases List.mem_append.1 hx with hx | hx
        · exact h.inN x hx
        · simp at hx; subst hx; simp; omega
    · intro h0
      rw [if_neg h0]
      exact h.act
theorem mayL_put (c : List Int) (ps : List (Nat × Int)) (j : Nat) (b : Int) (i : Nat) : mayL c (ps ++ [(j, b)]) i = if j = i then mayL c ps i ++ [b] else mayL c ps i := by
  unfold mayL
  rw [List.filter_append, List.map_append]
  by_cases e : j = i
  · subst e; simp
  · simp [e]
theorem mayL_len (c : List Int) (ps : List (Nat × Int)) (i : Nat) : (mayL c ps i).length ≤ ps.length + 1 := by
  unfold mayL
  have := List.length_filter_le (fun x : Nat × Int => x.1 == i) ps
  simp; omega
/-- What is synced. -/
def lastC (c : List Int) (ps : List (Nat × Int)) : List Int := ps.foldl (fun c x => c.set x.1 x.2) c
theorem lastC_len (c : List Int) (ps : List (Nat × Int)) : (lastC c ps).length = c.length := by
  unfold lastC
  induction ps generalizing c with
  | nil => rfl
  | cons x ps ih => rw [List.foldl_cons, ih]; simp
theorem lastC_put (c : List Int) (ps : List (Nat × Int)) (x : Nat × Int) : lastC c (ps ++ [x]) = (lastC c ps).set x.1 x.2 := by
  unfold lastC; rw [List.foldl_append]; rfl
theorem lastC_may (N : Nat) (c : List Int) (hc : c.length = N) : ∀ (n : Nat) (ps : List (Nat × Int)), ps.length = n → (∀ x ∈ ps, x.1 < N) → ∀ i, i < N → (mayL c ps i).drop ((mayL c ps i).length - 1) = [(lastC c ps).getD i 0] := by
  intro n
  induction n with
  | zero =>
    intro ps hp _ i hi
    obtain rfl := List.eq_nil_of_length_eq_zero hp
    simp [mayL, lastC]
  | succ n ih =>
    intro ps hp hin i hi
    obtain ⟨qs, x, rfl⟩ : ∃ qs x, ps = qs ++ [x] := ⟨ps.dropLast, ps.getLast (by intro e; subst e; cases hp), (List.dropLast_concat_getLast _).symm⟩
    have hq := ih qs (by simpa using hp) (fun y hy => hin y (by simp [hy])) i hi
    have hx : x.1 < N := hin x (by simp)
    rw [lastC_put]
    have e : mayL c (qs ++ [x]) i = if x.1 = i then mayL c qs i ++ [x.2] else mayL c qs i := mayL_put c qs x.1 x.2 i
    rw [e]
    have hl := lastC_len c qs
    by_cases h : x.1 = i
    · subst h
      simp [List.getD, hl, hc, hi]
    · rw [if_neg h, hq]
      simp [List.getD, List.getElem?_set_ne h]
theorem rep_getD (c : Int) (k : Nat) (h : k < 256) : (rep c).getD k 0 = c := by simp [List.getD, h]
theorem getD_map_rep (c : List Int) (i : Nat) (h : i < c.length) : (c.map rep).getD i [] = rep (c.getD i 0) := by simp [List.getD, h]
theorem pend_at (ps : List (Nat × Int)) (m : Nat) (h : m < ps.length) : (ps.map (fun x => ((x.1 : Int), rep x.2))).getD m (0, []) = ((ps[m].1 : Int), rep ps[m].2) := by simp [List.getD, h]
theorem setS_all (N : Nat) (c : List Int) (ps : List (Nat × Int)) (hc : c.length = N) (hin : ∀ x ∈ ps, x.1 < N) : ∀ m, m ≤ ps.length →
    setS (c.map rep) (ps.map (fun x => ((x.1 : Int), rep x.2))) (fun _ _ => true) m = (lastC c (ps.take m)).map rep := by
  intro m
  induction m with
  | zero => intro _; rfl
  | succ m ih =>
    intro hm
    rw [setS_succ, ih (by omega), List.take_succ_eq_append_getElem (by omega), lastC_put]
    unfold setS1
    rw [pend_at ps m (by omega)]
    simp only [Int.toNat_natCast]
    rw [mixS_all _ _ (by simp), List.map_set]
theorem KX.sync {N : Nat} {X : DSt} {c : List Int} {ps : List (Nat × Int)} (h : KX N X c ps) :
    (X.actE = 0 → KX N X.sync (lastC c ps) []) ∧ (X.actE ≠ 0 → KX N X.sync c ps) := by
  unfold DSt.sync
  constructor
  · intro h0
    rw [if_pos h0]
    refine ⟨?_, by simp [DSt.settle], by rw [lastC_len, h.len], by simp, h.bad⟩
    show setS X.pages X.pend _ X.pend.length = _
    rw [h.pages, h.pend, setS_all N c ps h.len h.inN _ (by simp)]
    simp
  · intro h0
    rw [if_neg h0]
    exact h.act
/-- A page that may be there behind a crash. -/
def GoodP (l : List Int) (p : List Int) : Prop := p.length = 256 ∧ ∀ k, k < 256 → p.getD k 0 ∈ l ∧ p.getD k 0 = p.getD (k / 32 * 32) 0
theorem GoodP.mono {l l' p : List Int} (h : GoodP l p) (hl : ∀ x ∈ l, x ∈ l') : GoodP l' p := ⟨h.1, fun k hk => ⟨hl _ (h.2 k hk).1, (h.2 k hk).2⟩⟩
theorem mixS_at (old new : List Int) (st : Nat → Bool) (k : Nat) (hk : k < 256) : (mixS old new st 8).getD k 0 = if st (k / 32) then new.getD k 0 else old.getD k 0 := by
  have : k / 32 < 8 := by omega
  simp [mixS, List.getD, hk, this]
theorem good_mix {l : List Int} {p : List Int} (h : GoodP l p) (b : Int) (st : Nat → Bool) : GoodP (l ++ [b]) (mixS p (rep b) st 8) := by
  refine ⟨mixS_len _ _ _ _, fun k hk => ?_⟩
  have hk2 : k / 32 * 32 < 256 := by omega
  have hk3 : k / 32 * 32 / 32 = k / 32 := by omega
  rw [mixS_at _ _ _ _ hk, mixS_at _ _ _ _ hk2, hk3, rep_getD b k hk, rep_getD b _ hk2]
  have := h.2 k hk
  cases st (k / 32) with
  | true => simp
  | false => exact ⟨by simp only [Bool.false_eq_true, if_false]; exact List.mem_append_left _ this.1, by simpa using this.2⟩
theorem setS_good (N : Nat) (c : List Int) (ps : List (Nat × Int)) (hc : c.length = N) (hin : ∀ x ∈ ps, x.1 < N) (st : Nat → Nat → Bool) : ∀ m, m ≤ ps.length → ∀ i, i < N →
    GoodP (mayL c (ps.take m) i) ((setS (c.map rep) (ps.map (fun x => ((x.1 : Int), rep x.2))) st m).getD i []) := by
  intro m
  induction m with
  | zero =>
    intro _ i hi
    have e : (setS (c.map rep) (ps.map (fun x => ((x.1 : Int), rep x.2))) st 0) = c.map rep := rfl
    rw [e, getD_map_rep c i (by omega)]
    refine ⟨by simp, fun k hk => ?_⟩
    rw [rep_getD _ k hk, rep_getD _ _ (by omega)]
    simp [mayL]
  | succ m ih =>
    intro hm i hi
    have hlen := setS_len (c.map rep) (ps.map (fun x => ((x.1 : Int), rep x.2))) st m
    rw [List.length_map, hc] at hlen
    rw [setS_succ, List.take_succ_eq_append_getElem (by omega)]
    have e : mayL c (ps.take m ++ [ps[m]]) i = if ps[m].1 = i then mayL c (ps.take m) i ++ [ps[m].2] else mayL c (ps.take m) i := mayL_put c _ ps[m].1 ps[m].2 i
    rw [e]
    unfold setS1
    rw [pend_at ps m (by omega)]
    simp only [Int.toNat_natCast]
    have h0 := ih (by omega) i hi
    generalize setS (c.map rep) (ps.map (fun x => ((x.1 : Int), rep x.2))) st m = S at *
    by_cases h : ps[m].1 = i
    · rw [if_pos h, h]
      have : (S.set i (mixS (S.getD i []) (rep ps[m].2) (st m) 8)).getD i [] = mixS (S.getD i []) (rep ps[m].2) (st m) 8 := by simp [List.getD, hlen, hi]
      rw [this]
      exact good_mix h0 _ _
    · rw [if_neg h]
      have : (S.set ps[m].1 (mixS (S.getD ps[m].1 []) (rep ps[m].2) (st m) 8)).getD i [] = S.getD i [] := by simp [List.getD, List.getElem?_set_ne h]
      rw [this]
      exact h0
theorem KX.crash {N : Nat} {X : DSt} {c : List Int} {ps : List (Nat × Int)} (h : KX N X c ps) (keep : List Int) :
    (X.crash keep).pages.length = N ∧ (X.crash keep).pend = [] ∧ (X.crash keep).down = false ∧ (∀ i : Nat, i < N → ∃ p, readP (X.crash keep) (i : Int) = (p, 0) ∧ GoodP (mayL c ps i) p) := by
  have e : (X.crash keep).pages = setS (c.map rep) (ps.map (fun x => ((x.1 : Int), rep x.2))) (stayK keep) ps.length := by
    show setS X.pages X.pend _ X.pend.length = _
    rw [h.pages, h.pend, List.length_map]
  have hl : (X.crash keep).pages.length = N := by rw [e, setS_len, List.length_map, h.len]
  refine ⟨hl, rfl, rfl, fun i hi => ⟨(X.crash keep).pages.getD i [], ?_, ?_⟩⟩
  · have h1 : inR N (i : Int) = true := by simp [inR]; omega
    have h2 : (X.crash keep).bad (i : Int) = false := by show X.bad _ = _; rw [h.bad]
    have h3 : (X.crash keep).pend = [] := rfl
    unfold readP
    rw [hl, h1, h2, h3]
    simp [lastW]
  · rw [e]
    have := setS_good N c ps h.len h.inN (stayK keep) ps.length (Nat.le_refl _) i hi
    rwa [List.take_length] at this
end Go.Proofs.Ytejjfpdcmaefiaa
