/- DiskRuns, the plain part: the document's disk and the program's. -/
import Derived.Test.YtejjfpdcmaefiaaMY
namespace Go.Proofs.Ytejjfpdcmaefiaa
open Go.RowKit Go.Proofs.U
set_option linter.unusedSimpArgs false
set_option linter.unusedVariables false

theorem stay_all (m : Nat) (k s : Nat) (hk : k < m) (hs : s < 8) : stayK (List.replicate m 255) k s = true := by
  have e : (List.replicate m (255 : Int)).getD k 0 = 255 := by simp [List.getD, hk]
  unfold stayK
  rw [e]
  have : ∀ s : Fin 8, ((255 : Int) / 2 ^ s.val % 2 == 1) = true := by decide
  simpa [hk] using this ⟨s, hs⟩
theorem setS_congr (pages : List (List Int)) (pend : List (Int × List Int)) (st st' : Nat → Nat → Bool) (h : ∀ k s, k < pend.length → s < 8 → st k s = st' k s) : ∀ m, m ≤ pend.length → setS pages pend st m = setS pages pend st' m := by
  intro m
  induction m with
  | zero => intro _; rfl
  | succ m ih =>
    intro hm
    rw [setS_succ, setS_succ, ih (by omega)]
    unfold setS1
    congr 1
    unfold mixS
    apply List.map_congr_left
    intro i hi
    have hi8 : i / 32 < 8 := by have := List.mem_range.1 hi; omega
    rw [h m (i / 32) (by omega) hi8]
theorem mixS_none (old new : List Int) (st : Nat → Bool) (h : old.length = 256) (hs : ∀ s, st s = false) : mixS old new st 8 = old := by
  apply List.ext_getElem
  · simp [mixS, h]
  · intro i h1 h2
    simp [mixS, hs, List.getD, h2]
theorem setS_pl (pages : List (List Int)) (pend : List (Int × List Int)) (st : Nat → Nat → Bool) (h : ∀ p ∈ pages, p.length = 256) (k : Nat) : ∀ p ∈ setS pages pend st k, p.length = 256 := by
  induction k with
  | zero => exact h
  | succ k ih =>
    rw [setS_succ]
    unfold setS1
    intro p hp
    rcases List.mem_or_eq_of_mem_set hp with hp | hp
    · exact ih p hp
    · rw [hp]; exact mixS_len _ _ _ _
/-- A crash, as the document has it. -/
theorem setS_doc (pages : List (List Int)) (pend : List (Int × List Int)) (keep : List Int) (h : ∀ p ∈ pages, p.length = 256) (k : Nat) : setS pages pend (stayK keep) k = setlK pages pend keep k := by
  induction k with
  | zero => rfl
  | succ k ih =>
    rw [setS_succ, setlK_succ, ← ih]
    have hp := setS_pl pages pend (stayK keep) h k
    generalize setS pages pend (stayK keep) k = S at hp
    unfold setS1 setl1
    by_cases hk : k < keep.length
    · rw [if_pos hk]
      congr 1
      unfold mixS mixK
      apply List.map_congr_left
      intro i hi
      have hi := List.mem_range.1 hi
      have h8 : i / 32 < 8 := by omega
      simp [h8, hi, stayK, bitAt, hk]
    · rw [if_neg hk]
      generalize (pend.getD k (0, [])).1.toNat = at'
      by_cases hat : at' < S.length
      · have e : S.getD at' [] = S[at'] := by simp [List.getD, hat]
        rw [mixS_none _ _ _ (by rw [e]; exact hp _ (List.getElem_mem hat)) (fun s => by simp [stayK, hk]), e]
        exact List.set_getElem_self hat
      · exact List.set_eq_of_length_le (by omega)
structure RXD (X : DSt) (c : Bool) (l : Int) (bad : List Bool) : Prop where
  len : bad.length = X.pages.length
  bad : ∀ i, inR X.pages.length i = true → X.bad i = bad.getD i.toNat false
  cnt : c = true → 0 ≤ l ∧ l ≤ 9223372036854775807 ∧ X.left = l
  unc : c = false → X.left < 0
theorem RXD.new (n : Int) : RXD (newD n) false 0 (List.replicate (newN n) false) :=
  ⟨by simp [newD], fun i hi => by simp [newD, List.getD, List.getElem?_replicate]; split <;> rfl, fun h => (by cases h), fun _ => (by show (-1 : Int) < 0; decide)⟩
theorem RXD.hl {X : DSt} {c : Bool} {l : Int} {bad : List Bool} (h : RXD X c l bad) : c = true → -9223372036854775808 < l ∧ l ≤ 9223372036854775807 := fun hc => by have := h.cnt hc; omega
theorem RXD.act {X : DSt} {c : Bool} {l : Int} {bad : List Bool} (h : RXD X c l bad) :
    (actR c l X.down).2.1 = X.act.down ∧ (actR c l X.down).2.2 = X.actE ∧ RXD X.act c (actR c l X.down).1 bad := by
  obtain ⟨pages, xb, pend, d, lf⟩ := X
  have h1 := h.cnt
  have h2 := h.unc
  simp only at h1 h2
  unfold DSt.act DSt.actE actR actP
  simp only
  cases d with
  | true => exact ⟨by simp, by simp, ⟨h.len, h.bad, fun hc => by simpa using h1 hc, fun hc => by simpa using h2 hc⟩⟩
  | false =>
    cases c with
    | false =>
      have h3 := h2 rfl
      have e : (lf == 0) = false := by simp; omega
      have e2 : ¬ lf > 0 := by omega
      simp only [e, e2, Bool.false_or, Bool.false_and, if_false, Bool.false_eq_true]
      exact ⟨trivial, trivial, ⟨h.len, h.bad, fun hc => (by cases hc), fun _ => h3⟩⟩
    | true =>
      obtain ⟨h3, h4, rfl⟩ := h1 rfl
      by_cases e : lf = 0
      · subst e
        simp
        exact ⟨h.len, h.bad, fun _ => by simp, fun hc => (by cases hc)⟩
      · have e1 : (lf == 0) = false := by simpa using e
        have e2 : lf > 0 := by omega
        simp only [e1, e2, Bool.false_or, Bool.true_and, if_false, if_true, Bool.false_eq_true]
        exact ⟨trivial, trivial, ⟨h.len, h.bad, fun _ => ⟨by omega, by omega, rfl⟩, fun hc => (by cases hc)⟩⟩
theorem RXD.write {X : DSt} {c : Bool} {l : Int} {bad : List Bool} (h : RXD X c l bad) (i : Int) (p : List Int) :
    (X.write i p).pages = X.pages ∧
    (if inR X.pages.length i then (actR c l X.down).2.1 else X.down) = (X.write i p).down ∧ (if inR X.pages.length i then (actR c l X.down).2.2 else 41) = X.writeE i ∧
    (if inR X.pages.length i && (actR c l X.down).2.2 == 0 then X.pend ++ [(i, p)] else X.pend) = (X.write i p).pend ∧ RXD (X.write i p) c (if inR X.pages.length i then (actR c l X.down).1 else l) bad := by
  obtain ⟨h1, h2, h3⟩ := h.act
  unfold DSt.write DSt.writeE
  rw [h1, h2]
  cases inR X.pages.length i with
  | false => exact ⟨rfl, rfl, rfl, by simp, h⟩
  | true =>
    simp only [if_true, Bool.true_and]
    by_cases he : X.actE = 0
    · rw [if_pos he]
      exact ⟨by first | rfl | trivial, by first | rfl | trivial, by first | rfl | trivial, by simp [he], ⟨h3.len, h3.bad, h3.cnt, h3.unc⟩⟩
    · rw [if_neg he]
      exact ⟨by first | rfl | trivial, by first | rfl | trivial, by first | rfl | trivial, by simp [he]; rfl, h3⟩
theorem RXD.sync {X : DSt} {c : Bool} {l : Int} {bad : List Bool} (h : RXD X c l bad) (hp : ∀ p ∈ X.pages, p.length = 256) :
    (actR c l X.down).2.1 = X.sync.down ∧ (actR c l X.down).2.2 = X.actE ∧
    (if (actR c l X.down).2.2 == 0 then setlK X.pages X.pend (List.replicate X.pend.length 255) X.pend.length else X.pages) = X.sync.pages ∧
    (if (actR c l X.down).2.2 == 0 then [] else X.pend) = X.sync.pend ∧ RXD X.sync c (actR c l X.down).1 bad := by
  obtain ⟨h1, h2, h3⟩ := h.act
  unfold DSt.sync
  rw [h1, h2]
  by_cases he : X.actE = 0
  · rw [if_pos he]
    have hl : (X.act.settle (fun _ _ => true)).pages.length = X.pages.length := by simp [DSt.settle, setS_len]; rfl
    refine ⟨rfl, rfl, ?_, by simp [he, DSt.settle], ⟨by rw [hl]; exact h.len, fun i hi => by rw [hl] at hi; exact h.bad i hi, h3.cnt, h3.unc⟩⟩
    simp only [he, BEq.rfl, if_true]
    rw [← setS_doc _ _ _ hp]
    exact setS_congr _ _ _ _ (fun k s hk hs => stay_all _ k s hk hs) _ (Nat.le_refl _)
  · rw [if_neg he]
    have heb : (X.actE == 0) = false := by simpa using he
    exact ⟨rfl, rfl, by simp [heb]; rfl, by simp [heb]; rfl, h3⟩
theorem RXD.cut {X : DSt} {c : Bool} {l : Int} {bad : List Bool} (h : RXD X c l bad) (n : Int) (hn : -9223372036854775808 ≤ n ∧ n ≤ 9223372036854775807) : RXD { X with left := n } (decide (0 ≤ n)) n bad :=
  ⟨h.len, h.bad, fun hc => ⟨by simpa using hc, hn.2, rfl⟩, fun hc => by simp at hc; exact hc⟩
theorem RXD.crash {X : DSt} {c : Bool} {l : Int} {bad : List Bool} (h : RXD X c l bad) (hp : ∀ p ∈ X.pages, p.length = 256) (keep : List Int) :
    setlK X.pages X.pend keep X.pend.length = (X.crash keep).pages ∧ RXD (X.crash keep) false 0 bad := by
  have hl : (X.crash keep).pages.length = X.pages.length := by simp [DSt.crash, setS_len]
  refine ⟨(setS_doc _ _ _ hp _).symm, ⟨by rw [hl]; exact h.len, fun i hi => by rw [hl] at hi; exact h.bad i hi, fun hc => (by cases hc), fun _ => by show (-1 : Int) < 0; decide⟩⟩
theorem RXD.spoil {X : DSt} {c : Bool} {l : Int} {bad : List Bool} (h : RXD X c l bad) (i : Int) (b : Bool) :
    (X.spoil i b).pages = X.pages ∧ (X.spoil i b).pend = X.pend ∧ (X.spoil i b).down = X.down ∧ RXD (X.spoil i b) c l (if inR X.pages.length i then bad.set i.toNat b else bad) := by
  unfold DSt.spoil
  cases hin : inR X.pages.length i with
  | false => exact ⟨rfl, rfl, rfl, h⟩
  | true =>
    simp only [if_true]
    refine ⟨trivial, trivial, trivial, ⟨by simp [h.len], fun j hj => ?_, h.cnt, h.unc⟩⟩
    have h1 : 0 ≤ i ∧ i < (X.pages.length : Int) := by simpa [inR] using hin
    have h2 : 0 ≤ j ∧ j < (X.pages.length : Int) := by simpa [inR] using hj
    have hl := h.len
    simp only
    by_cases e : j = i
    · subst e
      have : j.toNat < bad.length := by omega
      simp [List.getD, this]
    · have e2 : ¬ i.toNat = j.toNat := by omega
      have e3 : (j == i) = false := by simpa using e
      rw [e3]
      simp only [Bool.false_eq_true, if_false]
      rw [h.bad j hj]
      simp [List.getD, List.getElem?_set_ne e2]
theorem RXD.read {X : DSt} {c : Bool} {l : Int} {bad : List Bool} (h : RXD X c l bad) (i : Int) : readR X.pages bad X.pend i = readP X i := by
  unfold readR readP
  cases hin : inR X.pages.length i with
  | false =>
    have : ¬ (0 ≤ i ∧ i < (X.pages.length : Int)) := by simp [inR] at hin; omega
    rw [if_neg this]; rfl
  | true =>
    have : 0 ≤ i ∧ i < (X.pages.length : Int) := by simpa [inR] using hin
    rw [if_pos this, h.bad i hin]; rfl
theorem disk_pl {w : World} {F : Nat → Prop} {g : Nat} {X : DSt} (h : Disk w F g X) : ∀ p ∈ X.pages, p.length = 256 := by
  obtain ⟨v1, m, v3, h⟩ := h
  intro p hp
  have := h.st.1 p hp
  rwa [pgv_len] at this
theorem disk_in {w : World} {F : Nat → Prop} {g : Nat} {X : DSt} (h : Disk w F g X) : (∀ x ∈ X.pend, 0 ≤ x.1 ∧ x.1 < (X.pages.length : Int)) ∧ X.pages.length ≤ 100000 := by
  obtain ⟨v1, m, v3, h⟩ := h
  exact ⟨h.pin, by have := h.len; omega⟩
end Go.Proofs.Ytejjfpdcmaefiaa
