/- LabelOrder: all cases. -/
import Derived.Test.YtcpkkdffedndiaaDoorM3b
namespace Go.Proofs.YtcpkkdffedndiaaDoor
open Go.RowKit Go.Proofs.U
set_option linter.unusedSimpArgs false
set_option linter.unusedVariables false


theorem c1_same (a : Int) : c1 a a = 0 := by simp [c1]
theorem c1_lt {a b : Int} (h : a < b) : c1 a b = -1 := by simp [c1, h]
theorem c1_gt {a b : Int} (h : b < a) : c1 a b = 1 := by
  have : ¬ a < b := by omega
  simp [c1, h, this]

theorem nxt_facts (a1 a2 : Int) : (nxt a1 a2 = (a1, a2 + 1, 0)) ∨ ((nxt a1 a2).2.2 == 0) = false := by
  unfold nxt
  split
  · split
    · right; rfl
    · left; rfl
  · right; rfl
theorem ris_facts (a1 a2 : Int) : (ris a1 a2 = (a1 + 1, 0, 0)) ∨ ¬ (ris a1 a2).2.2 = 0 := by
  unfold ris
  split
  · split
    · right; decide
    · left; rfl
  · right; decide
theorem cmp_nx (a1 a2 : Int) : cmpL a1 a2 a1 (a2 + 1) = -1 := by unfold cmpL; rw [c1_same, if_pos rfl, c1_lt (by omega)]
theorem cmp_rs (a1 a2 d : Int) : cmpL a1 a2 (a1 + 1) d = -1 := by
  have : c1 a1 (a1 + 1) = -1 := c1_lt (by omega)
  unfold cmpL; rw [this, if_neg (by decide)]
theorem cmp_between {a1 a2 b1 b2 : Int} (h : cmpL a1 a2 b1 b2 = -1) : 0 ≤ cmpL b1 b2 a1 (a2 + 1) := by
  unfold cmpL c1 at *
  repeat' split at h
  all_goals (repeat' split)
  all_goals omega

theorem order_walk (va : Value) (a : Int × Int) (vb : Value) (b : Int × Int) (vc : Value) (c : Int × Int) (w : World)
    (ha : va = lab a.1 a.2 ∧ U2 a.1 a.2) (hb : vb = lab b.1 b.2 ∧ U2 b.1 b.2) (hc : vc = lab c.1 c.2 ∧ U2 c.1 c.2) (ht : Tab w) :
    Calls Tryd.prog 8 #[va, vb, vc] w fun r w' => r = .returned (.bool true) ∧ Below w.heap.size w w' := by
  obtain ⟨a1, a2⟩ := a
  obtain ⟨b1, b2⟩ := b
  obtain ⟨d1, d2⟩ := c
  obtain ⟨rfl, ha⟩ := ha
  obtain ⟨rfl, hb⟩ := hb
  obtain ⟨rfl, hc⟩ := hc
  simp only at ha hb hc ⊢
  have cN := fun w => next_any a1 a2 w ha
  have cR := fun w => rise_any a1 a2 w ha
  have NN : ∀ B1 B2 : Int, cmpL a1 a2 B1 B2 = -1 → Hid (((nxt a1 a2).2.2 = 0 ∧ cmpL a1 a2 (nxt a1 a2).1 (nxt a1 a2).2.1 = -1 ∧ ∃ V, cmpL B1 B2 (nxt a1 a2).1 (nxt a1 a2).2.1 = V ∧ 0 ≤ V) ∨ ((nxt a1 a2).2.2 == 0) = false) := by
    intro B1 B2 h
    rcases nxt_facts a1 a2 with e | e
    · rw [e]; exact Or.inl ⟨rfl, cmp_nx a1 a2, _, rfl, cmp_between h⟩
    · exact Or.inr e
  have N0 : Hid (((nxt a1 a2).2.2 = 0 ∧ cmpL a1 a2 (nxt a1 a2).1 (nxt a1 a2).2.1 = -1 ∧ True) ∨ ((nxt a1 a2).2.2 == 0) = false) := by
    rcases nxt_facts a1 a2 with e | e
    · rw [e]; exact Or.inl ⟨rfl, cmp_nx a1 a2, trivial⟩
    · exact Or.inr e
  have RR : ∀ B2 : Int, Hid (((ris a1 a2).2.2 = 0 ∧ cmpL a1 a2 (ris a1 a2).1 (ris a1 a2).2.1 = -1 ∧ cmpL a1 B2 (ris a1 a2).1 (ris a1 a2).2.1 = -1) ∨ ¬ (ris a1 a2).2.2 = 0) := by
    intro B2
    rcases ris_facts a1 a2 with e | e
    · rw [e]; exact Or.inl ⟨rfl, cmp_rs a1 a2 0, cmp_rs a1 B2 0⟩
    · exact Or.inr e
  have R0 : Hid (((ris a1 a2).2.2 = 0 ∧ cmpL a1 a2 (ris a1 a2).1 (ris a1 a2).2.1 = -1 ∧ True) ∨ ¬ (ris a1 a2).2.2 = 0) := by
    rcases ris_facts a1 a2 with e | e
    · rw [e]; exact Or.inl ⟨rfl, cmp_rs a1 a2 0, trivial⟩
    · exact Or.inr e
  by_cases h1 : a1 = b1
  · subst h1
    by_cases h2 : a2 = b2
    · subst h2
      have hx : cmpL a1 a2 a1 a2 = 0 := by unfold cmpL; rw [c1_same, if_pos rfl, c1_same]
      by_cases hy : cmpL a1 a2 d1 d2 ≤ 0
      · exact o7 a1 a2 d1 d2 _ _ _ _ w ht cN cR hx rfl hy rfl hy N0 (RR a2)
      · exact o8 a1 a2 d1 d2 _ _ _ 0 w ht cN cR hx rfl hy N0 (RR a2)
    · have hne : (a2 == b2) = false := by simpa using h2
      by_cases h3 : a2 < b2
      · have hx : cmpL a1 a2 a1 b2 = -1 := by unfold cmpL; rw [c1_same, if_pos rfl, c1_lt h3]
        have hx' : cmpL a1 b2 a1 a2 = 1 := by rw [cmpL_neg, hx]; rfl
        by_cases hy : cmpL a1 b2 d1 d2 ≤ 0
        · exact o4 a1 a2 b2 d1 d2 _ _ _ _ w ht cN cR hx hx' hne rfl hy rfl (cmpL_trans a1 a2 a1 b2 d1 d2 (by omega) hy) (NN a1 b2 hx) (RR b2)
        · exact o5 a1 a2 b2 d1 d2 _ _ _ 0 w ht cN cR hx hx' hne rfl hy (NN a1 b2 hx) (RR b2)
      · have hx : cmpL a1 a2 a1 b2 = 1 := by unfold cmpL; rw [c1_same, if_pos rfl, c1_gt (by omega)]
        have hx' : cmpL a1 b2 a1 a2 = -1 := by rw [cmpL_neg, hx]
        exact o6 a1 a2 b2 d1 d2 _ _ 0 0 w ht cN cR hx hx' hne N0 (RR b2)
  · have hne : (a1 == b1) = false := by simpa using h1
    have h1' : ¬ b1 = a1 := fun e => h1 e.symm
    have hne' : (b1 == a1) = false := by simpa using h1'
    have hnq : (b1 != a1) = true := by simpa using h1'
    by_cases h3 : a1 < b1
    · have hx : cmpL a1 a2 b1 b2 = -1 := by unfold cmpL; rw [c1_lt h3, if_neg (by decide)]
      have hx' : cmpL b1 b2 a1 a2 = 1 := by rw [cmpL_neg, hx]; rfl
      by_cases hy : cmpL b1 b2 d1 d2 ≤ 0
      · exact o1 a1 a2 b1 b2 d1 d2 _ _ _ _ w ht cN cR hx hx' hne hne' hnq h1' rfl hy rfl (cmpL_trans a1 a2 b1 b2 d1 d2 (by omega) hy) (NN b1 b2 hx) R0
      · exact o2 a1 a2 b1 b2 d1 d2 _ _ _ 0 w ht cN cR hx hx' hne hne' hnq h1' rfl hy (NN b1 b2 hx) R0
    · have hx : cmpL a1 a2 b1 b2 = 1 := by unfold cmpL; rw [c1_gt (by omega), if_neg (by decide)]
      have hx' : cmpL b1 b2 a1 a2 = -1 := by rw [cmpL_neg, hx]
      exact o3 a1 a2 b1 b2 d1 d2 _ _ 0 0 w ht cN cR hx hx' hne hne' hnq h1' N0 R0
end Go.Proofs.YtcpkkdffedndiaaDoor
