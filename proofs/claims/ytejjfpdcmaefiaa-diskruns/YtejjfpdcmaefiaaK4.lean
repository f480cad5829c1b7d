/- A part of an element of an own row written by copy; pages mixed by sectors. -/
import Derived.Test.YtejjfpdcmaefiaaK3
import Derived.Lib.SlBuf
import Derived.Laws.IdiomCopy
namespace Go.Proofs.U
open Go.RowKit
set_option linter.unusedSimpArgs false
set_option linter.unusedVariables false
theorem putAt_mid (A B C ds : List Value) (off : Nat) (h : off + ds.length ≤ B.length) : putAt (A ++ (B ++ C)) (A.length + off) ds = A ++ (putAt B off ds ++ C) := by
  unfold putAt
  rw [List.take_append, List.take_of_length_le (by omega), Nat.add_sub_cancel_left, List.take_append_of_le_length (by omega)]
  rw [Nat.add_assoc, List.drop_append, List.drop_eq_nil_of_le (by omega), Nat.add_sub_cancel_left, List.nil_append, List.drop_append_of_le_length (by omega)]
  simp
theorem putAt_whole (A B C D : List Value) (h : D.length = B.length) : putAt (A ++ (B ++ C)) A.length D = A ++ (D ++ C) := by
  have := putAt_mid A B C D 0 (by omega)
  rw [Nat.add_zero, putAt_all _ _ h] at this
  exact this
theorem putAt_len (B ds : List Value) (off : Nat) (h : off + ds.length ≤ B.length) : (putAt B off ds).length = B.length := by
  unfold putAt; simp; omega
section
variable {α : Type} {ec : α → List Value} {sz : Nat} {e : TypeId} {w : World} {base : Nat} {l : List α}
theorem OwnR.putMid {g n cap : Nat} (hO : OwnR ec sz e w base (.slice (some ⟨g, 0, Option.none⟩) n cap) l) (j : Nat) (hj : j < l.length) (off : Nat) (ds : List Value) (b : α) (hb : ec b = putAt (ec l[j]) off ds) (hd : off + ds.length ≤ sz) :
    OwnR ec sz e (w.setCells g (j * sz + off) ds) base (.slice (some ⟨g, 0, Option.none⟩) n cap) (l.set j b) ∧ (∀ i, i < ds.length → (w.cell? ⟨g, j * sz + off + i, Option.none⟩).isSome = true ∧ w.frozen? ⟨g, j * sz + off + i, Option.none⟩ = false) := by
  have hrg := OwnR.rangeK hO j hj
  have hlj : (ec l[j]).length = sz := hO.1 _ (by simp)
  obtain ⟨g', cap', cur, hv, h1, hB, h3, h4, h5⟩ := hO.bx (by omega)
  cases hv
  have hle : j * sz + sz ≤ cur.length := by
    have : (j + 1) * sz ≤ l.length * sz := Nat.mul_le_mul_right _ (by omega)
    rw [Nat.add_mul, Nat.one_mul] at this; omega
  have hseg : (cur.drop (j * sz)).take sz = ec l[j] := by
    apply List.ext_getElem
    · simp [hlj]; omega
    · intro i h6 h7
      have h8 := hrg i (ec l[j])[i] (List.getElem?_eq_getElem h7)
      have h9 := (hB.cell (j * sz + i) cur[j * sz + i] (List.getElem?_eq_getElem (by omega))).1
      rw [h9] at h8
      simpa using h8
  have hcur : cur = cur.take (j * sz) ++ (ec l[j] ++ cur.drop (j * sz + sz)) := by
    rw [← hseg, ← List.drop_drop, List.take_append_drop, List.take_append_drop]
  have hbl : (ec b).length = sz := by rw [hb, putAt_len _ _ _ (by omega), hlj]
  have htl : (cur.take (j * sz)).length = j * sz := by simp; omega
  have heq : putAt cur (j * sz + off) ds = putAt cur (j * sz) (ec b) := by
    have e1 := putAt_mid (cur.take (j * sz)) (ec l[j]) (cur.drop (j * sz + sz)) ds off (by omega)
    have e2 := putAt_whole (cur.take (j * sz)) (ec l[j]) (cur.drop (j * sz + sz)) (ec b) (by omega)
    rw [← hcur, htl] at e1 e2
    rw [e1, e2, hb]
  refine ⟨?_, ?_⟩
  · have hB' := setCells_bx ds (j * sz + off) w cur hB (by omega)
    rw [heq] at hB'
    refine h5 _ _ _ hB' ?_ (by simp) ?_ (flat_put l hO.1 j hj b hbl cur h3 h4)
    · rw [← heq, putAt_len _ _ _ (by omega)]
    · intro z hz
      rcases List.mem_or_eq_of_mem_set hz with hz | rfl
      · exact hO.1 z hz
      · exact hbl
  · intro i hi
    have := hB.cell (j * sz + off + i) cur[j * sz + off + i] (List.getElem?_eq_getElem (by omega))
    exact ⟨by rw [this.1]; rfl, this.2⟩
end
end Go.Proofs.U
namespace Go.Proofs.Ytejjfpdcmaefiaa
open Go.RowKit Go.Proofs.U Go.Maps
set_option linter.unusedSimpArgs false
set_option linter.unusedVariables false

/-- The first s sectors, as far as they stay, in the place of the old ones. -/
def mixS (old new : List Int) (st : Nat → Bool) (s : Nat) : List Int := (List.range 256).map fun i => if i / 32 < s && st (i / 32) then new.getD i 0 else old.getD i 0
theorem mixS_len (old new : List Int) (st : Nat → Bool) (s : Nat) : (mixS old new st s).length = 256 := by simp [mixS]
theorem mixS_zero (old new : List Int) (st : Nat → Bool) (h : old.length = 256) : mixS old new st 0 = old := by
  apply List.ext_getElem
  · simp [mixS, h]
  · intro i h1 h2
    simp [mixS, List.getD, h2]
theorem mixS_no (old new : List Int) (st : Nat → Bool) (s : Nat) (h : st s = false) : mixS old new st (s + 1) = mixS old new st s := by
  unfold mixS
  apply List.map_congr_left
  intro i _
  by_cases h1 : i / 32 = s
  · rw [h1, h]; simp
  · have : (decide (i / 32 < s + 1)) = decide (i / 32 < s) := by
      rw [decide_eq_decide]; omega
    rw [this]
theorem mixS_yes (old new : List Int) (st : Nat → Bool) (s : Nat) (hs : s < 8) (hn : new.length = 256) (h : st s = true) :
    pgv (mixS old new st (s + 1)) = putAt (pgv (mixS old new st s)) (s * 32) (pgv ((new.drop (s * 32)).take 32)) := by
  have hl : ((new.drop (s * 32)).take 32).length = 32 := by simp; omega
  have key : mixS old new st (s + 1) = (mixS old new st s).take (s * 32) ++ ((new.drop (s * 32)).take 32 ++ (mixS old new st s).drop (s * 32 + 32)) := by
    apply List.ext_getElem
    · simp [mixS]; omega
    · intro i h1 h2
      have hi : i < 256 := by simpa [mixS] using h1
      by_cases c1 : i < s * 32
      · rw [List.getElem_append_left (by simp [mixS]; omega)]
        have d1 : i / 32 < s := by omega
        simp [mixS, d1, show i / 32 < s + 1 by omega]
      · by_cases c2 : i < s * 32 + 32
        · rw [List.getElem_append_right (by simp [mixS]; omega), List.getElem_append_left (by simp [mixS]; omega)]
          have d1 : i / 32 = s := by omega
          have d2 : s * 32 + (i - min (s * 32) 256) = i := by omega
          simp [mixS, d1, h, List.getD, d2, show i < new.length by omega]
        · rw [List.getElem_append_right (by simp [mixS]; omega), List.getElem_append_right (by simp [mixS]; omega)]
          have d1 : ¬ i / 32 < s + 1 := by omega
          have d2 : s * 32 + 32 + (i - min (s * 32) 256 - min 32 (new.length - s * 32)) = i := by omega
          simp [mixS, d1, d2, show ¬ i / 32 < s by omega]
  rw [key]
  simp [putAt, pgv, hl, List.map_take, List.map_drop]
  omega

/-- The writes one by one. -/
def setS1 (pend : List (Int × List Int)) (stay : Nat → Nat → Bool) (ps : List (List Int)) (j : Nat) : List (List Int) :=
  ps.set (pend.getD j (0, [])).1.toNat (mixS (ps.getD (pend.getD j (0, [])).1.toNat []) (pend.getD j (0, [])).2 (stay j) 8)
def setS (pages : List (List Int)) (pend : List (Int × List Int)) (stay : Nat → Nat → Bool) (k : Nat) : List (List Int) := (List.range k).foldl (setS1 pend stay) pages
theorem setS_succ (pages : List (List Int)) (pend : List (Int × List Int)) (stay : Nat → Nat → Bool) (k : Nat) : setS pages pend stay (k + 1) = setS1 pend stay (setS pages pend stay k) k := by
  unfold setS; rw [List.range_succ, List.foldl_append]; rfl
theorem setS_len (pages : List (List Int)) (pend : List (Int × List Int)) (stay : Nat → Nat → Bool) (k : Nat) : (setS pages pend stay k).length = pages.length := by
  induction k with
  | zero => rfl
  | succ k ih => rw [setS_succ]; unfold setS1; simp [ih]
def DSt.settle (X : DSt) (stay : Nat → Nat → Bool) : DSt := { X with pages := setS X.pages X.pend stay X.pend.length, pend := [] }
end Go.Proofs.Ytejjfpdcmaefiaa
