/- Plain facts: decimal numerals, read from the left; no program. -/
import Derived.Lib.ItoaNum
import Derived.Lib.ItoaLen
import Derived.Lib.Bytealg
namespace Go.Proofs.U
open Go.Lib

def badD (b : UInt8) : Bool := decide (b.toNat < 48) || decide (57 < b.toNat)
/-- One more sign behind i signs that read as n. -/
def stepN (st : Option (Nat × Nat)) (b : UInt8) : Option (Nat × Nat) :=
  match st with
  | none => none
  | some (i, n) => if badD b || (decide (0 < i) && decide (n = 0)) then none else if 1048576 < 10 * n + (b.toNat - 48) then none else some (i + 1, 10 * n + (b.toNat - 48))
def numF (l : List UInt8) : Option (Nat × Nat) := l.foldl stepN (some (0, 0))

theorem numF_snoc (l : List UInt8) (b : UInt8) : numF (l ++ [b]) = stepN (numF l) b := by
  unfold numF; rw [List.foldl_append]; rfl
theorem fold_none (l : List UInt8) : l.foldl stepN none = none := by
  induction l with
  | nil => rfl
  | cons b l ih => exact ih
theorem numF_take (l : List UInt8) (k : Nat) (h : k < l.length) : numF (l.take (k + 1)) = stepN (numF (l.take k)) l[k] := by
  rw [List.take_succ_eq_append_getElem h, numF_snoc]
theorem numF_none (l : List UInt8) (k : Nat) (h : numF (l.take k) = none) : numF l = none := by
  have e : numF (l.take k ++ l.drop k) = none := by
    unfold numF at h ⊢
    rw [List.foldl_append, h, fold_none]
  rwa [List.take_append_drop] at e

theorem snoc_of {l : List UInt8} (h : l ≠ []) : ∃ p b, l = p ++ [b] ∧ p.length + 1 = l.length := by
  refine ⟨l.dropLast, l.getLast h, (List.dropLast_concat_getLast h).symm, ?_⟩
  have := List.length_pos_iff.2 h
  simp; omega

theorem dec_snoc (n d : Nat) (hn : 0 < n) (hd : d < 10) : decDigits (10 * n + d) = decDigits n ++ [UInt8.ofNat (48 + d)] := by
  rw [decDigits, dif_neg (by omega)]
  congr 2
  · congr 1; omega
  · congr 2; omega

theorem u8_back (b : UInt8) (h : ¬ b.toNat < 48) : UInt8.ofNat (48 + (b.toNat - 48)) = b := by
  rw [show 48 + (b.toNat - 48) = b.toNat by omega]
  exact UInt8.ofNat_toNat

theorem numF_inv : ∀ (k : Nat) (l : List UInt8), l.length = k → ∀ i n, numF l = some (i, n) → i = l.length ∧ n ≤ 1048576 ∧ (l ≠ [] → l = decDigits n) ∧ (l = [] → n = 0) := by
  intro k
  induction k with
  | zero =>
    intro l hl i n h
    obtain rfl : l = [] := List.eq_nil_of_length_eq_zero hl
    simp [numF] at h
    obtain ⟨rfl, rfl⟩ := h
    simp
  | succ k ih =>
    intro l hl i n h
    obtain ⟨p, b, rfl, hp⟩ := snoc_of (l := l) (fun e => by rw [e] at hl; simp at hl)
    rw [numF_snoc] at h
    cases hq : numF p with
    | none => rw [hq] at h; simp [stepN] at h
    | some t =>
      obtain ⟨j, m⟩ := t
      obtain ⟨e1, e2, e3, e4⟩ := ih p (by simp at hl; omega) j m hq
      rw [hq] at h
      simp only [stepN] at h
      split at h
      · cases h
      · rename_i hb
        split at h
        · cases h
        · rename_i hle
          simp only [Option.some.injEq, Prod.mk.injEq] at h
          obtain ⟨rfl, rfl⟩ := h
          have hb' : ¬ b.toNat < 48 ∧ ¬ 57 < b.toNat ∧ (0 < j → m ≠ 0) := by
            simp [badD] at hb
            exact ⟨by omega, by omega, hb.2⟩
          refine ⟨by simp [e1], by omega, fun _ => ?_, fun hn => by simp at hn⟩
          by_cases hp0 : p = []
          · subst hp0
            have hm := e4 rfl
            subst hm
            rw [Nat.mul_zero, Nat.zero_add, decDigits_one (by omega), u8_back b hb'.1]
            rfl
          · have hj : 0 < j := by rw [e1]; exact List.length_pos_iff.2 hp0
            have hm := hb'.2.2 hj
            rw [dec_snoc m (b.toNat - 48) (by omega) (by omega), ← e3 hp0, u8_back b hb'.1]

theorem numF_dec : ∀ (k m : Nat), m ≤ k → m ≤ 1048576 → numF (decDigits m) = some (nDigits m, m) := by
  intro k
  induction k with
  | zero =>
    intro m hk hm
    obtain rfl : m = 0 := by omega
    rw [decDigits_one (by decide), nDigits_small (by decide)]
    decide
  | succ k ih =>
    intro m hk hm
    by_cases hs : m < 10
    · rw [decDigits_one hs, nDigits_small hs]
      show stepN (some (0, 0)) _ = _
      have hb : (UInt8.ofNat (48 + m)).toNat = 48 + m := by simp [UInt8.toNat_ofNat']; omega
      unfold stepN
      simp only [badD, hb]
      rw [if_neg (by simp; omega), if_neg (by omega)]
      congr 2
      omega
    · have e : decDigits m = decDigits (m / 10) ++ [UInt8.ofNat (48 + m % 10)] := by rw [decDigits, dif_neg hs]
      have hb : (UInt8.ofNat (48 + m % 10)).toNat = 48 + m % 10 := by simp [UInt8.toNat_ofNat']; omega
      rw [e, numF_snoc, ih (m / 10) (by omega) (by omega), nDigits_big hs]
      unfold stepN
      simp only [badD, hb]
      rw [if_neg (by simp; omega), if_neg (by omega)]
      congr 2
      omega

/-- What numeral answers. -/
def numV (l : List UInt8) : Nat × Bool := match numF l with | some (_, n) => if l = [] then (0, false) else (n, true) | none => (0, false)
theorem numV_ok {l : List UInt8} (h : (numV l).2 = true) : l = decDigits (numV l).1 ∧ (numV l).1 ≤ 1048576 := by
  unfold numV at h ⊢
  cases hq : numF l with
  | none => rw [hq] at h; cases h
  | some t =>
    obtain ⟨i, n⟩ := t
    rw [hq] at h
    simp only at h ⊢
    obtain ⟨e1, e2, e3, e4⟩ := numF_inv _ l rfl i n hq
    by_cases hl : l = []
    · rw [if_pos hl] at h; cases h
    · rw [if_neg hl]; exact ⟨e3 hl, e2⟩
theorem dec_ne (m : Nat) : decDigits m ≠ [] := by
  intro h
  have := decDigits_length m
  rw [h] at this
  have := nDigits_pos m
  simp at *; omega
theorem numV_dec (m : Nat) (h : m ≤ 1048576) : numV (decDigits m) = (m, true) := by
  unfold numV
  rw [numF_dec m m (Nat.le_refl _) h]
  simp only
  rw [if_neg (dec_ne m)]
theorem numV_bd (l : List UInt8) : (numV l).1 ≤ 1048576 := by
  cases h : (numV l).2 with
  | true => exact (numV_ok h).2
  | false =>
    unfold numV at h ⊢
    cases hq : numF l with
    | none => simp
    | some t =>
      obtain ⟨i, n⟩ := t
      rw [hq] at h
      simp only at h ⊢
      by_cases hl : l = []
      · simp [hl]
      · rw [if_neg hl] at h; cases h
/-- The digits are digits. -/
theorem dec_digit (m : Nat) : ∀ b ∈ decDigits m, 48 ≤ b.toNat ∧ b.toNat ≤ 57 := by
  intro b hb
  rw [decDigits_eq] at hb
  simp at hb
  obtain ⟨t, ht, rfl⟩ := hb
  unfold dg
  have : (UInt8.ofNat (48 + m / 10 ^ (nDigits m - 1 - t) % 10)).toNat = 48 + m / 10 ^ (nDigits m - 1 - t) % 10 := by
    simp [UInt8.toNat_ofNat']; omega
  rw [this]
  omega

/-- Where the first point is. -/
theorem ib_cases (c : UInt8) : ∀ l : List UInt8, (indexByte l c = -1 ∧ c ∉ l) ∨ ∃ p r, l = p ++ c :: r ∧ c ∉ p ∧ indexByte l c = (p.length : Int) := by
  intro l
  induction l with
  | nil => left; exact ⟨rfl, by simp⟩
  | cons b l ih =>
    by_cases hb : b = c
    · subst hb
      right
      exact ⟨[], l, rfl, by simp, by simp [indexByte]⟩
    · have hb2 : (b == c) = false := by simpa using hb
      rcases ih with ⟨h1, h2⟩ | ⟨p, r, h1, h2, h3⟩
      · left
        refine ⟨by simp [indexByte, hb2, h1], ?_⟩
        simp
        exact ⟨fun e => hb e.symm, h2⟩
      · right
        refine ⟨b :: p, r, by rw [h1]; rfl, ?_, ?_⟩
        · simp
          exact ⟨fun e => hb e.symm, h2⟩
        · simp [indexByte, hb2, h3]
def cutD (l : List UInt8) : List UInt8 × List UInt8 := if indexByte l 46 = -1 then (l, []) else (l.take (indexByte l 46).toNat, l.drop ((indexByte l 46).toNat + 1))
theorem cutD_hit {p r : List UInt8} (h : indexByte (p ++ 46 :: r) 46 = (p.length : Int)) : cutD (p ++ 46 :: r) = (p, r) := by
  unfold cutD
  rw [h, if_neg (by omega)]
  simp
/-- What Parse answers: the label and the error's number. -/
def prs (l : List UInt8) : Nat × Nat × Nat := if (numV (cutD l).1).2 && (numV (cutD l).2).2 then ((numV (cutD l).1).1, (numV (cutD l).2).1, 0) else (0, 0, 31)
def txL (e q : Nat) : List UInt8 := decDigits e ++ 46 :: decDigits q
theorem dot_not (m : Nat) : (46 : UInt8) ∉ decDigits m := fun h => by
  have := dec_digit m 46 h
  simp at this
theorem app_dot_inj {p p' r r' : List UInt8} (h1 : (46 : UInt8) ∉ p) (h2 : (46 : UInt8) ∉ p') (h : p ++ 46 :: r = p' ++ 46 :: r') : p = p' ∧ r = r' := by
  induction p generalizing p' with
  | nil =>
    cases p' with
    | nil => simpa using h
    | cons b p' => simp at h; exact absurd (by simp [h.1]) h2
  | cons a p ih =>
    cases p' with
    | nil => simp at h; exact absurd (by simp [h.1]) h1
    | cons b p' =>
      simp at h
      obtain ⟨rfl, h⟩ := h
      have := ih (by simp at h1; exact h1.2) (by simp at h2; exact h2.2) h
      exact ⟨by rw [this.1], this.2⟩
theorem prs_txt (e q : Nat) (he : e ≤ 1048576) (hq : q ≤ 1048576) : prs (txL e q) = (e, q, 0) := by
  have hc : cutD (txL e q) = (decDigits e, decDigits q) := by
    rcases ib_cases 46 (txL e q) with ⟨_, h2⟩ | ⟨p, r, h1, h2, h3⟩
    · exact absurd (by simp [txL]) h2
    · have := app_dot_inj (dot_not e) h2 h1
      rw [h1] at h3 ⊢
      rw [cutD_hit h3, this.1, this.2]
  unfold prs
  rw [hc]
  simp only [numV_dec e he, numV_dec q hq]
  rfl
theorem prs_ok {l : List UInt8} (h : (prs l).2.2 = 0) : l = txL (prs l).1 (prs l).2.1 ∧ (prs l).1 ≤ 1048576 ∧ (prs l).2.1 ≤ 1048576 := by
  unfold prs at h ⊢
  by_cases hb : ((numV (cutD l).1).2 && (numV (cutD l).2).2) = true
  · rw [if_pos hb]
    rw [Bool.and_eq_true] at hb
    obtain ⟨e1, b1⟩ := numV_ok hb.1
    obtain ⟨e2, b2⟩ := numV_ok hb.2
    refine ⟨?_, b1, b2⟩
    simp only
    rcases ib_cases 46 l with ⟨h1, _⟩ | ⟨p, r, h1, h2, h3⟩
    · have : cutD l = (l, []) := by unfold cutD; rw [if_pos h1]
      rw [this] at hb
      exact absurd hb.2 (show ¬ (numV []).2 = true by decide)
    · rw [h1] at h3
      have hc := cutD_hit h3
      rw [← h1] at hc
      rw [hc] at e1 e2 ⊢
      unfold txL
      rw [← e1, ← e2]; exact h1
  · rw [if_neg hb] at h; simp at h
theorem prs_cases (l : List UInt8) : ((prs l).2.2 = 0) ∨ prs l = (0, 0, 31) := by
  unfold prs
  split
  · left; rfl
  · right; rfl
theorem prs_no {l : List UInt8} (h : ∀ e q, e ≤ 1048576 → q ≤ 1048576 → l ≠ txL e q) : prs l = (0, 0, 31) := by
  rcases prs_cases l with h1 | h1
  · obtain ⟨e1, e2, e3⟩ := prs_ok h1
    exact absurd e1 (h _ _ e2 e3)
  · exact h1

/-! ### The document's way -/
def stepR (t : Bool × Nat × Nat) (b : UInt8) : Bool × Nat × Nat :=
  if badD b then (true, t.2.1, t.2.2)
  else if t.1 then (if t.2.2 ≤ 10000000 then (true, t.2.1, 10 * t.2.2 + (b.toNat - 48)) else t)
  else (if t.2.1 ≤ 10000000 then (false, 10 * t.2.1 + (b.toNat - 48), t.2.2) else t)
def refF (l : List UInt8) : Bool × Nat × Nat := l.foldl stepR (false, 0, 0)
theorem refF_take (l : List UInt8) (k : Nat) (h : k < l.length) : refF (l.take (k + 1)) = stepR (refF (l.take k)) l[k] := by
  unfold refF
  rw [List.take_succ_eq_append_getElem h, List.foldl_append]; rfl
theorem stepR_bd (t : Bool × Nat × Nat) (b : UInt8) (h1 : t.2.1 ≤ 100000009) (h2 : t.2.2 ≤ 100000009) : (stepR t b).2.1 ≤ 100000009 ∧ (stepR t b).2.2 ≤ 100000009 := by
  have hb := b.toNat_lt
  unfold stepR
  split
  · exact ⟨h1, h2⟩
  · rename_i hb
    simp [badD] at hb
    repeat' split
    all_goals first | omega | (simp only; omega)
theorem refF_bd (l : List UInt8) : (refF l).2.1 ≤ 100000009 ∧ (refF l).2.2 ≤ 100000009 := by
  unfold refF
  have : ∀ (l : List UInt8) (t : Bool × Nat × Nat), t.2.1 ≤ 100000009 → t.2.2 ≤ 100000009 → (l.foldl stepR t).2.1 ≤ 100000009 ∧ (l.foldl stepR t).2.2 ≤ 100000009 := by
    intro l
    induction l with
    | nil => intro t h1 h2; exact ⟨h1, h2⟩
    | cons b l ih =>
      intro t h1 h2
      have := stepR_bd t b h1 h2
      exact ih _ this.1 this.2
  exact this l _ (by simp) (by simp)
theorem u8_dig (d : Nat) (h : d < 10) : (UInt8.ofNat (48 + d)).toNat = 48 + d := by simp [UInt8.toNat_ofNat']; omega
theorem refF_dec : ∀ (k m : Nat), m ≤ k → m ≤ 1048576 → ∀ (t : Nat), (decDigits m).foldl stepR (false, 0, t) = (false, m, t) ∧ (decDigits m).foldl stepR (true, t, 0) = (true, t, m) := by
  intro k
  induction k with
  | zero =>
    intro m hk hm t
    obtain rfl : m = 0 := by omega
    rw [decDigits_one (by decide)]
    simp [stepR, badD]
  | succ k ih =>
    intro m hk hm t
    by_cases hs : m < 10
    · rw [decDigits_one hs]
      have hb := u8_dig m hs
      simp only [List.foldl_cons, List.foldl_nil, stepR, badD, hb]
      have e1 : decide (48 + m < 48) = false := by simp
      have e2 : decide (57 < 48 + m) = false := by simp; omega
      simp [e1, e2]
    · have e : decDigits m = decDigits (m / 10) ++ [UInt8.ofNat (48 + m % 10)] := by rw [decDigits, dif_neg hs]
      have hb := u8_dig (m % 10) (by omega)
      have e1 : decide (48 + m % 10 < 48) = false := by simp
      have e2 : decide (57 < 48 + m % 10) = false := by simp; omega
      obtain ⟨i1, i2⟩ := ih (m / 10) (by omega) (by omega) t
      rw [e, List.foldl_append, List.foldl_append, i1, i2]
      simp only [List.foldl_cons, List.foldl_nil, stepR, badD, hb, e1, e2]
      have h3 : m / 10 ≤ 10000000 := by omega
      simp [h3]
      omega
theorem refF_txt (e q : Nat) (he : e ≤ 1048576) (hq : q ≤ 1048576) : (refF (txL e q)).2 = (e, q) := by
  unfold refF txL
  rw [List.foldl_append, (refF_dec e e (Nat.le_refl _) he 0).1, List.foldl_cons]
  have : stepR (false, e, 0) 46 = (true, e, 0) := by simp [stepR, badD]
  rw [this, (refF_dec q q (Nat.le_refl _) hq e).2]
/-- What the document's Parse answers. -/
def prsR (l : List UInt8) : Nat × Nat × Nat :=
  if (txL (refF l).2.1 (refF l).2.2 != l || !(decide ((refF l).2.1 ≤ 1048576) && decide ((refF l).2.2 ≤ 1048576))) then (0, 0, 31) else ((refF l).2.1, (refF l).2.2, 0)
theorem prsR_eq (l : List UInt8) : prsR l = prs l := by
  unfold prsR
  split
  · rename_i h
    refine (prs_no fun e q he hq hl => ?_).symm
    subst hl
    rw [refF_txt e q he hq] at h
    simp [he, hq] at h
  · rename_i h
    simp at h
    obtain ⟨h1, h2, h3⟩ := h
    rw [← prs_txt _ _ h2 h3, h1]
end Go.Proofs.U
