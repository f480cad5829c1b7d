/- Texts V16, T2, T3, OpenT, OpenN, OpenM, X10 of the proof of LeafPlaces, one behind the other. -/
import Derived.Deep.Strs
import Derived.Test.YthpcfijefcicpaaBundleLeafPlaces1
import Derived.Test.YthpcfijefcicpaaBundleLeafPlaces2
import Derived.Test.YthpcfijefcicpaaBundleLeafPlaces3
import Derived.Test.YthpcfijefcicpaaBundleLeafPlaces4
import Derived.Test.YthpcfijefcicpaaBundleLeafPlaces5
import Derived.Test.YthpcfijefcicpaaBundleLeafPlaces6
import Derived.Test.YthpcfijefcicpaaBundleLeafPlaces7
import Derived.Test.YthpcfijefcicpaaBundleLeafPlaces8
import Derived.Test.YthpcfijefcicpaaBundleLeafPlaces9
import Derived.Test.YthpcfijefcicpaaBundleLeafPlaces10
import Derived.Test.YthpcfijefcicpaaBundleLeafPlaces11
/- A root of which one byte is turned is none, plain. -/
namespace Go.Proofs.Ythpcfijefcicpaa
open Go.RowKit Go.Proofs.U
set_option linter.unusedSimpArgs false
set_option linter.unusedVariables false
theorem BL_zeros (n : Nat) : BL (List.replicate n 0) = List.replicate n 0#8 := by unfold BL; rw [List.map_replicate]; rfl
theorem crc_st {c : List Int} (hc : c.length ≤ 186) (hb : Byt c) : crcF ones32 (BL (st192 c)) = 0#32 := by
  rw [st192_eq c hc, BL_append, crcF_append, BL_zeros]
  have h1 : crcF ones32 (BL (strm c)) = 0#32 := by
    have h2 := ok_iff (strm c) (strm_byt hb) (by rw [strm_len]; omega)
    have h3 : okI (strm c) = true := ok_seal _
    rw [h3] at h2
    simpa using h2.symm
  rw [h1, crcF_zeros, stpN_zero]
theorem ofI_inj {x y : Int} (hx : 0 ≤ x ∧ x < 256) (hy : 0 ≤ y ∧ y < 256) (h : BitVec.ofInt 8 x = BitVec.ofInt 8 y) : x = y := by
  have := congrArg (fun b : BitVec 8 => (b.toNat : Int)) h
  simp only [ofI8 x hx.1 hx.2, ofI8 y hy.1 hy.2] at this
  exact this
/-- One byte turned: the sum tells. -/
theorem crc_one (X : List Int) (j : Nat) (hj : j < X.length) (y : Int) (hX : Byt X) (hy : 0 ≤ y ∧ y < 256) (h1 : crcF ones32 (BL X) = 0#32) (h2 : crcF ones32 (BL (X.set j y)) = 0#32) : X.getD j 0 = y := by
  have hx : X.getD j 0 = X[j] := by simp [List.getD, hj]
  have e1 : X = X.take j ++ (X[j] :: X.drop (j + 1)) := by
    rw [← List.drop_eq_getElem_cons hj, List.take_append_drop]
  have e2 : X.set j y = X.take j ++ (y :: X.drop (j + 1)) := by
    conv => lhs; rw [e1]
    rw [List.set_append_right _ _ (by rw [List.length_take]; omega), show j - (X.take j).length = 0 by simp; omega, List.set_cons_zero]
  have b1 : BL X = BL (X.take j) ++ (BitVec.ofInt 8 X[j] :: BL (X.drop (j + 1))) := by
    conv => lhs; rw [e1]
    rw [BL_append]; rfl
  rw [e2, BL_append] at h2
  rw [b1] at h1
  rw [crcF_append] at h1 h2
  generalize crcF ones32 (BL (X.take j)) = s at h1 h2
  have h1 : crcF (wb s (BitVec.ofInt 8 X[j])) (BL (X.drop (j + 1))) = 0#32 := h1
  have h2 : crcF (wb s (BitVec.ofInt 8 y)) (BL (X.drop (j + 1))) = 0#32 := h2
  have e3 : wb s (BitVec.ofInt 8 y) = wb s (BitVec.ofInt 8 X[j]) ^^^ wb 0#32 (BitVec.ofInt 8 X[j] ^^^ BitVec.ofInt 8 y) := by
    rw [← wb_xor, BitVec.xor_zero, ← BitVec.xor_assoc, BitVec.xor_self, BitVec.zero_xor]
  rw [e3, crcF_drift, h1, BitVec.zero_xor] at h2
  have h3 := stpN_inj0 _ _ h2
  unfold wb at h3
  have h4 := stpN_inj0 _ _ h3
  rw [BitVec.zero_xor] at h4
  have h5 := byt_zero _ h4
  have h6 : BitVec.ofInt 8 X[j] = BitVec.ofInt 8 y := by
    have := congrArg (· ^^^ BitVec.ofInt 8 y) h5
    simpa [BitVec.xor_assoc] using this
  rw [hx]
  exact ofI_inj (u8_bd (hX _ (by simp))) hy h6
/-- A page of which one byte is mixed with another one. -/
def turn1 (p : List Int) (i : Nat) (m : Int) : List Int := p.set i (xI (p.getD i 0) m)
theorem turn1_len (p : List Int) (i : Nat) (m : Int) : (turn1 p i m).length = p.length := by simp [turn1]
theorem turn1_at (p : List Int) (i : Nat) (m : Int) (j : Nat) (hi : i < p.length) : (turn1 p i m).getD j 0 = if j = i then xI (p.getD i 0) m else p.getD j 0 := by
  unfold turn1
  simp only [List.getD]
  rw [List.getElem?_set]
  by_cases h : i = j
  · subst h; simp [hi]
  · rw [if_neg h, if_neg (fun e => h e.symm)]
theorem turn1_byt {p : List Int} (h : Byt p) (i : Nat) {m : Int} (hm : 0 ≤ m ∧ m < 256) : Byt (turn1 p i m) := by
  unfold turn1
  intro n hn
  rcases List.mem_or_eq_of_mem_set hn with hn | rfl
  · exact h n hn
  · have := xI_bd (h.at i) hm
    exact wf_byte this.1 this.2
theorem xI_ne {a m : Int} (ha : 0 ≤ a ∧ a < 256) (hm : 0 < m ∧ m < 256) : xI a m ≠ a := by
  intro h
  have h1 := xI_twice (a := a) (m := m) ha.1
  rw [h] at h1
  unfold xI at h
  have h2 : (a.toNat ^^^ m.toNat) = a.toNat := by omega
  have h3 : m.toNat = 0 := by
    have := congrArg (a.toNat ^^^ ·) h2
    simpa [← Nat.xor_assoc] using this
  omega
theorem spoilt (g : Int) (c : List Int) (hc : c.length ≤ 186) (hb : Byt c) (i : Nat) (hi : i < 256) {m : Int} (hm : 0 < m ∧ m < 256) : (rootOf (turn1 (rootP g c) i m)).1 = 0 := by
  have bR := rootP_byt g hb
  have lR := rootP_len g c
  have hne := xI_ne (bR.at i) hm
  have bT := turn1_byt bR i (m := m) (by omega)
  have hat := fun j => turn1_at (rootP g c) i m j (by rw [lR]; exact hi)
  apply Decidable.byContradiction
  intro h0
  have hS := rootOf_some h0
  have hBd := rootOf_bd bT
  have hcl : (rootOf (turn1 (rootP g c) i m)).2.length ≤ 186 := by
    unfold rootOf
    split
    · simp
    · rename_i h1
      split
      · rw [contOf_len bT (by omega)]; omega
      · simp
  have hcb := rootOf_byt bT
  generalize (rootOf (turn1 (rootP g c) i m)).1 = g' at *
  generalize (rootOf (turn1 (rootP g c) i m)).2 = c' at *
  by_cases h8 : i % 32 < 8
  · -- the same place of another sector
    obtain ⟨j, hj, hji, hj8⟩ : ∃ j, j < 256 ∧ j ≠ i ∧ j % 32 = i % 32 := by
      by_cases h : i < 32
      · exact ⟨i + 32, by omega, by omega, by omega⟩
      · exact ⟨i - 32, by omega, by omega, by omega⟩
    have e1 := hat i
    have e2 := hat j
    rw [if_pos rfl] at e1
    rw [if_neg hji] at e2
    rw [hS, rootP_get _ _ _ hi, if_pos h8] at e1
    rw [hS, rootP_get _ _ _ hj, hj8, if_pos h8, rootP_get _ _ _ hj, hj8, if_pos h8] at e2
    rw [e2] at e1
    have e3 := rootP_get g c i hi
    rw [if_pos h8] at e3
    rw [← e3] at e1
    exact hne e1.symm
  · have hk : i / 32 * 24 + (i % 32 - 8) < 192 := by omega
    have es : strmOf (turn1 (rootP g c) i m) = (strmOf (rootP g c)).set (i / 32 * 24 + (i % 32 - 8)) (xI ((rootP g c).getD i 0) m) := by
      apply ext_getD
      · rw [List.length_set, strmOf_len, strmOf_len]
      · intro j hj
        rw [strmOf_len] at hj
        have e1 : (strmOf (turn1 (rootP g c) i m)).getD j 0 = (turn1 (rootP g c) i m).getD (j / 24 * 32 + 8 + j % 24) 0 := by rw [strmOf, getD_map _ _ _ hj]
        have e2 : (strmOf (rootP g c)).getD j 0 = (rootP g c).getD (j / 24 * 32 + 8 + j % 24) 0 := by rw [strmOf, getD_map _ _ _ hj]
        rw [e1, hat]
        simp only [List.getD, List.getElem?_set]
        by_cases h : i / 32 * 24 + (i % 32 - 8) = j
        · rw [if_pos (by omega), if_pos h, if_pos (by rw [strmOf_len]; exact hk)]
          rfl
        · rw [if_neg (by omega), if_neg h]
          have := e2
          simp only [List.getD] at this
          exact this.symm
    have e4 : strmOf (turn1 (rootP g c) i m) = st192 c' := by rw [hS, strmOf_root]
    rw [strmOf_root] at es
    have z1 := crc_st hc hb
    have z2 := crc_st hcl hcb
    rw [← e4, es] at z2
    have xb := xI_bd (bR.at i) (b := m) (by omega)
    have := crc_one (st192 c) _ (by rw [st192_len]; exact hk) _ (st192_byt hb) xb z1 z2
    have e5 := rootP_get g c i hi
    rw [if_neg h8] at e5
    rw [← e5] at this
    exact hne this.symm
/-- Of a turned root's sectors one at least has the generation still. -/
theorem turn_gen (g : Int) (hg : 0 ≤ g ∧ g < 18446744073709551616) (c : List Int) (i : Nat) (hi : i < 256) (m : Int) : ∃ s, s < 8 ∧ genAt (turn1 (rootP g c) i m) s = g := by
  obtain ⟨s, hs, hsi⟩ : ∃ s, s < 8 ∧ s ≠ i / 32 := by
    by_cases h : i / 32 = 0
    · exact ⟨1, by omega, by omega⟩
    · exact ⟨0, by omega, by omega⟩
  refine ⟨s, hs, ?_⟩
  have hR := rootP_len g c
  have : ((turn1 (rootP g c) i m).drop (s * 32)).take 8 = ((rootP g c).drop (s * 32)).take 8 := by
    apply ext_getD
    · simp only [List.length_take, List.length_drop, turn1_len]
    · intro j hj
      have hj8 : j < 8 := by rw [List.length_take] at hj; omega
      rw [drop_take_get _ _ _ _ hj8, drop_take_get _ _ _ _ hj8, turn1_at _ _ _ _ (by rw [hR]; exact hi), if_neg (by omega)]
  unfold genAt
  rw [this]
  exact genAt_root g hg c s hs

/-- The disk behind both Writes. -/
def X2S (a b : List Int) : DSt := (rWrite (rWrite (newD 2) a).1 b).1
theorem two_first (a : List Int) (ha : a.length ≤ 186) (ba : Byt a) : (rWrite (newD 2) a).2 = (1, 0) ∧ Two (rWrite (newD 2) a).1 zeroP (rootP 1 a) ∧ (rWrite (newD 2) a).1.down = false ∧ (rWrite (newD 2) a).1.left = -1 := by
  have h := two_new
  have hG : nextG (newD 2) = 1 := by have := h.nxG.2.2.2.1 (by rw [new_newest]); rw [new_top] at this; exact this
  have hw := h.goes (by rw [new_top]; decide) rfl (by decide) a ha
  rw [hG] at hw
  have e : ¬ ((newD 2).left = 1) := by decide
  rw [if_neg e] at hw
  have hT := putS_two h 1 (rootP_len 1 a) (rootP_byt 1 ba) (rWrite (newD 2) a).1 (by rw [hw]) (by rw [hw]; rfl) (by rw [hw])
  exact ⟨by rw [hw], hT, by rw [hw]; rfl, by rw [hw]; rfl⟩
theorem top_one (a : List Int) : top zeroP (rootP 1 a) = 1 := by
  have hz : ∀ s, s < 8 → genAt zeroP s ≤ 1 := by decide +kernel
  apply Int.le_antisymm
  · exact top_up (by decide) hz (fun s hs => by rw [genAt_root 1 (by decide) a s hs]; decide)
  · have := top_q zeroP (rootP 1 a) 0 (by decide)
    rwa [genAt_root 1 (by decide) a 0 (by decide)] at this
theorem newest_one (a : List Int) (ha : a.length ≤ 186) : newest zeroP (rootP 1 a) = (1, a) := by
  have h1 : rootOf zeroP = (0, []) := by kernel_rfl
  unfold newest
  rw [h1, rootOf_root 1 (by decide) a ha]
  rfl
theorem two_second (a b : List Int) (ha : a.length ≤ 186) (ba : Byt a) (hb : b.length ≤ 186) (bb : Byt b) : (rWrite (rWrite (newD 2) a).1 b).2 = (2, 0) ∧ Two (X2S a b) (rootP 2 b) (rootP 1 a) ∧ (X2S a b).down = false ∧ (X2S a b).left = -1 := by
  obtain ⟨_, h, hd, hl⟩ := two_first a ha ba
  unfold X2S
  generalize (rWrite (newD 2) a).1 = X at *
  have hG : nextG X = 2 := by
    have := h.nxG.2.2.2.2
    rw [top_one, newest_one a ha] at this
    exact this (by show (1 + 1 : Int) % 2 ≠ 1 % 2; decide)
  have hw := h.goes (by rw [top_one]; decide) hd (by rw [hl]; decide) b hb
  have e : ¬ (X.left = 1) := by rw [hl]; decide
  rw [hG, if_neg e] at hw
  have hT := putS_two h 2 (rootP_len 2 b) (rootP_byt 2 bb) (rWrite X b).1 (by rw [hw]) (by rw [hw]; exact h.pend) (by rw [hw])
  exact ⟨by rw [hw], hT, by rw [hw]; exact hd, by rw [hw]; simp [hl]⟩
end Go.Proofs.Ythpcfijefcicpaa
/- Counts as pages, plain: what a page of a generation and counts is, and what a page tells; one byte turned; how many counts aren't nought. -/
namespace Go.Proofs.Ythpcfijefcicpaa
open Go.RowKit Go.Proofs.U
set_option linter.unusedSimpArgs false
set_option linter.unusedVariables false
/-- The page of a generation and counts. -/
def tlyP (g : Int) (c : List Int) : List Int := sealI (leB 8 g ++ c) ++ zerB 4
theorem tlyP_len (g : Int) {c : List Int} (h : c.length = 240) : (tlyP g c).length = 256 := by
  simp only [tlyP, List.length_append, sealI_length, leB_length, zerB_len, h]
theorem tlyP_byt (g : Int) {c : List Int} (h : Byt c) : Byt (tlyP g c) := (show Byt (sealI _) from sealI_wf _ ((byt_le 8 g).app h)).app (zerB_byt 4)
/-- What the program lays into a page of noughts. -/
theorem tlyP_put (g : Int) {c : List Int} (h : c.length = 240) : putI (zerB 256) 0 ((sealI (leB 8 g ++ c)).take 256) = tlyP g c := by
  have hl : (sealI (leB 8 g ++ c)).length = 252 := by simp only [sealI_length, List.length_append, leB_length, h]
  rw [List.take_of_length_le (by omega)]
  unfold putI tlyP
  rw [List.take_zero, List.nil_append, Nat.zero_add, hl]
  congr 1
/-- The counts that a page seems to have. -/
def cntOf (p : List Int) : List Int := (p.drop 8).take 240
theorem cntOf_len {p : List Int} (h : p.length = 256) : (cntOf p).length = 240 := by simp [cntOf, h]
theorem cntOf_byt {p : List Int} (h : Byt p) : Byt (cntOf p) := (h.drop 8).take 240
theorem tlyP_split (g : Int) (c : List Int) : tlyP g c = leB 8 g ++ (c ++ (be4I (crcI (leB 8 g ++ c)) ++ zerB 4)) := by
  simp only [tlyP, sealI, List.append_assoc]
theorem cntOf_tly (g : Int) {c : List Int} (h : c.length = 240) : cntOf (tlyP g c) = c := by
  unfold cntOf
  rw [tlyP_split, List.drop_left' (leB_length 8 g), List.take_left' h]
theorem gen_tly (g : Int) (hg : 0 ≤ g ∧ g < 18446744073709551616) (c : List Int) : leNum ((tlyP g c).take 8) = g := by
  rw [tlyP_split, List.take_left' (leB_length 8 g)]
  exact leNum_leB 8 g hg.1 hg.2
theorem tly_inj {g g' : Int} (hg : 0 ≤ g ∧ g < 18446744073709551616) (hg' : 0 ≤ g' ∧ g' < 18446744073709551616) {c c' : List Int} (hc : c.length = 240) (hc' : c'.length = 240) (h : tlyP g c = tlyP g' c') : g = g' ∧ c = c' := by
  constructor
  · rw [← gen_tly g hg c, h, gen_tly g' hg' c']
  · rw [← cntOf_tly g hc, h, cntOf_tly g' hc']
/-- What a page tells of a generation. -/
def opT (p : List Int) (g : Int) : List Int × Int := if p == tlyP g (cntOf p) then (cntOf p, 0) else (zerB 240, 61)
theorem opT_own (g : Int) {c : List Int} (h : c.length = 240) : opT (tlyP g c) g = (c, 0) := by
  unfold opT
  rw [cntOf_tly g h, beq_self_eq_true]; rfl
theorem opT_other {g g' : Int} (hg : 0 ≤ g ∧ g < 18446744073709551616) (hg' : 0 ≤ g' ∧ g' < 18446744073709551616) (hne : g ≠ g') {c : List Int} (h : c.length = 240) : opT (tlyP g c) g' = (zerB 240, 61) := by
  unfold opT
  rw [cntOf_tly g h]
  have : (tlyP g c == tlyP g' c) = false := by
    rw [beq_eq_false_iff_ne]
    intro e
    exact hne (tly_inj hg hg' h h e).1
  rw [this]; rfl
theorem opT_len {p : List Int} (h : p.length = 256) (g : Int) : (opT p g).1.length = 240 := by
  unfold opT
  split
  · exact cntOf_len h
  · exact zerB_len 240
theorem opT_byt {p : List Int} (h : Byt p) (g : Int) : Byt (opT p g).1 := by
  unfold opT
  split
  · exact cntOf_byt h
  · exact zerB_byt 240
theorem crc_tly (g : Int) {c : List Int} (hb : Byt c) : crcF ones32 (BL (tlyP g c)) = 0#32 := by
  unfold tlyP
  rw [BL_append, crcF_append, zerB, BL_zeros]
  have h1 : crcF ones32 (BL (sealI (leB 8 g ++ c))) = 0#32 := by
    have h2 := ok_iff (sealI (leB 8 g ++ c)) (sealI_wf _ ((byt_le 8 g).app hb)) (by rw [sealI_length]; omega)
    rw [ok_seal] at h2
    simpa using h2.symm
  rw [h1, crcF_zeros, stpN_zero]
theorem opT_turn (g : Int) {c : List Int} (hc : c.length = 240) (hb : Byt c) (i : Nat) (hi : i < 256) {m : Int} (hm : 0 < m ∧ m < 256) : opT (turn1 (tlyP g c) i m) g = (zerB 240, 61) := by
  have bR := tlyP_byt g hb
  have bT := turn1_byt bR i (m := m) (by omega)
  unfold opT
  have : (turn1 (tlyP g c) i m == tlyP g (cntOf (turn1 (tlyP g c) i m))) = false := by
    rw [beq_eq_false_iff_ne]
    intro e
    have z1 := crc_tly g hb
    have z2 := crc_tly g (cntOf_byt bT)
    rw [← e] at z2
    exact xI_ne (bR.at i) hm (crc_one (tlyP g c) i (by rw [tlyP_len g hc]; exact hi) _ bR (xI_bd (bR.at i) (by omega)) z1 z2).symm
  rw [this]; rfl
theorem xI_zero {x : Int} (h : 0 ≤ x) : xI x 0 = x := by unfold xI; simp; omega
theorem turn1_none {p : List Int} (hp : Byt p) (i : Nat) (hi : i < p.length) : turn1 p i 0 = p := by
  unfold turn1
  rw [xI_zero (hp.at i).1]
  apply List.ext_getElem
  · simp
  · intro j h1 h2
    rw [List.getElem_set]
    split
    · rename_i h; subst h; simp [List.getD, hi]
    · rfl

/-- How many of some numbers aren't nought. -/
def usedN (c : List Int) : Nat := (c.filter fun x => !(x == 0)).length
theorem usedN_le (c : List Int) : usedN c ≤ c.length := List.length_filter_le _ _
theorem usedN_succ (c : List Int) (k : Nat) (h : k < c.length) : usedN (c.take (k + 1)) = usedN (c.take k) + if c.getD k 0 = 0 then 0 else 1 := by
  have e : c.getD k 0 = c[k] := by simp [List.getD, h]
  rw [e, List.take_succ_eq_append_getElem h]
  unfold usedN
  rw [List.filter_append, List.length_append]
  congr 1
  by_cases h0 : c[k] = 0
  · simp [h0]
  · simp [h0]
theorem usedN_none (c : List Int) : (usedN c = 0) ↔ c = zerB c.length := by
  unfold usedN zerB
  rw [List.length_eq_zero_iff, List.filter_eq_nil_iff, List.eq_replicate_iff]
  simp
theorem mod2 (g : Int) (h : 0 ≤ g) : g.tmod 2 = g % 2 := Int.tmod_eq_emod_of_nonneg h
end Go.Proofs.Ythpcfijefcicpaa
/- Area and Used of package tally; the document's Area. -/
namespace Go.Proofs.Ythpcfijefcicpaa
open Go.RowKit Go.Proofs.U
set_option linter.unusedSimpArgs false
set_option linter.unusedVariables false
def G64 (g : Int) : Prop := 0 ≤ g ∧ g < 18446744073709551616
end Go.Proofs.Ythpcfijefcicpaa
/- How arrays of bytes, and of two numbers, that came in are opened. -/
namespace Go.Proofs.Ythpcfijefcicpaa
open Go.RowKit Go.Proofs.U Go.ChangeShapes Go.WideShapes Go.ChangeAt
set_option linter.unusedSimpArgs false
set_option linter.unusedVariables false
/-- The value of an array of bytes. -/
def IsArr (v : Value) (n : Nat) (p : List Int) : Prop := v = pgV p ∧ p.length = n ∧ Byt p
def numOf : Value → Int
  | .int _ z => z
  | _ => 0
theorem opened_arr {t : TypeId} {n : Nat} (T : ArrT t n) (hC : Try.prog.cellsOf t = n) (hc5 : Try.prog.cellsOf 5 = 1) {H : Type} {enc : TypeId × Value → H} {W : World} {base : Nat} {v : Value} {d : DataW H} {p : List MemPlace}
    (hval : Value.okWide Try.prog W .any base t v) (h : DataW.Trod enc Try.prog W 0 (fun _ => true) true t v d p) : ∃ c, IsArr v n c := by
  simp only [Value.okWide, T.und] at hval
  obtain ⟨cs, rfl, hsz, _⟩ := hval
  rw [hC] at hsz
  obtain ⟨fuel, hf⟩ := h
  obtain ⟨xs, m, _, _, _, hlen, hx⟩ := DataW.trod_array T.und hf
  have hat : ∀ i, i < n → ∃ z : Int, cs.toList[i]? = some (.int .u8 z) ∧ (Lit.int .u8 z).wf = true := by
    intro i hi
    have h0 := hx i hi
    rw [hc5] at h0
    have g0 : xs[i]? = some xs[i] := List.getElem?_eq_getElem (by omega)
    rw [g0] at h0
    obtain ⟨z, e, _, wf⟩ := DataW.trod_int Try.underlying5 h0
    refine ⟨z, ?_, wf⟩
    have e1 : ((cs.toList.drop (i * 1)).take 1)[0]? = some (.int .u8 z) := by
      have : (Value.agg cs).cells.toList = cs.toList := rfl
      rw [this] at e
      rw [e]; rfl
    simpa [List.getElem?_take, List.getElem?_drop] using e1
  have hl : cs.toList.length = n := by simpa using hsz
  refine ⟨cs.toList.map numOf, ?_, by simpa using hsz, ?_⟩
  · have e : pgv (cs.toList.map numOf) = cs.toList := by
      apply List.ext_getElem
      · simp [pgv]
      · intro i h1 h2
        obtain ⟨z, hz, _⟩ := hat i (by omega)
        rw [List.getElem?_eq_getElem h2] at hz
        have hz := Option.some.inj hz
        simp only [pgv, List.getElem_map]
        rw [hz]; rfl
    unfold pgV
    rw [e]
  · intro y hy
    obtain ⟨u, hu, rfl⟩ := List.mem_map.1 hy
    obtain ⟨i, hi, rfl⟩ := List.mem_iff_getElem.1 hu
    obtain ⟨z, hz, wf⟩ := hat i (by omega)
    rw [List.getElem?_eq_getElem hi] at hz
    rw [Option.some.inj hz]; exact wf
theorem opened_page {H : Type} {enc : TypeId × Value → H} {W : World} {base : Nat} {v : Value} {d : DataW H} {p : List MemPlace}
    (hval : Value.okWide Try.prog W .any base 23 v) (h : DataW.Trod enc Try.prog W 0 (fun _ => true) true 23 v d p) : ∃ c, IsArr v 256 c :=
  opened_arr arr_page (by kernel_rfl) (by kernel_rfl) hval h
/-- The value of two numbers. -/
def IsTwo (v : Value) (m : Int × Int) : Prop := v = .agg #[.int .u64 m.1, .int .u64 m.2] ∧ G64 m.1 ∧ G64 m.2
theorem g64_wf {x : Int} (h : (Lit.int .u64 x).wf = true) : G64 x := by
  unfold G64
  simp [Lit.wf, IntKind.min, IntKind.max, IntKind.signed, IntKind.bits] at h; omega
end Go.Proofs.Ythpcfijefcicpaa
/- How a struct of a number, an array of bytes and a slice of pairs that came in is opened; no condition but what the types are. -/
namespace Go.Proofs.U
open Go.RowKit Go.ChangeShapes Go.WideShapes Go.ChangeAt
/-- A slice of pairs, cell by cell. -/
theorem slP_of_cells {P : Program} {H : Type} {enc : TypeId × Value → H} {W : World} {t e fuel : Nat} {k0 k1 : IntKind} {f0 f1 : Field} {cs : List Value} {x : DataW H × List MemPlace}
    (hu : P.underlying t = some (.slice e)) (he : P.underlying e = some (.struct #[f0, f1])) (ce : P.cellsOf e = 2) (o0 : f0.offset = 0) (o1 : f1.offset = 1) (c0 : P.cellsOf f0.type = 1) (c1 : P.cellsOf f1.type = 1)
    (t0 : P.underlying f0.type = some (.int k0)) (t1 : P.underlying f1.type = some (.int k1))
    (hf : DataW.trod enc P W 0 (fun _ => true) true fuel t cs = some x) : ∃ v l, cs = [v] ∧ SlP k0 k1 W v l := by
  rcases Deep.open_slice_pairs hu he ce o0 o1 c0 c1 hf with ⟨rfl, _⟩ | ⟨x, len, cap, m, n, V0, V1, D0, D1, P0, P1, rfl, _, hl, hm, hmm, _, hcell⟩
  · exact ⟨_, [], rfl, ⟨by simp, Sl.nil W 2⟩, by simp⟩
  · have hmc : m = cap := by simpa using hmm
    have hv : ∀ i, i < m → ∃ z0 z1, V0 i = .int k0 z0 ∧ V1 i = .int k1 z1 ∧ (Lit.int k0 z0).wf = true ∧ (Lit.int k1 z1).wf = true := by
      intro i hi
      obtain ⟨_, _, r0, r1⟩ := hcell i hi
      obtain ⟨z0, e0, _, w0⟩ := DataW.trod_int t0 r0
      obtain ⟨z1, e1, _, w1⟩ := DataW.trod_int t1 r1
      simp at e0 e1
      exact ⟨z0, z1, e0, e1, w0, w1⟩
    let g : Nat → Int × Int := fun i => (intOf (V0 i), intOf (V1 i))
    have hg : ∀ i, i < m → V0 i = .int k0 (g i).1 ∧ V1 i = .int k1 (g i).2 ∧ (Lit.int k0 (g i).1).wf = true ∧ (Lit.int k1 (g i).2).wf = true := by
      intro i hi
      obtain ⟨z0, z1, e0, e1, w0, w1⟩ := hv i hi
      simp only [g, e0, e1, intOf]
      exact ⟨trivial, trivial, w0, w1⟩
    have hfl2 : ∀ L : List (Int × Int), (L.flatMap (pairC k0 k1)).length = L.length * 2 := by
      intro L; induction L with
      | nil => rfl
      | cons z L ih => simp only [List.flatMap_cons, List.length_append, ih, List.length_cons]; simp [pairC]; omega
    refine ⟨_, (List.range len).map g, rfl, ⟨fun y _ => rfl, ?_⟩, fun y hy => ?_⟩
    · refine ⟨some x, cap, by simp, by simpa using hl, ?_, (fun h => by cases h), fun y hy j u hj => ?_⟩
      · rw [hfl2]
      · cases hy
        have hjl : j < len * 2 := by
          have h2 := (List.getElem?_eq_some_iff.1 hj).1
          rw [hfl2] at h2; simpa using h2
        have hq : j / 2 < ((List.range len).map g).length := by simp; omega
        have hfl := flat_at (pairC k0 k1) 2 ((List.range len).map g) (fun _ _ => rfl) (j / 2) hq (j % 2) (by omega)
        rw [show j / 2 * 2 + j % 2 = j by omega, hj] at hfl
        have hj2 : j / 2 < m := by omega
        obtain ⟨q0, q1, _, _⟩ := hcell (j / 2) hj2
        obtain ⟨e0, e1, _, _⟩ := hg (j / 2) hj2
        simp only [List.getElem_map, List.getElem_range] at hfl
        rcases Nat.mod_two_eq_zero_or_one j with hm2 | hm2
        · rw [hm2] at hfl; simp [pairC] at hfl; rw [hfl, ← e0, ← q0]; congr 2; omega
        · rw [hm2] at hfl; simp [pairC] at hfl; rw [hfl, ← e1, ← q1]; congr 2; omega
    · simp at hy; obtain ⟨i, hi, rfl⟩ := hy
      exact (hg i (by omega)).2.2
end Go.Proofs.U
namespace Go.Proofs.Ythpcfijefcicpaa
open Go.RowKit Go.Proofs.U Go.ChangeShapes Go.WideShapes Go.ChangeAt
set_option linter.unusedSimpArgs false
set_option linter.unusedVariables false
/-- An array of bytes, cell by cell. -/
theorem bytes_of_cells {P : Program} {t e n fuel : Nat} (hu : P.underlying t = some (.array n e)) (he : P.underlying e = some (.int .u8)) (ct : P.cellsOf t = n) (ce : P.cellsOf e = 1) {H : Type} {enc : TypeId × Value → H} {W : World} {cs : List Value} {x : DataW H × List MemPlace}
    (hf : DataW.trod enc P W 0 (fun _ => true) true fuel t cs = some x) : ∃ c, cs = pgv c ∧ c.length = n ∧ Byt c := by
  obtain ⟨xs, m, _, _, hsz, hlen, hx⟩ := DataW.trod_array hu hf
  rw [ct] at hsz
  have hat : ∀ i, i < n → ∃ z : Int, cs[i]? = some (.int .u8 z) ∧ (Lit.int .u8 z).wf = true := by
    intro i hi
    have h0 := hx i hi
    rw [ce] at h0
    have g0 : xs[i]? = some xs[i] := List.getElem?_eq_getElem (by omega)
    rw [g0] at h0
    obtain ⟨z, e, _, wf⟩ := DataW.trod_int he h0
    refine ⟨z, ?_, wf⟩
    have e1 : ((cs.drop (i * 1)).take 1)[0]? = some (.int .u8 z) := by rw [e]; rfl
    simpa [List.getElem?_take, List.getElem?_drop] using e1
  refine ⟨cs.map numOf, ?_, by rw [List.length_map, hsz], ?_⟩
  · apply List.ext_getElem
    · simp [pgv]
    · intro i h1 h2
      obtain ⟨z, hz, _⟩ := hat i (by omega)
      rw [List.getElem?_eq_getElem h1] at hz
      have hz := Option.some.inj hz
      simp only [pgv, List.getElem_map]
      rw [hz]; rfl
  · intro y hy
    obtain ⟨u, hu, rfl⟩ := List.mem_map.1 hy
    obtain ⟨i, hi, rfl⟩ := List.mem_iff_getElem.1 hu
    obtain ⟨z, hz, wf⟩ := hat i (by omega)
    rw [List.getElem?_eq_getElem hi] at hz
    rw [Option.some.inj hz]; exact wf
/-- A number, an array of bytes, and a slice of pairs, as one value. -/
theorem node_of_trod {P : Program} {t e5 es ee n : Nat} {g0 g1 g2 f0 f1 : Field} {H : Type} {enc : TypeId × Value → H} {W : World} {base : Nat} {v : Value} {d : DataW H} {p : List MemPlace}
    (hu : P.underlying t = some (.struct #[g0, g1, g2])) (ct : P.cellsOf t = n + 2) (p0 : g0.offset = 0) (p1 : g1.offset = 1) (p2 : g2.offset = n + 1) (k0 : P.cellsOf g0.type = 1) (k1 : P.cellsOf g1.type = n) (k2 : P.cellsOf g2.type = 1)
    (u0 : P.underlying g0.type = some (.int .i64)) (u1 : P.underlying g1.type = some (.array n e5)) (u5 : P.underlying e5 = some (.int .u8)) (c5 : P.cellsOf e5 = 1)
    (u2 : P.underlying g2.type = some (.slice ee)) (he : P.underlying ee = some (.struct #[f0, f1])) (ce : P.cellsOf ee = 2) (o0 : f0.offset = 0) (o1 : f1.offset = 1) (c0 : P.cellsOf f0.type = 1) (c1 : P.cellsOf f1.type = 1)
    (t0 : P.underlying f0.type = some (.int .i64)) (t1 : P.underlying f1.type = some (.int .i64))
    (hval : Value.okWide P W .any base t v) (h : DataW.Trod enc P W 0 (fun _ => true) true t v d p) :
    ∃ (k : Int) (b : List Int) (vs : Value) (l : List (Int × Int)), v = .agg (.int .i64 k :: (pgv b ++ [vs])).toArray ∧ (Lit.int .i64 k).wf = true ∧ b.length = n ∧ Byt b ∧ SlP .i64 .i64 W vs l := by
  simp only [Value.okWide, hu] at hval
  obtain ⟨cs, rfl, hsz, _⟩ := hval
  rw [ct] at hsz
  obtain ⟨fuel, hf⟩ := h
  have hf : DataW.trod enc P W 0 (fun _ => true) true fuel t cs.toList = some (d, p) := hf
  obtain ⟨y0, y1, y2, m, _, hl, r0, r1, r2⟩ := Deep.trod_struct3 hu hf
  rw [p0, k0] at r0
  rw [p1, k1] at r1
  rw [p2, k2] at r2
  have hcl : cs.toList.length = n + 2 := by rw [← hsz]; rfl
  obtain ⟨z, e0, _, w0⟩ := DataW.trod_int u0 r0
  obtain ⟨b, e1, bl, bb⟩ := bytes_of_cells u1 u5 k1 c5 r1
  obtain ⟨vs, l, e2, hs⟩ := slP_of_cells u2 he ce o0 o1 c0 c1 t0 t1 r2
  refine ⟨z, b, vs, l, ?_, w0, bl, bb, hs⟩
  have e : cs.toList = .int .i64 z :: (pgv b ++ [vs]) := by
    have h1 : cs.toList = cs.toList.take 1 ++ ((cs.toList.drop 1).take n ++ (cs.toList.drop (n + 1)).take 1) := by
      have a1 : (cs.toList.drop (n + 1)).take 1 = (cs.toList.drop 1).drop n := by
        rw [List.drop_drop, Nat.add_comm 1 n, List.take_of_length_le (by rw [List.length_drop, hcl]; omega)]
      rw [a1, List.take_append_drop, List.take_append_drop]
    rw [h1]
    rw [List.drop_zero] at e0
    rw [e0, e1, e2]
    rfl
  have : cs = cs.toList.toArray := by simp
  rw [this, e]
end Go.Proofs.Ythpcfijefcicpaa
/- How a node that came in is opened. -/
namespace Go.Proofs.Ythpcfijefcicpaa
open Go.RowKit Go.Proofs.U Go.ChangeShapes Go.WideShapes Go.ChangeAt
/-- A value is a node whose entries lie in memory. -/
def IsNd (w : World) (v : Value) (n : Nd) : Prop := ∃ vs, v = ndV n.k n.b vs ∧ SlP .i64 .i64 w vs n.es ∧ n.ok ∧ (Lit.int .i64 n.k).wf = true
theorem opened_node {H : Type} {enc : TypeId × Value → H} {W : World} {base : Nat} {v : Value} {d : DataW H} {p : List MemPlace}
    (hval : Value.okWide Try.prog W .any base 31 v)
    (h : DataW.Trod enc Try.prog W 0 (fun _ => true) true 31 v d p) : ∃ n, IsNd W v n := by
  obtain ⟨k, b, vs, l, hv, wk, bl, bb, hs⟩ := node_of_trod (n := 16) (es := 0) Try.underlying31 (by kernel_rfl) rfl rfl rfl (by kernel_rfl) (by kernel_rfl) (by kernel_rfl) Try.underlying3 Try.underlying28 Try.underlying5 (by kernel_rfl)
    Try.underlying29 Try.underlying43 (by kernel_rfl) rfl rfl (by kernel_rfl) (by kernel_rfl) Try.underlying3 Try.underlying3 hval h
  exact ⟨⟨k, b, l⟩, vs, hv, hs, ⟨bl, bb⟩, wk⟩
theorem IsNd.parts {w : World} {v : Value} {n : Nd} (h : IsNd w v n) : ∃ a c, v = ndV n.k n.b (.slice a n.es.length c) ∧ SlP .i64 .i64 w (.slice a n.es.length c) n.es ∧ n.ok ∧ (Lit.int .i64 n.k).wf = true := by
  obtain ⟨vs, rfl, hs, h⟩ := h
  obtain ⟨a, c, rfl, _⟩ := hs.1.opn
  exact ⟨a, c, rfl, hs, h⟩
end Go.Proofs.Ythpcfijefcicpaa
/- LeafPlaces. -/
namespace Go.Proofs.Ythpcfijefcicpaa
open Go.RowKit Go.Proofs.U
set_option linter.unusedSimpArgs false
set_option linter.unusedVariables false
theorem NdS.slP {w : World} {v : Value} {n : Nd} (h : NdS w v n) : SlP .i64 .i64 w v n.es := h.1
theorem NdS.slR {w : World} {v : Value} {n : Nd} (h : NdS w v n) : SlR enC 2 w v n.es := h.1.1

theorem at_want {w : World} {ops : Array Oper} {rest : List Oper} {o : Oper} {a : Act} {Q : Exit → Act → World → Prop} (_h : Region.wanted o (yielded ops a.tmps) = true) (h : wpList Try.prog ops Q (o :: rest) a w) : wpList Try.prog ops Q (o :: rest) a w := h

set_option maxRecDepth 100000 in
set_option maxHeartbeats 4000000 in
theorem lplaces_walk (v : Value) (n : Nd) (key : Int) (w : World) (hv : IsNd w v n) (hkey : (Lit.int .i64 key).wf = true) :
    Calls Try.prog 6 #[v, .int .i64 key] w fun e w' => e = .returned (.bool true) ∧ Below w.heap.size w w' := by
  obtain ⟨a0, c0, rfl, hs, hok, hwf⟩ := hv.parts
  clear hv
  have Hb := show Hid _ from hok.1
  by_cases hl50 : 50 < n.es.length
  · have hl50' : (50 : Int) < (n.es.length : Int) := by omega
    go_enter Try.func6, Try.ntmps6
    go_wp2_with (first
      | (with_reducible refine at_wpP ?_; refine wpList_boxN rfl _ rfl n.k n.b (.slice a0 n.es.length c0) rfl ?_; intro g2 w1 hg2 b1 f1 s1; have q2 := NdB.ents b1 Hb.out)
      | (go_at_call 9; go_must (refine (lalive_any _).mono ?_; rintro e w2 ⟨rfl, f2⟩; have F2 := f1.thenN f2; have b2 := b1.fr0 f2; have q2 := NdB.ents b2 Hb.out)))
    go_ret
    exact ⟨rfl, F2.below⟩
  have hl50' : ¬ (50 : Int) < (n.es.length : Int) := by omega
  have hd50 : decide ((50 : Int) < (n.es.length : Int)) = false := decide_eq_false hl50'
  have hl : n.es.length ≤ 1000 := by omega
  have hnd : NdS w (.slice a0 n.es.length c0) n := ⟨hs, hok, hl, hwf⟩
  clear hs hok hl50
  cases hr : n.right with
  | false =>
    go_enter Try.func6, Try.ntmps6
    go_wp2_with (first
      | (with_reducible refine at_wpP ?_; refine wpList_boxN rfl _ rfl n.k n.b (.slice a0 n.es.length c0) rfl ?_; intro g2 w1 hg2 b1 f1 s1; have q2 := NdB.ents b1 Hb.out)
      | (go_at_call 9; go_must (refine (lalive_any _).mono ?_; rintro e w2 ⟨rfl, f2⟩; have F2 := f1.thenN f2; have b2 := b1.fr0 f2; have q2 := NdB.ents b2 Hb.out))
      | (with_reducible refine at_wpP ?_; refine at_ld 31 _ rfl ?_; have q := b2; refine wpList_ldN rfl _ rfl g2 rfl n.k n.b (.slice a0 n.es.length c0) b2 Hb.out ?_)
      | (go_at_call 13; go_must (refine (right_any n _ _ (hnd.fr0 F2)).mono ?_; rw [hr]; rintro e w3 ⟨rfl, f3⟩; have F3 := F2.thenN f3)))
    go_ret
    exact ⟨rfl, F3.below⟩
  | true =>
    go_enter Try.func6, Try.ntmps6
    go_wp2_with (first
      | (with_reducible refine at_wpP ?_; refine wpList_boxN rfl _ rfl n.k n.b (.slice a0 n.es.length c0) rfl ?_; intro g2 w1 hg2 b1 f1 s1; have q2 := NdB.ents b1 Hb.out)
      | (go_at_call 9; go_must (refine (lalive_any _).mono ?_; rintro e w2 ⟨rfl, f2⟩; have F2 := f1.thenN f2; have b2 := b1.fr0 f2; have q2 := NdB.ents b2 Hb.out))
      | (with_reducible refine at_wpP ?_; refine at_ld 31 _ rfl ?_; have q := b2; refine wpList_ldN rfl _ rfl g2 rfl n.k n.b (.slice a0 n.es.length c0) b2 Hb.out ?_)
      | (go_at_call 13; go_must (refine (right_any n _ _ (hnd.fr0 F2)).mono ?_; rw [hr]; rintro e w3 ⟨rfl, f3⟩; have F3 := F2.thenN f3; have b3 := b2.fr0 f3; have q2 := NdB.ents b3 Hb.out)))
    refine (at_any _ n.es key _ (NdS.slP (NdS.fr0 hnd F3)) hl).mono ?_
    rintro e w4 ⟨at', rfl, ⟨h1, h2, h3⟩, f4⟩
    have F4 := F3.thenN f4
    have b4 := b3.fr0 f4
    have q2 := NdB.ents b4 Hb.out
    have hsl := NdS.slR (NdS.fr0 hnd F4)
    by_cases hneg : at' < 0
    · obtain rfl : at' = -1 := by omega
      by_cases hlen0 : n.es.length = 0
      · obtain ⟨k, b, es⟩ := n
        have hes : es = [] := List.eq_nil_of_length_eq_zero hlen0
        subst hes
        clear h3 hr hnd hsl hlen0 hl hd50 hl50' h1 h2 hneg
        simp only [List.length_nil] at q2 ⊢
        go_wp2
        go_ret
        exact ⟨rfl, F4.below⟩
      · have hz : ((0 : Int) == (n.es.length : Int)) = false := by simp; omega
        have hz2 : decide ((n.es.length : Int) ≤ -1) = false := decide_eq_false (by omega)
        have hlt : 0 < n.es.length := by omega
        have hx := (h3 0 hlt).1 (by omega)
        obtain ⟨x, Hx⟩ : ∃ x, Hid (n.es[0] = x) := ⟨n.es[0], (rfl : n.es[0] = n.es[0])⟩
        rw [Hx.out] at hx
        clear h3
        go_wp2_with (first
          | (with_reducible refine at_wpP ?_; refine at_idx 29 (.tmp 51) (.tmp 53) rfl ?_; refine wpList_idxR rfl 29 _ _ rfl 43 Try.underlying29 2 en_size _ _ _ rfl hsl (by decide) _ _ 0 rfl rfl hlt ?_; rw [Hx.out]; intro ba oa hba hca; have p0 := hca 0 _ rfl; rw [Nat.add_zero] at p0; clear hca))
        go_ret
        exact ⟨rfl, F4.below⟩
    · obtain ⟨j, hJ0⟩ := Int.eq_ofNat_of_zero_le (show 0 ≤ at' by omega)
      have hJ : Hid (at' = (j : Int)) := hJ0
      have hj : j < n.es.length := by omega
      have hz2 : decide ((n.es.length : Int) ≤ at') = false := decide_eq_false (by omega)
      have hz3 : decide (at' < -1) = false := decide_eq_false (by omega)
      have hz4 : decide (at' < 0) = false := decide_eq_false (by omega)
      have hx := (h3 j hj).2 hJ0.symm
      obtain ⟨x, Hx⟩ : ∃ x, Hid (n.es[j] = x) := ⟨n.es[j], (rfl : n.es[j] = n.es[j])⟩
      rw [Hx.out] at hx
      have hat0 : 0 ≤ at' := by omega
      have hat1 : at' < 1000 := by omega
      by_cases hj1 : j + 1 = n.es.length
      · have hM : at' + 1 = (n.es.length : Int) := by rw [← hj1, hJ0]; simp
        have hMw : IntKind.i64.wrap (at' + 1) = (n.es.length : Int) := by rw [IntKind.wrap_i64, ← hM]; omega
        have hj1 := show Hid _ from hj1
        clear h3 hneg hJ0 h1 h2
        go_wp2_with (first
          | (with_reducible refine at_wpP ?_; refine at_idx 29 (.tmp 34) (.tmp 35) rfl ?_; refine wpList_idxR rfl 29 _ _ rfl 43 Try.underlying29 2 en_size _ _ _ rfl hsl (by decide) .i64 at' j rfl hJ.out hj ?_; rw [Hx.out]; intro ba oa hba hca; have p0 := hca 0 _ rfl; rw [Nat.add_zero] at p0; clear hca))
        go_ret
        exact ⟨rfl, F4.below⟩
      obtain ⟨M, HM⟩ : ∃ M : Int, Hid (at' + 1 = M) := ⟨_, rfl⟩
      have hMw : IntKind.i64.wrap (at' + 1) = M := by rw [IntKind.wrap_i64, ← HM.out]; omega
      have hz : (M == (n.es.length : Int)) = false := by rw [← HM.out, hJ0]; simp; omega
      have hk : j + 1 < n.es.length := by omega
      have hy := (h3 (j + 1) hk).1 (by omega)
      have hJ1 : Hid (M = ((j + 1 : Nat) : Int)) := by show _ = _; rw [← HM.out, hJ0]; simp
      obtain ⟨y, Hy⟩ : ∃ y, Hid (n.es[j + 1] = y) := ⟨n.es[j + 1], (rfl : n.es[j + 1] = n.es[j + 1])⟩
      rw [Hy.out] at hy
      clear h3 hneg hJ0 h1 h2 hj1
      have hM := HM.out
      go_wp2_with (first
        | (with_reducible refine at_wpP ?_; refine at_idx 29 (.tmp 34) (.tmp 35) rfl ?_; refine wpList_idxR rfl 29 _ _ rfl 43 Try.underlying29 2 en_size _ _ _ rfl hsl (by decide) .i64 at' j rfl hJ.out hj ?_; rw [Hx.out]; intro ba oa hba hca; have p0 := hca 0 _ rfl; rw [Nat.add_zero] at p0; clear hca)
        | (with_reducible refine at_wpP ?_; refine at_idx 29 (.tmp 51) (.tmp 53) rfl ?_; refine wpList_idxR rfl 29 _ _ rfl 43 Try.underlying29 2 en_size _ _ _ rfl hsl (by decide) .i64 M (j + 1) rfl hJ1.out hk ?_; rw [Hy.out]; intro bb ob hbb hcb; have p1 := hcb 0 _ rfl; rw [Nat.add_zero] at p1; clear hcb))
      go_ret
      exact ⟨rfl, F4.below⟩
end Go.Proofs.Ythpcfijefcicpaa
