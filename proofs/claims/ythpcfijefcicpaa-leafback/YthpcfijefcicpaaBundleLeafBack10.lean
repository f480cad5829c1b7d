/- Texts CV, V14, D6, D3a, D5, CM2, D4, V16, T2, T3, T4, R0, W1, E0, E1 of the proof of LeafBack, one behind the other. -/
import Derived.Test.YthpcfijefcicpaaRows
import Derived.Deep.MidRow
import Derived.Test.YthpcfijefcicpaaBundleLeafBack1
import Derived.Test.YthpcfijefcicpaaBundleLeafBack2
import Derived.Test.YthpcfijefcicpaaBundleLeafBack3
import Derived.Test.YthpcfijefcicpaaBundleLeafBack4
import Derived.Test.YthpcfijefcicpaaBundleLeafBack5
import Derived.Test.YthpcfijefcicpaaBundleLeafBack6
import Derived.Test.YthpcfijefcicpaaBundleLeafBack7
import Derived.Test.YthpcfijefcicpaaBundleLeafBack8
import Derived.Test.YthpcfijefcicpaaBundleLeafBack9
/- How bytes become a string. -/
namespace Go.Proofs.Ythpcfijefcicpaa
open Go.RowKit Go.Proofs.U

theorem conv_run {w : World} {v : Value} {l : List Int} (hS : SlI .u8 w v l) : (convert 45 9 v).run Try.prog w = .ok (.string (strOfNums l)) w := by
  obtain ⟨⟨ao, cap, rfl, hcap, hlen, hnone, hsome⟩, hwf⟩ := hS
  cases ao with
  | none =>
    obtain rfl := hnone rfl
    obtain rfl : l = [] := List.eq_nil_of_length_eq_zero (by omega)
    rw [run_convert_bytes_nil (P := Try.prog) w 45 5 Try.underlying45 Try.underlying5 _ _ 9 Try.underlying9]; rfl
  | some ad =>
    have hcell := hsome _ rfl
    by_cases hl0 : l.length = 0
    · obtain rfl : l = [] := List.eq_nil_of_length_eq_zero hl0
      have hl : (loadCells ad 0).run Try.prog w = .ok #[] w := by simpa using run_loadCells_list (P := Try.prog) w ad [] (by simp)
      rw [run_convert_bytes_string w 45 9 5 _ _ cap Try.underlying45 Try.underlying5 Try.underlying9]
      exact run_bytesToString w ad 0 cap [] hl
    obtain ⟨b, off, sp⟩ := ad
    have hsp : sp = none := by
      have := hcell 0 _ (List.getElem?_eq_getElem (by simp; omega))
      simpa [Addr.add] using World.cell?_spot this
    subst hsp
    refine run_convert_bytes_arg (P := Try.prog) w 45 5 Try.underlying45 Try.underlying5 b off l.length cap l rfl ?_ 9 Try.underlying9
    intro i hi
    have := hcell i (.int .u8 (l.getD i 0)) (by simp [List.getD, hi])
    have hadd : (⟨b, off, none⟩ : Addr).add i = ⟨b, off + i, none⟩ := by unfold Addr.add; split <;> simp_all
    rwa [hadd] at this
end Go.Proofs.Ythpcfijefcicpaa
/- RootTurns. -/
namespace Go.Proofs.Ythpcfijefcicpaa
open Go.RowKit Go.Proofs.U
set_option linter.unusedSimpArgs false
set_option linter.unusedVariables false
theorem putS_two {X : DSt} {p q : List Int} (h : Two X p q) (G : Int) {r : List Int} (hr : r.length = 256) (br : Byt r) (Y : DSt) (hp : Y.pages = [putS0 G r p, putS1 G r q]) (hq : Y.pend = []) (hb : Y.bad = X.bad) : Two Y (putS0 G r p) (putS1 G r q) := by
  refine ⟨hp, hq, by rw [hb]; exact h.bad, ?_, ?_, ?_, ?_⟩
  · unfold putS0; split; exact hr; exact h.lp
  · unfold putS1; split; exact h.lq; exact hr
  · unfold putS0; split; exact br; exact h.bp
  · unfold putS1; split; exact h.bq; exact br
theorem turn_ok {X : DSt} {p q : List Int} (h : Two X p q) (hd : X.down = false) (hl : X.left = -1) {last : Int} (h1 : (newest p q).1 = last) (h2 : top p q = last) (hb : last ≤ 1000) (c : List Int) (hc : c.length ≤ 186) (bc : Byt c) :
    rNext X = (last + 1, 0) ∧ ∃ Y p' q', rWrite X c = (Y, last + 1, 0) ∧ Two Y p' q' ∧ Y.down = false ∧ Y.left = -1 ∧ (newest p' q').1 = last + 1 ∧ top p' q' = last + 1 ∧ rRead Y = (c, last + 1, 0) := by
  have h0 := top_nn p q
  have hG : nextG X = last + 1 := by
    have := h.nxG.2.2.2.2
    rw [h1, h2] at this
    exact this (by omega)
  have hx := h.nx (by omega)
  rw [hG] at hx
  refine ⟨hx, ?_⟩
  have hw := h.goes (by omega) hd (by omega) c hc
  rw [hG, hl] at hw
  simp only [show ¬ ((-1 : Int) = 1) by decide, if_false, show ¬ ((0 : Int) < -1) by decide] at hw
  have hR := rootP_len (last + 1) c
  have bR := rootP_byt (last + 1) bc
  have hT := putS_two h (last + 1) hR bR _ (rfl : ({ X with left := -1, pages := [putS0 (last + 1) (rootP (last + 1) c) p, putS1 (last + 1) (rootP (last + 1) c) q] } : DSt).pages = _) h.pend rfl
  have hN := newest_new h.bp h.bq (G := last + 1) (by omega) (by omega) c hc
  refine ⟨_, _, _, hw, hT, hd, rfl, by rw [hN], ?_, ?_⟩
  · apply Int.le_antisymm
    · refine top_put (by omega) (by omega) (fun s hs => ?_)
      rw [genAt_root _ ⟨by omega, by omega⟩ _ s hs]; exact Int.le_refl _
    · have := newest_top hT.bp hT.bq
      rw [hN] at this; exact this
  · rw [hT.rd, hN]
    simp only
    rw [if_neg (by omega)]
theorem two_new : Two (newD 2) zeroP zeroP := ⟨rfl, rfl, fun _ => rfl, zeroP_len, zeroP_len, zeroP_byt, zeroP_byt⟩
theorem new_newest : newest zeroP zeroP = (0, []) := by kernel_rfl
theorem new_top : top zeroP zeroP = 0 := by kernel_rfl
theorem write_long {X : DSt} {c : List Int} (h : 186 < c.length) : rWrite X c = (X, 0, 51) := by unfold rWrite; rw [if_pos h]
theorem str_refl (l : List Int) : ((strOfNums l).toList == (strOfNums l).toList) = true := by simp

end Go.Proofs.Ythpcfijefcicpaa
/- The walk of CrcTwice: it answers true for all bytes. -/
namespace Go.Proofs.Ythpcfijefcicpaa
open Go.RowKit Go.Proofs.U
set_option linter.unusedSimpArgs false
set_option linter.unusedVariables false

theorem seal_take (l : List Int) : (sealI l).take ((sealI l).length - 4) = l := by
  rw [sealI_length, sealI, Nat.add_sub_cancel, List.take_append, Nat.sub_self, List.take_zero, List.append_nil, List.take_length]
theorem ok_seal (l : List Int) : okI (sealI l) = true := by
  unfold okI; rw [seal_take, sealI_length]; simp
theorem opn_seal (l : List Int) : opnI (sealI l) = l := by
  unfold opnI; rw [ok_seal, if_pos rfl, seal_take]
theorem opn_len (l : List Int) : (opnI l).length ≤ l.length := by
  unfold opnI; split <;> simp

end Go.Proofs.Ythpcfijefcicpaa
/- How bytes become a string; what is turned twice. -/
namespace Go.Proofs.Ythpcfijefcicpaa
open Go.RowKit Go.Proofs.U

theorem xI_twice {a m : Int} (ha : 0 ≤ a) : xI (xI a m) m = a := by
  unfold xI
  rw [Int.toNat_natCast, Nat.xor_assoc, Nat.xor_self, Nat.xor_zero]; omega
theorem turn_twice (l : List Int) (at' m : Int) (hl : ∀ n ∈ l, (Lit.int .u8 n).wf = true) : turnI (turnI l at' m) at' m = l := by
  by_cases h : 0 ≤ at' ∧ at' < (l.length : Int)
  · have hj : at'.toNat < l.length := by omega
    have e1 : turnI l at' m = l.set at'.toNat (xI (l.getD at'.toNat 0) m) := by unfold turnI; rw [if_pos h]
    have hd : l.getD at'.toNat 0 = l[at'.toNat] := by simp [List.getD, hj]
    rw [e1, turnI, if_pos (by simpa using h), List.set_set]
    have e2 : (l.set at'.toNat (xI (l.getD at'.toNat 0) m)).getD at'.toNat 0 = xI (l.getD at'.toNat 0) m := by simp [List.getD, hj]
    rw [e2, hd, xI_twice (u8_bd (hl _ (by simp))).1]
    simp
  · have e1 : turnI l at' m = l := by unfold turnI; rw [if_neg h]
    rw [e1, e1]
end Go.Proofs.Ythpcfijefcicpaa
/- The walk of CrcJoin: it answers true for any three byte lists. -/
namespace Go.Proofs.Ythpcfijefcicpaa
open Go.RowKit Go.Proofs.U
set_option linter.unusedSimpArgs false
set_option linter.unusedVariables false

def mix (a b c : List Int) : List Int := List.zipWith xI (List.zipWith xI a b) c
theorem mix_length (a b c : List Int) : (mix a b c).length = min (min a.length b.length) c.length := by simp [mix]
theorem mixL_get (a b c : List Int) (k : Nat) (h : k < (mix a b c).length) (h1 : k < a.length) (h2 : k < b.length) (h3 : k < c.length) : (mix a b c)[k] = xI (xI a[k] b[k]) c[k] := by
  simp [mix]

/-- the parts so far, zeros behind them. -/
def part (M : List Int) (k : Nat) : List Int := M.take k ++ List.replicate (M.length - k) 0
theorem part_length (M : List Int) (k : Nat) (h : k ≤ M.length) : (part M k).length = M.length := by simp [part]; omega
theorem part_set (M : List Int) (k : Nat) (h : k < M.length) : (part M k).set k M[k] = part M (k + 1) := by
  unfold part
  rw [List.set_append_right _ _ (by simp; omega)]
  have e1 : k - (M.take k).length = 0 := by simp; omega
  have e2 : M.length - k = (M.length - (k + 1)) + 1 := by omega
  rw [e1, e2, List.replicate_succ, List.set_cons_zero, List.take_succ_eq_append_getElem h, List.append_assoc]
  rfl
theorem part_end (M : List Int) : part M M.length = M := by simp [part]
theorem part_zero (M : List Int) : part M 0 = List.replicate M.length 0 := by simp [part]

theorem ofI_xor (a b : Int) (ha : 0 ≤ a ∧ a < 256) (hb : 0 ≤ b ∧ b < 256) : BitVec.ofInt 8 (xI a b) = BitVec.ofInt 8 a ^^^ BitVec.ofInt 8 b := by
  obtain ⟨A, rfl⟩ := Int.eq_ofNat_of_zero_le ha.1
  obtain ⟨B, rfl⟩ := Int.eq_ofNat_of_zero_le hb.1
  unfold xI
  simp only [Int.toNat_natCast, BitVec.ofInt_natCast]
  apply BitVec.eq_of_toNat_eq
  have hx : A ^^^ B < 2 ^ 8 := Nat.xor_lt_two_pow (by omega) (by omega)
  rw [BitVec.toNat_xor, BitVec.toNat_ofNat, BitVec.toNat_ofNat, BitVec.toNat_ofNat, Nat.mod_eq_of_lt hx, Nat.mod_eq_of_lt (by omega), Nat.mod_eq_of_lt (by omega)]
theorem zip_bits (a b : List Int) (ha : ∀ n ∈ a, (Lit.int .u8 n).wf = true) (hb : ∀ n ∈ b, (Lit.int .u8 n).wf = true) :
    (List.zipWith xI a b).map (BitVec.ofInt 8) = List.zipWith (· ^^^ ·) (a.map (BitVec.ofInt 8)) (b.map (BitVec.ofInt 8)) := by
  induction a generalizing b with
  | nil => simp
  | cons x a ih =>
    cases b with
    | nil => simp
    | cons y b =>
      simp only [List.zipWith_cons_cons, List.map_cons]
      rw [ofI_xor x y (u8_bd (ha x (by simp))) (u8_bd (hb y (by simp))), ih b (fun n hn => ha n (by simp [hn])) (fun n hn => hb n (by simp [hn]))]
theorem zip_wf (a b : List Int) (ha : ∀ n ∈ a, (Lit.int .u8 n).wf = true) (hb : ∀ n ∈ b, (Lit.int .u8 n).wf = true) : ∀ n ∈ List.zipWith xI a b, (Lit.int .u8 n).wf = true := by
  induction a generalizing b with
  | nil => simp
  | cons x a ih =>
    cases b with
    | nil => simp
    | cons y b =>
      intro n hn
      simp only [List.zipWith_cons_cons, List.mem_cons] at hn
      rcases hn with rfl | hn
      · have := xI_bd (u8_bd (ha x (by simp))) (u8_bd (hb y (by simp))); exact wf_byte this.1 this.2
      · exact ih b (fun n hn => ha n (by simp [hn])) (fun n hn => hb n (by simp [hn])) n hn
/-- sums of three texts of one length, mixed. -/
theorem crc_mix (a b c : List Int) (h1 : a.length = b.length) (h2 : a.length = c.length) (ha : ∀ n ∈ a, (Lit.int .u8 n).wf = true) (hb : ∀ n ∈ b, (Lit.int .u8 n).wf = true) (hc : ∀ n ∈ c, (Lit.int .u8 n).wf = true) :
    crcI (mix a b c) = bits .xor .u32 (bits .xor .u32 (crcI a) (crcI b)) (crcI c) := by
  unfold crcI
  rw [bx32 _ _ _ _ rfl rfl, bx32 _ _ _ _ rfl rfl]
  congr 2
  unfold mix
  rw [zip_bits _ _ (zip_wf a b ha hb) hc, zip_bits _ _ ha hb]
  have e : ones32 = (ones32 ^^^ ones32) ^^^ ones32 := by decide
  conv => lhs; rw [e]
  rw [crcF_xor _ _ _ _ (by simp [← h1, h2]), crcF_xor _ _ _ _ (by simp [h1])]
theorem mix_take (a b c : List Int) (n : Nat) (hn : n = min (min a.length b.length) c.length) : mix (a.take n) (b.take n) (c.take n) = mix a b c := by
  unfold mix
  rw [← List.take_zipWith, ← List.take_zipWith, List.take_of_length_le]
  simp; omega
theorem cell_of {k : IntKind} {w : World} {b off n cap : Nat} {l : List Int} (h : SlI k w (.slice (some ⟨b, off, none⟩) n cap) l) (j : Nat) (hj : j < l.length) : w.cell? ⟨b, off + j, none⟩ = some (.int k l[j]) := by
  obtain ⟨⟨a0, cap0, hv, _, _, _, hsome⟩, _⟩ := h
  cases hv
  have := hsome _ rfl j (.int k l[j]) (by simp [hj])
  rwa [Addr.plain] at this
theorem some_of {k : IntKind} {w : World} {a : Option Addr} {n cap : Nat} {l : List Int} (h : SlI k w (.slice a n cap) l) (hl : 0 < l.length) : ∃ b off, a = some ⟨b, off, none⟩ := by
  obtain ⟨⟨a0, cap0, hv, hcap, hlen, hnone, hsome⟩, _⟩ := h
  cases hv
  cases a with
  | none => have := hnone rfl; omega
  | some ad =>
    have hc0 := hsome ad rfl 0 _ (List.getElem?_eq_getElem (by simpa using hl))
    obtain ⟨b, off, sp⟩ := ad
    have hsp : sp = none := by simpa [Addr.add] using World.cell?_spot hc0
    subst hsp; exact ⟨b, off, rfl⟩
end Go.Proofs.Ythpcfijefcicpaa
/- What a seal is by its sum, and what is found by it; no condition but what each states. -/
namespace Go.Proofs.U

def cat4 (a b c d : BitVec 8) : BitVec 32 := byt a ^^^ (b.setWidth 32 <<< 16) ^^^ (c.setWidth 32 <<< 8) ^^^ d.setWidth 32
theorem st8 : ∀ b : BitVec 8, stpN 8 (b.setWidth 32 <<< 16) = byt b := by decide +kernel
theorem st16 : ∀ b : BitVec 8, stpN 8 (b.setWidth 32 <<< 8) = b.setWidth 32 <<< 16 := by decide +kernel
theorem st24 : ∀ b : BitVec 8, stpN 8 (b.setWidth 32) = b.setWidth 32 <<< 8 := by decide +kernel
theorem stpN32 (x : BitVec 32) : stpN 32 x = stpN 8 (stpN 8 (stpN 8 (stpN 8 x))) := by
  show stpN (8 + (8 + (8 + 8))) x = _
  rw [stpN_add, stpN_add, stpN_add]
theorem crc4 (s : BitVec 32) (a b c d : BitVec 8) : crcF s [a, b, c, d] = stpN 32 (s ^^^ cat4 a b c d) := by
  have e : s ^^^ cat4 a b c d = ((s ^^^ byt a) ^^^ (b.setWidth 32 <<< 16)) ^^^ (c.setWidth 32 <<< 8) ^^^ d.setWidth 32 := by
    unfold cat4; simp only [BitVec.xor_assoc]
  rw [e, stpN32]
  simp only [stpN_xor, st24, st16, st8]
  simp only [crcF, List.foldl_cons, List.foldl_nil, wb, stpN_xor]
theorem byte_hi (s : BitVec 32) (i : Nat) (h : i < 32) : (cat4 ((s >>> 24).setWidth 8) ((s >>> 16).setWidth 8) ((s >>> 8).setWidth 8) (s.setWidth 8)).getLsbD i = s.getLsbD i := by
  unfold cat4 byt
  simp only [BitVec.getLsbD_xor, BitVec.getLsbD_shiftLeft, BitVec.getLsbD_setWidth, BitVec.getLsbD_ushiftRight]
  by_cases h1 : i < 8
  · have q1 : i < 16 := by omega
    have q2 : i < 24 := by omega
    simp [h1, h, q1, q2]
  by_cases h2 : i < 16
  · have : 8 + (i - 8) = i := by omega
    have q2 : i < 24 := by omega
    have q3 : i - 8 < 8 := by omega
    have q4 : i - 8 < 32 := by omega
    simp [h1, h2, h, this, q2, q3, q4]
  by_cases h3 : i < 24
  · have : 16 + (i - 16) = i := by omega
    have q3 : i - 16 < 8 := by omega
    have q4 : i - 16 < 32 := by omega
    have q5 : ¬ i - 8 < 8 := by omega
    simp [h1, h2, h3, h, this, q3, q4, q5]
  · have : 24 + (i - 24) = i := by omega
    have q3 : i - 24 < 8 := by omega
    have q4 : i - 24 < 32 := by omega
    have q5 : ¬ i - 8 < 8 := by omega
    have q6 : ¬ i - 16 < 8 := by omega
    simp [h1, h2, h3, h, this, q3, q4, q5, q6]
theorem cat_be (s : BitVec 32) : cat4 ((s >>> 24).setWidth 8) ((s >>> 16).setWidth 8) ((s >>> 8).setWidth 8) (s.setWidth 8) = s :=
  BitVec.eq_of_getLsbD_eq fun i h => byte_hi s i h
theorem cat_bit (a b c d : BitVec 8) (i : Nat) : (cat4 a b c d).getLsbD i = (if i < 8 then d.getLsbD i else if i < 16 then c.getLsbD (i - 8) else if i < 24 then b.getLsbD (i - 16) else if i < 32 then a.getLsbD (i - 24) else false) := by
  unfold cat4 byt
  simp only [BitVec.getLsbD_xor, BitVec.getLsbD_shiftLeft, BitVec.getLsbD_setWidth]
  have hd : 8 ≤ i → d.getLsbD i = false := fun h => BitVec.getLsbD_of_ge _ _ h
  have hc : 16 ≤ i → c.getLsbD (i - 8) = false := fun h => BitVec.getLsbD_of_ge _ _ (by omega)
  have hb : 24 ≤ i → b.getLsbD (i - 16) = false := fun h => BitVec.getLsbD_of_ge _ _ (by omega)
  by_cases h1 : i < 8
  · have q1 : i < 16 := by omega
    have q2 : i < 24 := by omega
    have q3 : i < 32 := by omega
    simp [h1, q1, q2, q3]
  rw [hd (by omega)]
  by_cases h2 : i < 16
  · have q2 : i < 24 := by omega
    have q3 : i < 32 := by omega
    have q4 : i - 8 < 32 := by omega
    simp [h1, h2, q2, q3, q4]
  rw [hc (by omega)]
  by_cases h3 : i < 24
  · have q3 : i < 32 := by omega
    have q4 : i - 16 < 32 := by omega
    simp [h1, h2, h3, q3, q4]
  rw [hb (by omega)]
  by_cases h4 : i < 32
  · have q4 : i - 24 < 32 := by omega
    simp [h1, h2, h3, h4, q4]
  · simp [h1, h2, h3, h4]
theorem be_cat (a b c d : BitVec 8) : be4 (cat4 a b c d) = [a, b, c, d] := by
  have ea : ((cat4 a b c d) >>> 24).setWidth 8 = a := BitVec.eq_of_getLsbD_eq fun i h => by
    rw [BitVec.getLsbD_setWidth, BitVec.getLsbD_ushiftRight, cat_bit, if_neg (by omega), if_neg (by omega), if_neg (by omega), if_pos (by omega), show 24 + i - 24 = i by omega]; simp [h]
  have eb : ((cat4 a b c d) >>> 16).setWidth 8 = b := BitVec.eq_of_getLsbD_eq fun i h => by
    rw [BitVec.getLsbD_setWidth, BitVec.getLsbD_ushiftRight, cat_bit, if_neg (by omega), if_neg (by omega), if_pos (by omega), show 16 + i - 16 = i by omega]; simp [h]
  have ec : ((cat4 a b c d) >>> 8).setWidth 8 = c := BitVec.eq_of_getLsbD_eq fun i h => by
    rw [BitVec.getLsbD_setWidth, BitVec.getLsbD_ushiftRight, cat_bit, if_neg (by omega), if_pos (by omega), show 8 + i - 8 = i by omega]; simp [h]
  have ed : (cat4 a b c d).setWidth 8 = d := BitVec.eq_of_getLsbD_eq fun i h => by
    rw [BitVec.getLsbD_setWidth, cat_bit, if_pos h]; simp [h]
  unfold be4; rw [ea, eb, ec, ed]

/-- four bytes are a sum's just if the sum of all is nought. -/
theorem seal_iff (s : BitVec 32) (a b c d : BitVec 8) : crcF s [a, b, c, d] = 0#32 ↔ be4 s = [a, b, c, d] := by
  rw [crc4]
  constructor
  · intro h
    have h1 := stpN_inj0 32 _ h
    have h2 : s = cat4 a b c d := by
      have := congrArg (· ^^^ cat4 a b c d) h1
      simpa [BitVec.xor_assoc] using this
    rw [h2, be_cat]
  · intro h
    have h2 : s = cat4 a b c d := by
      have h3 := cat_be s
      unfold be4 at h
      simp only [List.cons.injEq, and_true] at h
      rw [h.1, h.2.1, h.2.2.1, h.2.2.2] at h3
      exact h3.symm
    rw [h2, BitVec.xor_self, stpN_zero]

theorem crcF_drift (s d : BitVec 32) (q : List (BitVec 8)) : crcF (s ^^^ d) q = crcF s q ^^^ stpN (8 * q.length) d := by
  induction q generalizing s d with
  | nil => rfl
  | cons x q ih =>
    have e : wb (s ^^^ d) x = wb s x ^^^ stpN 8 d := by
      have := wb_xor s d x 0#8
      rw [BitVec.xor_zero, wb_zero] at this; exact this
    show crcF (wb (s ^^^ d) x) q = crcF (wb s x) q ^^^ _
    rw [e, ih, ← stpN_add]
    congr 2
    simp; omega
theorem two_xor (s : BitVec 32) (c0 c1 m0 m1 : BitVec 8) : crcF s [c0 ^^^ m0, c1 ^^^ m1] = crcF s [c0, c1] ^^^ wb (wb 0#32 m0) m1 := by
  show wb (wb s (c0 ^^^ m0)) (c1 ^^^ m1) = wb (wb s c0) c1 ^^^ _
  have e : wb s (c0 ^^^ m0) = wb s c0 ^^^ wb 0#32 m0 := by
    have := wb_xor s 0#32 c0 m0
    rwa [BitVec.xor_zero] at this
  rw [e, wb_xor]
theorem byt_zero (m : BitVec 8) (h : byt m = 0#32) : m = 0#8 := by
  have := be_cat m 0#8 0#8 0#8
  unfold cat4 at this
  rw [h] at this
  have h2 := List.cons.inj this
  rw [← h2.1]; decide
theorem two_zero (m0 m1 : BitVec 8) : wb (wb 0#32 m0) m1 = 0#32 ↔ m0 = 0#8 ∧ m1 = 0#8 := by
  constructor
  · intro h
    unfold wb at h
    have h1 := stpN_inj0 8 _ h
    rw [BitVec.zero_xor, ← st8 m1, ← stpN_xor] at h1
    have h2 := stpN_inj0 8 _ h1
    have h3 : cat4 m0 m1 0#8 0#8 = 0#32 := by unfold cat4; rw [h2]; decide
    have h4 := be_cat m0 m1 0#8 0#8
    rw [h3] at h4
    have h5 : be4 0#32 = [0#8, 0#8, 0#8, 0#8] := by decide
    rw [h5] at h4
    simp only [List.cons.injEq, and_true] at h4
    exact ⟨h4.1.symm, h4.2.symm⟩
  · rintro ⟨rfl, rfl⟩; decide
/-- of two neighbours that are mixed the sum tells just if they are other ones. -/
theorem found_iff (p q : List (BitVec 8)) (c0 c1 m0 m1 : BitVec 8) (h : crcF ones32 (p ++ [c0, c1] ++ q) = 0#32) :
    crcF ones32 (p ++ [c0 ^^^ m0, c1 ^^^ m1] ++ q) = 0#32 ↔ m0 = 0#8 ∧ m1 = 0#8 := by
  rw [crcF_append, crcF_append] at h ⊢
  rw [two_xor, crcF_drift, h, BitVec.zero_xor]
  constructor
  · intro h2; exact (two_zero m0 m1).1 (stpN_inj0 _ _ h2)
  · intro h2; rw [(two_zero m0 m1).2 h2, stpN_zero]
end Go.Proofs.U
/- What Open finds, in the bytes' own terms. -/
namespace Go.Proofs.Ythpcfijefcicpaa
open Go.RowKit Go.Proofs.U
set_option linter.unusedSimpArgs false
set_option linter.unusedVariables false

def BL (l : List Int) : List (BitVec 8) := l.map (BitVec.ofInt 8)
theorem BL_append (a b : List Int) : BL (a ++ b) = BL a ++ BL b := by simp [BL]
theorem be4_BL (s : BitVec 32) : BL (be4I (s.toNat : Int)) = be4 s := by
  have h := s.isLt
  have e (x : Int) (k : Nat) (hx : x % 256 = ((s.toNat / 2 ^ k : Nat) : Int) % 256) : BitVec.ofInt 8 x = (s >>> k).setWidth 8 := by
    apply BitVec.eq_of_toNat_eq
    rw [BitVec.toNat_ofInt, BitVec.toNat_setWidth, BitVec.toNat_ushiftRight, Nat.shiftRight_eq_div_pow]
    generalize s.toNat / 2 ^ k = y at *
    omega
  have e0 : BitVec.ofInt 8 ((s.toNat : Int) % 256) = s.setWidth 8 := by
    apply BitVec.eq_of_toNat_eq
    rw [BitVec.toNat_ofInt, BitVec.toNat_setWidth]
    omega
  simp only [BL, be4I, List.map_cons, List.map_nil, be4]
  rw [e _ 24 (by omega), e _ 16 (by omega), e _ 8 (by omega), e0]
theorem BL_inj (a b : List Int) (ha : ∀ n ∈ a, (Lit.int .u8 n).wf = true) (hb : ∀ n ∈ b, (Lit.int .u8 n).wf = true) (h : BL a = BL b) : a = b := by
  have key : ∀ (l : List Int), (∀ n ∈ l, (Lit.int .u8 n).wf = true) → (BL l).map (fun u => (u.toNat : Int)) = l := by
    intro l hl
    unfold BL
    rw [List.map_map]
    conv => rhs; rw [← List.map_id l]
    apply List.map_congr_left
    intro n hn
    have := u8_bd (hl n hn)
    exact ofI8 n this.1 this.2
  rw [← key a ha, ← key b hb, h]
theorem ok_iff (l : List Int) (hw : ∀ n ∈ l, (Lit.int .u8 n).wf = true) (h4 : 4 ≤ l.length) : okI l = decide (crcF ones32 (BL l) = 0#32) := by
  have hsplit := (List.take_append_drop (l.length - 4) l).symm
  have hpw : ∀ n ∈ l.take (l.length - 4), (Lit.int .u8 n).wf = true := fun n hn => hw n (List.mem_of_mem_take hn)
  have htw : ∀ n ∈ l.drop (l.length - 4), (Lit.int .u8 n).wf = true := fun n hn => hw n (List.mem_of_mem_drop hn)
  have htl : (l.drop (l.length - 4)).length = 4 := by simp; omega
  unfold okI
  simp only [h4, decide_true, Bool.true_and]
  generalize l.take (l.length - 4) = p at *
  generalize l.drop (l.length - 4) = t at *
  subst hsplit
  have e1 : sealI p = p ++ t ↔ be4I (crcI p) = t := by unfold sealI; exact ⟨fun h => List.append_cancel_left h, fun h => by rw [h]⟩
  have e2 : be4I (crcI p) = t ↔ be4 (crcF ones32 (BL p)) = BL t := by
    rw [← be4_BL]
    constructor
    · intro h; rw [← h]; rfl
    · intro h; exact BL_inj _ _ (be4I_wf _ (crcI_bd p).1 (crcI_bd p).2) htw h
  have e3 : crcF ones32 (BL (p ++ t)) = 0#32 ↔ be4 (crcF ones32 (BL p)) = BL t := by
    rw [BL_append, crcF_append]
    have : (BL t).length = 4 := by simp [BL, htl]
    match ht : BL t, this with
    | [a, b, c, d], _ => exact seal_iff _ a b c d
  rw [decide_eq_decide, e1, e2, e3]

/-- two neighbours mixed. -/
theorem turn2 (x : List Int) (k : Nat) (m0 m1 : Int) (h : k + 1 < x.length) :
    turnI (turnI x (k : Int) m0) ((k : Int) + 1) m1 = x.take k ++ [xI (x.getD k 0) m0, xI (x.getD (k + 1) 0) m1] ++ x.drop (k + 2) := by
  have e1 : turnI x (k : Int) m0 = x.set k (xI (x.getD k 0) m0) := by unfold turnI; rw [if_pos (by omega), Int.toNat_natCast]
  have e2 : turnI (x.set k (xI (x.getD k 0) m0)) ((k : Int) + 1) m1 = (x.set k (xI (x.getD k 0) m0)).set (k + 1) (xI (x.getD (k + 1) 0) m1) := by
    unfold turnI
    rw [if_pos (by simp; omega), show ((k : Int) + 1).toNat = k + 1 by omega]
    congr 2
    simp [List.getD, List.getElem?_set]
  rw [e1, e2]
  apply List.ext_getElem
  · simp; omega
  · intro i h1 h2
    simp only [List.getElem_set, List.append_assoc, List.getElem_append, List.length_take, List.getElem_take, List.length_cons, List.length_nil, List.getElem_drop, List.cons_append, List.nil_append, List.getElem_cons]
    simp at h1
    have hm : min k x.length = k := by omega
    simp only [hm]
    by_cases c1 : k + 1 = i
    · subst c1
      simp
      intro hh; omega
    · by_cases c2 : k = i
      · subst c2; simp
      · simp only [c1, c2, if_false]
        by_cases c3 : i < k
        · simp [c3]
        · simp only [c3, dite_false]
          have c4 : ¬ i - k = 0 := by omega
          have c5 : ¬ i - k - 1 = 0 := by omega
          simp only [c4, c5, dite_false]
          congr 1; omega
theorem split2 (x : List Int) (k : Nat) (h : k + 1 < x.length) : x = x.take k ++ [x.getD k 0, x.getD (k + 1) 0] ++ x.drop (k + 2) := by
  have h0 : k < x.length := by omega
  have a0 : x.getD k 0 = x[k] := by simp [List.getD, h0]
  have a1 : x.getD (k + 1) 0 = x[k + 1] := by simp [List.getD, h]
  rw [a0, a1]
  conv => lhs; rw [← List.take_append_drop k x, List.drop_eq_getElem_cons h0, List.drop_eq_getElem_cons h]
  simp

theorem finds (l : List Int) (hw : ∀ n ∈ l, (Lit.int .u8 n).wf = true) (k : Nat) (hk : k < l.length + 3) (m0 m1 : Int) (h0 : 0 ≤ m0 ∧ m0 < 256) (h1 : 0 ≤ m1 ∧ m1 < 256) :
    okI (turnI (turnI (sealI l) (k : Int) m0) ((k : Int) + 1) m1) = decide (m0 = 0 ∧ m1 = 0) := by
  have hX := sealI_length l
  have hXw := sealI_wf l hw
  have hok := ok_seal l
  generalize sealI l = x at *
  have hlt : k + 1 < x.length := by omega
  rw [ok_iff _ (turnI_wf _ _ _ (turnI_wf _ _ _ hXw h0) h1) (by rw [turnI_length, turnI_length]; omega), turn2 x k m0 m1 hlt, decide_eq_decide]
  rw [ok_iff _ hXw (by omega)] at hok
  have hz : crcF ones32 (BL x) = 0#32 := by simpa using hok
  have hs := split2 x k hlt
  rw [hs, BL_append, BL_append] at hz
  have g0 : x.getD k 0 = x[k] := by simp [List.getD, show k < x.length by omega]
  have g1 : x.getD (k + 1) 0 = x[k + 1] := by simp [List.getD, hlt]
  have c0 := u8_bd (hXw x[k] (by simp))
  have c1 := u8_bd (hXw x[k + 1] (by simp))
  rw [g0, g1] at hz ⊢
  rw [BL_append, BL_append]
  simp only [BL, List.map_cons, List.map_nil] at hz ⊢
  rw [ofI_xor _ _ c0 h0, ofI_xor _ _ c1 h1]
  rw [found_iff _ _ _ _ _ _ hz]
  have key (m : Int) (hm : 0 ≤ m ∧ m < 256) : BitVec.ofInt 8 m = 0#8 ↔ m = 0 := by
    constructor
    · intro h
      have := ofI8 m hm.1 hm.2
      rw [h] at this
      simpa using this.symm
    · rintro rfl; rfl
  rw [key m0 h0, key m1 h1]
end Go.Proofs.Ythpcfijefcicpaa
/- A root of which one byte is turned is none, plain. -/
namespace Go.Proofs.Ythpcfijefcicpaa
open Go.RowKit Go.Proofs.U
set_option linter.unusedSimpArgs false
set_option linter.unusedVariables false
theorem BL_zeros (n : Nat) : BL (List.replicate n 0) = List.replicate n 0#8 := by unfold BL; rw [List.map_replicate]; rfl
theorem crc_st {c : List Int} (hc : c.length ≤ 186) (hb : Byt c) : crcF ones32 (BL (st192 c)) = 0#32 := by
  rw [st192_eq c hc, BL_append, crcF_append, BL_zeros]
  have h1 : crcF ones32 (BL (strm c)) = 0#32 := by
    have h2 := ok_iff (strm c) (strm_byt hb) (by rw [strm_len]; omega)
    have h3 : okI (strm c) = true := ok_seal _
    rw [h3] at h2
    simpa using h2.symm
  rw [h1, crcF_zeros, stpN_zero]
theorem ofI_inj {x y : Int} (hx : 0 ≤ x ∧ x < 256) (hy : 0 ≤ y ∧ y < 256) (h : BitVec.ofInt 8 x = BitVec.ofInt 8 y) : x = y := by
  have := congrArg (fun b : BitVec 8 => (b.toNat : Int)) h
  simp only [ofI8 x hx.1 hx.2, ofI8 y hy.1 hy.2] at this
  exact this
/-- One byte turned: the sum tells. -/
theorem crc_one (X : List Int) (j : Nat) (hj : j < X.length) (y : Int) (hX : Byt X) (hy : 0 ≤ y ∧ y < 256) (h1 : crcF ones32 (BL X) = 0#32) (h2 : crcF ones32 (BL (X.set j y)) = 0#32) : X.getD j 0 = y := by
  have hx : X.getD j 0 = X[j] := by simp [List.getD, hj]
  have e1 : X = X.take j ++ (X[j] :: X.drop (j + 1)) := by
    rw [← List.drop_eq_getElem_cons hj, List.take_append_drop]
  have e2 : X.set j y = X.take j ++ (y :: X.drop (j + 1)) := by
    conv => lhs; rw [e1]
    rw [List.set_append_right _ _ (by rw [List.length_take]; omega), show j - (X.take j).length = 0 by simp; omega, List.set_cons_zero]
  have b1 : BL X = BL (X.take j) ++ (BitVec.ofInt 8 X[j] :: BL (X.drop (j + 1))) := by
    conv => lhs; rw [e1]
    rw [BL_append]; rfl
  rw [e2, BL_append] at h2
  rw [b1] at h1
  rw [crcF_append] at h1 h2
  generalize crcF ones32 (BL (X.take j)) = s at h1 h2
  have h1 : crcF (wb s (BitVec.ofInt 8 X[j])) (BL (X.drop (j + 1))) = 0#32 := h1
  have h2 : crcF (wb s (BitVec.ofInt 8 y)) (BL (X.drop (j + 1))) = 0#32 := h2
  have e3 : wb s (BitVec.ofInt 8 y) = wb s (BitVec.ofInt 8 X[j]) ^^^ wb 0#32 (BitVec.ofInt 8 X[j] ^^^ BitVec.ofInt 8 y) := by
    rw [← wb_xor, BitVec.xor_zero, ← BitVec.xor_assoc, BitVec.xor_self, BitVec.zero_xor]
  rw [e3, crcF_drift, h1, BitVec.zero_xor] at h2
  have h3 := stpN_inj0 _ _ h2
  unfold wb at h3
  have h4 := stpN_inj0 _ _ h3
  rw [BitVec.zero_xor] at h4
  have h5 := byt_zero _ h4
  have h6 : BitVec.ofInt 8 X[j] = BitVec.ofInt 8 y := by
    have := congrArg (· ^^^ BitVec.ofInt 8 y) h5
    simpa [BitVec.xor_assoc] using this
  rw [hx]
  exact ofI_inj (u8_bd (hX _ (by simp))) hy h6
/-- A page of which one byte is mixed with another one. -/
def turn1 (p : List Int) (i : Nat) (m : Int) : List Int := p.set i (xI (p.getD i 0) m)
theorem turn1_len (p : List Int) (i : Nat) (m : Int) : (turn1 p i m).length = p.length := by simp [turn1]
theorem turn1_at (p : List Int) (i : Nat) (m : Int) (j : Nat) (hi : i < p.length) : (turn1 p i m).getD j 0 = if j = i then xI (p.getD i 0) m else p.getD j 0 := by
  unfold turn1
  simp only [List.getD]
  rw [List.getElem?_set]
  by_cases h : i = j
  · subst h; simp [hi]
  · rw [if_neg h, if_neg (fun e => h e.symm)]
theorem turn1_byt {p : List Int} (h : Byt p) (i : Nat) {m : Int} (hm : 0 ≤ m ∧ m < 256) : Byt (turn1 p i m) := by
  unfold turn1
  intro n hn
  rcases List.mem_or_eq_of_mem_set hn with hn | rfl
  · exact h n hn
  · have := xI_bd (h.at i) hm
    exact wf_byte this.1 this.2
theorem xI_ne {a m : Int} (ha : 0 ≤ a ∧ a < 256) (hm : 0 < m ∧ m < 256) : xI a m ≠ a := by
  intro h
  have h1 := xI_twice (a := a) (m := m) ha.1
  rw [h] at h1
  unfold xI at h
  have h2 : (a.toNat ^^^ m.toNat) = a.toNat := by omega
  have h3 : m.toNat = 0 := by
    have := congrArg (a.toNat ^^^ ·) h2
    simpa [← Nat.xor_assoc] using this
  omega
theorem spoilt (g : Int) (c : List Int) (hc : c.length ≤ 186) (hb : Byt c) (i : Nat) (hi : i < 256) {m : Int} (hm : 0 < m ∧ m < 256) : (rootOf (turn1 (rootP g c) i m)).1 = 0 := by
  have bR := rootP_byt g hb
  have lR := rootP_len g c
  have hne := xI_ne (bR.at i) hm
  have bT := turn1_byt bR i (m := m) (by omega)
  have hat := fun j => turn1_at (rootP g c) i m j (by rw [lR]; exact hi)
  apply Decidable.byContradiction
  intro h0
  have hS := rootOf_some h0
  have hBd := rootOf_bd bT
  have hcl : (rootOf (turn1 (rootP g c) i m)).2.length ≤ 186 := by
    unfold rootOf
    split
    · simp
    · rename_i h1
      split
      · rw [contOf_len bT (by omega)]; omega
      · simp
  have hcb := rootOf_byt bT
  generalize (rootOf (turn1 (rootP g c) i m)).1 = g' at *
  generalize (rootOf (turn1 (rootP g c) i m)).2 = c' at *
  by_cases h8 : i % 32 < 8
  · -- the same place of another sector
    obtain ⟨j, hj, hji, hj8⟩ : ∃ j, j < 256 ∧ j ≠ i ∧ j % 32 = i % 32 := by
      by_cases h : i < 32
      · exact ⟨i + 32, by omega, by omega, by omega⟩
      · exact ⟨i - 32, by omega, by omega, by omega⟩
    have e1 := hat i
    have e2 := hat j
    rw [if_pos rfl] at e1
    rw [if_neg hji] at e2
    rw [hS, rootP_get _ _ _ hi, if_pos h8] at e1
    rw [hS, rootP_get _ _ _ hj, hj8, if_pos h8, rootP_get _ _ _ hj, hj8, if_pos h8] at e2
    rw [e2] at e1
    have e3 := rootP_get g c i hi
    rw [if_pos h8] at e3
    rw [← e3] at e1
    exact hne e1.symm
  · have hk : i / 32 * 24 + (i % 32 - 8) < 192 := by omega
    have es : strmOf (turn1 (rootP g c) i m) = (strmOf (rootP g c)).set (i / 32 * 24 + (i % 32 - 8)) (xI ((rootP g c).getD i 0) m) := by
      apply ext_getD
      · rw [List.length_set, strmOf_len, strmOf_len]
      · intro j hj
        rw [strmOf_len] at hj
        have e1 : (strmOf (turn1 (rootP g c) i m)).getD j 0 = (turn1 (rootP g c) i m).getD (j / 24 * 32 + 8 + j % 24) 0 := by rw [strmOf, getD_map _ _ _ hj]
        have e2 : (strmOf (rootP g c)).getD j 0 = (rootP g c).getD (j / 24 * 32 + 8 + j % 24) 0 := by rw [strmOf, getD_map _ _ _ hj]
        rw [e1, hat]
        simp only [List.getD, List.getElem?_set]
        by_cases h : i / 32 * 24 + (i % 32 - 8) = j
        · rw [if_pos (by omega), if_pos h, if_pos (by rw [strmOf_len]; exact hk)]
          rfl
        · rw [if_neg (by omega), if_neg h]
          have := e2
          simp only [List.getD] at this
          exact this.symm
    have e4 : strmOf (turn1 (rootP g c) i m) = st192 c' := by rw [hS, strmOf_root]
    rw [strmOf_root] at es
    have z1 := crc_st hc hb
    have z2 := crc_st hcl hcb
    rw [← e4, es] at z2
    have xb := xI_bd (bR.at i) (b := m) (by omega)
    have := crc_one (st192 c) _ (by rw [st192_len]; exact hk) _ (st192_byt hb) xb z1 z2
    have e5 := rootP_get g c i hi
    rw [if_neg h8] at e5
    rw [← e5] at this
    exact hne this.symm
/-- Of a turned root's sectors one at least has the generation still. -/
theorem turn_gen (g : Int) (hg : 0 ≤ g ∧ g < 18446744073709551616) (c : List Int) (i : Nat) (hi : i < 256) (m : Int) : ∃ s, s < 8 ∧ genAt (turn1 (rootP g c) i m) s = g := by
  obtain ⟨s, hs, hsi⟩ : ∃ s, s < 8 ∧ s ≠ i / 32 := by
    by_cases h : i / 32 = 0
    · exact ⟨1, by omega, by omega⟩
    · exact ⟨0, by omega, by omega⟩
  refine ⟨s, hs, ?_⟩
  have hR := rootP_len g c
  have : ((turn1 (rootP g c) i m).drop (s * 32)).take 8 = ((rootP g c).drop (s * 32)).take 8 := by
    apply ext_getD
    · simp only [List.length_take, List.length_drop, turn1_len]
    · intro j hj
      have hj8 : j < 8 := by rw [List.length_take] at hj; omega
      rw [drop_take_get _ _ _ _ hj8, drop_take_get _ _ _ _ hj8, turn1_at _ _ _ _ (by rw [hR]; exact hi), if_neg (by omega)]
  unfold genAt
  rw [this]
  exact genAt_root g hg c s hs

/-- The disk behind both Writes. -/
def X2S (a b : List Int) : DSt := (rWrite (rWrite (newD 2) a).1 b).1
theorem two_first (a : List Int) (ha : a.length ≤ 186) (ba : Byt a) : (rWrite (newD 2) a).2 = (1, 0) ∧ Two (rWrite (newD 2) a).1 zeroP (rootP 1 a) ∧ (rWrite (newD 2) a).1.down = false ∧ (rWrite (newD 2) a).1.left = -1 := by
  have h := two_new
  have hG : nextG (newD 2) = 1 := by have := h.nxG.2.2.2.1 (by rw [new_newest]); rw [new_top] at this; exact this
  have hw := h.goes (by rw [new_top]; decide) rfl (by decide) a ha
  rw [hG] at hw
  have e : ¬ ((newD 2).left = 1) := by decide
  rw [if_neg e] at hw
  have hT := putS_two h 1 (rootP_len 1 a) (rootP_byt 1 ba) (rWrite (newD 2) a).1 (by rw [hw]) (by rw [hw]; rfl) (by rw [hw])
  exact ⟨by rw [hw], hT, by rw [hw]; rfl, by rw [hw]; rfl⟩
theorem top_one (a : List Int) : top zeroP (rootP 1 a) = 1 := by
  have hz : ∀ s, s < 8 → genAt zeroP s ≤ 1 := by decide +kernel
  apply Int.le_antisymm
  · exact top_up (by decide) hz (fun s hs => by rw [genAt_root 1 (by decide) a s hs]; decide)
  · have := top_q zeroP (rootP 1 a) 0 (by decide)
    rwa [genAt_root 1 (by decide) a 0 (by decide)] at this
theorem newest_one (a : List Int) (ha : a.length ≤ 186) : newest zeroP (rootP 1 a) = (1, a) := by
  have h1 : rootOf zeroP = (0, []) := by kernel_rfl
  unfold newest
  rw [h1, rootOf_root 1 (by decide) a ha]
  rfl
theorem two_second (a b : List Int) (ha : a.length ≤ 186) (ba : Byt a) (hb : b.length ≤ 186) (bb : Byt b) : (rWrite (rWrite (newD 2) a).1 b).2 = (2, 0) ∧ Two (X2S a b) (rootP 2 b) (rootP 1 a) ∧ (X2S a b).down = false ∧ (X2S a b).left = -1 := by
  obtain ⟨_, h, hd, hl⟩ := two_first a ha ba
  unfold X2S
  generalize (rWrite (newD 2) a).1 = X at *
  have hG : nextG X = 2 := by
    have := h.nxG.2.2.2.2
    rw [top_one, newest_one a ha] at this
    exact this (by show (1 + 1 : Int) % 2 ≠ 1 % 2; decide)
  have hw := h.goes (by rw [top_one]; decide) hd (by rw [hl]; decide) b hb
  have e : ¬ (X.left = 1) := by rw [hl]; decide
  rw [hG, if_neg e] at hw
  have hT := putS_two h 2 (rootP_len 2 b) (rootP_byt 2 bb) (rWrite X b).1 (by rw [hw]) (by rw [hw]; exact h.pend) (by rw [hw])
  exact ⟨by rw [hw], hT, by rw [hw]; exact hd, by rw [hw]; simp [hl]⟩
end Go.Proofs.Ythpcfijefcicpaa
/- Counts as pages, plain: what a page of a generation and counts is, and what a page tells; one byte turned; how many counts aren't nought. -/
namespace Go.Proofs.Ythpcfijefcicpaa
open Go.RowKit Go.Proofs.U
set_option linter.unusedSimpArgs false
set_option linter.unusedVariables false
/-- The page of a generation and counts. -/
def tlyP (g : Int) (c : List Int) : List Int := sealI (leB 8 g ++ c) ++ zerB 4
theorem tlyP_len (g : Int) {c : List Int} (h : c.length = 240) : (tlyP g c).length = 256 := by
  simp only [tlyP, List.length_append, sealI_length, leB_length, zerB_len, h]
theorem tlyP_byt (g : Int) {c : List Int} (h : Byt c) : Byt (tlyP g c) := (show Byt (sealI _) from sealI_wf _ ((byt_le 8 g).app h)).app (zerB_byt 4)
/-- What the program lays into a page of noughts. -/
theorem tlyP_put (g : Int) {c : List Int} (h : c.length = 240) : putI (zerB 256) 0 ((sealI (leB 8 g ++ c)).take 256) = tlyP g c := by
  have hl : (sealI (leB 8 g ++ c)).length = 252 := by simp only [sealI_length, List.length_append, leB_length, h]
  rw [List.take_of_length_le (by omega)]
  unfold putI tlyP
  rw [List.take_zero, List.nil_append, Nat.zero_add, hl]
  congr 1
/-- The counts that a page seems to have. -/
def cntOf (p : List Int) : List Int := (p.drop 8).take 240
theorem cntOf_len {p : List Int} (h : p.length = 256) : (cntOf p).length = 240 := by simp [cntOf, h]
theorem cntOf_byt {p : List Int} (h : Byt p) : Byt (cntOf p) := (h.drop 8).take 240
theorem tlyP_split (g : Int) (c : List Int) : tlyP g c = leB 8 g ++ (c ++ (be4I (crcI (leB 8 g ++ c)) ++ zerB 4)) := by
  simp only [tlyP, sealI, List.append_assoc]
theorem cntOf_tly (g : Int) {c : List Int} (h : c.length = 240) : cntOf (tlyP g c) = c := by
  unfold cntOf
  rw [tlyP_split, List.drop_left' (leB_length 8 g), List.take_left' h]
theorem gen_tly (g : Int) (hg : 0 ≤ g ∧ g < 18446744073709551616) (c : List Int) : leNum ((tlyP g c).take 8) = g := by
  rw [tlyP_split, List.take_left' (leB_length 8 g)]
  exact leNum_leB 8 g hg.1 hg.2
theorem tly_inj {g g' : Int} (hg : 0 ≤ g ∧ g < 18446744073709551616) (hg' : 0 ≤ g' ∧ g' < 18446744073709551616) {c c' : List Int} (hc : c.length = 240) (hc' : c'.length = 240) (h : tlyP g c = tlyP g' c') : g = g' ∧ c = c' := by
  constructor
  · rw [← gen_tly g hg c, h, gen_tly g' hg' c']
  · rw [← cntOf_tly g hc, h, cntOf_tly g' hc']
/-- What a page tells of a generation. -/
def opT (p : List Int) (g : Int) : List Int × Int := if p == tlyP g (cntOf p) then (cntOf p, 0) else (zerB 240, 61)
theorem opT_own (g : Int) {c : List Int} (h : c.length = 240) : opT (tlyP g c) g = (c, 0) := by
  unfold opT
  rw [cntOf_tly g h, beq_self_eq_true]; rfl
theorem opT_other {g g' : Int} (hg : 0 ≤ g ∧ g < 18446744073709551616) (hg' : 0 ≤ g' ∧ g' < 18446744073709551616) (hne : g ≠ g') {c : List Int} (h : c.length = 240) : opT (tlyP g c) g' = (zerB 240, 61) := by
  unfold opT
  rw [cntOf_tly g h]
  have : (tlyP g c == tlyP g' c) = false := by
    rw [beq_eq_false_iff_ne]
    intro e
    exact hne (tly_inj hg hg' h h e).1
  rw [this]; rfl
theorem opT_len {p : List Int} (h : p.length = 256) (g : Int) : (opT p g).1.length = 240 := by
  unfold opT
  split
  · exact cntOf_len h
  · exact zerB_len 240
theorem opT_byt {p : List Int} (h : Byt p) (g : Int) : Byt (opT p g).1 := by
  unfold opT
  split
  · exact cntOf_byt h
  · exact zerB_byt 240
theorem crc_tly (g : Int) {c : List Int} (hb : Byt c) : crcF ones32 (BL (tlyP g c)) = 0#32 := by
  unfold tlyP
  rw [BL_append, crcF_append, zerB, BL_zeros]
  have h1 : crcF ones32 (BL (sealI (leB 8 g ++ c))) = 0#32 := by
    have h2 := ok_iff (sealI (leB 8 g ++ c)) (sealI_wf _ ((byt_le 8 g).app hb)) (by rw [sealI_length]; omega)
    rw [ok_seal] at h2
    simpa using h2.symm
  rw [h1, crcF_zeros, stpN_zero]
theorem opT_turn (g : Int) {c : List Int} (hc : c.length = 240) (hb : Byt c) (i : Nat) (hi : i < 256) {m : Int} (hm : 0 < m ∧ m < 256) : opT (turn1 (tlyP g c) i m) g = (zerB 240, 61) := by
  have bR := tlyP_byt g hb
  have bT := turn1_byt bR i (m := m) (by omega)
  unfold opT
  have : (turn1 (tlyP g c) i m == tlyP g (cntOf (turn1 (tlyP g c) i m))) = false := by
    rw [beq_eq_false_iff_ne]
    intro e
    have z1 := crc_tly g hb
    have z2 := crc_tly g (cntOf_byt bT)
    rw [← e] at z2
    exact xI_ne (bR.at i) hm (crc_one (tlyP g c) i (by rw [tlyP_len g hc]; exact hi) _ bR (xI_bd (bR.at i) (by omega)) z1 z2).symm
  rw [this]; rfl
theorem xI_zero {x : Int} (h : 0 ≤ x) : xI x 0 = x := by unfold xI; simp; omega
theorem turn1_none {p : List Int} (hp : Byt p) (i : Nat) (hi : i < p.length) : turn1 p i 0 = p := by
  unfold turn1
  rw [xI_zero (hp.at i).1]
  apply List.ext_getElem
  · simp
  · intro j h1 h2
    rw [List.getElem_set]
    split
    · rename_i h; subst h; simp [List.getD, hi]
    · rfl

/-- How many of some numbers aren't nought. -/
def usedN (c : List Int) : Nat := (c.filter fun x => !(x == 0)).length
theorem usedN_le (c : List Int) : usedN c ≤ c.length := List.length_filter_le _ _
theorem usedN_succ (c : List Int) (k : Nat) (h : k < c.length) : usedN (c.take (k + 1)) = usedN (c.take k) + if c.getD k 0 = 0 then 0 else 1 := by
  have e : c.getD k 0 = c[k] := by simp [List.getD, h]
  rw [e, List.take_succ_eq_append_getElem h]
  unfold usedN
  rw [List.filter_append, List.length_append]
  congr 1
  by_cases h0 : c[k] = 0
  · simp [h0]
  · simp [h0]
theorem usedN_none (c : List Int) : (usedN c = 0) ↔ c = zerB c.length := by
  unfold usedN zerB
  rw [List.length_eq_zero_iff, List.filter_eq_nil_iff, List.eq_replicate_iff]
  simp
theorem mod2 (g : Int) (h : 0 ≤ g) : g.tmod 2 = g % 2 := Int.tmod_eq_emod_of_nonneg h
end Go.Proofs.Ythpcfijefcicpaa
/- Area and Used of package tally; the document's Area. -/
namespace Go.Proofs.Ythpcfijefcicpaa
open Go.RowKit Go.Proofs.U
set_option linter.unusedSimpArgs false
set_option linter.unusedVariables false
def G64 (g : Int) : Prop := 0 ≤ g ∧ g < 18446744073709551616
end Go.Proofs.Ythpcfijefcicpaa
/- Page of package tally. (Written by t4_gen.py.) -/
namespace Go.Proofs.Ythpcfijefcicpaa
open Go.RowKit Go.Proofs.U
set_option linter.unusedSimpArgs false
set_option linter.unusedVariables false
/-- While the page is laid: both rows, the seal, the copy. -/
def JTP (w0 : World) (g : Nat) (ls : List (List Int)) (S R : List Int) : List Value → World → Prop
  | [], W => W = w0
  | [v], W => SlB W v ls ∧ Fr noB w0 W
  | [_, u], W => SlI .u8 W u S ∧ Fr noB w0 W
  | [_, _, _], W => ∃ W1, Fr noB w0 W1 ∧ BxV W g 23 (pgv R) ∧ Fr (onB1 g) W1 W
  | _, _ => False

end Go.Proofs.Ythpcfijefcicpaa
/- Contract of the document's Bytes. -/
namespace Go.Proofs.Ythpcfijefcicpaa
open Go.RowKit Go.Proofs.U
end Go.Proofs.Ythpcfijefcicpaa
/- Contract of the document's Fields at pairs of one width. -/
namespace Go.Proofs.Ythpcfijefcicpaa
open Go.RowKit Go.Proofs.U
set_option linter.unusedSimpArgs false
set_option linter.unusedVariables false
/-- A number, and ahead of it its width. -/
abbrev pW (W : Nat) (x : Int) : List Value := [.int .u64 (W : Int), .int .u64 x]
theorem pW_one (W : Nat) (x : Int) : ∀ u ∈ pW W x, u.oneCell' = true := by intro u hu; simp at hu; rcases hu with rfl | rfl <;> rfl
theorem pW_le (W : Nat) (x : Int) : 0 + (pW W x).length ≤ ([.int .u64 0, .int .u64 0] : List Value).length := by simp
theorem pW_eq (W : Nat) (x : Int) : (pW W x).length = ([.int .u64 0, .int .u64 0] : List Value).length := rfl
end Go.Proofs.Ythpcfijefcicpaa
/- Arrays of 32 bools in memory: laws of the walk; no condition. -/
namespace Go.Proofs.Ythpcfijefcicpaa
open Go.RowKit Go.Proofs.U
set_option linter.unusedSimpArgs false
set_option linter.unusedVariables false

def bv (bs : List Bool) : Array Value := (bs.map Value.bool).toArray
/-- block g holds the bools bs. -/
def Arr (w : World) (g : Nat) (bs : List Bool) : Prop := ∃ t, w.heap[g]? = some (.cells (bv bs) t (0, 0))
def onG (g : Nat) : Nat → Prop := fun k => k = g

theorem bv_size (bs : List Bool) : (bv bs).size = bs.length := by simp [bv]
theorem Arr.fr {S : Nat → Prop} {w w' : World} {g : Nat} {bs : List Bool} (h : Arr w g bs) (hf : Fr S w w') (hs : ¬ S g) : Arr w' g bs := by
  obtain ⟨t, ht⟩ := h
  exact ⟨t, (hf.block g (Array.getElem?_eq_some_iff.1 ht).1 hs).trans ht⟩
theorem Arr.lt {w : World} {g : Nat} {bs : List Bool} (h : Arr w g bs) : g < w.heap.size := by obtain ⟨t, ht⟩ := h; exact (Array.getElem?_eq_some_iff.1 ht).1
theorem Arr.cell {w : World} {g : Nat} {bs : List Bool} (h : Arr w g bs) (i : Nat) (hi : i < bs.length) : w.cell? ⟨g, i, none⟩ = some (.bool (bs.getD i false)) ∧ w.frozen? ⟨g, i, none⟩ = false := by
  obtain ⟨t, ht⟩ := h
  have hc : (bv bs)[i]? = some (.bool (bs.getD i false)) := by simp [bv, List.getD, hi]
  constructor
  · unfold World.cell?; rw [ht]; exact hc
  · simp [World.frozen?, ht]
theorem Arr.set {w : World} {g : Nat} {bs : List Bool} (h : Arr w g bs) (i : Nat) (b : Bool) : Arr (w.setCell ⟨g, i, none⟩ (.bool b)) g (bs.set i b) := by
  obtain ⟨t, ht⟩ := h
  refine ⟨t, ?_⟩
  rw [heap_setCell_same w g i (bv bs) t (.bool b) ht]
  congr 2
  apply Array.ext'
  simp [bv, List.map_set]
theorem Fr.setG {S : Nat → Prop} {a w : World} (h : Fr S a w) (g i : Nat) (v : Value) (hg : g < a.heap.size → S g) : Fr S a (w.setCell ⟨g, i, none⟩ v) := h.setCell _ _ hg
theorem setCells_fr (w : World) (g : Nat) (vs : List Value) : ∀ o, Fr (onG g) w (w.setCells g o vs) := by
  induction vs generalizing w with
  | nil => intro o; exact Fr.refl _ _
  | cons v vs ih =>
    intro o
    exact ((Fr.refl (onG g) w).setCell ⟨g, o, none⟩ v (fun _ => rfl)).trans (ih (w.setCell ⟨g, o, none⟩ v) (o + 1))
theorem setCells_heap (g : Nat) (t : TypeId) (vs : List Value) : ∀ (o : Nat) (w : World) (C : Array Value), w.heap[g]? = some (.cells C t (0, 0)) → o + vs.length = C.size →
    (w.setCells g o vs).heap[g]? = some (.cells ((C.toList.take o) ++ vs).toArray t (0, 0)) := by
  induction vs with
  | nil => intro o w C h hs; rw [World.setCells, h]; simp at hs; rw [List.append_nil, List.take_of_length_le (by simp; omega)]
  | cons v vs ih =>
    intro o w C h hs
    simp at hs
    rw [World.setCells, ih (o + 1) _ (C.setIfInBounds o v) (heap_setCell_same w g o C t v h) (by simp; omega)]
    congr 3
    rw [Array.toList_setIfInBounds, List.take_succ_eq_append_getElem (by simp; omega)]
    simp
    rw [List.take_set_of_le (by omega)]

section
variable {w : World} {ops : Array Oper} {rest : List Oper} {o : Oper} {a : Act} {Q : Exit → Act → World → Prop}

theorem info39 : (Try.prog.info? 81).map (·.size) = some 32 := by kernel_rfl
theorem built39 : Try.prog.built 81 [] = some (bv (List.replicate 32 false)) := by kernel_rfl
theorem zero39 : (Try.prog.info? 81).map (·.zero) = some (some (.agg (bv (List.replicate 32 false)))) := by kernel_rfl

theorem wpList_build32 (hgd : Region.wanted o (yielded ops a.tmps) = true) (ho : o.op = .build 81 #[])
    (h : ∀ bs, Hid (bs = List.replicate 32 false) → wpList Try.prog ops Q rest (a.put o.dst (.agg (bv bs))) w) : wpList Try.prog ops Q (o :: rest) a w := by
  refine wpList_wanted hgd fun K hK => ?_
  have hrun := run_build (P := Try.prog) w 81 #[] _ built39
  unfold Oper.wp
  simp [execOp, ho, hrun, Result.andThen]
  exact hK _ _ (h _ rfl)

theorem wpList_load32 (hgd : o.guard = none) (x : Operand) (ho : o.op = .load 81 x) (g : Nat) (hx : a.eval x = .pointer (some ⟨g, 0, none⟩)) (bs : List Bool) (hA : Arr w g bs) (hl : bs.length = 32)
    (h : wpList Try.prog ops Q rest (a.put o.dst (.agg (bv bs))) w) : wpList Try.prog ops Q (o :: rest) a w := by
  refine wpList_load_mid hgd 81 x ho g 0 hx (bs.map Value.bool) _ ?_ Try.underlying81 rfl (by rw [info39]; simp [hl]) h
  intro j v hj
  rw [Nat.zero_add]
  have hjl : j < bs.length := by have := (List.getElem?_eq_some_iff.1 hj).1; simpa using this
  rw [(hA.cell j hjl).1]
  simp [hjl] at hj
  simp [List.getD, hjl, hj]

theorem wpList_store32 (hgd : o.guard = none) (x y : Operand) (ho : o.op = .store 81 x y) (g : Nat) (hx : a.eval x = .pointer (some ⟨g, 0, none⟩)) (bs cs : List Bool) (hy : a.eval y = .agg (bv cs)) (hA : Arr w g bs) (hl : bs.length = 32) (hc : cs.length = 32)
    (h : ∀ w', Arr w' g cs → Fr (onG g) w w' → w'.heap.size = w.heap.size → wpList Try.prog ops Q rest (a.put o.dst undef) w') : wpList Try.prog ops Q (o :: rest) a w := by
  refine wpList_store_mid hgd 81 x y ho g 0 (bv cs) hx hy ?_ (by rw [info39, bv_size, hc]) ?_ (h _ ?_ (setCells_fr w g _ 0) ?_)
  · intro j hj
    rw [bv_size] at hj
    have := hA.cell j (by omega)
    rw [Nat.zero_add, this.1]
    exact ⟨rfl, this.2⟩
  · unfold bv
    refine all_oneCell_toArray ?_
    intro v hv
    simp at hv
    rcases hv with ⟨_, rfl⟩ | ⟨_, rfl⟩ <;> rfl
  · obtain ⟨t, ht⟩ := hA
    refine ⟨t, ?_⟩
    rw [setCells_heap g t _ 0 w _ ht (by simp [bv, hl, hc])]
    simp [bv]
  · have : ∀ (vs : List Value) (o : Nat) (w : World), (w.setCells g o vs).heap.size = w.heap.size := by
      intro vs
      induction vs with
      | nil => intro o w; rfl
      | cons v vs ih => intro o w; rw [World.setCells, ih]; simp [World.setCell]
    exact this _ _ _

theorem wpList_index32 (hgd : o.guard = none) (x y : Operand) (ho : o.op = .index 81 x y) (bs : List Bool) (hx : a.eval x = .agg (bv bs)) (hl : bs.length = 32) (i : Nat) (hy : a.eval y = .int .i64 (i : Int)) (hi : i < 32)
    (h : wpList Try.prog ops Q rest (a.put o.dst (.bool (bs.getD i false))) w) : wpList Try.prog ops Q (o :: rest) a w := by
  refine wpList_plain hgd fun K hK => ?_
  have hc : (bv bs)[i]? = some (.bool (bs.getD i false)) := by simp [bv, List.getD, hl, hi]
  have hrun : (Instr.index 81 (.agg (bv bs)) (.int .i64 (i : Int))).run Try.prog w = .ok (.bool (bs.getD i false)) w := by
    have a4 := Try.isAgg4
    have z4 := Try.sizeOf4
    have h2 : (0 : Int) ≤ (i : Int) ∧ (i : Int) < (32 : Nat) := by omega
    simp [Instr.index, asIntOf, run_underlying Try.underlying81, h2, z4, part, a4, hc, go_sem]
    intro hh; omega
  unfold Oper.wp
  simp [execOp, ho, hx, hy, hrun, Result.andThen]
  exact hK _ _ h

theorem wpList_alloc32 (hgd : Region.wanted o (yielded ops a.tmps) = true) (ho : o.op = .alloc 81) (g : Nat) (hg : w.heap.size = g)
    (h : ∀ w', Arr w' g (List.replicate 32 false) → Fr noB w w' → wpList Try.prog ops Q rest (a.put o.dst (.pointer (some ⟨g, 0, none⟩))) w') : wpList Try.prog ops Q (o :: rest) a w := by
  refine wpList_wanted hgd fun K hK => ?_
  subst hg
  obtain ⟨i, hi, hz⟩ := Option.map_eq_some_iff.1 zero39
  have hrun : (Instr.alloc 81 true (.tuple #[])).run Try.prog w = .ok (.pointer (some ⟨w.heap.size, 0, none⟩)) (w.alloc (.cells (bv (List.replicate 32 false)) 81)) := by
    simp [Instr.alloc, zeroValue, typeInfo, hi, hz, newVar, go_sem]
  unfold Oper.wp
  simp [execOp, ho, hrun, Result.andThen]
  refine hK _ _ (h _ ⟨81, ?_⟩ ((Fr.refl _ _).alloc _))
  show (w.heap.push _)[w.heap.size]? = _
  simp
end
end Go.Proofs.Ythpcfijefcicpaa
/- Contract of the document's own polynomial. -/
namespace Go.Proofs.Ythpcfijefcicpaa
open Go.RowKit Go.Proofs.U
set_option linter.unusedSimpArgs false
set_option linter.unusedVariables false

def pbits : List Bool := (List.range 32).map (fun i => polyB.getMsbD i)
theorem pbits_at : ∀ k : Fin 32, ((79764919 : Int) / 2 ^ k.val % 2 == 1) = pbits.getD (31 - k.val) false := by decide
def pdone (k : Nat) : List Bool := List.replicate (32 - k) false ++ pbits.drop (32 - k)
theorem pdone_set : ∀ k : Fin 32, (pdone k.val).set (31 - k.val) (pbits.getD (31 - k.val) false) = pdone (k.val + 1) := by decide
theorem pdone_len : ∀ k : Fin 33, (pdone k.val).length = 32 := by decide
theorem pdone_end : pdone 32 = pbits := by decide
theorem pdone_0 : pdone 0 = List.replicate 32 false := by decide
theorem pbits_len : pbits.length = 32 := by decide

theorem load32_run {w : World} {g : Nat} {bs : List Bool} (hA : Arr w g bs) (hl : bs.length = 32) : (loadVar 81 ⟨g, 0, none⟩).run Try.prog w = .ok (.agg (bv bs)) w := by
  refine run_loadVar_mid (P := Try.prog) w g 0 81 (bs.map Value.bool) _ ?_ Try.underlying81 rfl (by rw [info39]; simp [hl])
  intro j v hj
  rw [Nat.zero_add]
  have hjl : j < bs.length := by have := (List.getElem?_eq_some_iff.1 hj).1; simpa using this
  rw [(hA.cell j hjl).1]
  simp [hjl] at hj
  simp [List.getD, hjl, hj]

set_option maxHeartbeats 2000000 in
theorem poly_any (w : World) : Calls Try.prog 38 #[] w fun e w' => e = .returned (.agg (bv pbits)) ∧ Fr noB w w' := by
  go_enter Try.func38, Try.ntmps38
  go_wp2_with (first
    | (refine wpList_alloc32 rfl rfl w.heap.size rfl ?_; intro w1 hA1 hf1)
    | (refine wpList_alloc32 rfl rfl w1.heap.size rfl ?_; intro w2 hA2 hf2)
    | (refine wpList_build32 rfl rfl ?_; intro zs Hzs)
    | (refine wpList_store32 rfl _ _ rfl _ rfl _ _ rfl hA2 (by simp) (by rw [Hzs.out]; simp) ?_; intro w3 hA3 hf3 hs3))
  have g3 : Fr noB w w3 := (hf1.thenN hf2).thenT hf3 (fun i hi q => by have := hf1.size; unfold onG at q; omega)
  have hlt1 := hA1.lt
  have hA13 : Arr w3 w.heap.size (List.replicate 32 false) := (hA1.fr hf2 (fun q => q)).fr hf3 (fun q => by unfold onG at q; omega)
  rw [Hzs.out, ← pdone_0] at hA3
  clear hA1 hA2
  generalize hG : w1.heap.size = G at *
  clear hG
  go_loopw [2, 3] (fun n i wr => ∃ k : Nat, k ≤ 32 ∧ n = .int .u32 (79764919 / 2 ^ k) ∧ i = .int .i64 (31 - (k : Int)) ∧ Arr wr G (pdone k) ∧ Arr wr w.heap.size (List.replicate 32 false) ∧ Fr noB w wr) (fun _ i _ => (intOf i + 1).toNat)
  case atStart => exact ⟨0, by omega, by simp, by simp, hA3, hA13, g3⟩
  case round =>
    obtain ⟨k, hk, rfl, rfl, hA, hB, hf⟩ := hrel
    by_cases hlt : k < 32
    · have hpos : (0 : Int) ≤ 79764919 / 2 ^ k := Int.ediv_nonneg (by decide) (Int.le_of_lt (Int.pow_pos (by decide)))
      have hle : (79764919 : Int) / 2 ^ k ≤ 79764919 := Int.ediv_le_self _ (by decide)
      have Hst := Hid.mk (Int.ediv_ediv_of_nonneg (x := (79764919 : Int)) (y := 2 ^ k) (z := 2) (Int.le_of_lt (Int.pow_pos (by decide))))
      have Hb := Hid.mk (pbits_at ⟨k, hlt⟩)
      have Hs := Hid.mk (pdone_set ⟨k, hlt⟩)
      have Hl := Hid.mk (pdone_len ⟨k, by omega⟩)
      simp only at Hb Hs Hl
      obtain ⟨N, HN⟩ : ∃ N, Hid ((79764919 : Int) / 2 ^ k = N) := ⟨_, rfl⟩
      rw [HN.out] at hpos hle Hst Hb ⊢
      obtain ⟨j, hj⟩ : ∃ j : Nat, (31 : Int) - (k : Int) = (j : Int) := ⟨31 - k, by omega⟩
      have hj31 : j = 31 - k := by omega
      have HJ := Hid.mk hj
      rw [hj]
      have hj32 : (j : Int) < 32 := by omega
      obtain ⟨z1, z2⟩ := hA.cell j (by rw [Hl.out]; omega)
      rw [← hj31] at Hb Hs
      clear hj hj31
      go_wp2
      go_roundw
      case rel =>
        refine ⟨k + 1, by omega, by rw [Int.pow_succ, ← Hst.out], by have := HJ.out; congr 1; omega, ?_, hB.fr ((Fr.refl (onG G) wr).setCell _ _ (fun _ => rfl)) (fun q => by unfold onG at q; omega), hf.setCell _ _ (fun q => by simp only at q; omega)⟩
        rw [Hb.out, ← Hs.out]
        exact hA.set j _
      case measure => simp [intOf]
    · obtain rfl : k = 32 := by omega
      rw [pdone_end] at hA
      go_wp2_with (first
        | (refine wpList_load32 rfl _ rfl _ rfl _ hA pbits_len ?_)
        | (refine wpList_store32 rfl _ _ rfl _ rfl _ _ rfl hB (by simp) pbits_len ?_; intro w4 hA4 hf4 hs4))
      obtain ⟨t4, ht4⟩ := hA4
      refine bodyPost_ret (v := .agg (bv pbits)) ?_ rfl ⟨rfl, hf.thenT hf4 (fun i hi q => by unfold onG at q; omega)⟩
      exact results_cell_row Try.results38 _ w4 w.heap.size t4 (bv pbits) (0, 0) _ rfl ht4 Try.underlying81 rfl (by rw [info39, bv_size, pbits_len])
end Go.Proofs.Ythpcfijefcicpaa
