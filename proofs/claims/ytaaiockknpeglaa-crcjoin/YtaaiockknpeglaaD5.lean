/- The walk of CrcJoin: it answers true for any three byte lists. -/
import Derived.Test.YtaaiockknpeglaaD3a
namespace Go.Proofs.Ytaaiockknpeglaa
open Go.RowKit Go.Proofs.U
set_option linter.unusedSimpArgs false
set_option linter.unusedVariables false

def mix (a b c : List Int) : List Int := List.zipWith xI (List.zipWith xI a b) c
theorem mix_length (a b c : List Int) : (mix a b c).length = min (min a.length b.length) c.length := by simp [mix]
theorem mix_get (a b c : List Int) (k : Nat) (h : k < (mix a b c).length) (h1 : k < a.length) (h2 : k < b.length) (h3 : k < c.length) : (mix a b c)[k] = xI (xI a[k] b[k]) c[k] := by
  simp [mix]

/-- the parts so far, zeros behind them. -/
def part (M : List Int) (k : Nat) : List Int := M.take k ++ List.replicate (M.length - k) 0
theorem part_length (M : List Int) (k : Nat) (h : k ≤ M.length) : (part M k).length = M.length := by simp [part]; omega
theorem part_set (M : List Int) (k : Nat) (h : k < M.length) : (part M k).set k M[k] = part M (k + 1) := by
  unfold part
  rw [List.set_append_right _ _ (by simp; omega)]
  have e1 : k - (M.take k).length = 0 := by simp; omega
  have e2 : M.length - k = (M.length - (k + 1)) + 1 := by omega
  rw [e1, e2, List.replicate_succ, List.set_cons_zero, List.take_succ_eq_append_getElem h, List.append_assoc]
  rfl
theorem part_end (M : List Int) : part M M.length = M := by simp [part]
theorem part_zero (M : List Int) : part M 0 = List.replicate M.length 0 := by simp [part]

theorem ofI_xor (a b : Int) (ha : 0 ≤ a ∧ a < 256) (hb : 0 ≤ b ∧ b < 256) : BitVec.ofInt 8 (xI a b) = BitVec.ofInt 8 a ^^^ BitVec.ofInt 8 b := by
  obtain ⟨A, rfl⟩ := Int.eq_ofNat_of_zero_le ha.1
  obtain ⟨B, rfl⟩ := Int.eq_ofNat_of_zero_le hb.1
  unfold xI
  simp only [Int.toNat_natCast, BitVec.ofInt_natCast]
  apply BitVec.eq_of_toNat_eq
  have hx : A ^^^ B < 2 ^ 8 := Nat.xor_lt_two_pow (by omega) (by omega)
  rw [BitVec.toNat_xor, BitVec.toNat_ofNat, BitVec.toNat_ofNat, BitVec.toNat_ofNat, Nat.mod_eq_of_lt hx, Nat.mod_eq_of_lt (by omega), Nat.mod_eq_of_lt (by omega)]
theorem zip_bits (a b : List Int) (ha : ∀ n ∈ a, (Lit.int .u8 n).wf = true) (hb : ∀ n ∈ b, (Lit.int .u8 n).wf = true) :
    (List.zipWith xI a b).map (BitVec.ofInt 8) = List.zipWith (· ^^^ ·) (a.map (BitVec.ofInt 8)) (b.map (BitVec.ofInt 8)) := by
  induction a generalizing b with
  | nil => simp
  | cons x a ih =>
    cases b with
    | nil => simp
    | cons y b =>
      simp only [List.zipWith_cons_cons, List.map_cons]
      rw [ofI_xor x y (u8_bd (ha x (by simp))) (u8_bd (hb y (by simp))), ih b (fun n hn => ha n (by simp [hn])) (fun n hn => hb n (by simp [hn]))]
theorem zip_wf (a b : List Int) (ha : ∀ n ∈ a, (Lit.int .u8 n).wf = true) (hb : ∀ n ∈ b, (Lit.int .u8 n).wf = true) : ∀ n ∈ List.zipWith xI a b, (Lit.int .u8 n).wf = true := by
  induction a generalizing b with
  | nil => simp
  | cons x a ih =>
    cases b with
    | nil => simp
    | cons y b =>
      intro n hn
      simp only [List.zipWith_cons_cons, List.mem_cons] at hn
      rcases hn with rfl | hn
      · have := xI_bd (u8_bd (ha x (by simp))) (u8_bd (hb y (by simp))); exact wf_byte this.1 this.2
      · exact ih b (fun n hn => ha n (by simp [hn])) (fun n hn => hb n (by simp [hn])) n hn
/-- sums of three texts of one length, mixed. -/
theorem crc_mix (a b c : List Int) (h1 : a.length = b.length) (h2 : a.length = c.length) (ha : ∀ n ∈ a, (Lit.int .u8 n).wf = true) (hb : ∀ n ∈ b, (Lit.int .u8 n).wf = true) (hc : ∀ n ∈ c, (Lit.int .u8 n).wf = true) :
    crcI (mix a b c) = bits .xor .u32 (bits .xor .u32 (crcI a) (crcI b)) (crcI c) := by
  unfold crcI
  rw [bx32 _ _ _ _ rfl rfl, bx32 _ _ _ _ rfl rfl]
  congr 2
  unfold mix
  rw [zip_bits _ _ (zip_wf a b ha hb) hc, zip_bits _ _ ha hb]
  have e : ones32 = (ones32 ^^^ ones32) ^^^ ones32 := by decide
  conv => lhs; rw [e]
  rw [crcF_xor _ _ _ _ (by simp [← h1, h2]), crcF_xor _ _ _ _ (by simp [h1])]
theorem mix_take (a b c : List Int) (n : Nat) (hn : n = min (min a.length b.length) c.length) : mix (a.take n) (b.take n) (c.take n) = mix a b c := by
  unfold mix
  rw [← List.take_zipWith, ← List.take_zipWith, List.take_of_length_le]
  simp; omega
theorem cell_of {k : IntKind} {w : World} {b off n cap : Nat} {l : List Int} (h : SlI k w (.slice (some ⟨b, off, none⟩) n cap) l) (j : Nat) (hj : j < l.length) : w.cell? ⟨b, off + j, none⟩ = some (.int k l[j]) := by
  obtain ⟨⟨a0, cap0, hv, _, _, _, hsome⟩, _⟩ := h
  cases hv
  have := hsome _ rfl j (.int k l[j]) (by simp [hj])
  rwa [Addr.plain] at this
theorem some_of {k : IntKind} {w : World} {a : Option Addr} {n cap : Nat} {l : List Int} (h : SlI k w (.slice a n cap) l) (hl : 0 < l.length) : ∃ b off, a = some ⟨b, off, none⟩ := by
  obtain ⟨⟨a0, cap0, hv, hcap, hlen, hnone, hsome⟩, _⟩ := h
  cases hv
  cases a with
  | none => have := hnone rfl; omega
  | some ad =>
    have hc0 := hsome ad rfl 0 _ (List.getElem?_eq_getElem (by simpa using hl))
    obtain ⟨b, off, sp⟩ := ad
    have hsp : sp = none := by simpa [Addr.add] using World.cell?_spot hc0
    subst hsp; exact ⟨b, off, rfl⟩
end Go.Proofs.Ytaaiockknpeglaa
