/- Texts B6m, CM, C1, C2, V1, Open, OpenD, K12, KM, OT of the proof of PoolClones, one behind the other. -/
import Derived.Test.YtghkpeejogldkaaRows
import Derived.Laws.BitsAllLaws
import Derived.ProofKit
import Derived.OpenShut
import Derived.Deep.SlicePairs
import Derived.Test.YtghkpeejogldkaaBundlePoolClones1
import Derived.Test.YtghkpeejogldkaaBundlePoolClones2
import Derived.Test.YtghkpeejogldkaaBundlePoolClones3
import Derived.Test.YtghkpeejogldkaaBundlePoolClones4
/- Plain facts on numbers put as bytes and read back; no condition but what each states. -/
namespace Go.Proofs.Ytghkpeejogldkaa
open Go.RowKit Go.Proofs.U

theorem leNum_leB (q : Nat) (x : Int) (h0 : 0 ≤ x) (h : x < 256 ^ q) : leNum (leB q x) = x := by
  induction q generalizing x with
  | zero => simp [leB, leNum] at *; omega
  | succ q ih =>
    simp only [leB, leNum]
    have hp : (0 : Int) < 256 ^ q := Int.pow_pos (by decide)
    rw [ih (x / 256) (by omega) (by rw [Int.pow_succ] at h; omega)]
    omega

theorem fits_pow (W : Nat) (hw : isW W = true) (x : Int) (h : fits W x = true) : x < 256 ^ W := by
  have hc : (W : Int) = 1 ∨ (W : Int) = 2 ∨ (W : Int) = 4 ∨ (W : Int) = 8 := by simpa [isW, or_assoc] using hw
  have hc' : W = 1 ∨ W = 2 ∨ W = 4 ∨ W = 8 := by omega
  rcases hc' with rfl | rfl | rfl | rfl <;> simpa [fits, lim] using h

theorem putB_drop (W : Nat) (l : List Int) (k : Nat) : (putB W l).drop (k * W) = putB W (l.drop k) := by
  induction k generalizing l with
  | zero => simp
  | succ k ih =>
    cases l with
    | nil => simp [putB]
    | cons x l =>
      have e : putB W (x :: l) = leB W x ++ putB W l := by simp [putB]
      rw [e, Nat.succ_mul, Nat.add_comm (k * W) W, ← List.drop_drop, List.drop_append]
      simp only [leB_length, Nat.sub_self, List.drop_zero]
      have e2 : (leB W x).drop W = [] := List.drop_of_length_le (by rw [leB_length]; exact Nat.le_refl _)
      rw [e2, List.nil_append, ih]
      rfl
theorem putB_piece (W : Nat) (l : List Int) (k : Nat) (h : k < l.length) : ((putB W l).drop (k * W)).take W = leB W l[k] := by
  rw [putB_drop, List.drop_eq_getElem_cons h]
  simp only [putB, List.flatMap_cons]
  rw [List.take_append, leB_length]
  simp [List.take_of_length_le, leB_length]

/-- A number that lies there whole is read. -/
theorem nm_whole (Z : List Int) (t W : Nat) (x : Int) (hw : isW W = true) (hl : t + W ≤ Z.length) (hz : (Z.drop t).take W = leB W x) (h0 : 0 ≤ x) (hx : fits W x = true) :
    nmV Z t false W = x ∧ nmT Z t false W = t + W ∧ nmF Z t false W = false := by
  have hk : tkOk Z t false W = true := by simp [tkOk]; omega
  refine ⟨?_, ?_, ?_⟩
  · simp only [nmV, hw, if_true, tkL, hk, Int.toNat_natCast, hz]
    exact leNum_leB W x h0 (fits_pow W hw x hx)
  · simp [nmT, hw, tkT, hk]
  · simp [nmF, hw, tkF, hk]
/-- One that doesn't isn't. -/
theorem nm_short (Z : List Int) (t W : Nat) (hw : isW W = true) (hl : Z.length < t + W) (ht : t ≤ Z.length) :
    nmV Z t false W = 0 ∧ nmT Z t false W = t ∧ nmF Z t false W = true := by
  have hk : tkOk Z t false W = false := by simp [tkOk]; omega
  refine ⟨?_, ?_, ?_⟩
  · simp [nmV, hw, tkL, hk, leNum]
  · simp [nmT, hw, tkT, hk]
  · simp [nmF, hw, tkF, hk]
end Go.Proofs.Ytghkpeejogldkaa
/- Plain facts on a sum of bytes by division of polynomials; no condition. -/
namespace Go.Proofs.U

def polyB : BitVec 32 := 0x04c11db7#32
def ones32 : BitVec 32 := 0xffffffff#32
def stp (s : BitVec 32) : BitVec 32 := (s <<< 1) ^^^ (if s.msb then polyB else 0#32)
def stpN : Nat → BitVec 32 → BitVec 32
  | 0, s => s
  | n + 1, s => stpN n (stp s)
def byt (c : BitVec 8) : BitVec 32 := c.setWidth 32 <<< 24
def wb (s : BitVec 32) (c : BitVec 8) : BitVec 32 := stpN 8 (s ^^^ byt c)
def crcF (s : BitVec 32) (l : List (BitVec 8)) : BitVec 32 := l.foldl wb s

theorem xor4 (a b c d : BitVec 32) : (a ^^^ b) ^^^ (c ^^^ d) = (a ^^^ c) ^^^ (b ^^^ d) := by
  rw [BitVec.xor_assoc, ← BitVec.xor_assoc b c d, BitVec.xor_comm b c, BitVec.xor_assoc c b d, ← BitVec.xor_assoc]
theorem stp_xor (a b : BitVec 32) : stp (a ^^^ b) = stp a ^^^ stp b := by
  unfold stp
  rw [BitVec.shiftLeft_xor_distrib, BitVec.msb_xor, xor4]
  congr 1
  cases a.msb <;> cases b.msb <;> simp
theorem stp_zero : stp 0#32 = 0#32 := by decide
theorem stpN_xor (n : Nat) (a b : BitVec 32) : stpN n (a ^^^ b) = stpN n a ^^^ stpN n b := by
  induction n generalizing a b with
  | zero => rfl
  | succ n ih => rw [stpN, stp_xor, ih]; rfl
theorem stpN_zero (n : Nat) : stpN n 0#32 = 0#32 := by
  induction n with
  | zero => rfl
  | succ n ih => rw [stpN, stp_zero, ih]
theorem stpN_add (m n : Nat) (a : BitVec 32) : stpN (m + n) a = stpN n (stpN m a) := by
  induction m generalizing a with
  | zero => simp [stpN]
  | succ m ih => rw [Nat.succ_add, stpN, ih, stpN]
theorem stpN_snoc (n : Nat) (a : BitVec 32) : stpN (n + 1) a = stp (stpN n a) := by rw [stpN_add]; rfl
theorem stp_inj0 (a : BitVec 32) (h : stp a = 0#32) : a = 0#32 := by
  unfold stp at h
  cases hm : a.msb with
  | true =>
    rw [hm] at h
    have := congrArg (fun x : BitVec 32 => x.getLsbD 0) h
    simp [polyB] at this
  | false =>
    rw [hm] at h
    simp at h
    apply BitVec.eq_of_getLsbD_eq
    intro i hi
    by_cases h31 : i = 31
    · subst h31; simpa [BitVec.msb_eq_getLsbD_last] using hm
    · have := congrArg (fun x : BitVec 32 => x.getLsbD (i + 1)) h
      simp at this
      have := this (by omega)
      simpa using this
theorem stpN_inj0 (n : Nat) (a : BitVec 32) (h : stpN n a = 0#32) : a = 0#32 := by
  induction n generalizing a with
  | zero => exact h
  | succ n ih => exact stp_inj0 _ (ih _ h)
theorem byt_xor (a b : BitVec 8) : byt (a ^^^ b) = byt a ^^^ byt b := by
  unfold byt; rw [BitVec.setWidth_xor, BitVec.shiftLeft_xor_distrib]
theorem wb_xor (s t : BitVec 32) (a b : BitVec 8) : wb (s ^^^ t) (a ^^^ b) = wb s a ^^^ wb t b := by
  unfold wb; rw [byt_xor, xor4, stpN_xor]
theorem crcF_xor (s t : BitVec 32) (l m : List (BitVec 8)) (h : l.length = m.length) : crcF (s ^^^ t) (List.zipWith (· ^^^ ·) l m) = crcF s l ^^^ crcF t m := by
  induction l generalizing m s t with
  | nil => cases m with
    | nil => rfl
    | cons _ _ => simp at h
  | cons x l ih => cases m with
    | nil => simp at h
    | cons y m =>
      simp at h
      simp only [crcF, List.zipWith_cons_cons, List.foldl_cons] at ih ⊢
      rw [wb_xor]; exact ih _ _ _ h
theorem crcF_append (s : BitVec 32) (l m : List (BitVec 8)) : crcF s (l ++ m) = crcF (crcF s l) m := by simp [crcF]
theorem wb_zero (s : BitVec 32) : wb s 0#8 = stpN 8 s := by
  unfold wb; congr 1; simp [byt]
theorem crcF_zeros (s : BitVec 32) (n : Nat) : crcF s (List.replicate n 0#8) = stpN (8 * n) s := by
  induction n generalizing s with
  | zero => rfl
  | succ n ih => rw [List.replicate_succ, crcF, List.foldl_cons, wb_zero]; show crcF _ _ = _; rw [ih, ← stpN_add]; congr 1; omega

/-- the four bytes of a sum, the highest first. -/
def be4 (s : BitVec 32) : List (BitVec 8) := [(s >>> 24).setWidth 8, (s >>> 16).setWidth 8, (s >>> 8).setWidth 8, s.setWidth 8]
theorem stp_small (x : BitVec 32) (h : x.msb = false) : stp x = x <<< 1 := by unfold stp; rw [h]; simp
theorem stpN_small (n : Nat) (x : BitVec 32) (h : ∀ i, i < n → (x <<< i).msb = false) : stpN n x = x <<< n := by
  induction n with
  | zero => simp [stpN]
  | succ n ih =>
    rw [stpN_snoc, ih (fun i hi => h i (by omega)), stp_small _ (h n (by omega)), ← BitVec.shiftLeft_add]
end Go.Proofs.U
/- Contracts of withByte and Of of package crc. -/
namespace Go.Proofs.Ytghkpeejogldkaa
open Go.RowKit Go.Proofs.U

theorem bx32 (A B : BitVec 32) (a b : Int) (ha : a = (A.toNat : Int)) (hb : b = (B.toNat : Int)) : bits .xor .u32 a b = ((A ^^^ B).toNat : Int) := by
  subst ha hb
  rw [u32_xor_nat _ _ (by have := A.isLt; omega) (by have := B.isLt; omega), BitVec.toNat_xor]
theorem bn32 (A B : BitVec 32) (a b : Int) (ha : a = (A.toNat : Int)) (hb : b = (B.toNat : Int)) : bits .and .u32 a b = ((A &&& B).toNat : Int) := by
  subst ha hb
  rw [u32_and_nat _ _ (by have := A.isLt; omega) (by have := B.isLt; omega), BitVec.toNat_and]
theorem ofI8 (c : Int) (h0 : 0 ≤ c) (h1 : c < 256) : ((BitVec.ofInt 8 c).toNat : Int) = c := by
  rw [BitVec.toNat_ofInt]; omega
theorem byt_num (c : Int) (h0 : 0 ≤ c) (h1 : c < 256) : c * 16777216 = ((byt (BitVec.ofInt 8 c)).toNat : Int) := by
  have e := ofI8 c h0 h1
  unfold byt
  rw [BitVec.toNat_shiftLeft, BitVec.toNat_setWidth, Nat.shiftLeft_eq]
  omega
theorem stp_num (t : BitVec 32) : bits .xor .u32 ((t.toNat : Int) * 2 % 4294967296) (bits .and .u32 (-((t.toNat : Int) / 2147483648) % 4294967296) 79764919) = ((stp t).toNat : Int) := by
  have ht := t.isLt
  have e1 : ((t.toNat : Int) * 2 % 4294967296) = ((t <<< 1).toNat : Int) := by
    rw [BitVec.toNat_shiftLeft, Nat.shiftLeft_eq]; omega
  unfold stp
  by_cases hm : 2147483648 ≤ t.toNat
  · have hmsb : t.msb = true := by rw [BitVec.msb_eq_decide]; simpa using hm
    rw [hmsb]
    have e2 : -((t.toNat : Int) / 2147483648) % 4294967296 = (ones32.toNat : Int) := by
      have : ones32.toNat = 4294967295 := by decide
      omega
    refine bx32 _ _ _ _ e1 ?_
    rw [bn32 ones32 polyB _ _ e2 (by decide)]
    decide
  · have hmsb : t.msb = false := by rw [BitVec.msb_eq_decide]; simpa using hm
    rw [hmsb]
    have e2 : -((t.toNat : Int) / 2147483648) % 4294967296 = ((0#32).toNat : Int) := by
      have : (0#32).toNat = 0 := by decide
      omega
    refine bx32 _ _ _ _ e1 ?_
    rw [bn32 0#32 polyB _ _ e2 (by decide)]
    decide

/-- v is a slice of slices of bytes, that read as ls. -/
def SlB (w : World) (v : Value) (ls : List (List Int)) : Prop :=
  ∃ vs : List Value, Sl w 1 v ls.length vs ∧ ∀ (j : Nat) (h : j < ls.length) u, vs[j]? = some u → SlI .u8 w u ls[j]
theorem SlB.opn {w : World} {v : Value} {ls : List (List Int)} (h : SlB w v ls) : ∃ a cap, v = .slice a ls.length cap ∧ ls.length ≤ cap := by
  obtain ⟨vs, ⟨a, cap, hv, hl, _⟩, _⟩ := h; exact ⟨a, cap, hv, hl⟩
theorem SlB.nil (w : World) : SlB w (.slice none 0 0) [] := ⟨[], Sl.nil w 1, fun j h => by simp at h⟩
theorem SlB.fr0 {w w' : World} {v : Value} {ls : List (List Int)} (h : SlB w v ls) (hf : Fr noB w w') : SlB w' v ls := by
  obtain ⟨vs, h1, h2⟩ := h; exact ⟨vs, h1.fr0 hf, fun j hj u hu => (h2 j hj u hu).fr0 hf⟩
theorem SlB.one (w : World) (t : TypeId) (v : Value) (l : List Int) (h : SlI .u8 w v l) : SlB (w.alloc (.cells #[v] t)) (.slice (some ⟨w.heap.size, 0, none⟩) 1 1) [l] := by
  refine ⟨[v], Sl_one w t v, fun j hj u hu => ?_⟩
  obtain rfl : j = 0 := by simpa using hj
  simp at hu; subst hu
  exact h.fr0 ((Fr.refl _ _).alloc _)

def crcI (l : List Int) : Int := ((crcF ones32 (l.map (BitVec.ofInt 8))).toNat : Int)
theorem size24 : (Try.prog.info? 60).map (·.size) = some 1 := by kernel_rfl

def big (ls : List (List Int)) : Prop := ls.length ≤ 1000000000000 ∧ ∀ l ∈ ls, l.length ≤ 1000000000000

end Go.Proofs.Ytghkpeejogldkaa
/- Contracts of Seal of package crc, and of bytes.Equal. -/
namespace Go.Proofs.U
open Go.RowKit
end Go.Proofs.U
namespace Go.Proofs.Ytghkpeejogldkaa
open Go.RowKit Go.Proofs.U

def be4I (n : Int) : List Int := [n / 16777216, n / 65536 % 256, n / 256 % 256, n % 256]
def sealI (l : List Int) : List Int := l ++ be4I (crcI l)
theorem crcI_bd (l : List Int) : 0 ≤ crcI l ∧ crcI l < 4294967296 := by
  unfold crcI; have := (crcF ones32 (l.map (BitVec.ofInt 8))).isLt; omega
theorem flat_le (ls : List (List Int)) (k : Nat) : (ls.take k).flatten.length ≤ ls.flatten.length := by
  conv => rhs; rw [← List.take_append_drop k ls, List.flatten_append, List.length_append]
  omega
theorem flat_succ (ls : List (List Int)) (k : Nat) (h : k < ls.length) : (ls.take (k + 1)).flatten = (ls.take k).flatten ++ ls[k] := by
  rw [List.take_succ_eq_append_getElem h, List.flatten_append]; simp
theorem mem_flat_wf {w : World} {v : Value} {ls : List (List Int)} (h : SlB w v ls) : ∀ n ∈ ls.flatten, (Lit.int .u8 n).wf = true := by
  obtain ⟨vs, hS, hin⟩ := h
  intro n hn
  obtain ⟨l, hl, hnl⟩ := List.mem_flatten.1 hn
  obtain ⟨j, hj, rfl⟩ := List.mem_iff_getElem.1 hl
  have hvl : vs.length = ls.length := by obtain ⟨_, _, _, _, h2, _⟩ := hS; simpa using h2
  exact (hin j hj _ (List.getElem?_eq_getElem (by omega))).2 n hnl
theorem wf_byte {n : Int} (h0 : 0 ≤ n) (h1 : n < 256) : (Lit.int .u8 n).wf = true := by
  simp [Lit.wf, IntKind.min, IntKind.max, IntKind.signed, IntKind.bits]; omega
theorem be4I_wf (n : Int) (h0 : 0 ≤ n) (h1 : n < 4294967296) : ∀ x ∈ be4I n, (Lit.int .u8 x).wf = true := by
  intro x hx
  simp only [be4I, List.mem_cons, List.not_mem_nil, or_false] at hx
  rcases hx with rfl | rfl | rfl | rfl <;> exact wf_byte (by omega) (by omega)
theorem sealI_wf (l : List Int) (h : ∀ n ∈ l, (Lit.int .u8 n).wf = true) : ∀ n ∈ sealI l, (Lit.int .u8 n).wf = true := by
  intro n hn
  rcases List.mem_append.1 hn with hn | hn
  · exact h n hn
  · exact be4I_wf _ (crcI_bd l).1 (crcI_bd l).2 n hn
theorem sealI_length (l : List Int) : (sealI l).length = l.length + 4 := by simp [sealI, be4I]

theorem parts (ls : List (List Int)) : ∃ F : Nat → List Int, F 0 = [] ∧ F ls.length = ls.flatten ∧ (∀ k (h : k < ls.length), F (k + 1) = F k ++ ls[k]) ∧ ∀ k, (F k).length ≤ ls.flatten.length :=
  ⟨fun k => (ls.take k).flatten, rfl, by simp, fun k h => flat_succ ls k h, fun k => flat_le ls k⟩
/-- whether two strings of bytes are one. -/
theorem strs_eq (l m : List Int) (hl : ∀ n ∈ l, (Lit.int .u8 n).wf = true) (hm : ∀ n ∈ m, (Lit.int .u8 n).wf = true) : strOfNums l = strOfNums m ↔ l = m := by
  constructor
  · intro h
    have h1 : (l.map fun n => UInt8.ofNat n.toNat) = (m.map fun n => UInt8.ofNat n.toNat) := by
      have := congrArg (fun b : ByteArray => b.data.toList) h
      simpa [strOfNums] using this
    have key : ∀ (l : List Int), (∀ n ∈ l, (Lit.int .u8 n).wf = true) → (l.map fun n => UInt8.ofNat n.toNat).map (fun u => (u.toNat : Int)) = l := by
      intro l hl
      rw [List.map_map]
      conv => rhs; rw [← List.map_id l]
      apply List.map_congr_left
      intro n hn
      have := u8_bd (hl n hn)
      simp
      omega
    rw [← key l hl, ← key m hm, h1]
  · intro h; rw [h]

theorem strs_beq (l m : List Int) (hl : ∀ n ∈ l, (Lit.int .u8 n).wf = true) (hm : ∀ n ∈ m, (Lit.int .u8 n).wf = true) : ((strOfNums l).toList == (strOfNums m).toList) = decide (l = m) := by
  have h := strs_eq l m hl hm
  by_cases e : l = m
  · subst e; simp
  · have h2 : strOfNums l ≠ strOfNums m := fun q => e (h.1 q)
    simp only [ByteArray.toList_eq]
    have h3 : (strOfNums l).data.toList ≠ (strOfNums m).data.toList := fun q => h2 (by
      cases hA : strOfNums l; cases hB : strOfNums m; rw [hA, hB] at q; simp at q; rw [q])
    rw [beq_eq_false_iff_ne.2 h3]; simp [e]

end Go.Proofs.Ytghkpeejogldkaa
/- Roots as pages, plain: what a page of a generation and a content is, and what a page tells. -/
namespace Go.Proofs.Ytghkpeejogldkaa
open Go.RowKit Go.Proofs.U
set_option linter.unusedSimpArgs false
set_option linter.unusedVariables false

/-- What a list of numbers has at a place. -/
theorem getD_map (f : Nat → Int) (n i : Nat) (h : i < n) : ((List.range n).map f).getD i 0 = f i := by simp [List.getD, h]
theorem ext_getD {a b : List Int} (hl : a.length = b.length) (h : ∀ i, i < a.length → a.getD i 0 = b.getD i 0) : a = b := by
  apply List.ext_getElem hl
  intro i h1 h2
  have := h i h1
  simpa [List.getD, h1, h2] using this
/-- ds in the place of as many numbers, from o on. -/
def putI (l : List Int) (o : Nat) (ds : List Int) : List Int := l.take o ++ ds ++ l.drop (o + ds.length)
theorem putI_len (l : List Int) (o : Nat) (ds : List Int) (h : o + ds.length ≤ l.length) : (putI l o ds).length = l.length := by
  simp [putI]; omega
theorem putI_get (l : List Int) (o : Nat) (ds : List Int) (h : o + ds.length ≤ l.length) (i : Nat) : (putI l o ds).getD i 0 = if o ≤ i ∧ i < o + ds.length then ds.getD (i - o) 0 else l.getD i 0 := by
  have ht : (l.take o).length = o := by simp; omega
  have e : putI l o ds = l.take o ++ (ds ++ l.drop (o + ds.length)) := by simp [putI]
  rw [e]
  simp only [List.getD]
  by_cases h1 : i < o
  · rw [if_neg (by omega), List.getElem?_append_left (by omega), List.getElem?_take, if_pos h1]
  · rw [List.getElem?_append_right (by omega), ht]
    by_cases h2 : i < o + ds.length
    · rw [if_pos (by omega), List.getElem?_append_left (by omega)]
    · rw [if_neg (by omega), List.getElem?_append_right (by omega), List.getElem?_drop]
      congr 2; omega
theorem putAt_putI (l : List Int) (o : Nat) (ds : List Int) : putAt (pgv l) o (pgv ds) = pgv (putI l o ds) := by
  simp [putAt, putI, pgv, List.map_take, List.map_drop]
theorem putI_wf {k : IntKind} {l : List Int} {o : Nat} {ds : List Int} (h1 : ∀ n ∈ l, (Lit.int k n).wf = true) (h2 : ∀ n ∈ ds, (Lit.int k n).wf = true) : ∀ n ∈ putI l o ds, (Lit.int k n).wf = true := by
  intro n hn
  unfold putI at hn
  rcases List.mem_append.1 hn with hn | hn
  · rcases List.mem_append.1 hn with hn | hn
    · exact h1 n (List.mem_of_mem_take hn)
    · exact h2 n hn
  · exact h1 n (List.mem_of_mem_drop hn)
theorem drop_take_get (l : List Int) (o n i : Nat) (h : i < n) : ((l.drop o).take n).getD i 0 = l.getD (o + i) 0 := by
  simp [List.getD, List.getElem?_take, h, List.getElem?_drop]

/-- Bytes alone. -/
def Byt (l : List Int) : Prop := ∀ n ∈ l, (Lit.int .u8 n).wf = true
theorem Byt.at {l : List Int} (h : Byt l) (i : Nat) : 0 ≤ l.getD i 0 ∧ l.getD i 0 < 256 := by
  by_cases hi : i < l.length
  · have := u8_bd (h l[i] (by simp))
    simpa [List.getD, hi] using this
  · simp [List.getD, hi]
theorem byt_of {l : List Int} (h : ∀ i, i < l.length → 0 ≤ l.getD i 0 ∧ l.getD i 0 < 256) : Byt l := by
  intro n hn
  obtain ⟨i, hi, rfl⟩ := List.mem_iff_getElem.1 hn
  have := h i hi
  simp [List.getD, hi] at this
  exact wf_byte this.1 this.2
theorem Byt.take {l : List Int} (h : Byt l) (n : Nat) : Byt (l.take n) := fun x hx => h x (List.mem_of_mem_take hx)
theorem Byt.drop {l : List Int} (h : Byt l) (n : Nat) : Byt (l.drop n) := fun x hx => h x (List.mem_of_mem_drop hx)
theorem Byt.app {a b : List Int} (h : Byt a) (k : Byt b) : Byt (a ++ b) := wf_app h k
theorem byt_map (f : Nat → Int) (n : Nat) (h : ∀ i, i < n → 0 ≤ f i ∧ f i < 256) : Byt ((List.range n).map f) := by
  intro x hx
  obtain ⟨i, hi, rfl⟩ := List.mem_map.1 hx
  have := h i (by simpa using hi)
  exact wf_byte this.1 this.2
theorem byt_le (q : Nat) (x : Int) : Byt (leB q x) := leB_wf q x
theorem zeroP_byt : Byt zeroP := by
  intro n hn
  rw [show n = 0 from List.eq_of_mem_replicate hn]; decide

/-- The stream of a content, as far as it goes; and with the zeros behind it. -/
def strm (c : List Int) : List Int := sealI (leB 2 c.length ++ c)
theorem strm_len (c : List Int) : (strm c).length = c.length + 6 := by simp [strm, sealI_length, leB_length]; omega
theorem strm_byt {c : List Int} (h : Byt c) : Byt (strm c) := sealI_wf _ ((byt_le 2 _).app h)
def st192 (c : List Int) : List Int := (List.range 192).map fun j => (strm c).getD j 0
theorem st192_len (c : List Int) : (st192 c).length = 192 := by unfold st192; rw [List.length_map, List.length_range]
theorem st192_byt {c : List Int} (h : Byt c) : Byt (st192 c) := byt_map _ _ fun i _ => (strm_byt h).at i
theorem st192_eq (c : List Int) (h : c.length ≤ 186) : st192 c = strm c ++ List.replicate (186 - c.length) 0 := by
  have hl := strm_len c
  apply ext_getD
  · simp [st192_len, hl]; omega
  · intro i hi
    rw [st192_len] at hi
    rw [st192, getD_map _ _ _ hi]
    simp only [List.getD]
    by_cases h1 : i < (strm c).length
    · rw [List.getElem?_append_left h1]
    · rw [List.getElem?_append_right (by omega), List.getElem?_eq_none (by omega), List.getElem?_replicate]
      split <;> rfl

/-- The root of a generation and a content. -/
def rootP (g : Int) (c : List Int) : List Int := (List.range 256).map fun i => if i % 32 < 8 then (leB 8 g).getD (i % 32) 0 else (st192 c).getD (i / 32 * 24 + (i % 32 - 8)) 0
theorem rootP_len (g : Int) (c : List Int) : (rootP g c).length = 256 := by unfold rootP; rw [List.length_map, List.length_range]
theorem rootP_get (g : Int) (c : List Int) (i : Nat) (h : i < 256) : (rootP g c).getD i 0 = if i % 32 < 8 then (leB 8 g).getD (i % 32) 0 else (st192 c).getD (i / 32 * 24 + (i % 32 - 8)) 0 := getD_map _ _ _ h
theorem rootP_byt (g : Int) {c : List Int} (h : Byt c) : Byt (rootP g c) := by
  refine byt_map _ _ fun i hi => ?_
  split
  · exact (byt_le 8 g).at _
  · exact (st192_byt h).at _
/-- The root's first k sectors, zeros behind them. -/
def rootK (g : Int) (c : List Int) (k : Nat) : List Int := (List.range 256).map fun i => if i / 32 < k then (rootP g c).getD i 0 else 0
theorem rootK_len (g : Int) (c : List Int) (k : Nat) : (rootK g c k).length = 256 := by unfold rootK; rw [List.length_map, List.length_range]
theorem rootK_zero (g : Int) (c : List Int) : rootK g c 0 = zeroP := by
  apply ext_getD
  · rw [rootK_len, zeroP_len]
  · intro i hi
    rw [rootK_len] at hi
    rw [rootK, getD_map _ _ _ hi, if_neg (by omega)]
    unfold zeroP
    rw [List.getD, List.getElem?_replicate, if_pos hi]; rfl
theorem rootK_end (g : Int) (c : List Int) : rootK g c 8 = rootP g c := by
  apply ext_getD
  · rw [rootK_len, rootP_len]
  · intro i hi
    rw [rootK_len] at hi
    rw [rootK, getD_map _ _ _ hi, if_pos (by omega)]
theorem rootK_succ (g : Int) (c : List Int) (s : Nat) (hs : s < 8) :
    rootK g c (s + 1) = putI (putI (rootK g c s) (s * 32) (leB 8 g)) (s * 32 + 8) (((st192 c).drop (s * 24)).take 24) := by
  have h8 := leB_length 8 g
  have h24 : (((st192 c).drop (s * 24)).take 24).length = 24 := by simp [st192_len]; omega
  have hk := rootK_len g c s
  have h1 : (putI (rootK g c s) (s * 32) (leB 8 g)).length = 256 := by rw [putI_len _ _ _ (by omega), hk]
  apply ext_getD
  · rw [putI_len _ _ _ (by omega), h1, rootK_len]
  · intro i hi
    rw [rootK_len] at hi
    rw [putI_get _ _ _ (by omega), putI_get _ _ _ (by omega), h24, h8]
    simp only [rootK]
    rw [getD_map _ _ _ hi, getD_map _ _ _ hi, rootP_get g c i hi]
    by_cases c1 : i / 32 = s
    · have d1 : i / 32 < s + 1 := by omega
      have d2 : ¬ i / 32 < s := by omega
      by_cases c2 : i % 32 < 8
      · have d3 : ¬ (s * 32 + 8 ≤ i ∧ i < s * 32 + 8 + 24) := by omega
        have d4 : s * 32 ≤ i ∧ i < s * 32 + 8 := by omega
        simp only [d1, c2, d3, d4, if_true, if_false, and_self]
        congr 1; omega
      · have d3 : s * 32 + 8 ≤ i ∧ i < s * 32 + 8 + 24 := by omega
        simp only [d1, c2, d3, if_true, if_false, and_self]
        rw [drop_take_get _ _ _ _ (by omega)]
        congr 1; omega
    · have d3 : ¬ (s * 32 + 8 ≤ i ∧ i < s * 32 + 8 + 24) := by omega
      have d4 : ¬ (s * 32 ≤ i ∧ i < s * 32 + 8) := by omega
      have d5 : (i / 32 < s + 1) = (i / 32 < s) := by rw [eq_iff_iff]; omega
      simp only [d3, d4, d5, if_false]

/-- What stands where a sector has its generation. -/
def genAt (p : List Int) (s : Nat) : Int := leNum ((p.drop (s * 32)).take 8)
/-- What the sectors have beside their generations. -/
def strmOf (p : List Int) : List Int := (List.range 192).map fun j => p.getD (j / 24 * 32 + 8 + j % 24) 0
theorem strmOf_len (p : List Int) : (strmOf p).length = 192 := by unfold strmOf; rw [List.length_map, List.length_range]
theorem strmOf_byt {p : List Int} (h : Byt p) : Byt (strmOf p) := byt_map _ _ fun i _ => h.at _
def strmK (p : List Int) (k : Nat) : List Int := (List.range 192).map fun j => if j / 24 < k then (strmOf p).getD j 0 else 0
theorem strmK_len (p : List Int) (k : Nat) : (strmK p k).length = 192 := by unfold strmK; rw [List.length_map, List.length_range]
theorem strmK_zero (p : List Int) : strmK p 0 = List.replicate 192 0 := by
  apply ext_getD
  · rw [strmK_len, List.length_replicate]
  · intro i hi
    rw [strmK_len] at hi
    rw [strmK, getD_map _ _ _ hi, if_neg (by omega), List.getD, List.getElem?_replicate, if_pos hi]; rfl
theorem strmK_end (p : List Int) : strmK p 8 = strmOf p := by
  apply ext_getD
  · rw [strmK_len, strmOf_len]
  · intro i hi
    rw [strmK_len] at hi
    rw [strmK, getD_map _ _ _ hi, if_pos (by omega)]
theorem strmK_succ (p : List Int) (hp : p.length = 256) (s : Nat) (hs : s < 8) : strmK p (s + 1) = putI (strmK p s) (s * 24) ((p.drop (s * 32 + 8)).take 24) := by
  have h24 : ((p.drop (s * 32 + 8)).take 24).length = 24 := by simp [hp]; omega
  have hk := strmK_len p s
  apply ext_getD
  · rw [putI_len _ _ _ (by omega), hk, strmK_len]
  · intro i hi
    rw [strmK_len] at hi
    rw [putI_get _ _ _ (by omega), h24]
    simp only [strmK]
    rw [getD_map _ _ _ hi, getD_map _ _ _ hi]
    by_cases c1 : i / 24 = s
    · rw [if_pos (by omega), if_pos (by omega), drop_take_get _ _ _ _ (by omega), strmOf, getD_map _ _ _ hi]
      congr 1; omega
    · by_cases c2 : i / 24 < s
      · rw [if_pos (by omega), if_neg (by omega), if_pos c2]
      · rw [if_neg (by omega), if_neg (by omega), if_neg c2]
theorem strmK_byt {p : List Int} (h : Byt p) (k : Nat) : Byt (strmK p k) := by
  refine byt_map _ _ fun i _ => ?_
  split
  · exact (strmOf_byt h).at i
  · omega
/-- How many bytes the content of a page seems to have. -/
def lenOf (p : List Int) : Int := leNum ((strmOf p).take 2)
def contOf (p : List Int) : List Int := ((strmOf p).drop 2).take (lenOf p).toNat
/-- What a page tells: its generation and its content; nought, if it is no root. -/
def rootOf (p : List Int) : Int × List Int := if 186 < lenOf p then (0, []) else if rootP (genAt p 0) (contOf p) == p then (genAt p 0, contOf p) else (0, [])
theorem genAt_bd {p : List Int} (h : Byt p) (s : Nat) : 0 ≤ genAt p s ∧ genAt p s < 18446744073709551616 := by
  have h1 := leNum_bd ((p.drop (s * 32)).take 8) (fun x hx => u8_bd (((h.drop _).take _) x hx))
  have h2 : ((p.drop (s * 32)).take 8).length ≤ 8 := by simp; omega
  refine ⟨h1.1, Int.lt_of_lt_of_le h1.2 ?_⟩
  generalize ((p.drop (s * 32)).take 8).length = n at h2
  clear h1
  have : n = 0 ∨ n = 1 ∨ n = 2 ∨ n = 3 ∨ n = 4 ∨ n = 5 ∨ n = 6 ∨ n = 7 ∨ n = 8 := by omega
  rcases this with rfl | rfl | rfl | rfl | rfl | rfl | rfl | rfl | rfl <;> decide
theorem lenOf_bd {p : List Int} (h : Byt p) : 0 ≤ lenOf p ∧ lenOf p < 65536 := by
  have h1 := leNum_bd ((strmOf p).take 2) (fun x hx => u8_bd (((strmOf_byt h).take _) x hx))
  have h2 : ((strmOf p).take 2).length = 2 := by simp [strmOf_len]
  rw [h2] at h1
  exact h1
theorem contOf_byt {p : List Int} (h : Byt p) : Byt (contOf p) := ((strmOf_byt h).drop 2).take _
theorem contOf_len {p : List Int} (h : Byt p) (hl : lenOf p ≤ 186) : (contOf p).length = (lenOf p).toNat := by
  simp [contOf, strmOf_len]; omega
theorem rootOf_byt {p : List Int} (h : Byt p) : Byt (rootOf p).2 := by
  unfold rootOf; split
  · intro n hn; simp at hn
  · split
    · exact contOf_byt h
    · intro n hn; simp at hn
theorem rootOf_bd {p : List Int} (h : Byt p) : 0 ≤ (rootOf p).1 ∧ (rootOf p).1 < 18446744073709551616 := by
  unfold rootOf; split
  · decide
  · split
    · exact genAt_bd h 0
    · decide

/-- The root of the greater generation of those in their slots. -/
def inSlot (p : List Int) (s : Nat) : Int × List Int := if (rootOf p).1 % 2 = s then rootOf p else (0, [])
def newest (p q : List Int) : Int × List Int :=
  let a := if (rootOf p).1 % 2 = 0 ∧ 0 < (rootOf p).1 then rootOf p else (0, [])
  if (rootOf q).1 % 2 = 1 ∧ a.1 < (rootOf q).1 then rootOf q else a
/-- The greatest of the first k generations. -/
def topK (p : List Int) (t : Int) (k : Nat) : Int := (List.range k).foldl (fun t s => max t (genAt p s)) t
def top (p q : List Int) : Int := topK q (topK p 0 8) 8
theorem topK_succ (p : List Int) (t : Int) (k : Nat) : topK p t (k + 1) = max (topK p t k) (genAt p k) := by
  unfold topK; rw [List.range_succ, List.foldl_append]; rfl
theorem topK_bd {p : List Int} (h : Byt p) (t : Int) (ht : 0 ≤ t ∧ t < 18446744073709551616) (k : Nat) : 0 ≤ topK p t k ∧ topK p t k < 18446744073709551616 := by
  induction k with
  | zero => exact ht
  | succ k ih => rw [topK_succ]; have := genAt_bd h k; omega
theorem top_bd {p q : List Int} (h : Byt p) (k : Byt q) : 0 ≤ top p q ∧ top p q < 18446744073709551616 := topK_bd k _ (topK_bd h _ (by decide) 8) 8
theorem newest_bd {p q : List Int} (h : Byt p) (k : Byt q) : 0 ≤ (newest p q).1 ∧ (newest p q).1 < 18446744073709551616 := by
  have h1 := rootOf_bd h
  have h2 := rootOf_bd k
  have h3 : 0 ≤ (0 : Int) ∧ (0 : Int) < 18446744073709551616 := by decide
  unfold newest
  simp only
  split <;> split <;> assumption
theorem newest_byt {p q : List Int} (h : Byt p) (k : Byt q) : Byt (newest p q).2 := by
  have h1 := rootOf_byt h
  have h2 := rootOf_byt k
  have h3 : Byt [] := by intro n hn; simp at hn
  unfold newest
  simp only
  split <;> split <;> assumption

/-- What Read, Next and Write answer. -/
def rdE (X : DSt) : Int := if (readP X 0).2 = 0 then (readP X 1).2 else (readP X 0).2
def nwst (X : DSt) : Int × List Int := newest (readP X 0).1 (readP X 1).1
def rRead (X : DSt) : List Int × Int × Int := if rdE X = 0 then (if (nwst X).1 = 0 then ([], 0, 51) else ((nwst X).2, (nwst X).1, 0)) else ([], 0, rdE X)
def tp (X : DSt) : Int := top (readP X 0).1 (readP X 1).1
def nextG (X : DSt) : Int := if (nwst X).1 ≠ 0 ∧ (tp X + 1) % 2 = (nwst X).1 % 2 then tp X + 2 else tp X + 1
def rNext (X : DSt) : Int × Int := if rdE X = 0 then (if 18446744073709551612 < tp X then (0, 51) else (nextG X, 0)) else (0, rdE X)
def rWrite (X : DSt) (c : List Int) : DSt × Int × Int :=
  if 186 < c.length then (X, 0, 51)
  else if (rNext X).2 ≠ 0 then (X, 0, (rNext X).2)
  else
    let g := (rNext X).1
    let Y := X.write (g % 2) (rootP g c)
    if X.writeE (g % 2) ≠ 0 then (Y, 0, X.writeE (g % 2))
    else if Y.actE ≠ 0 then (Y.sync, 0, Y.actE) else (Y.sync, g, 0)
end Go.Proofs.Ytghkpeejogldkaa
/- How a slice of integers that came in is opened. -/
namespace Go.Proofs.U
open Go.RowKit Go.ChangeShapes Go.WideShapes Go.ChangeAt

/-- A slice of integers that came in, opened. -/
theorem slI_of_trod {P : Program} {H : Type} {enc : TypeId × Value → H} {W : World} {base t e : Nat} {k : IntKind} {v : Value} {d : DataW H} {p : List MemPlace}
    (hu : P.underlying t = some (.slice e)) (he : P.underlying e = some (.int k)) (hc : P.cellsOf e = 1) (hval : Value.okWide P W .any base t v)
    (h : DataW.Trod enc P W 0 (fun _ => true) true t v d p) : ∃ l, SlI k W v l := by
  obtain ⟨a, len, cap, rfl⟩ := okWide_slice hu hval
  obtain ⟨fuel, hf⟩ := h
  rcases open_ints hu he hc hf with ⟨hcs, _⟩ | ⟨x, l, c, zs, hcs, _, hl, hm, hz, _, hcell, hwz⟩
  · simp [Value.cells] at hcs
    obtain ⟨rfl, rfl, rfl⟩ := hcs
    exact ⟨[], SlI.nil k W⟩
  · simp [Value.cells] at hcs
    obtain ⟨rfl, rfl, rfl⟩ := hcs
    have hzl : zs.length = cap := by simpa using hz
    have e : (zs.take len).length = len := by simp; omega
    refine ⟨zs.take len, ?_, fun n hn => hwz n (List.mem_of_mem_take hn)⟩
    rw [e]
    refine ⟨_, _, rfl, hl, by simp; omega, (fun h => by cases h), fun y hy j u hj => ?_⟩
    cases hy
    have hj1 : j < len := by
      have := (List.getElem?_eq_some_iff.1 hj).1
      simp at this; omega
    rw [List.map_take, List.getElem?_take, if_pos hj1] at hj
    have hc1 := hcell j (by omega)
    have hjz : j < zs.length := by omega
    simp [hjz] at hj
    rw [← hj]
    simpa [List.getD, hjz] using hc1
end Go.Proofs.U
/- How a slice of acts, and one of bools, that came in are opened. -/
namespace Go.Proofs.Ytghkpeejogldkaa
open Go.RowKit Go.Proofs.U Go.ChangeShapes Go.WideShapes Go.ChangeAt
set_option linter.unusedSimpArgs false
set_option linter.unusedVariables false

/-- An act as it lies in memory: its kind, its place, its byte, its slice, and what that slice holds. -/
structure ActR where
  kind : Int
  at' : Int
  byte : Int
  kv : Value
  keep : List Int
def encA (x : ActR) : List Value := [.int .i64 x.kind, .int .i64 x.at', .int .u8 x.byte, x.kv]
def ActOk (w : World) (x : ActR) : Prop := (Lit.int .i64 x.kind).wf = true ∧ (Lit.int .i64 x.at').wf = true ∧ (Lit.int .u8 x.byte).wf = true ∧ SlI .u8 w x.kv x.keep
def SlA (w : World) (v : Value) (l : List ActR) : Prop := SlR encA 4 w v l ∧ ∀ x ∈ l, ActOk w x

theorem slI_of_cells {P : Program} {H : Type} {enc : TypeId × Value → H} {W : World} {t e fuel : Nat} {k : IntKind} {v : Value} {x : DataW H × List MemPlace}
    (hu : P.underlying t = some (.slice e)) (he : P.underlying e = some (.int k)) (hc : P.cellsOf e = 1)
    (hf : DataW.trod enc P W 0 (fun _ => true) true fuel t [v] = some x) : ∃ l, SlI k W v l := by
  rcases open_ints hu he hc hf with ⟨hcs, _⟩ | ⟨x, len, cap, zs, hcs, _, hl, hm, hz, _, hcell, hwz⟩
  · simp at hcs
    subst hcs
    exact ⟨[], SlI.nil k W⟩
  · simp at hcs
    subst hcs
    have hzl : zs.length = cap := by simpa using hz
    have e : (zs.take len).length = len := by simp; omega
    refine ⟨zs.take len, ?_, fun n hn => hwz n (List.mem_of_mem_take hn)⟩
    rw [e]
    refine ⟨_, _, rfl, hl, by simp; omega, (fun h => by cases h), fun y hy j u hj => ?_⟩
    cases hy
    have hj1 : j < len := by
      have := (List.getElem?_eq_some_iff.1 hj).1
      simp at this; omega
    rw [List.map_take, List.getElem?_take, if_pos hj1] at hj
    have hc1 := hcell j (by omega)
    have hjz : j < zs.length := by omega
    simp [hjz] at hj
    rw [← hj]
    simpa [List.getD, hjz] using hc1
end Go.Proofs.Ytghkpeejogldkaa
/- Pages loaded and compared where a guard asks for it. -/
namespace Go.Proofs.Ytghkpeejogldkaa
open Go.RowKit Go.Proofs.U
set_option linter.unusedSimpArgs false
set_option linter.unusedVariables false
section
variable {w : World} {ops : Array Oper} {rest : List Oper} {o : Oper} {a : Act} {Q : Exit → Act → World → Prop}
theorem at_bin (b : BinOp) (t t' : TypeId) (x y : Operand) (_ho : o.op = .binOp b t x y t') (h : wpList Try.prog ops Q (o :: rest) a w) : wpList Try.prog ops Q (o :: rest) a w := h
end
end Go.Proofs.Ytghkpeejogldkaa
/- DiskKeeps, the plain part: what may be read behind a crash. -/
namespace Go.Proofs.Ytghkpeejogldkaa
open Go.RowKit Go.Proofs.U
set_option linter.unusedSimpArgs false
set_option linter.unusedVariables false

abbrev rep (c : Int) : List Int := List.replicate 256 c
/-- What a page may hold: its own byte, and the bytes of its pending writes. -/
def mayL (c : List Int) (ps : List (Nat × Int)) (i : Nat) : List Int := c.getD i 0 :: (ps.filter (fun x => x.1 == i)).map (·.2)
structure KX (N : Nat) (X : DSt) (c : List Int) (ps : List (Nat × Int)) : Prop where
  pages : X.pages = c.map rep
  pend : X.pend = ps.map (fun x => ((x.1 : Int), rep x.2))
  len : c.length = N
  inN : ∀ x ∈ ps, x.1 < N
  bad : X.bad = fun _ => false
theorem KX.act {N : Nat} {X : DSt} {c : List Int} {ps : List (Nat × Int)} (h : KX N X c ps) : KX N X.act c ps := ⟨h.pages, h.pend, h.len, h.inN, h.bad⟩
theorem KX.cut {N : Nat} {X : DSt} {c : List Int} {ps : List (Nat × Int)} (h : KX N X c ps) (n : Int) : KX N { X with left := n } c ps := ⟨h.pages, h.pend, h.len, h.inN, h.bad⟩
theorem KX.new (n : Int) (N : Nat) (hN : newN n = N) : KX N (newD n) (List.replicate N 0) [] :=
  ⟨by show List.replicate (newN n) zeroP = _; rw [hN, List.map_replicate]; rfl, rfl, by simp, by simp, rfl⟩
theorem KX.plen {N : Nat} {X : DSt} {c : List Int} {ps : List (Nat × Int)} (h : KX N X c ps) : X.pages.length = N := by rw [h.pages, List.length_map, h.len]
theorem KX.write {N : Nat} {X : DSt} {c : List Int} {ps : List (Nat × Int)} (h : KX N X c ps) (i : Int) (b : Int) :
    (X.writeE i = 0 → ∃ j : Nat, i = j ∧ j < N ∧ KX N (X.write i (rep b)) c (ps ++ [(j, b)])) ∧ (X.writeE i ≠ 0 → KX N (X.write i (rep b)) c ps) := by
  unfold DSt.writeE DSt.write
  rw [h.plen]
  cases hin : inR N i with
  | false =>
    simp only [Bool.false_eq_true, if_false]
    exact ⟨fun h0 => by simp at h0, fun _ => h⟩
  | true =>
    simp only [if_true]
    constructor
    · intro h0
      simp only [inR, Bool.and_eq_true, decide_eq_true_eq] at hin
      refine ⟨i.toNat, by omega, by omega, ?_⟩
      rw [if_pos h0]
      refine ⟨h.pages, ?_, h.len, ?_, h.bad⟩
      · show X.pend ++ _ = _
        rw [h.pend, List.map_append]
        simp
        omega
      · intro x hx
        rcases List.mem_append.1 hx with hx | hx
        · exact h.inN x hx
        · simp at hx; subst hx; simp; omega
    · intro h0
      rw [if_neg h0]
      exact h.act
theorem mayL_put (c : List Int) (ps : List (Nat × Int)) (j : Nat) (b : Int) (i : Nat) : mayL c (ps ++ [(j, b)]) i = if j = i then mayL c ps i ++ [b] else mayL c ps i := by
  unfold mayL
  rw [List.filter_append, List.map_append]
  by_cases e : j = i
  · subst e; simp
  · simp [e]
theorem mayL_len (c : List Int) (ps : List (Nat × Int)) (i : Nat) : (mayL c ps i).length ≤ ps.length + 1 := by
  unfold mayL
  have := List.length_filter_le (fun x : Nat × Int => x.1 == i) ps
  simp; omega
/-- What is synced. -/
def lastC (c : List Int) (ps : List (Nat × Int)) : List Int := ps.foldl (fun c x => c.set x.1 x.2) c
theorem lastC_len (c : List Int) (ps : List (Nat × Int)) : (lastC c ps).length = c.length := by
  unfold lastC
  induction ps generalizing c with
  | nil => rfl
  | cons x ps ih => rw [List.foldl_cons, ih]; simp
theorem lastC_put (c : List Int) (ps : List (Nat × Int)) (x : Nat × Int) : lastC c (ps ++ [x]) = (lastC c ps).set x.1 x.2 := by
  unfold lastC; rw [List.foldl_append]; rfl
theorem lastC_may (N : Nat) (c : List Int) (hc : c.length = N) : ∀ (n : Nat) (ps : List (Nat × Int)), ps.length = n → (∀ x ∈ ps, x.1 < N) → ∀ i, i < N → (mayL c ps i).drop ((mayL c ps i).length - 1) = [(lastC c ps).getD i 0] := by
  intro n
  induction n with
  | zero =>
    intro ps hp _ i hi
    obtain rfl := List.eq_nil_of_length_eq_zero hp
    simp [mayL, lastC]
  | succ n ih =>
    intro ps hp hin i hi
    obtain ⟨qs, x, rfl⟩ : ∃ qs x, ps = qs ++ [x] := ⟨ps.dropLast, ps.getLast (by intro e; subst e; cases hp), (List.dropLast_concat_getLast _).symm⟩
    have hq := ih qs (by simpa using hp) (fun y hy => hin y (by simp [hy])) i hi
    have hx : x.1 < N := hin x (by simp)
    rw [lastC_put]
    have e : mayL c (qs ++ [x]) i = if x.1 = i then mayL c qs i ++ [x.2] else mayL c qs i := mayL_put c qs x.1 x.2 i
    rw [e]
    have hl := lastC_len c qs
    by_cases h : x.1 = i
    · subst h
      simp [List.getD, hl, hc, hi]
    · rw [if_neg h, hq]
      simp [List.getD, List.getElem?_set_ne h]
theorem rep_getD (c : Int) (k : Nat) (h : k < 256) : (rep c).getD k 0 = c := by simp [List.getD, h]
theorem getD_map_rep (c : List Int) (i : Nat) (h : i < c.length) : (c.map rep).getD i [] = rep (c.getD i 0) := by simp [List.getD, h]
theorem pend_at (ps : List (Nat × Int)) (m : Nat) (h : m < ps.length) : (ps.map (fun x => ((x.1 : Int), rep x.2))).getD m (0, []) = ((ps[m].1 : Int), rep ps[m].2) := by simp [List.getD, h]
theorem setS_all (N : Nat) (c : List Int) (ps : List (Nat × Int)) (hc : c.length = N) (hin : ∀ x ∈ ps, x.1 < N) : ∀ m, m ≤ ps.length →
    setS (c.map rep) (ps.map (fun x => ((x.1 : Int), rep x.2))) (fun _ _ => true) m = (lastC c (ps.take m)).map rep := by
  intro m
  induction m with
  | zero => intro _; rfl
  | succ m ih =>
    intro hm
    rw [setS_succ, ih (by omega), List.take_succ_eq_append_getElem (by omega), lastC_put]
    unfold setS1
    rw [pend_at ps m (by omega)]
    simp only [Int.toNat_natCast]
    rw [mixS_all _ _ (by simp), List.map_set]
theorem KX.sync {N : Nat} {X : DSt} {c : List Int} {ps : List (Nat × Int)} (h : KX N X c ps) :
    (X.actE = 0 → KX N X.sync (lastC c ps) []) ∧ (X.actE ≠ 0 → KX N X.sync c ps) := by
  unfold DSt.sync
  constructor
  · intro h0
    rw [if_pos h0]
    refine ⟨?_, by simp [DSt.settle], by rw [lastC_len, h.len], by simp, h.bad⟩
    show setS X.pages X.pend _ X.pend.length = _
    rw [h.pages, h.pend, setS_all N c ps h.len h.inN _ (by simp)]
    simp
  · intro h0
    rw [if_neg h0]
    exact h.act
/-- A page that may be there behind a crash. -/
def GoodP (l : List Int) (p : List Int) : Prop := p.length = 256 ∧ ∀ k, k < 256 → p.getD k 0 ∈ l ∧ p.getD k 0 = p.getD (k / 32 * 32) 0
theorem GoodP.mono {l l' p : List Int} (h : GoodP l p) (hl : ∀ x ∈ l, x ∈ l') : GoodP l' p := ⟨h.1, fun k hk => ⟨hl _ (h.2 k hk).1, (h.2 k hk).2⟩⟩
theorem mixS_at (old new : List Int) (st : Nat → Bool) (k : Nat) (hk : k < 256) : (mixS old new st 8).getD k 0 = if st (k / 32) then new.getD k 0 else old.getD k 0 := by
  have : k / 32 < 8 := by omega
  simp [mixS, List.getD, hk, this]
theorem good_mix {l : List Int} {p : List Int} (h : GoodP l p) (b : Int) (st : Nat → Bool) : GoodP (l ++ [b]) (mixS p (rep b) st 8) := by
  refine ⟨mixS_len _ _ _ _, fun k hk => ?_⟩
  have hk2 : k / 32 * 32 < 256 := by omega
  have hk3 : k / 32 * 32 / 32 = k / 32 := by omega
  rw [mixS_at _ _ _ _ hk, mixS_at _ _ _ _ hk2, hk3, rep_getD b k hk, rep_getD b _ hk2]
  have := h.2 k hk
  cases st (k / 32) with
  | true => simp
  | false => exact ⟨by simp only [Bool.false_eq_true, if_false]; exact List.mem_append_left _ this.1, by simpa using this.2⟩
theorem setS_good (N : Nat) (c : List Int) (ps : List (Nat × Int)) (hc : c.length = N) (hin : ∀ x ∈ ps, x.1 < N) (st : Nat → Nat → Bool) : ∀ m, m ≤ ps.length → ∀ i, i < N →
    GoodP (mayL c (ps.take m) i) ((setS (c.map rep) (ps.map (fun x => ((x.1 : Int), rep x.2))) st m).getD i []) := by
  intro m
  induction m with
  | zero =>
    intro _ i hi
    have e : (setS (c.map rep) (ps.map (fun x => ((x.1 : Int), rep x.2))) st 0) = c.map rep := rfl
    rw [e, getD_map_rep c i (by omega)]
    refine ⟨by simp, fun k hk => ?_⟩
    rw [rep_getD _ k hk, rep_getD _ _ (by omega)]
    simp [mayL]
  | succ m ih =>
    intro hm i hi
    have hlen := setS_len (c.map rep) (ps.map (fun x => ((x.1 : Int), rep x.2))) st m
    rw [List.length_map, hc] at hlen
    rw [setS_succ, List.take_succ_eq_append_getElem (by omega)]
    have e : mayL c (ps.take m ++ [ps[m]]) i = if ps[m].1 = i then mayL c (ps.take m) i ++ [ps[m].2] else mayL c (ps.take m) i := mayL_put c _ ps[m].1 ps[m].2 i
    rw [e]
    unfold setS1
    rw [pend_at ps m (by omega)]
    simp only [Int.toNat_natCast]
    have h0 := ih (by omega) i hi
    generalize setS (c.map rep) (ps.map (fun x => ((x.1 : Int), rep x.2))) st m = S at *
    by_cases h : ps[m].1 = i
    · rw [if_pos h, h]
      have : (S.set i (mixS (S.getD i []) (rep ps[m].2) (st m) 8)).getD i [] = mixS (S.getD i []) (rep ps[m].2) (st m) 8 := by simp [List.getD, hlen, hi]
      rw [this]
      exact good_mix h0 _ _
    · rw [if_neg h]
      have : (S.set ps[m].1 (mixS (S.getD ps[m].1 []) (rep ps[m].2) (st m) 8)).getD i [] = S.getD i [] := by simp [List.getD, List.getElem?_set_ne h]
      rw [this]
      exact h0
theorem KX.crash {N : Nat} {X : DSt} {c : List Int} {ps : List (Nat × Int)} (h : KX N X c ps) (keep : List Int) :
    (X.crash keep).pages.length = N ∧ (X.crash keep).pend = [] ∧ (X.crash keep).down = false ∧ (∀ i : Nat, i < N → ∃ p, readP (X.crash keep) (i : Int) = (p, 0) ∧ GoodP (mayL c ps i) p) := by
  have e : (X.crash keep).pages = setS (c.map rep) (ps.map (fun x => ((x.1 : Int), rep x.2))) (stayK keep) ps.length := by
    show setS X.pages X.pend _ X.pend.length = _
    rw [h.pages, h.pend, List.length_map]
  have hl : (X.crash keep).pages.length = N := by rw [e, setS_len, List.length_map, h.len]
  refine ⟨hl, rfl, rfl, fun i hi => ⟨(X.crash keep).pages.getD i [], ?_, ?_⟩⟩
  · have h1 : inR N (i : Int) = true := by simp [inR]; omega
    have h2 : (X.crash keep).bad (i : Int) = false := by show X.bad _ = _; rw [h.bad]
    have h3 : (X.crash keep).pend = [] := rfl
    unfold readP
    rw [hl, h1, h2, h3]
    simp [lastW]
  · rw [e]
    have := setS_good N c ps h.len h.inN (stayK keep) ps.length (Nat.le_refl _) i hi
    rwa [List.take_length] at this
end Go.Proofs.Ytghkpeejogldkaa
/- Rows of one's own, of one cell an element, that begin somewhere in their block: cut from the left, and appended to. -/
namespace Go.Proofs.U
open Go.RowKit
set_option linter.unusedSimpArgs false
set_option linter.unusedVariables false
/-- v is a row in block b, from some cell on to the block's end. -/
def OwnT (e : TypeId) (w : World) (b : Nat) (v : Value) (xs : List Value) : Prop :=
  ∃ o cap cur, v = .slice (some ⟨b, o, none⟩) xs.length cap ∧ w.heap[b]? = some (.cells cur e (0, 0)) ∧ xs.length ≤ cap ∧ cap ≤ maxLen ∧ cur.size = o + cap ∧ (cur.toList.drop o).take xs.length = xs
section
variable {e : TypeId} {w w' : World} {b : Nat} {v : Value} {xs : List Value} {S : Nat → Prop} {P : Program}
theorem OwnT.lt (h : OwnT e w b v xs) : b < w.heap.size := by
  obtain ⟨o, cap, cur, _, h, _⟩ := h
  exact (Array.getElem?_eq_some_iff.mp h).1
theorem OwnT.fr (h : OwnT e w b v xs) (f : Fr S w w') (hs : ¬ S b) : OwnT e w' b v xs := by
  have hl := h.lt
  obtain ⟨o, cap, cur, h1, h2, h3⟩ := h
  exact ⟨o, cap, cur, h1, (f.block b hl hs).trans h2, h3⟩
theorem OwnT.opn (h : OwnT e w b v xs) : ∃ o cap, v = .slice (some ⟨b, o, none⟩) xs.length cap := by
  obtain ⟨o, cap, cur, h1, _⟩ := h
  exact ⟨o, cap, h1⟩
theorem OwnT.blk (h : OwnT e w b v xs) : ∃ cur, w.heap[b]? = some (.cells cur e (0, 0)) := by
  obtain ⟨o, cap, cur, _, h2, _⟩ := h
  exact ⟨cur, h2⟩
theorem OwnT.cellsAt {o cap n : Nat} (h : OwnT e w b (.slice (some ⟨b, o, none⟩) n cap) xs) : ∀ j u, xs[j]? = some u → w.cell? ((⟨b, o, none⟩ : Addr).add j) = some u := by
  obtain ⟨o', cap', cur, h1, h2, h3, h4, h5, h6⟩ := h
  obtain ⟨rfl, _, _⟩ : o = o' ∧ n = xs.length ∧ cap = cap' := by simpa using h1
  intro j u hj
  have hadd : (⟨b, o, none⟩ : Addr).add j = ⟨b, o + j, none⟩ := by unfold Addr.add; split <;> simp_all
  rw [hadd, cell_of_row w b (o + j) cur e (0, 0) h2]
  rw [← h6, List.getElem?_take] at hj
  split at hj
  · rw [List.getElem?_drop] at hj; simpa using hj
  · cases hj
theorem OwnT.sl (h : OwnT e w b v xs) : Sl w 1 v xs.length xs := by
  obtain ⟨o, cap, rfl⟩ := h.opn
  have hc := h.cellsAt
  obtain ⟨o', cap', cur, h1, h2, h3, _⟩ := h
  obtain ⟨_, rfl⟩ : o = o' ∧ cap = cap' := by simpa using h1
  exact ⟨some ⟨b, o, none⟩, cap, rfl, h3, by simp, (fun h => by cases h), fun x hx => by cases hx; exact hc⟩
theorem OwnT.cutL {o cap n : Nat} (h : OwnT e w b (.slice (some ⟨b, o, none⟩) n cap) xs) (i : Nat) (hi : i < xs.length) : OwnT e w b (.slice (some ⟨b, o + i, none⟩) (n - i) (cap - i)) (xs.drop i) := by
  obtain ⟨o', cap', cur, h1, h2, h3, h4, h5, h6⟩ := h
  obtain ⟨rfl, rfl, rfl⟩ : o = o' ∧ n = xs.length ∧ cap = cap' := by simpa using h1
  refine ⟨o + i, cap - i, cur, by simp, h2, by simp; omega, by omega, by omega, ?_⟩
  have e1 : (cur.toList.drop o).take xs.length = xs := h6
  have e2 : xs.drop i = ((cur.toList.drop o).take xs.length).drop i := by rw [e1]
  rw [List.drop_take, List.drop_drop] at e2
  rw [e2]
  simp only [List.length_take, List.length_drop, Array.length_toList]
  congr 1
  omega
theorem OwnT.made (w : World) (x : Value) (e : TypeId) : OwnT e (w.alloc (.cells #[x] e)) w.heap.size (.slice (some ⟨w.heap.size, 0, none⟩) 1 1) [x] :=
  ⟨0, 1, #[x], rfl, heap_alloc_new w _, by simp, by unfold maxLen; decide, by simp, by simp⟩

theorem run_cutL (t : TypeId) (ht : P.underlying t = some (.slice e)) (hsz : (P.info? e).map (·.size) = some 1) (o cap n i : Nat) (hi : i < n) (hn : n ≤ cap) (w : World) :
    (Instr.sliceAt t (.slice (some ⟨b, o, none⟩) n cap) (some (.int .i64 (i : Int))) none none).run P w = .ok (.slice (some ⟨b, o + i, none⟩) (n - i) (cap - i)) w := by
  obtain ⟨ii, hinf, hsz'⟩ := Option.map_eq_some_iff.1 hsz
  have hne : ¬ cap = i := by omega
  have hin : i ≤ n := by omega
  have hnc : ¬ cap < n := by omega
  simp [Instr.sliceAt, Instr.slice, Instr.sliceBounds, Instr.sliceBound, asIntOf, run_underlying ht, sizeOf, typeInfo, hinf, hsz', go_sem, hne, Addr.plain, hin, hnc]
  try omega

theorem run_append_T (t ty : TypeId) (i : TypeInfo) (z : Value) (ht : P.underlying t = some (.slice e)) (hi : P.info? e = some i) (hz : i.zero = some z) (hs1 : i.size = 1) (hb1 : i.bytes = 1) (hzs : z.cells.size = 1)
    (hO : OwnT e w b v xs) (g : Nat) (x : Value) (hx : w.cell? ⟨g, 0, none⟩ = some x) (h1 : x.oneCell' = true) (hl : xs.length ≤ 100000) :
    ∃ v' w' b', (Builtin.append_ #[t, t] ty #[v, .slice (some ⟨g, 0, none⟩) 1 1]).run P w = .ok v' w' ∧ OwnT e w' b' v' (xs ++ [x]) ∧ Fr (onB1 b) w w' ∧ (b' = b ∨ w.heap.size ≤ b') := by
  obtain ⟨o, cap, rfl⟩ := hO.opn
  have holds := hO.cellsAt
  obtain ⟨o', cap', cur, hv, h2, h3, h4, h5, h6⟩ := hO
  obtain ⟨rfl, rfl⟩ : o = o' ∧ cap = cap' := by simpa using hv
  have hnews : ∀ j u, [x][j]? = some u → w.cell? ((⟨g, 0, none⟩ : Addr).add j) = some u := by
    intro j u hj
    cases j with
    | zero => simp at hj; subst hj; exact hx
    | succ j => simp at hj
  by_cases hroom : xs.length + 1 ≤ cap
  · have hf := run_firstCells_some (P := P) w i.size 1 ⟨g, 0, none⟩ 1 1 [x] (by simp [hs1]) hnews
    have hst := run_storeCells_at P b (o + xs.length) e [x] 0 cur w h2 (by simp; omega) (by simpa using h1)
    simp only [Nat.add_zero] at hst
    have hadd : (⟨b, o, none⟩ : Addr).add (xs.length * i.size) = ⟨b, o + xs.length, none⟩ := by rw [hs1, Nat.mul_one]; unfold Addr.add; split <;> simp_all
    refine ⟨.slice (some ⟨b, o, none⟩) (xs.length + 1) cap, w.setRow b (cur.toList.take (o + xs.length) ++ [x] ++ cur.toList.drop (o + xs.length + [x].length)).toArray, b, ?_, ⟨o, cap, _, by simp, setRow_heap w b cur _ e _ h2, by simpa using hroom, h4, ?_, ?_⟩, ⟨rfl, rfl, rfl, by simp, fun k _ hk => setRow_other w b k _ (fun e => hk e)⟩, Or.inl rfl⟩
    · simp [Builtin.append_, run_underlying ht, sizeOf, typeInfo, hi, Builtin.lenOf, hroom, hf, hadd, hst]
    · simp only [List.size_toArray, List.length_append, List.length_take, List.length_drop, Array.length_toList, List.length_singleton]
      omega
    · have e1 : (cur.toList.take (o + xs.length)).drop o = xs := by rw [List.drop_take]; simpa using h6
      have e2 : (cur.toList.take (o + xs.length)).length = o + xs.length := by simp; omega
      simp only [List.append_assoc]
      rw [List.drop_append_of_le_length (by omega), e1, ← List.append_assoc]
      exact List.take_left
  · have hr := run_append_grow (P := P) w t ty e i z ht hi hz ⟨b, o, none⟩ xs.length cap xs (by simp [hs1]) holds ⟨g, 0, none⟩ 1 1 [x] (by simp [hs1]) hnews (by omega) (by omega) (growslice_fits (by omega) (by rw [hb1]; omega))
    have hge := grownCap_ge w (xs.length + 1) cap e
    have hcm : grownCap w (xs.length + 1) cap e ≤ maxLen := grownCap_le_maxLen w (xs.length + 1) cap e (by unfold maxLen; omega)
    refine ⟨_, _, w.heap.size, hr, ⟨0, _, _, by simp, heap_alloc_new w.drew _, by simpa using hge, hcm, ?_, ?_⟩, ⟨rfl, rfl, rfl, by simp, fun k hk _ => heap_alloc_old w.drew _ hk⟩, Or.inr (Nat.le_refl _)⟩
    · simp only [Array.size_append, List.size_toArray, size_zeroCells, hzs, List.length_singleton]
      omega
    · simp only [Array.toList_append, List.append_assoc, List.drop_zero]
      rw [← List.append_assoc]
      exact List.take_left
end
end Go.Proofs.U
