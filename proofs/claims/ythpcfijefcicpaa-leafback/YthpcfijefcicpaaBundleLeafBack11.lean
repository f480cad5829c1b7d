/- Texts CM3, E2, E3, E4, W2, T7, X12 of the proof of LeafBack, one behind the other. -/
import Derived.Deep.RegionHeld3
import Derived.Test.YthpcfijefcicpaaBundleLeafBack1
import Derived.Test.YthpcfijefcicpaaBundleLeafBack2
import Derived.Test.YthpcfijefcicpaaBundleLeafBack3
import Derived.Test.YthpcfijefcicpaaBundleLeafBack4
import Derived.Test.YthpcfijefcicpaaBundleLeafBack5
import Derived.Test.YthpcfijefcicpaaBundleLeafBack6
import Derived.Test.YthpcfijefcicpaaBundleLeafBack7
import Derived.Test.YthpcfijefcicpaaBundleLeafBack8
import Derived.Test.YthpcfijefcicpaaBundleLeafBack9
import Derived.Test.YthpcfijefcicpaaBundleLeafBack10
/- A sum bit by bit, as the document has it; no condition but what each states. -/
namespace Go.Proofs.U
set_option linter.unusedSimpArgs false
set_option linter.unusedVariables false

def bitsM (s : BitVec 32) : List Bool := (List.range 32).map (fun i => s.getMsbD i)
def topB (b : Bool) : BitVec 32 := if b then 0x80000000#32 else 0#32
def rstep (s : BitVec 32) (b : Bool) : BitVec 32 := stp (s ^^^ topB b)
theorem bitsM_len (s : BitVec 32) : (bitsM s).length = 32 := by simp [bitsM]
theorem bitsM_get (s : BitVec 32) (i : Nat) (h : i < 32) : (bitsM s).getD i false = s.getMsbD i := by simp [bitsM, List.getD, h]
theorem bitsM_ones : bitsM ones32 = List.replicate 32 true := by decide
theorem bitsM_shift (s : BitVec 32) : (bitsM s).drop 1 ++ [false] = bitsM (s <<< 1) := by
  apply List.ext_getElem
  · simp [bitsM]
  · intro i h1 h2
    have hi : i < 32 := by simpa [bitsM] using h2
    simp only [bitsM, List.getElem_append, List.getElem_drop, List.getElem_map, List.getElem_range, List.length_drop, List.length_map, List.length_range]
    by_cases h31 : i < 32 - 1
    · rw [dif_pos h31]
      simp only [BitVec.getMsbD_shiftLeft]
      rw [Nat.add_comm]
    · rw [dif_neg h31]
      obtain rfl : i = 31 := by omega
      simp
theorem top_shift (b : Bool) : topB b <<< 1 = 0#32 := by cases b <;> decide
theorem rstep_bit (s : BitVec 32) (b : Bool) (i : Nat) (h : i < 32) : (rstep s b).getMsbD i = ((s <<< 1).getMsbD i != ((s.getMsbD 0 != b) && polyB.getMsbD i)) := by
  unfold rstep stp
  rw [BitVec.shiftLeft_xor_distrib, top_shift, BitVec.xor_zero, BitVec.getMsbD_xor, BitVec.msb_xor]
  have e1 : s.msb = s.getMsbD 0 := rfl
  have e2 : (topB b).msb = b := by cases b <;> decide
  rw [e1, e2]
  have e3 : (s.getMsbD 0 ^^ b) = (s.getMsbD 0 != b) := rfl
  rw [e3]
  cases (s.getMsbD 0 != b) <;> simp
/-- so far the new bits, behind them the old ones moved on. -/
def nx (s : BitVec 32) (b : Bool) (i : Nat) : List Bool := (bitsM (rstep s b)).take i ++ (bitsM (s <<< 1)).drop i
theorem nx_len (s : BitVec 32) (b : Bool) (i : Nat) (h : i ≤ 32) : (nx s b i).length = 32 := by simp [nx, bitsM_len]; omega
theorem nx_zero (s : BitVec 32) (b : Bool) : nx s b 0 = bitsM (s <<< 1) := by simp [nx]
theorem nx_end (s : BitVec 32) (b : Bool) : nx s b 32 = bitsM (rstep s b) := by
  simp [nx, List.take_of_length_le, List.drop_of_length_le, bitsM_len]
theorem nx_get (s : BitVec 32) (b : Bool) (i : Nat) (h : i < 32) : (nx s b i).getD i false = (s <<< 1).getMsbD i := by
  have hl : ((bitsM (rstep s b)).take i).length = i := by simp [bitsM_len]; omega
  unfold nx
  rw [List.getD, List.getElem?_append_right (by omega), hl, Nat.sub_self, List.getElem?_drop, Nat.add_zero]
  exact bitsM_get _ i h
theorem nx_set (s : BitVec 32) (b : Bool) (i : Nat) (h : i < 32) : (nx s b i).set i ((rstep s b).getMsbD i) = nx s b (i + 1) := by
  have hl : ((bitsM (rstep s b)).take i).length = i := by simp [bitsM_len]; omega
  have hr : i < (bitsM (rstep s b)).length := by rw [bitsM_len]; exact h
  have hq : i < (bitsM (s <<< 1)).length := by rw [bitsM_len]; exact h
  unfold nx
  rw [List.set_append_right _ _ (by omega), hl, Nat.sub_self, List.drop_eq_getElem_cons hq, List.set_cons_zero, List.take_succ_eq_append_getElem hr, List.append_assoc]
  congr 2
  simp [bitsM]
theorem nx_same (s : BitVec 32) (b : Bool) (i : Nat) (h : i < 32) (hq : (rstep s b).getMsbD i = (s <<< 1).getMsbD i) : nx s b i = nx s b (i + 1) := by
  rw [← nx_set s b i h, hq, ← nx_get s b i h]
  have hl : i < (nx s b i).length := by rw [nx_len s b i (by omega)]; exact h
  have : (nx s b i).getD i false = (nx s b i)[i] := by simp [List.getD, hl]
  rw [this, List.set_getElem_self]

/-- a byte bit by bit. -/
theorem stp_byte : ∀ c : BitVec 8, stp (byt c) = stp (topB c.msb) ^^^ byt (c <<< 1) := by decide +kernel
theorem stpN_byte (n : Nat) (s : BitVec 32) (c : BitVec 8) : stpN (n + 1) (s ^^^ byt c) = stpN n (rstep s c.msb ^^^ byt (c <<< 1)) := by
  rw [stpN]; congr 1
  rw [stp_xor, stp_byte, rstep, stp_xor, BitVec.xor_assoc]
theorem byt0 : byt 0#8 = 0#32 := by decide
theorem wb_bits (s : BitVec 32) (c : BitVec 8) : wb s c = (List.range 8).foldl (fun t r => rstep t (c.getLsbD (7 - r))) s := by
  have key : ∀ r, r ≤ 8 → stpN 8 (s ^^^ byt c) = stpN (8 - r) ((List.range r).foldl (fun t r => rstep t (c.getLsbD (7 - r))) s ^^^ byt (c <<< r)) := by
    intro r
    induction r with
    | zero => intro _; simp
    | succ r ih =>
      intro h
      rw [ih (by omega), show 8 - r = (8 - (r + 1)) + 1 by omega, stpN_byte, List.range_succ, List.foldl_append]
      simp only [List.foldl_cons, List.foldl_nil]
      have e1 : (c <<< r).msb = c.getLsbD (7 - r) := by
        rw [BitVec.msb_eq_getLsbD_last, BitVec.getLsbD_shiftLeft]
        have : r < 8 := by omega
        simp; omega
      rw [e1, ← BitVec.shiftLeft_add]
  unfold wb
  rw [key 8 (by omega)]
  have e8 : c <<< 8 = 0#8 := by simp
  rw [e8, byt0, BitVec.xor_zero]; rfl
/-- number of the bits so far. -/
theorem num_step (s : BitVec 32) (i : Nat) (h : i < 32) : s.toNat / 2 ^ (31 - i) = s.toNat / 2 ^ (32 - i) * 2 + (if s.getMsbD i then 1 else 0) := by
  have e : 32 - i = (31 - i) + 1 := by omega
  rw [e, Nat.pow_succ, ← Nat.div_div_eq_div_mul]
  have hb : s.getMsbD i = decide (s.toNat / 2 ^ (31 - i) % 2 = 1) := by
    have : s.getMsbD i = s.getLsbD (31 - i) := by
      rw [BitVec.getMsbD_eq_getLsbD]; simp [h]
    rw [this, BitVec.getLsbD, Nat.testBit_eq_decide_div_mod_eq]
  rw [hb]
  by_cases hc : s.toNat / 2 ^ (31 - i) % 2 = 1
  · simp [hc]; omega
  · simp [hc]; omega
end Go.Proofs.U
/- Contract of the document's own sum. -/
namespace Go.Proofs.Ythpcfijefcicpaa
open Go.RowKit Go.Proofs.U
set_option linter.unusedSimpArgs false
set_option linter.unusedVariables false

def crcBit (l : List Int) (n : Nat) : Bool := l.getD (n / 8) 0 / 2 ^ (7 - n % 8) % 2 == 1
def sN (l : List Int) : Nat → BitVec 32
  | 0 => ones32
  | n + 1 => rstep (sN l n) (crcBit l n)
theorem bit_of (c : Int) (h : 0 ≤ c ∧ c < 256) (r : Nat) : (c / 2 ^ r % 2 == 1) = (BitVec.ofInt 8 c).getLsbD r := by
  obtain ⟨C, rfl⟩ := Int.eq_ofNat_of_zero_le h.1
  rw [BitVec.ofInt_natCast, BitVec.getLsbD, BitVec.toNat_ofNat, Nat.mod_eq_of_lt (by omega), Nat.testBit_eq_decide_div_mod_eq]
  have e : (C : Int) / 2 ^ r % 2 = ((C / 2 ^ r % 2 : Nat) : Int) := by simp
  rw [e]
  by_cases hc : C / 2 ^ r % 2 = 1
  · rw [hc]; rfl
  · have : C / 2 ^ r % 2 = 0 := by omega
    rw [this]; rfl
theorem sN_bytes (l : List Int) (hw : ∀ n ∈ l, (Lit.int .u8 n).wf = true) (q : Nat) (hq : q ≤ l.length) : sN l (8 * q) = crcF ones32 ((l.take q).map (BitVec.ofInt 8)) := by
  induction q with
  | zero => rfl
  | succ q ih =>
    have hlt : q < l.length := by omega
    have hc := u8_bd (hw l[q] (by simp))
    have hd : l.getD q 0 = l[q] := by simp [List.getD, hlt]
    rw [List.take_succ_eq_append_getElem hlt, List.map_append, crcF_append, ← ih (by omega)]
    show sN l (8 * q + 8) = wb (sN l (8 * q)) (BitVec.ofInt 8 l[q])
    rw [wb_bits]
    have key : ∀ r, r ≤ 8 → sN l (8 * q + r) = (List.range r).foldl (fun t r => rstep t ((BitVec.ofInt 8 l[q]).getLsbD (7 - r))) (sN l (8 * q)) := by
      intro r
      induction r with
      | zero => intro _; rfl
      | succ r ihr =>
        intro h
        rw [List.range_succ, List.foldl_append, ← ihr (by omega)]
        show rstep (sN l (8 * q + r)) (crcBit l (8 * q + r)) = rstep _ _
        congr 1
        unfold crcBit
        rw [show (8 * q + r) / 8 = q by omega, show (8 * q + r) % 8 = r by omega, hd]
        exact bit_of _ hc _
    exact key 8 (by omega)
theorem sN_all (l : List Int) (hw : ∀ n ∈ l, (Lit.int .u8 n).wf = true) : ((sN l (8 * l.length)).toNat : Int) = crcI l := by
  rw [sN_bytes l hw l.length (Nat.le_refl _), List.take_length]; rfl

theorem size4 : (Try.prog.info? 4).map (·.size) = some 1 := by kernel_rfl
section
variable {w : World} {ops : Array Oper} {o : Oper} {a : Act} {K : Act → World → Prop} {Q : Exit → Act → World → Prop} {E : Prop}
set_option maxRecDepth 100000 in
theorem step_copy32 (hgd : o.guard = none) (d s : Operand) (ho : o.op = .call { callee := .builtin .copy, args := #[d, s], argTypes := #[83, 83] })
    (g g2 : Nat) (hd : a.eval d = .slice (some ⟨g, 0, none⟩) 32 32) (hs : a.eval s = .slice (some ⟨g2, 1, none⟩) 31 31) (zs bs : List Bool) (hA : Arr w g zs) (hB : Arr w g2 bs) (hz : zs.length = 32) (hb : bs.length = 32)
    (h : ∀ w', Arr w' g (bs.drop 1 ++ zs.drop 31) → Fr (onG g) w w' → w'.heap.size = w.heap.size → K (a.put o.dst (goInt 31)) w') : if Region.wanted o (yielded ops a.tmps) = true then Oper.wp Try.prog o a w K Q else E := by
  have hw : Region.wanted o (yielded ops a.tmps) = true := by simp [Region.wanted, hgd]
  rw [if_pos hw]
  obtain ⟨t, ht⟩ := hA
  have hcl : ((bs.drop 1).map Value.bool).length = 31 := by simp [hb]
  have hrun := run_copy_row (P := Try.prog) w 83 83 o.type 4 g 0 32 32 ⟨g2, 1, none⟩ 31 31 (bv zs) t ((bs.drop 1).map Value.bool) Try.underlying83 size4 ht (by rw [hcl]; decide) (fun j v hv => by
      rw [Addr.plain]
      have hj : j < 31 := by have := (List.getElem?_eq_some_iff.1 hv).1; omega
      have hj2 : 1 + j < bs.length := by omega
      rw [(hB.cell (1 + j) hj2).1]
      rw [List.getElem?_map, List.getElem?_drop, List.getElem?_eq_getElem hj2] at hv
      simp only [Option.map_some, Option.some.injEq] at hv
      rw [← hv]; simp [List.getD, hj2]) (by rw [hcl, bv_size]; omega) (by
      intro v hv; obtain ⟨x, _, rfl⟩ := List.mem_map.1 hv; rfl)
  rw [hcl] at hrun
  unfold Oper.wp
  simp only [execOp, ho]
  simp [resolve, invoke, builtin, hd, hs, hrun, Result.andThen]
  refine h _ ⟨t, ?_⟩ ?_ (by simp [World.setRow])
  · rw [setRow_heap w g _ _ t _ ht]
    congr 2
    simp [bv]
  · exact ⟨rfl, rfl, rfl, by simp [World.setRow], fun k hk hn => setRow_other w g k _ (fun q => hn q)⟩
end
end Go.Proofs.Ythpcfijefcicpaa
/- Contract of the document's own sum. -/
namespace Go.Proofs.Ythpcfijefcicpaa
open Go.RowKit Go.Proofs.U
set_option linter.unusedSimpArgs false
set_option linter.unusedVariables false

def ones (k : Nat) : List Bool := List.replicate k true ++ List.replicate (32 - k) false
theorem ones_set : ∀ k : Fin 32, (ones k.val).set k.val true = ones (k.val + 1) := by decide
theorem ones_len : ∀ k : Fin 33, (ones k.val).length = 32 := by decide
theorem ones_0 : ones 0 = List.replicate 32 false := by decide
theorem ones_end : ones 32 = bitsM ones32 := by decide

set_option maxHeartbeats 4000000 in
theorem rof_any (v : Value) (l : List Int) (w : World) (h : SlI .u8 w v l) (hb : l.length ≤ 1000000000000) :
    Calls Try.prog 36 #[v] w fun e w' => e = .returned (.int .u32 (crcI l)) ∧ Fr noB w w' := by
  obtain ⟨a1, c1, rfl, hc1⟩ := h.opn
  have Hall := Hid.mk (sN_all l h.2)
  go_enter Try.func36, Try.ntmps36
  go_wp2_with (first
    | (refine wpList_alloc32 rfl rfl w.heap.size rfl ?_; intro w1 hA1 hf1)
    | (refine wpList_build32 rfl rfl ?_; intro zs Hzs)
    | (refine wpList_store32 rfl _ _ rfl _ rfl _ _ rfl hA1 (by simp) (by rw [Hzs.out]; simp) ?_; intro w2 hA2 hf2 hs2))
  rw [Hzs.out, ← ones_0] at hA2
  have g2 : Fr noB w w2 := hf1.thenT hf2 (fun i hi q => by unfold onG at q; omega)
  generalize hG : w.heap.size = G at *
  have HG := Hid.mk hG
  clear hG hA1 hs2
  go_loopw [15] (fun i wr => ∃ k : Nat, k ≤ 32 ∧ i = .int .i64 k ∧ Arr wr G (ones k) ∧ Fr noB w wr) (fun i _ => 32 - (intOf i).toNat)
  case atStart => exact ⟨0, by omega, rfl, hA2, g2⟩
  case round =>
    obtain ⟨k, hk, rfl, hA, hf⟩ := hrel
    by_cases hlt : k < 32
    · have Hs := Hid.mk (ones_set ⟨k, hlt⟩)
      have Hl := Hid.mk (ones_len ⟨k, by omega⟩)
      simp only at Hs Hl
      obtain ⟨z1, z2⟩ := hA.cell k (by rw [Hl.out]; omega)
      go_wp2
      go_roundw
      case rel => exact ⟨k + 1, by omega, by go_num, by rw [← Hs.out]; exact hA.set k _, hf.setCell _ _ (fun q => by have := HG.out; simp only at q; omega)⟩
      case measure => simp [intOf]; omega
    · obtain rfl : k = 32 := by omega
      rw [ones_end] at hA
      go_wp2_with (first
        | (go_at_call 38; go_must (refine (poly_any _).mono ?_; rintro e w3 ⟨rfl, hf3⟩; have hA3 := hA.fr hf3 (fun q => q)))
        | (refine wpList_alloc32 rfl rfl w3.heap.size rfl ?_; intro w4 hP4 hf4; have hA4 := hA3.fr hf4 (fun q => q))
        | (refine wpList_store32 rfl _ _ rfl _ rfl _ _ rfl hP4 (by simp) pbits_len ?_; intro w5 hP5 hf5 hs5))
      have hne : G ≠ w3.heap.size := by have := hA3.lt; omega
      have hA5 := hA4.fr hf5 (fun q => by unfold onG at q; omega)
      have g5 : Fr noB w w5 := ((hf.thenN hf3).thenN hf4).thenT hf5 (fun i hi q => by have := hf.size; have := hf3.size; unfold onG at q; omega)
      have hwH : w.heap.size ≤ w3.heap.size := by have := hf.size; have := hf3.size; omega
      generalize hH : w3.heap.size = H at *
      clear hH hP4 hA3 hA4 hs5 hf5 hf4 hf3
      have e0 : bitsM ones32 = bitsM (sN l 0) := rfl
      rw [e0] at hA5
      go_loopw [6] (fun i wr => ∃ n : Nat, n ≤ 8 * l.length ∧ i = .int .i64 n ∧ Arr wr G (bitsM (sN l n)) ∧ Arr wr H pbits ∧ Fr noB w wr) (fun i _ => 8 * l.length - (intOf i).toNat)
      case atStart => exact ⟨0, by omega, rfl, hA5, hP5, g5⟩
      case round =>
        obtain ⟨n, hn, rfl, hA, hP, hf⟩ := hrel
        by_cases hlt : n < 8 * l.length
        · have hq : n / 8 < l.length := by omega
          have hS := (h.fr0 hf).1
          have hcb := u8_bd (h.2 l[n / 8] (by simp))
          have hd : l.getD (n / 8) 0 = l[n / 8] := by simp [List.getD, hq]
          have Hbit : Hid (crcBit l n = (l[n / 8] / 2 ^ (7 - n % 8) % 2 == 1)) := by show _ = _; unfold crcBit; rw [hd]
          have hi1 : (n : Int) < 8 * (l.length : Int) := by omega
          obtain ⟨z1, z2⟩ := hA.cell 0 (by rw [bitsM_len]; omega)
          rw [bitsM_get _ 0 (by omega)] at z1
          generalize l[n / 8] = c at *
          go_wp2_with (first
            | (refine wpList_idx1 rfl 45 _ _ rfl 5 Try.underlying45 size5 _ _ _ rfl hS _ _ (n / 8) rfl (by omega) hq ?_; intro p u hu hc; obtain rfl := getu _ _ _ _ hu; rw [hd] at hc)
            | (refine wpList_alloc32 rfl rfl wr.heap.size rfl ?_; intro w6 hN6 hf6)
            | (refine wpList_build32 rfl rfl ?_; intro zs2 Hzs2)
            | (refine wpList_store32 rfl _ _ rfl _ rfl _ _ rfl hN6 (by simp) (by rw [Hzs2.out]; simp) ?_; intro w7 hN7 hf7 hs7))
          have hx0 : 0 ≤ c / 2 ^ (7 - n % 8) := Int.ediv_nonneg hcb.1 (Int.le_of_lt (Int.pow_pos (by decide)))
          have hBt : ((c / 2 ^ (7 - n % 8)).tmod 2 == 1) = crcBit l n := by rw [Hbit.out, Int.tmod_eq_emod_of_nonneg hx0]
          rw [hBt]
          clear hBt
          have Hstep : Hid (sN l (n + 1) = rstep (sN l n) (crcBit l n)) := rfl
          generalize crcBit l n = B at *
          generalize sN l n = s at *
          have hT : (!(s.getMsbD 0 == B)) = (s.getMsbD 0 != B) := rfl
          rw [hT]
          generalize hTT : (s.getMsbD 0 != B) = T at *
          have HT := Hid.mk hTT
          clear hTT hT
          have hG7 : G < w7.heap.size := by have := hA.lt; have := hf6.size; omega
          have hA7 : Arr w7 G (bitsM s) := (hA.fr hf6 (fun q => q)).fr hf7 (fun q => by have := hA.lt; unfold onG at q; omega)
          have hP7 : Arr w7 H pbits := (hP.fr hf6 (fun q => q)).fr hf7 (fun q => by have := hP.lt; unfold onG at q; omega)
          have g7 : Fr noB w w7 := (hf.thenN hf6).thenT hf7 (fun i hi q => by have := hf.size; unfold onG at q; omega)
          have hnG : G ≠ wr.heap.size := by have := hA.lt; omega
          have hnH : H ≠ wr.heap.size := by have := hP.lt; omega
          have hwN : w.heap.size ≤ wr.heap.size := hf.size
          generalize hNN : wr.heap.size = N at *
          clear hNN hN6 hf6 hf7 z1 z2
          have dr : Fr noB w7 w7.drew := (Fr.refl _ _).drew
          have hN7d := hN7.fr dr (fun q => q)
          have hA7d := hA7.fr dr (fun q => q)
          go_region_held3 (fun _ => True) (trivial) ((refine step_copy32 rfl _ _ rfl N G rfl rfl zs2 (bitsM s) hN7d hA7d (by rw [Hzs2.out]; simp) (bitsM_len _) ?_; intro w8 hN8 hf8 hs8))
          have e31 : (bitsM s).drop 1 ++ zs2.drop 31 = nx s B 0 := by rw [Hzs2.out, nx_zero, ← bitsM_shift]; rfl
          rw [e31] at hN8
          have hA8 := hA7d.fr hf8 (fun q => by unfold onG at q; omega)
          have hP8 := (hP7.fr dr (fun q => q)).fr hf8 (fun q => by unfold onG at q; omega)
          have g8 : Fr noB w w8 := (g7.thenN dr).thenT hf8 (fun i hi q => by unfold onG at q; omega)
          clear hN7d hA7d hN7 hA7 hP7 e31
          have Hrb := Hid.mk (rstep_bit s B)
          rw [HT.out] at Hrb
          go_wp2_with fail
          go_loopw [48] (fun i wr' => ∃ k : Nat, k ≤ 32 ∧ i = .int .i64 k ∧ Arr wr' N (nx s B k) ∧ Arr wr' G (bitsM s) ∧ Arr wr' H pbits ∧ Fr noB w wr') (fun i _ => 32 - (intOf i).toNat)
          case atStart => exact ⟨0, by omega, rfl, hN8, hA8, hP8, g8⟩
          case round =>
            obtain ⟨k, hk, rfl, hN, hA, hP, hf⟩ := hrel
            by_cases hk32 : k < 32
            · have Hg := Hid.mk (nx_get s B k hk32)
              have Hl := Hid.mk (nx_len s B k hk)
              have Hr := Hid.mk (Hrb.out k hk32)
              have Hset := Hid.mk (nx_set s B k hk32)
              have Hsame := Hid.mk (nx_same s B k hk32)
              have hki : (k : Int) < 32 := by omega
              have hpk : pbits.getD k false = polyB.getMsbD k := by simp [pbits, List.getD, hk32]
              obtain ⟨p1, p2⟩ := hP.cell k (by rw [pbits_len]; omega)
              obtain ⟨n1, n2⟩ := hN.cell k (by rw [Hl.out]; omega)
              rw [Hg.out] at n1
              rw [hpk] at p1
              generalize polyB.getMsbD k = pk at *
              generalize (s <<< 1).getMsbD k = bk at *
              cases T with
              | false =>
                go_wp2
                go_roundw
                case rel => exact ⟨k + 1, by omega, by go_num, by rw [← Hsame.out (by rw [Hr.out]; simp)]; exact hN, hA, hP, hf⟩
                case measure => simp [intOf]; omega
              | true =>
                cases pk with
                | false =>
                  go_wp2
                  go_roundw
                  case rel => exact ⟨k + 1, by omega, by go_num, by rw [← Hsame.out (by rw [Hr.out]; simp)]; exact hN, hA, hP, hf⟩
                  case measure => simp [intOf]; omega
                | true =>
                  go_wp2
                  go_roundw
                  case rel =>
                    refine ⟨k + 1, by omega, by go_num, ?_, hA.fr ((Fr.refl (onG N) _).setCell _ _ (fun _ => rfl)) (fun q => by unfold onG at q; omega), hP.fr ((Fr.refl (onG N) _).setCell _ _ (fun _ => rfl)) (fun q => by unfold onG at q; omega), hf.setCell _ _ (fun q => by simp only at q; omega)⟩
                    rw [← Hset.out, Hr.out]
                    have e9 : (bk != (true && true)) = !bk := by cases bk <;> rfl
                    rw [e9]
                    exact hN.set k _
                  case measure => simp [intOf]; omega
            · obtain rfl : k = 32 := by omega
              rw [nx_end] at hN
              go_wp2_with (first
                | (refine wpList_load32 rfl _ rfl _ rfl _ hN (bitsM_len _) ?_)
                | (refine wpList_store32 rfl _ _ rfl _ rfl _ _ rfl hA (bitsM_len _) (bitsM_len _) ?_; intro w9 hA9 hf9 hs9))
              go_roundw
              case rel => exact ⟨n + 1, by omega, by go_num, by rw [Hstep.out]; exact hA9, hP.fr hf9 (fun q => by unfold onG at q; omega), hf.thenT hf9 (fun i hi q => by have := HG.out; unfold onG at q; omega)⟩
              case measure => simp [intOf]; omega
        · obtain rfl : n = 8 * l.length := by omega
          go_wp2_with (refine wpList_load32 rfl _ rfl _ rfl _ hA (bitsM_len _) ?_)
          generalize sN l (8 * l.length) = s at *
          have hs32 := s.isLt
          go_loop [11, 66] (fun x i => ∃ k : Nat, k ≤ 32 ∧ i = .int .i64 k ∧ x = .int .u32 ((s.toNat / 2 ^ (32 - k) : Nat) : Int)) (fun _ i => 32 - (intOf i).toNat)
          case atStart => exact ⟨0, by omega, rfl, by rw [Nat.div_eq_of_lt (by simpa using hs32)]; rfl⟩
          case round =>
            obtain ⟨k, hk, rfl, rfl⟩ := hrel
            by_cases hk32 : k < 32
            · have Hns := Hid.mk (num_step s k hk32)
              have hle : s.toNat / 2 ^ (31 - k) ≤ s.toNat := Nat.div_le_self _ _
              have hb2 : s.toNat / 2 ^ (32 - k) * 2 < 4294967296 := by
                have := Hns.out
                split at this <;> omega
              have hgb := bitsM_get s k hk32
              generalize hX : s.toNat / 2 ^ (32 - k) = X at *
              cases hbb : s.getMsbD k with
              | false =>
                rw [hbb] at hgb Hns
                have Hn2 := Hns
                clear hX hbb Hns
                go_wp2_with (refine wpList_index32 rfl _ _ rfl _ rfl (bitsM_len _) k rfl hk32 ?_; rw [hgb])
                go_round
                case rel => exact ⟨k + 1, by omega, by go_num, by have := Hn2.out; rw [show 32 - (k + 1) = 31 - k by omega, this]; simp⟩
                case measure => simp [intOf]; omega
              | true =>
                rw [hbb] at hgb Hns
                have Hn2 := Hns
                clear hX hbb Hns
                go_wp2_with (refine wpList_index32 rfl _ _ rfl _ rfl (bitsM_len _) k rfl hk32 ?_; rw [hgb])
                go_round
                case rel => exact ⟨k + 1, by omega, by go_num, by have := Hn2.out; rw [show 32 - (k + 1) = 31 - k by omega, this]; simp⟩
                case measure => simp [intOf]; omega
            · obtain rfl : k = 32 := by omega
              go_wp2
              go_ret
              refine ⟨?_, hf⟩
              rw [← Hall.out]; simp
end Go.Proofs.Ythpcfijefcicpaa
/- Contracts of the document's own Seal and Open; the walk of CrcOpens: it answers true for all bytes. -/
namespace Go.Proofs.Ythpcfijefcicpaa
open Go.RowKit Go.Proofs.U
set_option linter.unusedSimpArgs false
set_option linter.unusedVariables false

set_option maxHeartbeats 2000000 in
theorem rseal_any (v : Value) (l : List Int) (w : World) (h : SlI .u8 w v l) (hb : l.length ≤ 1000000000000) :
    Calls Try.prog 28 #[v] w fun e w' => ∃ v', e = .returned v' ∧ OwnI .u8 5 w' w.heap.size v' (sealI l) ∧ Fr noB w w' := by
  obtain ⟨a1, c1, rfl, hc1⟩ := h.opn
  have hcb := crcI_bd l
  obtain ⟨N, HN⟩ : ∃ N, Hid (crcI l = N) := ⟨_, rfl⟩
  rw [HN.out] at hcb
  go_enter Try.func28, Try.ntmps28
  go_wp2_with (first
    | (go_at_call 36; go_must (refine (rof_any _ _ _ h hb).mono ?_; rintro e w1 ⟨rfl, hf1⟩; rw [HN.out]; have s1 := h.fr0 hf1))
    | (at_builtin; first
      | (refine wpList_app rfl (.tmp 7) (.tmp 8) 45 rfl w1.heap.size 5 _ 1 1 Try.underlying45 info5 rfl (by decide) _ _ _ rfl (World.ownsRow_made _ #[] 0 (Nat.le_refl _) (Nat.zero_le _) rfl) _ _ _ rfl (s1.1.fr0 ((Fr.refl _ _).alloc _)) (U.ones _ _) ?hq1 ?hq2 ?hq3 ?_; rotate_left 3; intro v2 w2 hown2 hgr2; have hf2 := ((Fr.refl noB w1).alloc _).grown hgr2 (owns_new (World.ownsRow_made (e := 5) (size := 1) w1 #[] 0 (Nat.le_refl _) (Nat.zero_le _) rfl)); have ho2 : OwnI .u8 5 w2 w1.heap.size v2 l := OwnI.mk _ hown2 (by simp); obtain ⟨a2, c2, rfl⟩ := ho2.opn)
      | go_must (refine wpList_app rfl (.tmp 10) (.tmp 25) 45 rfl w1.heap.size 5 _ 1 1 Try.underlying45 info5 rfl (by decide) _ _ _ rfl (owns_alloc ho2 _) _ _ _ rfl (Sl_made _ _ _ 4 _ rfl (by simp)) ?h1 ?hr1 ?hr2 ?hr3 ?_; rotate_left 4; intro v4 w4 hown4 hgr4)))
  case h1 => simp [Value.oneCell']
  case hr1 => unfold maxLen; omega
  case hr2 => omega
  case hr3 => have := hf2.size; simp; omega
  case hq1 => unfold maxLen; omega
  case hq2 => omega
  case hq3 => simp
  go_ret
  exact ⟨_, rfl, (OwnI.mk _ hown4 (by simp [sealI, be4I, HN.out]) : OwnI .u8 5 w4 w1.heap.size v4 (sealI l)).rebase hf1.size, hf1.thenN ((hf2.alloc _).grown hgr4 (owns_new ho2))⟩

end Go.Proofs.Ythpcfijefcicpaa
/- The document's root as a page: Page; number. -/
namespace Go.Proofs.Ythpcfijefcicpaa
open Go.RowKit Go.Proofs.U
set_option linter.unusedSimpArgs false
set_option linter.unusedVariables false
/-- The place in the stream of a byte of a page. -/
def kpos (i : Nat) : Nat := i / 32 * 24 + (i % 32 - 8)
theorem kpos_head {i : Nat} (h : i % 32 < 8) : kpos (i + 1) = kpos i := by unfold kpos; omega
theorem kpos_rest {i : Nat} (h : ¬ i % 32 < 8) : kpos (i + 1) = kpos i + 1 := by unfold kpos; omega
theorem kpos_lt {i : Nat} (h : i < 256) : kpos i ≤ 192 := by unfold kpos; omega
/-- The root's first k bytes, zeros behind them. -/
def rootN (g : Int) (c : List Int) (k : Nat) : List Int := (List.range 256).map fun i => if i < k then (rootP g c).getD i 0 else 0
theorem rootN_len (g : Int) (c : List Int) (k : Nat) : (rootN g c k).length = 256 := by unfold rootN; rw [List.length_map, List.length_range]
theorem rootN_get (g : Int) (c : List Int) (k i : Nat) (h : i < 256) : (rootN g c k).getD i 0 = if i < k then (rootP g c).getD i 0 else 0 := getD_map _ _ _ h
theorem rootN_zero (g : Int) (c : List Int) : rootN g c 0 = zeroP := by
  apply ext_getD
  · rw [rootN_len, zeroP_len]
  · intro i hi
    rw [rootN_len] at hi
    rw [rootN_get _ _ _ _ hi, if_neg (by omega)]
    unfold zeroP
    rw [List.getD, List.getElem?_replicate, if_pos hi]; rfl
theorem rootN_end (g : Int) (c : List Int) : rootN g c 256 = rootP g c := by
  apply ext_getD
  · rw [rootN_len, rootP_len]
  · intro i hi
    rw [rootN_len] at hi
    rw [rootN_get _ _ _ _ hi, if_pos hi]
theorem set_getD (l : List Int) (k : Nat) (y : Int) (i : Nat) (hk : k < l.length) : (l.set k y).getD i 0 = if i = k then y else l.getD i 0 := by
  simp only [List.getD]
  rw [List.getElem?_set]
  by_cases h : k = i
  · subst h; simp [hk]
  · rw [if_neg h, if_neg (fun e => h e.symm)]
theorem rootN_succ (g : Int) (c : List Int) (k : Nat) (hk : k < 256) (y : Int) (hy : (rootP g c).getD k 0 = y) : rootN g c (k + 1) = (rootN g c k).set k y := by
  apply ext_getD
  · rw [List.length_set, rootN_len, rootN_len]
  · intro i hi
    rw [rootN_len] at hi
    rw [set_getD _ _ _ _ (by rw [rootN_len]; exact hk), rootN_get _ _ _ _ hi, rootN_get _ _ _ _ hi]
    by_cases h : i = k
    · subst h; rw [if_pos (by omega), if_pos rfl, hy]
    · rw [if_neg h]
      by_cases h2 : i < k
      · rw [if_pos (by omega), if_pos h2]
      · rw [if_neg (by omega), if_neg h2]
theorem rootN_same (g : Int) (c : List Int) (k : Nat) (hk : k < 256) (hy : (rootP g c).getD k 0 = 0) : rootN g c (k + 1) = rootN g c k := by
  rw [rootN_succ g c k hk 0 hy]
  apply ext_getD
  · rw [List.length_set]
  · intro i hi
    rw [List.length_set, rootN_len] at hi
    rw [set_getD _ _ _ _ (by rw [rootN_len]; exact hk)]
    split
    · rename_i h; subst h; rw [rootN_get _ _ _ _ hi, if_neg (by omega)]
    · rfl
theorem rootP_head (g : Int) (c : List Int) {i : Nat} (hi : i < 256) (h : i % 32 < 8) : (rootP g c).getD i 0 = (leB 8 g).getD (i % 32) 0 := by rw [rootP_get _ _ _ hi, if_pos h]
theorem rootP_rest (g : Int) (c : List Int) {i : Nat} (hi : i < 256) (h : ¬ i % 32 < 8) : (rootP g c).getD i 0 = (strm c).getD (kpos i) 0 := by
  rw [rootP_get _ _ _ hi, if_neg h, st192, getD_map _ _ _ (by omega)]; rfl

theorem leNum_at (p : List Int) (a j : Nat) (h : a < p.length) : leNum ((p.drop a).take (j + 1)) = p.getD a 0 + 256 * leNum ((p.drop (a + 1)).take j) := by
  rw [List.drop_eq_getElem_cons h, List.take_succ_cons]
  simp [leNum, List.getD, h]
theorem leNum_bd8 {p : List Int} (hb : Byt p) (a j : Nat) (hj : j ≤ 7) : 0 ≤ leNum ((p.drop a).take j) ∧ leNum ((p.drop a).take j) < 72057594037927936 := by
  have h1 := leNum_bd ((p.drop a).take j) (fun x hx => u8_bd (((hb.drop _).take _) x hx))
  have h2 : ((p.drop a).take j).length ≤ 7 := by simp; omega
  refine ⟨h1.1, Int.lt_of_lt_of_le h1.2 ?_⟩
  generalize ((p.drop a).take j).length = n at h2
  clear h1
  have : n = 0 ∨ n = 1 ∨ n = 2 ∨ n = 3 ∨ n = 4 ∨ n = 5 ∨ n = 6 ∨ n = 7 := by omega
  rcases this with rfl | rfl | rfl | rfl | rfl | rfl | rfl | rfl <;> decide

end Go.Proofs.Ythpcfijefcicpaa
/- The document's counts as a page: Page. (Written by t7_gen.py.) -/
namespace Go.Proofs.Ythpcfijefcicpaa
open Go.RowKit Go.Proofs.U
set_option linter.unusedSimpArgs false
set_option linter.unusedVariables false
theorem SlR_new {α : Type} (w : World) (t : TypeId) (ec : α → List Value) (sz : Nat) (x : α) (hx : (ec x).length = sz) : SlR ec sz (w.alloc (.cells (ec x).toArray t)) (.slice (some ⟨w.heap.size, 0, none⟩) 1 1) [x] := by
  refine ⟨?_, ?_⟩
  · intro y hy; simp at hy; subst hy; exact hx
  · refine ⟨some ⟨w.heap.size, 0, none⟩, 1, rfl, Nat.le_refl _, by simp [hx], (fun h => by cases h), fun ad had j u hj => ?_⟩
    cases had
    have hj' : (ec x)[j]? = some u := by simpa using hj
    rw [Addr.plain, Nat.zero_add, World.cell?_alloc_new]
    simpa using hj'
/-- The first k of some bytes, noughts behind them. -/
def laid (n : Nat) (S : List Int) (k : Nat) : List Int := S.take k ++ zerB (n - k)
theorem laid_zero (n : Nat) (S : List Int) : laid n S 0 = zerB n := by simp [laid]
theorem laid_len (n : Nat) (S : List Int) (k : Nat) (h : k ≤ S.length) (hn : k ≤ n) : (laid n S k).length = n := by
  simp only [laid, List.length_append, List.length_take, zerB_len]; omega
theorem laid_set (n : Nat) (S : List Int) (k : Nat) (h : k < S.length) (hn : k < n) : (laid n S k).set k (S.getD k 0) = laid n S (k + 1) := by
  unfold laid
  have e : S.getD k 0 = S[k] := by simp [List.getD, h]
  have l1 : (S.take k).length = k := by rw [List.length_take]; omega
  rw [List.set_append_right _ _ (by omega), l1, Nat.sub_self, e, List.take_succ_eq_append_getElem h]
  unfold zerB
  rw [show n - k = (n - (k + 1)) + 1 by omega, List.replicate_succ, List.set_cons_zero, List.append_assoc]
  rfl
/-- While the document's page is sealed. -/
def JTD (w0 : World) (G : Int) (N8 L S : List Int) : List Value → World → Prop
  | [], W => W = w0
  | [v], W => SlR (pW 8) 2 W v [G] ∧ Fr noB w0 W
  | [_, v], W => OwnI .u8 5 W w0.heap.size v N8 ∧ Fr noB w0 W
  | [_, _, v], W => SlI .u8 W v L ∧ Fr noB w0 W
  | [_, _, _, v], W => OwnI .u8 5 W w0.heap.size v S ∧ Fr noB w0 W
  | [_, _, _, _, v], W => OwnI .u8 5 W w0.heap.size v S ∧ Fr noB w0 W
  | _, _ => False

end Go.Proofs.Ythpcfijefcicpaa
/- The document's Page. (Written by x12_gen.py.) -/
namespace Go.Proofs.Ythpcfijefcicpaa
open Go.RowKit Go.Proofs.U
set_option linter.unusedSimpArgs false
set_option linter.unusedVariables false
theorem run_mk1_u8 (x : Int) (w : World) : (Instr.buildSlice 45 1 #[(0, .int .u8 x)]).run Try.prog w = .ok (.slice (some ⟨w.heap.size, 0, none⟩) 1 1) (w.alloc (.cells #[.int .u8 x] 5)) := by simp [go_sem]
theorem run_mk2_u8 (x y : Int) (w : World) : (Instr.buildSlice 45 2 #[(0, .int .u8 x), (1, .int .u8 y)]).run Try.prog w = .ok (.slice (some ⟨w.heap.size, 0, none⟩) 2 2) (w.alloc (.cells #[.int .u8 x, .int .u8 y] 5)) := by simp [go_sem]
theorem wrap_u8_sm {x : Int} (h0 : 0 ≤ x) (h1 : x < 256) : IntKind.u8.wrap x = x := by
  simp [IntKind.wrap, IntKind.bits, IntKind.signed, IntKind.min, IntKind.max]
  omega

set_option maxRecDepth 100000 in
set_option maxHeartbeats 2000000 in
theorem rpage_1 (n : Nd) (vs : Value) (w : World) (h : NdS w vs n) (hr : n.right = true) (hk : n.k = 1) :
    Calls Try.prog 18 #[ndV n.k n.b vs] w fun r w' => r = .returned (.tuple #[pgV n.page, .int .i64 0]) ∧ Fr noB w w' := by
  have Hb := show Hid _ from h.2.1.1
  have hy := h.2.1.2
  have hbd := body_byt hr h.2.1
  have hbl := body_len hr Hb.out
  obtain ⟨a0, c0, rfl, hc0⟩ := h.1.1.opn
  have hS := h.1.1
  obtain ⟨Z, HZ⟩ : ∃ Z, Hid (zerB 256 = Z) := ⟨_, rfl⟩
  have hZl : Hid (Z.length = 256) := by show _ = _; rw [← HZ.out]; exact zerB_len 256
  obtain ⟨D, HD⟩ : ∃ D, Hid (n.body = D) := ⟨_, rfl⟩
  rw [HD.out] at hbd hbl
  have hDl1 : D.length ≤ 1000000000000 := Nat.le_trans hbl (by decide)
  obtain ⟨S, HS⟩ : ∃ S, Hid (sealI D = S) := ⟨_, rfl⟩
  have hSb : Byt S := by rw [← HS.out]; exact sealI_wf _ hbd
  have hSl : S.length ≤ 21 := by rw [← HS.out, sealI_length]; omega
  obtain ⟨R, HR⟩ : ∃ R, Hid (n.page = R) := ⟨_, rfl⟩
  have hend : Hid (laid 256 S S.length = R) := by
    show _ = _
    unfold laid
    rw [List.take_of_length_le (Nat.le_refl _), ← HR.out, ← HS.out, ← HD.out, sealI_length]; rfl
  rw [HR.out]
  have hD1 : Hid ([n.k] ++ n.b = D) := by show _ = _; rw [← HD.out]; unfold Nd.body; rw [if_pos hk]; rfl
  have hDm : Hid ([n.k].map (Value.int .u8) ++ n.b.map (Value.int .u8) = D.map (Value.int .u8)) := by show _ = _; rw [← hD1.out]; simp
  have hkw : IntKind.u8.wrap n.k = n.k := wrap_u8_sm (by omega) (by omega)
  have hk1 : (n.k == 1) = true := by simpa using hk
  clear hk
  go_enter Try.func18, Try.ntmps18
  go_wp2_with (first
    | (with_reducible refine at_wpP ?_; have q := ho; refine wpList_allocA arr_page rfl rfl ?_; rw [HZ.out]; intro g7 w11 hg7 b11 f11 s11; have l11 := b11.lt; have z11 := f11.size)
    | (with_reducible refine at_wpP ?_; refine wpList_buildA arr_page rfl rfl ?_; rw [HZ.out])
    | (with_reducible refine at_wpP ?_; refine at_st 23 _ _ rfl ?_; go_must (refine wpList_storeA arr_page rfl _ _ rfl g7 rfl Z rfl _ b11 hZl.out hZl.out ?_; intro w12 b12 f12; have z12 := f12.size; have G12 := Fr.ownX f11 s11 f12))
    | (go_at_call 28; go_must (refine (rseal_any _ D _ (hosl.fr0 G12) hDl1).mono ?_; rw [HS.out]; rintro e w13 ⟨vS, rfl, oS, f13⟩; have z13 := f13.size; have G13 := G12.thenN f13; have b13 := b12.fr0 f13; have I13 := oS.sl hSb; have nS := oS.newB; obtain ⟨aS, cS, rfl⟩ := oS.opn))
    | (with_reducible refine at_wpP ?_; refine wpList_boxN rfl _ rfl n.k n.b (.slice a0 n.es.length c0) rfl ?_; intro g1 w1 hg1 b1 f1 s1; have l1 := b1.lt; have z1 := f1.size)
    | (with_reducible refine at_wpP ?_; have q := b1; refine wpList_allocA arr_page rfl rfl ?_; rw [HZ.out]; intro g2 w2 hg2 b2 f2 s2; have l2 := b2.lt; have z2 := f2.size)
    | (with_reducible refine at_wpP ?_; refine at_ld 31 _ rfl ?_; have q := b2; go_must (refine wpList_ldN rfl _ rfl g1 rfl n.k n.b (.slice a0 n.es.length c0) (b1.fr0 f2) Hb.out ?_))
    | (go_at_call 27; go_must (refine (rright_any n _ _ (h.fr0 (f1.thenN f2))).mono ?_; rw [hr]; rintro e w3 ⟨rfl, f3⟩; have z3 := f3.size; have F3 := (f1.thenN f2).thenN f3; have c1 := (b1.fr0 f2).fr0 f3; have c2 := b2.fr0 f3; have q0 := NdB.kind c1; have q2 := NdB.ents c1 Hb.out))
    | (with_reducible refine at_wpP ?_; have q := f3; refine wpList_mk1I rfl 45 _ rfl 5 .u8 n.k rfl (run_mk1_u8 _) ?_; intro g4 w4 o4 f4 r4 t4; have z4 := f4.size; have c1 := c1.fr0 f4; have q0 := NdB.kind c1; have q2 := NdB.ents c1 Hb.out)
    | (refine at_cut 28 _ none none none rfl ?_; go_must (refine wpList_allOff arr1_block (by decide) rfl _ rfl g1 1 rfl ?_))
    | (at_builtin; go_must (refine wpList_app rfl _ _ 45 rfl w3.heap.size 5 _ 1 1 Try.underlying45 info5 rfl (by decide) _ _ _ rfl o4 _ _ _ rfl (NdB.slI c1 Hb.out hy).1 (Go.Proofs.U.ones _ _) (by rw [Hb.out]; unfold maxLen; simp) (by rw [Hb.out]; simp) f4.size ?_; intro v6 w6 hown6 hgr6; have F6 : Fr noB w3 w6 := f4.grown hgr6 (owns_new o4); have ho : OwnI .u8 5 w6 w3.heap.size v6 D := OwnI.mk _ hown6 hDm.out; have hosl := ho.sl hbd; have z6 := F6.size; obtain ⟨a7, c7, rfl⟩ := ho.opn)))
  clear o4 hown6 hgr6 q0 q2 b1 c1
  have G0 : Fr noB w w13 := (F3.thenN F6).thenN G13
  have c13 : BxV w13 g2 23 (pgv Z) := (c2.fr0 F6).fr0 G13
  have n7 : ∀ k, (Value.slice aS S.length cS).ownBlock = some k → k ≠ g7 := fun k hk => by have := (nS k hk).1; omega
  have g27 : g2 ≠ g7 := by have := (F6).size; omega
  have sg2 : w.heap.size ≤ g2 := by omega
  have sg7 : w.heap.size ≤ g7 := by have := (F6).size; omega
  clear oS hosl
  go_loopw [53] (fun i wr => ∃ (k : Nat) (l : List Int), k ≤ S.length ∧ i = .int .i64 (k : Int) ∧ Hid (l = laid 256 S k) ∧ BxV wr g7 23 (pgv l) ∧ BxV wr g2 23 (pgv Z) ∧ SlI .u8 wr (.slice aS S.length cS) S ∧ Fr noB w wr) (fun i _ => S.length - (intOf i).toNat)
  case atStart => exact ⟨0, Z, by omega, rfl, show _ = _ by rw [← HZ.out, laid_zero], b13, c13, I13, G0⟩
  case round =>
    obtain ⟨k, l, hk, rfl, hl, hB, hC, hI, hf⟩ := hrel
    have hll : Hid (l.length = 256) := by show _ = _; rw [hl.out, laid_len _ _ _ hk (by omega)]
    by_cases hlt : k < S.length
    · have hlt' : (k : Int) < (S.length : Int) := by omega
      obtain ⟨y, Hy⟩ : ∃ y, Hid (S.getD k 0 = y) := ⟨_, rfl⟩
      have hs := show Hid _ from laid_set 256 S k hlt (by omega)
      rw [← hl.out, Hy.out] at hs
      have d1 : (0 : Int) ≤ (k : Int) := by omega
      have d2 : (k : Int) < 256 := by omega
      go_wp2_with (first
        | (refine at_idx 45 _ _ rfl ?_; go_must (refine wpList_idx1 rfl 45 _ _ rfl 5 Try.underlying45 size5 _ _ _ rfl hI.1 _ _ k rfl rfl hlt ?_; intro pa u hu hcell; obtain rfl := getu _ _ _ _ hu; rw [Hy.out] at hcell))
        | (with_reducible refine at_wpP ?_; refine at_st 5 _ _ rfl ?_; go_must (refine wpList_store1 rfl 5 _ _ rfl g7 k (by simp [Act.eval]) (.int .u8 y) rfl rfl _ _ hB size_u8 (by rw [pgv_len, hll.out]; omega) ?_; intro w14 b14 f14; rw [pgv_set] at b14; have c14 := hC.ne f14 g27)))
      go_roundw
      case rel => exact ⟨k + 1, _, by omega, by go_num, show _ = _ from hs.out, b14, c14, hI.fr f14 (fun q hq e => n7 q hq e), hf.thenT f14 (fun i hi q => by unfold onB1 at q; omega)⟩
      case measure => simp [intOf]; omega
    · obtain rfl : k = S.length := by omega
      have hlt' : ¬ (S.length : Int) < (S.length : Int) := by omega
      have hlR : l = R := by rw [hl.out, hend.out]
      subst hlR
      go_wp2_with (first
        | (with_reducible refine at_wpP ?_; refine at_ld 23 _ rfl ?_; go_must (refine wpList_loadA arr_page rfl _ rfl g7 rfl l hB hll.out ?_))
        | (with_reducible refine at_wpP ?_; refine at_st 23 _ _ rfl ?_; go_must (refine wpList_storeA arr_page rfl _ _ rfl g2 rfl l rfl _ hC hll.out hZl.out ?_; intro w15 b15 f15)))
      refine bodyPost_ret (results_arr2 arr_page Try.results18 _ w15 g2 l rfl b15 hll.out) rfl ⟨rfl, ?_⟩
      exact hf.thenT f15 (fun i hi q => by unfold onB1 at q; omega)
set_option maxRecDepth 100000 in
set_option maxHeartbeats 2000000 in
theorem rpage_2 (n : Nd) (vs : Value) (w : World) (h : NdS w vs n) (hr : n.right = true) (hk : ¬ n.k = 1) :
    Calls Try.prog 18 #[ndV n.k n.b vs] w fun r w' => r = .returned (.tuple #[pgV n.page, .int .i64 0]) ∧ Fr noB w w' := by
  obtain ⟨hkk, hbz, he1, he6, hri⟩ := right_tree hr hk
  have hall := rises_all hri (by decide)
  have Hb := show Hid _ from h.2.1.1
  have hy := h.2.1.2
  have hbd := body_byt hr h.2.1
  have hbl := body_len hr Hb.out
  obtain ⟨a0, c0, rfl, hc0⟩ := h.1.1.opn
  have hS := h.1.1
  obtain ⟨Z, HZ⟩ : ∃ Z, Hid (zerB 256 = Z) := ⟨_, rfl⟩
  have hZl : Hid (Z.length = 256) := by show _ = _; rw [← HZ.out]; exact zerB_len 256
  obtain ⟨D, HD⟩ : ∃ D, Hid (n.body = D) := ⟨_, rfl⟩
  rw [HD.out] at hbd hbl
  have hDl1 : D.length ≤ 1000000000000 := Nat.le_trans hbl (by decide)
  obtain ⟨S, HS⟩ : ∃ S, Hid (sealI D = S) := ⟨_, rfl⟩
  have hSb : Byt S := by rw [← HS.out]; exact sealI_wf _ hbd
  have hSl : S.length ≤ 21 := by rw [← HS.out, sealI_length]; omega
  obtain ⟨R, HR⟩ : ∃ R, Hid (n.page = R) := ⟨_, rfl⟩
  have hend : Hid (laid 256 S S.length = R) := by
    show _ = _
    unfold laid
    rw [List.take_of_length_le (Nat.le_refl _), ← HR.out, ← HS.out, ← HD.out, sealI_length]; rfl
  rw [HR.out]
  have hD1 : Hid ([n.k, (n.es.length : Int)] ++ pairs n.es = D) := by show _ = _; rw [← HD.out]; unfold Nd.body; rw [if_neg hk]; rfl
  have hkw : IntKind.u8.wrap n.k = n.k := wrap_u8_sm (by omega) (by omega)
  have hnw : IntKind.u8.wrap (n.es.length : Int) = (n.es.length : Int) := wrap_u8_sm (by omega) (by omega)
  have hnwf : ∀ m ∈ [(n.es.length : Int)], (Lit.int .u8 m).wf = true := by intro m hm; simp at hm; subst hm; exact byt_one (by omega) (by omega)
  have hk1 : (n.k == 1) = false := by simpa using hk
  clear hk hkk hbz hri he1
  go_enter Try.func18, Try.ntmps18
  go_wp2_with (first
    | (with_reducible refine at_wpP ?_; refine wpList_boxN rfl _ rfl n.k n.b (.slice a0 n.es.length c0) rfl ?_; intro g1 w1 hg1 b1 f1 s1; have l1 := b1.lt; have z1 := f1.size)
    | (with_reducible refine at_wpP ?_; have q := b1; refine wpList_allocA arr_page rfl rfl ?_; rw [HZ.out]; intro g2 w2 hg2 b2 f2 s2; have l2 := b2.lt; have z2 := f2.size)
    | (with_reducible refine at_wpP ?_; refine at_ld 31 _ rfl ?_; have q := b2; go_must (refine wpList_ldN rfl _ rfl g1 rfl n.k n.b (.slice a0 n.es.length c0) (b1.fr0 f2) Hb.out ?_))
    | (go_at_call 27; go_must (refine (rright_any n _ _ (h.fr0 (f1.thenN f2))).mono ?_; rw [hr]; rintro e w3 ⟨rfl, f3⟩; have z3 := f3.size; have F3 := (f1.thenN f2).thenN f3; have c1 := (b1.fr0 f2).fr0 f3; have c2 := b2.fr0 f3; have q0 := NdB.kind c1; have q2 := NdB.ents c1 Hb.out))
    | (with_reducible refine at_wpP ?_; have q := o4; refine wpList_mk1I rfl 45 _ rfl 5 .u8 (n.es.length : Int) rfl (run_mk1_u8 _) ?_; intro g5 w5 o5 f5 r5 t5; have p5 := o4.fr f5 (fun _ _ q => q))
    | (with_reducible refine at_wpP ?_; have q := f3; refine wpList_mk1I rfl 45 _ rfl 5 .u8 n.k rfl (run_mk1_u8 _) ?_; intro g4 w4 o4 f4 r4 t4; have z4 := f4.size; have c1 := c1.fr0 f4; have q0 := NdB.kind c1; have q2 := NdB.ents c1 Hb.out)
    | (at_builtin; go_must (refine wpList_app rfl _ _ 45 rfl w3.heap.size 5 _ 1 1 Try.underlying45 info5 rfl (by decide) _ _ _ rfl p5 _ _ _ rfl (o5.sl hnwf).1 (Go.Proofs.U.ones _ _) (by unfold maxLen; simp) (by simp) ?hz ?_; rotate_left 1; intro v6 w6 hown6 hgr6; have F6 : Fr noB w3 w6 := (f4.thenN f5).grown hgr6 (owns_new p5); have q2 := NdB.ents (((b1.fr0 f2).fr0 f3).fr0 F6) Hb.out)))
  case hz => have := f4.size; have := f5.size; omega
  have o6 : OwnI .u8 5 w6 w3.heap.size v6 [n.k, (n.es.length : Int)] := OwnI.mk _ hown6 rfl
  have z6 := F6.size
  go_loopw [4, 35] (fun u i wr => ∃ (j : Nat), j ≤ n.es.length ∧ i = .int .i64 (j : Int) ∧ OwnI .u8 5 wr w3.heap.size u ([n.k, (n.es.length : Int)] ++ pairs (n.es.take j)) ∧ Fr noB w3 wr) (fun _ i _ => n.es.length - (intOf i).toNat)
  case atStart => exact ⟨0, by omega, rfl, by rw [List.take_zero]; exact o6, F6⟩
  case round =>
    obtain ⟨j, hj, rfl, ho, hf⟩ := hrel
    have zf := hf.size
    clear o6 hown6 hgr6 q0 q2 o4 o5 p5 f4 f5 b1
    by_cases hlt : j < n.es.length
    · have hlt' : (j : Int) < (n.es.length : Int) := by omega
      have hps := show Hid _ from pairs_snoc n.es j hlt
      have hxa := hall n.es[j] (List.getElem_mem hlt)
      obtain ⟨x, Hx⟩ : ∃ x, Hid (n.es[j] = x) := ⟨n.es[j], (rfl : n.es[j] = n.es[j])⟩
      rw [Hx.out] at hxa hps
      have hx1 : IntKind.u8.wrap x.1 = x.1 := wrap_u8_sm hxa.1.1 (by omega)
      have hx2 : IntKind.u8.wrap x.2 = x.2 := wrap_u8_sm hxa.2.1 (by omega)
      have hxwf : ∀ m ∈ [x.1, x.2], (Lit.int .u8 m).wf = true := by
        intro m hm
        simp at hm
        rcases hm with rfl | rfl
        · exact byt_one hxa.1.1 (by omega)
        · exact byt_one hxa.2.1 (by omega)
      obtain ⟨M, HM⟩ : ∃ M, Hid ([n.k, (n.es.length : Int)] ++ pairs (n.es.take j) = M) := ⟨_, rfl⟩
      have hMl : Hid (M.length ≤ 20) := by
        show _ ≤ _
        rw [← HM.out, List.length_append, pairs_len, List.length_take]; simp; omega
      rw [HM.out] at ho
      obtain ⟨a7, c7, rfl⟩ := ho.opn
      go_wp2_with (first
        | (refine at_idx 29 _ _ rfl ?_; go_must (refine wpList_idxR rfl 29 _ _ rfl 43 Try.underlying29 2 en_size _ _ _ rfl (hS.fr0 (F3.thenN hf)) (by decide) _ _ j rfl rfl hlt ?_; rw [Hx.out]; intro ba oa hba hca))
        | (with_reducible refine at_wpP ?_; refine at_ld 43 _ rfl ?_; have q := hca; refine wpList_ldE rfl _ rfl ba oa rfl x hca ?_)
        | (with_reducible refine at_wpP ?_; refine wpList_allocE rfl rfl ?_; intro gl w7 hgl b7 f7 sl; have l7 := b7.lt; have F7 := hf.thenN f7; have z7 := f7.size)
        | (with_reducible refine at_wpP ?_; refine at_st 43 _ _ rfl ?_; go_must (refine wpList_stE rfl _ _ rfl gl rfl (0, 0) x b7 rfl ?_; intro w8 B8 f8; have F8 := Fr.ownX F7 (by omega) f8; have z8 := f8.size; obtain ⟨e0, e1⟩ := B8.all; have o8 := (ho.fr f7 (fun _ _ q => q)).fr f8 (fun q hq e => by have := (ho.newB q hq).2; unfold onB1 at e; omega)))
        | (with_reducible refine at_wpP ?_; refine wpList_mk2I rfl 45 _ _ rfl 5 .u8 x.1 x.2 rfl rfl (run_mk2_u8 x.1 x.2) ?_; intro g9 w9 s9 f9 r9 t9; have o9 := o8.fr f9 (fun _ _ q => q); have F9 := F8.thenN f9)
        | (at_builtin; go_must (refine wpList_app rfl _ _ 45 rfl w3.heap.size 5 _ 1 1 Try.underlying45 info5 rfl (by decide) _ _ _ rfl o9 _ _ _ rfl (s9.sl hxwf).1 (Go.Proofs.U.ones _ _) ?hq1 ?hq2 ?hq3 ?_; rotate_left 3; intro v10 w10 hown10 hgr10)))
      case hq1 => have := hMl.out; unfold maxLen; simp; omega
      case hq2 => have := hMl.out; simp; omega
      case hq3 => have := F9.size; omega
      go_roundw
      case rel => exact ⟨j + 1, by omega, by go_num, OwnI.mk _ hown10 (by rw [hps.out, ← List.append_assoc, HM.out]; simp), F9.grown hgr10 (owns_new o9)⟩
      case measure => simp [intOf]; omega
    · obtain rfl : j = n.es.length := by omega
      rw [List.take_length, hD1.out] at ho
      have hosl := ho.sl hbd
      obtain ⟨a7, c7, rfl⟩ := ho.opn
      have hlt' : ¬ (n.es.length : Int) < (n.es.length : Int) := by omega
      go_wp2_with (first
        | (with_reducible refine at_wpP ?_; refine wpList_buildA arr_page rfl rfl ?_; rw [HZ.out])
        | (with_reducible refine at_wpP ?_; refine wpList_allocA arr_page rfl rfl ?_; rw [HZ.out]; intro g7 w11 hg7 b11 f11 s11; have l11 := b11.lt; have z11 := f11.size)
        | (with_reducible refine at_wpP ?_; refine at_st 23 _ _ rfl ?_; go_must (refine wpList_storeA arr_page rfl _ _ rfl g7 rfl Z rfl _ b11 hZl.out hZl.out ?_; intro w12 b12 f12; have z12 := f12.size; have G12 := Fr.ownX f11 s11 f12))
        | (go_at_call 28; go_must (refine (rseal_any _ D _ (hosl.fr0 G12) hDl1).mono ?_; rw [HS.out]; rintro e w13 ⟨vS, rfl, oS, f13⟩; have z13 := f13.size; have G13 := G12.thenN f13; have b13 := b12.fr0 f13; have I13 := oS.sl hSb; have nS := oS.newB; obtain ⟨aS, cS, rfl⟩ := oS.opn)))
      have G0 : Fr noB w w13 := (F3.thenN hf).thenN G13
      have c13 : BxV w13 g2 23 (pgv Z) := (c2.fr0 hf).fr0 G13
      have n7 : ∀ k, (Value.slice aS S.length cS).ownBlock = some k → k ≠ g7 := fun k hk => by have := (nS k hk).1; omega
      have g27 : g2 ≠ g7 := by have := (hf).size; omega
      have sg2 : w.heap.size ≤ g2 := by omega
      have sg7 : w.heap.size ≤ g7 := by have := (hf).size; omega
      clear oS hosl
      go_loopw [53] (fun i wr => ∃ (k : Nat) (l : List Int), k ≤ S.length ∧ i = .int .i64 (k : Int) ∧ Hid (l = laid 256 S k) ∧ BxV wr g7 23 (pgv l) ∧ BxV wr g2 23 (pgv Z) ∧ SlI .u8 wr (.slice aS S.length cS) S ∧ Fr noB w wr) (fun i _ => S.length - (intOf i).toNat)
      case atStart => exact ⟨0, Z, by omega, rfl, show _ = _ by rw [← HZ.out, laid_zero], b13, c13, I13, G0⟩
      case round =>
        obtain ⟨k, l, hk, rfl, hl, hB, hC, hI, hf⟩ := hrel
        have hll : Hid (l.length = 256) := by show _ = _; rw [hl.out, laid_len _ _ _ hk (by omega)]
        by_cases hlt : k < S.length
        · have hlt' : (k : Int) < (S.length : Int) := by omega
          obtain ⟨y, Hy⟩ : ∃ y, Hid (S.getD k 0 = y) := ⟨_, rfl⟩
          have hs := show Hid _ from laid_set 256 S k hlt (by omega)
          rw [← hl.out, Hy.out] at hs
          have d1 : (0 : Int) ≤ (k : Int) := by omega
          have d2 : (k : Int) < 256 := by omega
          go_wp2_with (first
            | (refine at_idx 45 _ _ rfl ?_; go_must (refine wpList_idx1 rfl 45 _ _ rfl 5 Try.underlying45 size5 _ _ _ rfl hI.1 _ _ k rfl rfl hlt ?_; intro pa u hu hcell; obtain rfl := getu _ _ _ _ hu; rw [Hy.out] at hcell))
            | (with_reducible refine at_wpP ?_; refine at_st 5 _ _ rfl ?_; go_must (refine wpList_store1 rfl 5 _ _ rfl g7 k (by simp [Act.eval]) (.int .u8 y) rfl rfl _ _ hB size_u8 (by rw [pgv_len, hll.out]; omega) ?_; intro w14 b14 f14; rw [pgv_set] at b14; have c14 := hC.ne f14 g27)))
          go_roundw
          case rel => exact ⟨k + 1, _, by omega, by go_num, show _ = _ from hs.out, b14, c14, hI.fr f14 (fun q hq e => n7 q hq e), hf.thenT f14 (fun i hi q => by unfold onB1 at q; omega)⟩
          case measure => simp [intOf]; omega
        · obtain rfl : k = S.length := by omega
          have hlt' : ¬ (S.length : Int) < (S.length : Int) := by omega
          have hlR : l = R := by rw [hl.out, hend.out]
          subst hlR
          go_wp2_with (first
            | (with_reducible refine at_wpP ?_; refine at_ld 23 _ rfl ?_; go_must (refine wpList_loadA arr_page rfl _ rfl g7 rfl l hB hll.out ?_))
            | (with_reducible refine at_wpP ?_; refine at_st 23 _ _ rfl ?_; go_must (refine wpList_storeA arr_page rfl _ _ rfl g2 rfl l rfl _ hC hll.out hZl.out ?_; intro w15 b15 f15)))
          refine bodyPost_ret (results_arr2 arr_page Try.results18 _ w15 g2 l rfl b15 hll.out) rfl ⟨rfl, ?_⟩
          exact hf.thenT f15 (fun i hi q => by unfold onB1 at q; omega)
theorem rpage_ok (n : Nd) (vs : Value) (w : World) (h : NdS w vs n) (hr : n.right = true) :
    Calls Try.prog 18 #[ndV n.k n.b vs] w fun r w' => r = .returned (.tuple #[pgV n.page, .int .i64 0]) ∧ Fr noB w w' := by
  by_cases hk : n.k = 1
  · exact rpage_1 n vs w h hr hk
  · exact rpage_2 n vs w h hr hk

set_option maxRecDepth 100000 in
set_option maxHeartbeats 2000000 in
theorem rpage_no (n : Nd) (vs : Value) (w : World) (h : NdS w vs n) (hr : n.right = false) :
    Calls Try.prog 18 #[ndV n.k n.b vs] w fun r w' => r = .returned (.tuple #[pgV (zerB 256), .int .i64 81]) ∧ Fr noB w w' := by
  have Hb := show Hid _ from h.2.1.1
  obtain ⟨a0, c0, rfl, hc0⟩ := h.1.1.opn
  obtain ⟨Z, HZ⟩ : ∃ Z, Hid (zerB 256 = Z) := ⟨_, rfl⟩
  have hZl : Hid (Z.length = 256) := by show _ = _; rw [← HZ.out]; exact zerB_len 256
  rw [HZ.out]
  go_enter Try.func18, Try.ntmps18
  go_wp2_with (first
    | (with_reducible refine at_wpP ?_; refine wpList_boxN rfl _ rfl n.k n.b (.slice a0 n.es.length c0) rfl ?_; intro g1 w1 hg1 b1 f1 s1; have l1 := b1.lt; have z1 := f1.size)
    | (with_reducible refine at_wpP ?_; have q := b1; refine wpList_allocA arr_page rfl rfl ?_; rw [HZ.out]; intro g2 w2 hg2 b2 f2 s2; have l2 := b2.lt; have z2 := f2.size)
    | (with_reducible refine at_wpP ?_; refine at_ld 31 _ rfl ?_; have q := b2; go_must (refine wpList_ldN rfl _ rfl g1 rfl n.k n.b (.slice a0 n.es.length c0) (b1.fr0 f2) Hb.out ?_))
    | (go_at_call 27; go_must (refine (rright_any n _ _ (h.fr0 (f1.thenN f2))).mono ?_; rw [hr]; rintro e w3 ⟨rfl, f3⟩; have z3 := f3.size; have F3 := (f1.thenN f2).thenN f3; have c1 := (b1.fr0 f2).fr0 f3; have c2 := b2.fr0 f3; have q0 := NdB.kind c1; have q2 := NdB.ents c1 Hb.out))
    | (with_reducible refine at_wpP ?_; refine wpList_buildA arr_page rfl rfl ?_; rw [HZ.out])
    | (with_reducible refine at_wpP ?_; refine at_st 23 _ _ rfl ?_; go_must (refine wpList_storeA arr_page rfl _ _ rfl g2 rfl Z rfl _ c2 hZl.out hZl.out ?_; intro w9 b9 f9)))
  refine bodyPost_ret (results_arr2 arr_page Try.results18 _ w9 g2 Z rfl b9 hZl.out) rfl ⟨rfl, ?_⟩
  exact F3.thenT f9 (fun i hi q => by unfold onB1 at q; omega)
end Go.Proofs.Ythpcfijefcicpaa
