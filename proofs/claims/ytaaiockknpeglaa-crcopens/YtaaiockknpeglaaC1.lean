/- Contracts of withByte and Of of package crc. -/
import Derived.Test.YtaaiockknpeglaaRows
import Derived.Test.YtaaiockknpeglaaBase2
import Derived.Test.YtaaiockknpeglaaCM
import Derived.Laws.BitsAllLaws
namespace Go.Proofs.Ytaaiockknpeglaa
open Go.RowKit Go.Proofs.U

theorem Hid.mk {p : Prop} (h : p) : Hid p := h
theorem bx32 (A B : BitVec 32) (a b : Int) (ha : a = (A.toNat : Int)) (hb : b = (B.toNat : Int)) : bits .xor .u32 a b = ((A ^^^ B).toNat : Int) := by
  subst ha hb
  rw [u32_xor_nat _ _ (by have := A.isLt; omega) (by have := B.isLt; omega), BitVec.toNat_xor]
theorem bn32 (A B : BitVec 32) (a b : Int) (ha : a = (A.toNat : Int)) (hb : b = (B.toNat : Int)) : bits .and .u32 a b = ((A &&& B).toNat : Int) := by
  subst ha hb
  rw [u32_and_nat _ _ (by have := A.isLt; omega) (by have := B.isLt; omega), BitVec.toNat_and]
theorem ofI8 (c : Int) (h0 : 0 ≤ c) (h1 : c < 256) : ((BitVec.ofInt 8 c).toNat : Int) = c := by
  rw [BitVec.toNat_ofInt]; omega
theorem byt_num (c : Int) (h0 : 0 ≤ c) (h1 : c < 256) : c * 16777216 = ((byt (BitVec.ofInt 8 c)).toNat : Int) := by
  have e := ofI8 c h0 h1
  unfold byt
  rw [BitVec.toNat_shiftLeft, BitVec.toNat_setWidth, Nat.shiftLeft_eq]
  omega
theorem stp_num (t : BitVec 32) : bits .xor .u32 ((t.toNat : Int) * 2 % 4294967296) (bits .and .u32 (-((t.toNat : Int) / 2147483648) % 4294967296) 79764919) = ((stp t).toNat : Int) := by
  have ht := t.isLt
  have e1 : ((t.toNat : Int) * 2 % 4294967296) = ((t <<< 1).toNat : Int) := by
    rw [BitVec.toNat_shiftLeft, Nat.shiftLeft_eq]; omega
  unfold stp
  by_cases hm : 2147483648 ≤ t.toNat
  · have hmsb : t.msb = true := by rw [BitVec.msb_eq_decide]; simpa using hm
    rw [hmsb]
    have e2 : -((t.toNat : Int) / 2147483648) % 4294967296 = (ones32.toNat : Int) := by
      have : ones32.toNat = 4294967295 := by decide
      omega
    refine bx32 _ _ _ _ e1 ?_
    rw [bn32 ones32 polyB _ _ e2 (by decide)]
    decide
  · have hmsb : t.msb = false := by rw [BitVec.msb_eq_decide]; simpa using hm
    rw [hmsb]
    have e2 : -((t.toNat : Int) / 2147483648) % 4294967296 = ((0#32).toNat : Int) := by
      have : (0#32).toNat = 0 := by decide
      omega
    refine bx32 _ _ _ _ e1 ?_
    rw [bn32 0#32 polyB _ _ e2 (by decide)]
    decide

set_option maxHeartbeats 1000000 in
theorem withByte_any (s : BitVec 32) (c : Int) (h0 : 0 ≤ c) (h1 : c < 256) (w : World) :
    Calls Try.prog 18 #[.int .u32 (s.toNat : Int), .int .u8 c] w fun e w' => e = .returned (.int .u32 ((wb s (BitVec.ofInt 8 c)).toNat : Int)) ∧ w = w' := by
  go_enter Try.func18, Try.ntmps18
  go_wp2
  go_loop [0, 11] (fun x i => ∃ k : Nat, k ≤ 8 ∧ i = .int .i64 k ∧ x = .int .u32 ((stpN k (s ^^^ byt (BitVec.ofInt 8 c))).toNat : Int)) (fun _ i => 8 - (intOf i).toNat)
  case atStart => exact ⟨0, by omega, rfl, by rw [bx32 s (byt (BitVec.ofInt 8 c)) _ _ rfl (byt_num c h0 h1)]; rfl⟩
  case round =>
    obtain ⟨k, hk, rfl, rfl⟩ := hrel
    generalize hgen : stpN k (s ^^^ byt (BitVec.ofInt 8 c)) = t at *
    have HG := Hid.mk hgen
    clear hgen
    have htb := t.isLt
    by_cases hlt : k < 8
    · go_wp2
      go_round
      case rel => exact ⟨k + 1, by omega, rfl, by rw [stp_num, stpN_snoc, HG.out]⟩
      case measure => simp [intOf]; omega
    · go_wp2
      go_ret
      obtain rfl : k = 8 := by omega
      exact ⟨by rw [← HG.out]; rfl, rfl⟩

/-- v is a slice of slices of bytes, that read as ls. -/
def SlB (w : World) (v : Value) (ls : List (List Int)) : Prop :=
  ∃ vs : List Value, Sl w 1 v ls.length vs ∧ ∀ (j : Nat) (h : j < ls.length) u, vs[j]? = some u → SlI .u8 w u ls[j]
theorem SlB.opn {w : World} {v : Value} {ls : List (List Int)} (h : SlB w v ls) : ∃ a cap, v = .slice a ls.length cap ∧ ls.length ≤ cap := by
  obtain ⟨vs, ⟨a, cap, hv, hl, _⟩, _⟩ := h; exact ⟨a, cap, hv, hl⟩
theorem SlB.nil (w : World) : SlB w (.slice none 0 0) [] := ⟨[], Sl.nil w 1, fun j h => by simp at h⟩
theorem SlB.fr0 {w w' : World} {v : Value} {ls : List (List Int)} (h : SlB w v ls) (hf : Fr noB w w') : SlB w' v ls := by
  obtain ⟨vs, h1, h2⟩ := h; exact ⟨vs, h1.fr0 hf, fun j hj u hu => (h2 j hj u hu).fr0 hf⟩
theorem SlB.one (w : World) (t : TypeId) (v : Value) (l : List Int) (h : SlI .u8 w v l) : SlB (w.alloc (.cells #[v] t)) (.slice (some ⟨w.heap.size, 0, none⟩) 1 1) [l] := by
  refine ⟨[v], Sl_one w t v, fun j hj u hu => ?_⟩
  obtain rfl : j = 0 := by simpa using hj
  simp at hu; subst hu
  exact h.fr0 ((Fr.refl _ _).alloc _)

def crcI (l : List Int) : Int := ((crcF ones32 (l.map (BitVec.ofInt 8))).toNat : Int)
theorem u8_bd {x : Int} (h : (Lit.int .u8 x).wf = true) : 0 ≤ x ∧ x < 256 := by
  simp [Lit.wf, IntKind.min, IntKind.max, IntKind.signed, IntKind.bits] at h; omega
theorem size24 : (Try.prog.info? 24).map (·.size) = some 1 := by kernel_rfl
theorem size5 : (Try.prog.info? 5).map (·.size) = some 1 := by kernel_rfl
theorem info5 : (Try.prog.info? 5).map (fun i => (i.zero, i.size, i.bytes)) = some (some (.int .u8 0), 1, 1) := by kernel_rfl
theorem getu (k : IntKind) (l : List Int) (j : Nat) (u : Value) (h : (l.map (Value.int k))[j]? = some u) : u = .int k (l.getD j 0) := by
  simp at h; obtain ⟨x, hx, rfl⟩ := h; simp [List.getD, hx]

def big (ls : List (List Int)) : Prop := ls.length ≤ 1000000000000 ∧ ∀ l ∈ ls, l.length ≤ 1000000000000

set_option maxHeartbeats 1000000 in
theorem of_any (v : Value) (ls : List (List Int)) (w : World) (h : SlB w v ls) (hb : big ls) :
    Calls Try.prog 11 #[v] w fun e w' => e = .returned (.int .u32 (crcI ls.flatten)) ∧ w = w' := by
  obtain ⟨a, cap, rfl, hcap⟩ := h.opn
  obtain ⟨vs, hS, hin⟩ := h
  obtain ⟨hb1, hb2⟩ := hb
  go_enter Try.func11, Try.ntmps11
  go_wp2
  go_loop [3, 10] (fun x i => ∃ k : Nat, k ≤ ls.length ∧ i = .int .i64 k ∧ x = .int .u32 ((crcF ones32 (((ls.take k).flatten).map (BitVec.ofInt 8))).toNat : Int)) (fun _ i => ls.length - (intOf i).toNat)
  case atStart => exact ⟨0, Nat.zero_le _, rfl, by rfl⟩
  case round =>
    obtain ⟨k, hk, rfl, rfl⟩ := hrel
    generalize hgen : crcF ones32 (((ls.take k).flatten).map (BitVec.ofInt 8)) = t at *
    have HG := Hid.mk hgen
    clear hgen
    by_cases hlt : k < ls.length
    · have hink := hin k hlt
      have hlb := hb2 ls[k] (by simp)
      go_wp2_with (refine wpList_idx1 rfl 22 _ _ rfl 24 Try.underlying22 size24 _ _ _ rfl hS _ _ k rfl rfl hlt ?_; intro p u hu hc; have hul := hink u hu; obtain ⟨a2, c2, rfl, hc2⟩ := hul.opn)
      generalize hl : ls[k] = l at *
      have HL := Hid.mk hl
      clear hl
      go_loop [3, 16] (fun x i => ∃ q : Nat, q ≤ l.length ∧ i = .int .i64 q ∧ x = .int .u32 ((crcF t ((l.take q).map (BitVec.ofInt 8))).toNat : Int)) (fun _ i => l.length - (intOf i).toNat)
      case atStart => exact ⟨0, Nat.zero_le _, rfl, by rfl⟩
      case round =>
        obtain ⟨q, hq, rfl, rfl⟩ := hrel
        generalize hgen : crcF t ((l.take q).map (BitVec.ofInt 8)) = t2 at *
        have HG2 := Hid.mk hgen
        clear hgen
        by_cases hqlt : q < l.length
        · have hbd := u8_bd (hul.2 l[q] (by simp))
          have hgd : l.getD q 0 = l[q] := by simp [List.getD, hqlt]
          go_wp2_with (first | (refine wpList_idx1 rfl 24 _ _ rfl 5 Try.underlying24 size5 _ _ _ rfl hul.1 _ _ q rfl rfl hqlt ?_; intro p u hu hc; obtain rfl := getu _ _ _ _ hu; rw [hgd] at hc) | (go_at_call 18; go_must (refine (withByte_any _ _ hbd.1 hbd.2 _).mono ?_; rintro e w' ⟨rfl, rfl⟩)))
          go_round
          case rel => exact ⟨q + 1, by omega, by go_num, by rw [List.take_succ_eq_append_getElem hqlt, List.map_append, crcF_append, HG2.out]; rfl⟩
          case measure => simp [intOf]; omega
        · go_wp2
          go_round
          case rel => 
            refine ⟨k + 1, by omega, by go_num, ?_⟩
            rw [List.take_succ_eq_append_getElem hlt, List.flatten_append, List.map_append, crcF_append, HG.out, HL.out, ← HG2.out]
            rw [List.take_of_length_le (by omega)]; simp
          case measure => simp [intOf]; omega
    · go_wp2
      go_ret
      refine ⟨?_, rfl⟩
      rw [← HG.out, List.take_of_length_le (by omega)]; rfl
end Go.Proofs.Ytaaiockknpeglaa
