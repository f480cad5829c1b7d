/- Contracts of Seal of package crc, and of bytes.Equal. -/
import Derived.Test.YtaaiockknpeglaaC1
namespace Go.Proofs.U
open Go.RowKit
theorem Sl_made (w : World) (t : TypeId) (cs : Array Value) (n b : Nat) (hn : cs.size = n) (hb : w.heap.size = b) : Sl (w.alloc (.cells cs t)) 1 (.slice (some ⟨b, 0, none⟩) n n) n cs.toList := by
  subst hb
  refine ⟨_, _, rfl, Nat.le_refl _, by simp [hn], (fun h => by cases h), fun x hx => ?_⟩
  cases hx
  intro j u hj
  rw [Addr.plain, Nat.zero_add]
  have h1 : cs[j]? = some u := by simpa using hj
  have h2 : (w.alloc (.cells cs t)).heap[w.heap.size]? = some (.cells cs t) := by
    show (w.heap.push _)[w.heap.size]? = _
    simp
  unfold World.cell?
  rw [h2]
  exact h1
end Go.Proofs.U
namespace Go.Proofs.Ytaaiockknpeglaa
open Go.RowKit Go.Proofs.U

def be4I (n : Int) : List Int := [n / 16777216, n / 65536 % 256, n / 256 % 256, n % 256]
def sealI (l : List Int) : List Int := l ++ be4I (crcI l)
theorem crcI_bd (l : List Int) : 0 ≤ crcI l ∧ crcI l < 4294967296 := by
  unfold crcI; have := (crcF ones32 (l.map (BitVec.ofInt 8))).isLt; omega
theorem flat_le (ls : List (List Int)) (k : Nat) : (ls.take k).flatten.length ≤ ls.flatten.length := by
  conv => rhs; rw [← List.take_append_drop k ls, List.flatten_append, List.length_append]
  omega
theorem flat_succ (ls : List (List Int)) (k : Nat) (h : k < ls.length) : (ls.take (k + 1)).flatten = (ls.take k).flatten ++ ls[k] := by
  rw [List.take_succ_eq_append_getElem h, List.flatten_append]; simp
theorem mem_flat_wf {w : World} {v : Value} {ls : List (List Int)} (h : SlB w v ls) : ∀ n ∈ ls.flatten, (Lit.int .u8 n).wf = true := by
  obtain ⟨vs, hS, hin⟩ := h
  intro n hn
  obtain ⟨l, hl, hnl⟩ := List.mem_flatten.1 hn
  obtain ⟨j, hj, rfl⟩ := List.mem_iff_getElem.1 hl
  have hvl : vs.length = ls.length := by obtain ⟨_, _, _, _, h2, _⟩ := hS; simpa using h2
  exact (hin j hj _ (List.getElem?_eq_getElem (by omega))).2 n hnl
theorem wf_byte {n : Int} (h0 : 0 ≤ n) (h1 : n < 256) : (Lit.int .u8 n).wf = true := by
  simp [Lit.wf, IntKind.min, IntKind.max, IntKind.signed, IntKind.bits]; omega
theorem be4I_wf (n : Int) (h0 : 0 ≤ n) (h1 : n < 4294967296) : ∀ x ∈ be4I n, (Lit.int .u8 x).wf = true := by
  intro x hx
  simp only [be4I, List.mem_cons, List.not_mem_nil, or_false] at hx
  rcases hx with rfl | rfl | rfl | rfl <;> exact wf_byte (by omega) (by omega)
theorem sealI_wf (l : List Int) (h : ∀ n ∈ l, (Lit.int .u8 n).wf = true) : ∀ n ∈ sealI l, (Lit.int .u8 n).wf = true := by
  intro n hn
  rcases List.mem_append.1 hn with hn | hn
  · exact h n hn
  · exact be4I_wf _ (crcI_bd l).1 (crcI_bd l).2 n hn
theorem sealI_length (l : List Int) : (sealI l).length = l.length + 4 := by simp [sealI, be4I]

theorem parts (ls : List (List Int)) : ∃ F : Nat → List Int, F 0 = [] ∧ F ls.length = ls.flatten ∧ (∀ k (h : k < ls.length), F (k + 1) = F k ++ ls[k]) ∧ ∀ k, (F k).length ≤ ls.flatten.length :=
  ⟨fun k => (ls.take k).flatten, rfl, by simp, fun k h => flat_succ ls k h, fun k => flat_le ls k⟩
theorem of_one (v : Value) (l : List Int) (w : World) (t : TypeId) (h : SlI .u8 w v l) (hb : l.length ≤ 1000000000000) :
    Calls Try.prog 11 #[.slice (some ⟨w.heap.size, 0, none⟩) 1 1] (w.alloc (.cells #[v] t)) fun e w' => e = .returned (.int .u32 (crcI l)) ∧ w.alloc (.cells #[v] t) = w' := by
  have := of_any _ [l] _ (SlB.one w t v l h) ⟨by simp, by simpa using hb⟩
  simpa using this

set_option maxHeartbeats 1000000 in
theorem seal_any (v : Value) (ls : List (List Int)) (L : List Int) (hL : ls.flatten = L) (w : World) (h : SlB w v ls) (hb1 : ls.length ≤ 1000000000000) (hbf : L.length ≤ 1000000000000) :
    Calls Try.prog 12 #[v] w fun e w' => ∃ v', e = .returned v' ∧ OwnI .u8 5 w' w.heap.size v' (sealI L) ∧ Fr noB w w' := by
  have hB0 := h
  obtain ⟨a, cap, rfl, hcap⟩ := h.opn
  obtain ⟨vs, hS, hin⟩ := h
  obtain ⟨i5, hi5, hz5, hs5, hy5⟩ := info_parts info5
  have hwf := mem_flat_wf hB0
  obtain ⟨F, hF0, hFe, hFs, hFl⟩ := parts ls
  rw [hL] at hFe hFl hwf
  have HF0 := Hid.mk hF0
  have HFe := Hid.mk hFe
  have HFs := Hid.mk hFs
  clear hF0 hFe hFs hL hB0
  go_enter Try.func12, Try.ntmps12
  go_wp2
  go_loop [3, 12] (fun x i => ∃ k : Nat, k ≤ ls.length ∧ i = .int .i64 k ∧ x = .int .i64 (4 + ((F k).length : Int))) (fun _ i => ls.length - (intOf i).toNat)
  case atStart => exact ⟨0, Nat.zero_le _, rfl, by rw [HF0.out]; rfl⟩
  case round =>
    obtain ⟨k, hk, rfl, rfl⟩ := hrel
    by_cases hlt : k < ls.length
    · have hink := hin k hlt
      have hl1 := hFl (k + 1)
      rw [HFs.out k hlt, List.length_append] at hl1
      go_wp2_with (refine wpList_idx1 rfl 22 _ _ rfl 24 Try.underlying22 size24 _ _ _ rfl hS _ _ k rfl rfl hlt ?_; intro p u hu hc; have hul := hink u hu; obtain ⟨a2, c2, rfl, hc2⟩ := hul.opn)
      go_round
      case rel => exact ⟨k + 1, by omega, by go_num, by rw [HFs.out k hlt, List.length_append, Int.add_assoc]; simp⟩
      case measure => simp [intOf]; omega
    · obtain rfl : k = ls.length := by omega
      rw [HFe.out]
      go_wp2_with (refine at_make 24 _ _ rfl ?_; go_must (refine wpList_make_own _ rfl _ _ 24 rfl w.heap.size 5 i5 _ 1 Try.underlying24 hi5 hz5 hs5 .i64 .i64 _ (4 + L.length) rfl rfl (by simp) ?hb2 ?hb3 (Nat.le_refl _) ?_; rotate_left 2; intro w1 hown hgr; have hf1 := Fr.of_grown hgr))
      case hb2 => omega
      case hb3 => unfold maxLen; omega
      have ho1 : OwnI .u8 5 w1 w.heap.size _ [] := OwnI.mk _ hown rfl
      clear hown hgr
      go_loopw [6, 25] (fun out i wr => ∃ k : Nat, k ≤ ls.length ∧ i = .int .i64 k ∧ OwnI .u8 5 wr w.heap.size out (F k) ∧ Fr noB w wr) (fun _ i _ => ls.length - (intOf i).toNat)
      case atStart => exact ⟨0, Nat.zero_le _, rfl, by rw [HF0.out]; exact ho1, hf1⟩
      case round =>
        obtain ⟨k, hk, rfl, ho, hf⟩ := hrel
        by_cases hlt : k < ls.length
        · have hink := hin k hlt
          have hS' := hS.fr0 hf
          have hl1 := hFl (k + 1)
          rw [HFs.out k hlt, List.length_append] at hl1
          go_wp2_with (first | (refine wpList_idx1 rfl 22 _ _ rfl 24 Try.underlying22 size24 _ _ _ rfl hS' _ _ k rfl rfl hlt ?_; intro p u hu hc; have hul := (hink u hu).fr0 hf; obtain ⟨a2, c2, rfl, hc2⟩ := hul.opn) | (at_builtin; go_must (refine wpList_app rfl _ _ 24 rfl w.heap.size 5 _ 1 1 Try.underlying24 info5 rfl (by decide) _ _ _ rfl ho _ _ _ rfl hul.1 (ones _ _) ?hq1 ?hq2 hf.size ?_; rotate_left 2; intro v4 w4 hown4 hgr4)))
          case hq1 => unfold maxLen; omega
          case hq2 => omega
          go_roundw
          case rel => exact ⟨k + 1, by omega, by go_num, OwnI.mk _ hown4 (by rw [HFs.out k hlt]; simp), hf.grown hgr4 (owns_new ho)⟩
          case measure => simp [intOf]; omega
        · obtain rfl : k = ls.length := by omega
          rw [HFe.out] at ho
          have hsl := ho.sl hwf
          obtain ⟨a3, c3, rfl⟩ := ho.opn
          have hcb := crcI_bd L
          have Hof := Hid.mk (of_one _ _ _ 24 hsl hbf)
          obtain ⟨N, HN⟩ : ∃ N, Hid (crcI L = N) := ⟨_, rfl⟩
          rw [HN.out] at Hof hcb
          go_wp2_with (first | (go_at_call 11; go_must (refine Hof.out.mono ?_; rintro e w5 ⟨rfl, rfl⟩)) | (at_builtin; go_must (refine wpList_app rfl _ _ 24 rfl w.heap.size 5 _ 1 1 Try.underlying24 info5 rfl (by decide) _ _ _ rfl (owns_alloc (owns_alloc ho _) _) _ _ _ rfl (Sl_made _ _ _ 4 _ rfl (by simp)) ?h1 ?hq1 ?hq2 ?hq3 ?_; rotate_left 4; intro v4 w4 hown4 hgr4)))
          case h1 => simp [Value.oneCell']
          case hq1 => unfold maxLen; omega
          case hq2 => omega
          case hq3 => have := hf.size; simp; omega
          go_ret
          exact ⟨_, rfl, OwnI.mk _ hown4 (by simp [sealI, be4I, HN.out]), ((hf.alloc _).alloc _).grown hgr4 (owns_new ho)⟩

theorem sealone_any (v : Value) (l : List Int) (w : World) (t : TypeId) (h : SlI .u8 w v l) (hb : l.length ≤ 1000000000000) :
    Calls Try.prog 12 #[.slice (some ⟨w.heap.size, 0, none⟩) 1 1] (w.alloc (.cells #[v] t)) fun e w' => ∃ v', e = .returned v' ∧ OwnI .u8 5 w' w.heap.size v' (sealI l) ∧ Fr noB w w' := by
  refine (seal_any _ [l] l (by simp) _ (SlB.one w t v l h) (by simp) hb).mono ?_
  rintro e w' ⟨v', rfl, ho, hf⟩
  exact ⟨v', rfl, ho.rebase (by simp), ((Fr.refl noB w).alloc _).thenN hf⟩

/-- whether two strings of bytes are one. -/
theorem strs_eq (l m : List Int) (hl : ∀ n ∈ l, (Lit.int .u8 n).wf = true) (hm : ∀ n ∈ m, (Lit.int .u8 n).wf = true) : strOfNums l = strOfNums m ↔ l = m := by
  constructor
  · intro h
    have h1 : (l.map fun n => UInt8.ofNat n.toNat) = (m.map fun n => UInt8.ofNat n.toNat) := by
      have := congrArg (fun b : ByteArray => b.data.toList) h
      simpa [strOfNums] using this
    have key : ∀ (l : List Int), (∀ n ∈ l, (Lit.int .u8 n).wf = true) → (l.map fun n => UInt8.ofNat n.toNat).map (fun u => (u.toNat : Int)) = l := by
      intro l hl
      rw [List.map_map]
      conv => rhs; rw [← List.map_id l]
      apply List.map_congr_left
      intro n hn
      have := u8_bd (hl n hn)
      simp
      omega
    rw [← key l hl, ← key m hm, h1]
  · intro h; rw [h]

theorem strs_beq (l m : List Int) (hl : ∀ n ∈ l, (Lit.int .u8 n).wf = true) (hm : ∀ n ∈ m, (Lit.int .u8 n).wf = true) : ((strOfNums l).toList == (strOfNums m).toList) = decide (l = m) := by
  have h := strs_eq l m hl hm
  by_cases e : l = m
  · subst e; simp
  · have h2 : strOfNums l ≠ strOfNums m := fun q => e (h.1 q)
    simp only [ByteArray.toList_eq]
    have h3 : (strOfNums l).data.toList ≠ (strOfNums m).data.toList := fun q => h2 (by
      cases hA : strOfNums l; cases hB : strOfNums m; rw [hA, hB] at q; simp at q; rw [q])
    rw [beq_eq_false_iff_ne.2 h3]; simp [e]

set_option maxHeartbeats 400000 in
theorem equal_any (v1 v2 : Value) (l m : List Int) (w : World) (h1 : SlI .u8 w v1 l) (h2 : SlI .u8 w v2 m) :
    Calls Try.prog 19 #[v1, v2] w fun e w' => e = .returned (.bool (decide (l = m))) ∧ w = w' := by
  have Hx := Hid.mk (strs_beq l m h1.2 h2.2)
  obtain ⟨a1, c1, rfl, hc1⟩ := h1.opn
  obtain ⟨a2, c2, rfl, hc2⟩ := h2.opn
  go_enter Try.func19, Try.ntmps19
  go_wp2_with (refine at_conv 24 9 _ rfl ?_; first | (refine wpList_str rfl _ 24 9 5 rfl Try.underlying24 Try.underlying5 Try.underlying9 _ _ rfl h1 ?_) | (refine wpList_str rfl _ 24 9 5 rfl Try.underlying24 Try.underlying5 Try.underlying9 _ _ rfl h2 ?_))
  go_ret
  exact ⟨by rw [← Hx.out]; rfl, rfl⟩
end Go.Proofs.Ytaaiockknpeglaa
