/- Texts C2, V1, Open, OpenD, K12, KM, OT, MY of the proof of NodesExact, one behind the other. -/
import Derived.Test.YtamfnjliikiifaaRows
import Derived.ProofKit
import Derived.OpenShut
import Derived.Deep.SlicePairs
import Derived.Test.YtamfnjliikiifaaBundleNodesExact1
import Derived.Test.YtamfnjliikiifaaBundleNodesExact2
import Derived.Test.YtamfnjliikiifaaBundleNodesExact3
import Derived.Test.YtamfnjliikiifaaBundleNodesExact4
import Derived.Test.YtamfnjliikiifaaBundleNodesExact5
import Derived.Test.YtamfnjliikiifaaBundleNodesExact6
/- Contracts of Seal of package crc, and of bytes.Equal. -/
namespace Go.Proofs.U
open Go.RowKit
end Go.Proofs.U
namespace Go.Proofs.Ytamfnjliikiifaa
open Go.RowKit Go.Proofs.U

def be4I (n : Int) : List Int := [n / 16777216, n / 65536 % 256, n / 256 % 256, n % 256]
def sealI (l : List Int) : List Int := l ++ be4I (crcI l)
theorem crcI_bd (l : List Int) : 0 ≤ crcI l ∧ crcI l < 4294967296 := by
  unfold crcI; have := (crcF ones32 (l.map (BitVec.ofInt 8))).isLt; omega
theorem flat_le (ls : List (List Int)) (k : Nat) : (ls.take k).flatten.length ≤ ls.flatten.length := by
  conv => rhs; rw [← List.take_append_drop k ls, List.flatten_append, List.length_append]
  omega
theorem flat_succ (ls : List (List Int)) (k : Nat) (h : k < ls.length) : (ls.take (k + 1)).flatten = (ls.take k).flatten ++ ls[k] := by
  rw [List.take_succ_eq_append_getElem h, List.flatten_append]; simp
theorem mem_flat_wf {w : World} {v : Value} {ls : List (List Int)} (h : SlB w v ls) : ∀ n ∈ ls.flatten, (Lit.int .u8 n).wf = true := by
  obtain ⟨vs, hS, hin⟩ := h
  intro n hn
  obtain ⟨l, hl, hnl⟩ := List.mem_flatten.1 hn
  obtain ⟨j, hj, rfl⟩ := List.mem_iff_getElem.1 hl
  have hvl : vs.length = ls.length := by obtain ⟨_, _, _, _, h2, _⟩ := hS; simpa using h2
  exact (hin j hj _ (List.getElem?_eq_getElem (by omega))).2 n hnl
theorem wf_byte {n : Int} (h0 : 0 ≤ n) (h1 : n < 256) : (Lit.int .u8 n).wf = true := by
  simp [Lit.wf, IntKind.min, IntKind.max, IntKind.signed, IntKind.bits]; omega
theorem be4I_wf (n : Int) (h0 : 0 ≤ n) (h1 : n < 4294967296) : ∀ x ∈ be4I n, (Lit.int .u8 x).wf = true := by
  intro x hx
  simp only [be4I, List.mem_cons, List.not_mem_nil, or_false] at hx
  rcases hx with rfl | rfl | rfl | rfl <;> exact wf_byte (by omega) (by omega)
theorem sealI_wf (l : List Int) (h : ∀ n ∈ l, (Lit.int .u8 n).wf = true) : ∀ n ∈ sealI l, (Lit.int .u8 n).wf = true := by
  intro n hn
  rcases List.mem_append.1 hn with hn | hn
  · exact h n hn
  · exact be4I_wf _ (crcI_bd l).1 (crcI_bd l).2 n hn
theorem sealI_length (l : List Int) : (sealI l).length = l.length + 4 := by simp [sealI, be4I]

theorem parts (ls : List (List Int)) : ∃ F : Nat → List Int, F 0 = [] ∧ F ls.length = ls.flatten ∧ (∀ k (h : k < ls.length), F (k + 1) = F k ++ ls[k]) ∧ ∀ k, (F k).length ≤ ls.flatten.length :=
  ⟨fun k => (ls.take k).flatten, rfl, by simp, fun k h => flat_succ ls k h, fun k => flat_le ls k⟩
theorem of_one (v : Value) (l : List Int) (w : World) (t : TypeId) (h : SlI .u8 w v l) (hb : l.length ≤ 1000000000000) :
    Calls Try.prog 62 #[.slice (some ⟨w.heap.size, 0, none⟩) 1 1] (w.alloc (.cells #[v] t)) fun e w' => e = .returned (.int .u32 (crcI l)) ∧ w.alloc (.cells #[v] t) = w' := by
  have := of_any _ [l] _ (SlB.one w t v l h) ⟨by simp, by simpa using hb⟩
  simpa using this

set_option maxHeartbeats 1000000 in
theorem seal_any (v : Value) (ls : List (List Int)) (L : List Int) (hL : ls.flatten = L) (w : World) (h : SlB w v ls) (hb1 : ls.length ≤ 1000000000000) (hbf : L.length ≤ 1000000000000) :
    Calls Try.prog 46 #[v] w fun e w' => ∃ v', e = .returned v' ∧ OwnI .u8 5 w' w.heap.size v' (sealI L) ∧ Fr noB w w' := by
  have hB0 := h
  obtain ⟨a, cap, rfl, hcap⟩ := h.opn
  obtain ⟨vs, hS, hin⟩ := h
  obtain ⟨i5, hi5, hz5, hs5, hy5⟩ := info_parts info5
  have hwf := mem_flat_wf hB0
  obtain ⟨F, hF0, hFe, hFs, hFl⟩ := parts ls
  rw [hL] at hFe hFl hwf
  have HF0 := Hid.mk hF0
  have HFe := Hid.mk hFe
  have HFs := Hid.mk hFs
  clear hF0 hFe hFs hL hB0
  go_enter Try.func46, Try.ntmps46
  go_wp2
  go_loop [3, 12] (fun x i => ∃ k : Nat, k ≤ ls.length ∧ i = .int .i64 k ∧ x = .int .i64 (4 + ((F k).length : Int))) (fun _ i => ls.length - (intOf i).toNat)
  case atStart => exact ⟨0, Nat.zero_le _, rfl, by rw [HF0.out]; rfl⟩
  case round =>
    obtain ⟨k, hk, rfl, rfl⟩ := hrel
    by_cases hlt : k < ls.length
    · have hink := hin k hlt
      have hl1 := hFl (k + 1)
      rw [HFs.out k hlt, List.length_append] at hl1
      go_wp2_with (refine wpList_idx1 rfl 114 _ _ rfl 92 Try.underlying114 size24 _ _ _ rfl hS _ _ k rfl rfl hlt ?_; intro p u hu hc; have hul := hink u hu; obtain ⟨a2, c2, rfl, hc2⟩ := hul.opn)
      go_round
      case rel => exact ⟨k + 1, by omega, by go_num, by rw [HFs.out k hlt, List.length_append, Int.add_assoc]; simp⟩
      case measure => simp [intOf]; omega
    · obtain rfl : k = ls.length := by omega
      rw [HFe.out]
      go_wp2_with (refine at_make 92 _ _ rfl ?_; go_must (refine wpList_make_own _ rfl _ _ 92 rfl w.heap.size 5 i5 _ 1 Try.underlying92 hi5 hz5 hs5 .i64 .i64 _ (4 + L.length) rfl rfl (by simp) ?hb2 ?hb3 (Nat.le_refl _) ?_; rotate_left 2; intro w1 hown hgr; have hf1 := Fr.of_grown hgr))
      case hb2 => omega
      case hb3 => unfold maxLen; omega
      have ho1 : OwnI .u8 5 w1 w.heap.size _ [] := OwnI.mk _ hown rfl
      clear hown hgr
      go_loopw [6, 25] (fun out i wr => ∃ k : Nat, k ≤ ls.length ∧ i = .int .i64 k ∧ OwnI .u8 5 wr w.heap.size out (F k) ∧ Fr noB w wr) (fun _ i _ => ls.length - (intOf i).toNat)
      case atStart => exact ⟨0, Nat.zero_le _, rfl, by rw [HF0.out]; exact ho1, hf1⟩
      case round =>
        obtain ⟨k, hk, rfl, ho, hf⟩ := hrel
        by_cases hlt : k < ls.length
        · have hink := hin k hlt
          have hS' := hS.fr0 hf
          have hl1 := hFl (k + 1)
          rw [HFs.out k hlt, List.length_append] at hl1
          go_wp2_with (first | (refine wpList_idx1 rfl 114 _ _ rfl 92 Try.underlying114 size24 _ _ _ rfl hS' _ _ k rfl rfl hlt ?_; intro p u hu hc; have hul := (hink u hu).fr0 hf; obtain ⟨a2, c2, rfl, hc2⟩ := hul.opn) | (at_builtin; go_must (refine wpList_app rfl _ _ 92 rfl w.heap.size 5 _ 1 1 Try.underlying92 info5 rfl (by decide) _ _ _ rfl ho _ _ _ rfl hul.1 (ones _ _) ?hq1 ?hq2 hf.size ?_; rotate_left 2; intro v4 w4 hown4 hgr4)))
          case hq1 => unfold maxLen; omega
          case hq2 => omega
          go_roundw
          case rel => exact ⟨k + 1, by omega, by go_num, OwnI.mk _ hown4 (by rw [HFs.out k hlt]; simp), hf.grown hgr4 (owns_new ho)⟩
          case measure => simp [intOf]; omega
        · obtain rfl : k = ls.length := by omega
          rw [HFe.out] at ho
          have hsl := ho.sl hwf
          obtain ⟨a3, c3, rfl⟩ := ho.opn
          have hcb := crcI_bd L
          have Hof := Hid.mk (of_one _ _ _ 92 hsl hbf)
          obtain ⟨N, HN⟩ : ∃ N, Hid (crcI L = N) := ⟨_, rfl⟩
          rw [HN.out] at Hof hcb
          go_wp2_with (first | (go_at_call 62; go_must (refine Hof.out.mono ?_; rintro e w5 ⟨rfl, rfl⟩)) | (at_builtin; go_must (refine wpList_app rfl _ _ 92 rfl w.heap.size 5 _ 1 1 Try.underlying92 info5 rfl (by decide) _ _ _ rfl (owns_alloc (owns_alloc ho _) _) _ _ _ rfl (Sl_made _ _ _ 4 _ rfl (by simp)) ?h1 ?hq1 ?hq2 ?hq3 ?_; rotate_left 4; intro v4 w4 hown4 hgr4)))
          case h1 => simp [Value.oneCell']
          case hq1 => unfold maxLen; omega
          case hq2 => omega
          case hq3 => have := hf.size; simp; omega
          go_ret
          exact ⟨_, rfl, OwnI.mk _ hown4 (by simp [sealI, be4I, HN.out]), ((hf.alloc _).alloc _).grown hgr4 (owns_new ho)⟩

theorem sealone_any (v : Value) (l : List Int) (w : World) (t : TypeId) (h : SlI .u8 w v l) (hb : l.length ≤ 1000000000000) :
    Calls Try.prog 46 #[.slice (some ⟨w.heap.size, 0, none⟩) 1 1] (w.alloc (.cells #[v] t)) fun e w' => ∃ v', e = .returned v' ∧ OwnI .u8 5 w' w.heap.size v' (sealI l) ∧ Fr noB w w' := by
  refine (seal_any _ [l] l (by simp) _ (SlB.one w t v l h) (by simp) hb).mono ?_
  rintro e w' ⟨v', rfl, ho, hf⟩
  exact ⟨v', rfl, ho.rebase (by simp), ((Fr.refl noB w).alloc _).thenN hf⟩

/-- whether two strings of bytes are one. -/
theorem strs_eq (l m : List Int) (hl : ∀ n ∈ l, (Lit.int .u8 n).wf = true) (hm : ∀ n ∈ m, (Lit.int .u8 n).wf = true) : strOfNums l = strOfNums m ↔ l = m := by
  constructor
  · intro h
    have h1 : (l.map fun n => UInt8.ofNat n.toNat) = (m.map fun n => UInt8.ofNat n.toNat) := by
      have := congrArg (fun b : ByteArray => b.data.toList) h
      simpa [strOfNums] using this
    have key : ∀ (l : List Int), (∀ n ∈ l, (Lit.int .u8 n).wf = true) → (l.map fun n => UInt8.ofNat n.toNat).map (fun u => (u.toNat : Int)) = l := by
      intro l hl
      rw [List.map_map]
      conv => rhs; rw [← List.map_id l]
      apply List.map_congr_left
      intro n hn
      have := u8_bd (hl n hn)
      simp
      omega
    rw [← key l hl, ← key m hm, h1]
  · intro h; rw [h]

theorem strs_beq (l m : List Int) (hl : ∀ n ∈ l, (Lit.int .u8 n).wf = true) (hm : ∀ n ∈ m, (Lit.int .u8 n).wf = true) : ((strOfNums l).toList == (strOfNums m).toList) = decide (l = m) := by
  have h := strs_eq l m hl hm
  by_cases e : l = m
  · subst e; simp
  · have h2 : strOfNums l ≠ strOfNums m := fun q => e (h.1 q)
    simp only [ByteArray.toList_eq]
    have h3 : (strOfNums l).data.toList ≠ (strOfNums m).data.toList := fun q => h2 (by
      cases hA : strOfNums l; cases hB : strOfNums m; rw [hA, hB] at q; simp at q; rw [q])
    rw [beq_eq_false_iff_ne.2 h3]; simp [e]

end Go.Proofs.Ytamfnjliikiifaa
/- Roots as pages, plain: what a page of a generation and a content is, and what a page tells. -/
namespace Go.Proofs.Ytamfnjliikiifaa
open Go.RowKit Go.Proofs.U
set_option linter.unusedSimpArgs false
set_option linter.unusedVariables false

/-- What a list of numbers has at a place. -/
theorem getD_map (f : Nat → Int) (n i : Nat) (h : i < n) : ((List.range n).map f).getD i 0 = f i := by simp [List.getD, h]
theorem ext_getD {a b : List Int} (hl : a.length = b.length) (h : ∀ i, i < a.length → a.getD i 0 = b.getD i 0) : a = b := by
  apply List.ext_getElem hl
  intro i h1 h2
  have := h i h1
  simpa [List.getD, h1, h2] using this
/-- ds in the place of as many numbers, from o on. -/
def putI (l : List Int) (o : Nat) (ds : List Int) : List Int := l.take o ++ ds ++ l.drop (o + ds.length)
theorem putI_len (l : List Int) (o : Nat) (ds : List Int) (h : o + ds.length ≤ l.length) : (putI l o ds).length = l.length := by
  simp [putI]; omega
theorem putI_get (l : List Int) (o : Nat) (ds : List Int) (h : o + ds.length ≤ l.length) (i : Nat) : (putI l o ds).getD i 0 = if o ≤ i ∧ i < o + ds.length then ds.getD (i - o) 0 else l.getD i 0 := by
  have ht : (l.take o).length = o := by simp; omega
  have e : putI l o ds = l.take o ++ (ds ++ l.drop (o + ds.length)) := by simp [putI]
  rw [e]
  simp only [List.getD]
  by_cases h1 : i < o
  · rw [if_neg (by omega), List.getElem?_append_left (by omega), List.getElem?_take, if_pos h1]
  · rw [List.getElem?_append_right (by omega), ht]
    by_cases h2 : i < o + ds.length
    · rw [if_pos (by omega), List.getElem?_append_left (by omega)]
    · rw [if_neg (by omega), List.getElem?_append_right (by omega), List.getElem?_drop]
      congr 2; omega
theorem putAt_putI (l : List Int) (o : Nat) (ds : List Int) : putAt (pgv l) o (pgv ds) = pgv (putI l o ds) := by
  simp [putAt, putI, pgv, List.map_take, List.map_drop]
theorem putI_wf {k : IntKind} {l : List Int} {o : Nat} {ds : List Int} (h1 : ∀ n ∈ l, (Lit.int k n).wf = true) (h2 : ∀ n ∈ ds, (Lit.int k n).wf = true) : ∀ n ∈ putI l o ds, (Lit.int k n).wf = true := by
  intro n hn
  unfold putI at hn
  rcases List.mem_append.1 hn with hn | hn
  · rcases List.mem_append.1 hn with hn | hn
    · exact h1 n (List.mem_of_mem_take hn)
    · exact h2 n hn
  · exact h1 n (List.mem_of_mem_drop hn)
theorem drop_take_get (l : List Int) (o n i : Nat) (h : i < n) : ((l.drop o).take n).getD i 0 = l.getD (o + i) 0 := by
  simp [List.getD, List.getElem?_take, h, List.getElem?_drop]

/-- Bytes alone. -/
def Byt (l : List Int) : Prop := ∀ n ∈ l, (Lit.int .u8 n).wf = true
theorem Byt.at {l : List Int} (h : Byt l) (i : Nat) : 0 ≤ l.getD i 0 ∧ l.getD i 0 < 256 := by
  by_cases hi : i < l.length
  · have := u8_bd (h l[i] (by simp))
    simpa [List.getD, hi] using this
  · simp [List.getD, hi]
theorem byt_of {l : List Int} (h : ∀ i, i < l.length → 0 ≤ l.getD i 0 ∧ l.getD i 0 < 256) : Byt l := by
  intro n hn
  obtain ⟨i, hi, rfl⟩ := List.mem_iff_getElem.1 hn
  have := h i hi
  simp [List.getD, hi] at this
  exact wf_byte this.1 this.2
theorem Byt.take {l : List Int} (h : Byt l) (n : Nat) : Byt (l.take n) := fun x hx => h x (List.mem_of_mem_take hx)
theorem Byt.drop {l : List Int} (h : Byt l) (n : Nat) : Byt (l.drop n) := fun x hx => h x (List.mem_of_mem_drop hx)
theorem Byt.app {a b : List Int} (h : Byt a) (k : Byt b) : Byt (a ++ b) := wf_app h k
theorem byt_map (f : Nat → Int) (n : Nat) (h : ∀ i, i < n → 0 ≤ f i ∧ f i < 256) : Byt ((List.range n).map f) := by
  intro x hx
  obtain ⟨i, hi, rfl⟩ := List.mem_map.1 hx
  have := h i (by simpa using hi)
  exact wf_byte this.1 this.2
theorem byt_le (q : Nat) (x : Int) : Byt (leB q x) := leB_wf q x
theorem zeroP_byt : Byt zeroP := by
  intro n hn
  rw [show n = 0 from List.eq_of_mem_replicate hn]; decide

/-- The stream of a content, as far as it goes; and with the zeros behind it. -/
def strm (c : List Int) : List Int := sealI (leB 2 c.length ++ c)
theorem strm_len (c : List Int) : (strm c).length = c.length + 6 := by simp [strm, sealI_length, leB_length]; omega
theorem strm_byt {c : List Int} (h : Byt c) : Byt (strm c) := sealI_wf _ ((byt_le 2 _).app h)
def st192 (c : List Int) : List Int := (List.range 192).map fun j => (strm c).getD j 0
theorem st192_len (c : List Int) : (st192 c).length = 192 := by unfold st192; rw [List.length_map, List.length_range]
theorem st192_byt {c : List Int} (h : Byt c) : Byt (st192 c) := byt_map _ _ fun i _ => (strm_byt h).at i
theorem st192_eq (c : List Int) (h : c.length ≤ 186) : st192 c = strm c ++ List.replicate (186 - c.length) 0 := by
  have hl := strm_len c
  apply ext_getD
  · simp [st192_len, hl]; omega
  · intro i hi
    rw [st192_len] at hi
    rw [st192, getD_map _ _ _ hi]
    simp only [List.getD]
    by_cases h1 : i < (strm c).length
    · rw [List.getElem?_append_left h1]
    · rw [List.getElem?_append_right (by omega), List.getElem?_eq_none (by omega), List.getElem?_replicate]
      split <;> rfl

/-- The root of a generation and a content. -/
def rootP (g : Int) (c : List Int) : List Int := (List.range 256).map fun i => if i % 32 < 8 then (leB 8 g).getD (i % 32) 0 else (st192 c).getD (i / 32 * 24 + (i % 32 - 8)) 0
theorem rootP_len (g : Int) (c : List Int) : (rootP g c).length = 256 := by unfold rootP; rw [List.length_map, List.length_range]
theorem rootP_get (g : Int) (c : List Int) (i : Nat) (h : i < 256) : (rootP g c).getD i 0 = if i % 32 < 8 then (leB 8 g).getD (i % 32) 0 else (st192 c).getD (i / 32 * 24 + (i % 32 - 8)) 0 := getD_map _ _ _ h
theorem rootP_byt (g : Int) {c : List Int} (h : Byt c) : Byt (rootP g c) := by
  refine byt_map _ _ fun i hi => ?_
  split
  · exact (byt_le 8 g).at _
  · exact (st192_byt h).at _
/-- The root's first k sectors, zeros behind them. -/
def rootK (g : Int) (c : List Int) (k : Nat) : List Int := (List.range 256).map fun i => if i / 32 < k then (rootP g c).getD i 0 else 0
theorem rootK_len (g : Int) (c : List Int) (k : Nat) : (rootK g c k).length = 256 := by unfold rootK; rw [List.length_map, List.length_range]
theorem rootK_zero (g : Int) (c : List Int) : rootK g c 0 = zeroP := by
  apply ext_getD
  · rw [rootK_len, zeroP_len]
  · intro i hi
    rw [rootK_len] at hi
    rw [rootK, getD_map _ _ _ hi, if_neg (by omega)]
    unfold zeroP
    rw [List.getD, List.getElem?_replicate, if_pos hi]; rfl
theorem rootK_end (g : Int) (c : List Int) : rootK g c 8 = rootP g c := by
  apply ext_getD
  · rw [rootK_len, rootP_len]
  · intro i hi
    rw [rootK_len] at hi
    rw [rootK, getD_map _ _ _ hi, if_pos (by omega)]
theorem rootK_succ (g : Int) (c : List Int) (s : Nat) (hs : s < 8) :
    rootK g c (s + 1) = putI (putI (rootK g c s) (s * 32) (leB 8 g)) (s * 32 + 8) (((st192 c).drop (s * 24)).take 24) := by
  have h8 := leB_length 8 g
  have h24 : (((st192 c).drop (s * 24)).take 24).length = 24 := by simp [st192_len]; omega
  have hk := rootK_len g c s
  have h1 : (putI (rootK g c s) (s * 32) (leB 8 g)).length = 256 := by rw [putI_len _ _ _ (by omega), hk]
  apply ext_getD
  · rw [putI_len _ _ _ (by omega), h1, rootK_len]
  · intro i hi
    rw [rootK_len] at hi
    rw [putI_get _ _ _ (by omega), putI_get _ _ _ (by omega), h24, h8]
    simp only [rootK]
    rw [getD_map _ _ _ hi, getD_map _ _ _ hi, rootP_get g c i hi]
    by_cases c1 : i / 32 = s
    · have d1 : i / 32 < s + 1 := by omega
      have d2 : ¬ i / 32 < s := by omega
      by_cases c2 : i % 32 < 8
      · have d3 : ¬ (s * 32 + 8 ≤ i ∧ i < s * 32 + 8 + 24) := by omega
        have d4 : s * 32 ≤ i ∧ i < s * 32 + 8 := by omega
        simp only [d1, c2, d3, d4, if_true, if_false, and_self]
        congr 1; omega
      · have d3 : s * 32 + 8 ≤ i ∧ i < s * 32 + 8 + 24 := by omega
        simp only [d1, c2, d3, if_true, if_false, and_self]
        rw [drop_take_get _ _ _ _ (by omega)]
        congr 1; omega
    · have d3 : ¬ (s * 32 + 8 ≤ i ∧ i < s * 32 + 8 + 24) := by omega
      have d4 : ¬ (s * 32 ≤ i ∧ i < s * 32 + 8) := by omega
      have d5 : (i / 32 < s + 1) = (i / 32 < s) := by rw [eq_iff_iff]; omega
      simp only [d3, d4, d5, if_false]

/-- What stands where a sector has its generation. -/
def genAt (p : List Int) (s : Nat) : Int := leNum ((p.drop (s * 32)).take 8)
/-- What the sectors have beside their generations. -/
def strmOf (p : List Int) : List Int := (List.range 192).map fun j => p.getD (j / 24 * 32 + 8 + j % 24) 0
theorem strmOf_len (p : List Int) : (strmOf p).length = 192 := by unfold strmOf; rw [List.length_map, List.length_range]
theorem strmOf_byt {p : List Int} (h : Byt p) : Byt (strmOf p) := byt_map _ _ fun i _ => h.at _
def strmK (p : List Int) (k : Nat) : List Int := (List.range 192).map fun j => if j / 24 < k then (strmOf p).getD j 0 else 0
theorem strmK_len (p : List Int) (k : Nat) : (strmK p k).length = 192 := by unfold strmK; rw [List.length_map, List.length_range]
theorem strmK_zero (p : List Int) : strmK p 0 = List.replicate 192 0 := by
  apply ext_getD
  · rw [strmK_len, List.length_replicate]
  · intro i hi
    rw [strmK_len] at hi
    rw [strmK, getD_map _ _ _ hi, if_neg (by omega), List.getD, List.getElem?_replicate, if_pos hi]; rfl
theorem strmK_end (p : List Int) : strmK p 8 = strmOf p := by
  apply ext_getD
  · rw [strmK_len, strmOf_len]
  · intro i hi
    rw [strmK_len] at hi
    rw [strmK, getD_map _ _ _ hi, if_pos (by omega)]
theorem strmK_succ (p : List Int) (hp : p.length = 256) (s : Nat) (hs : s < 8) : strmK p (s + 1) = putI (strmK p s) (s * 24) ((p.drop (s * 32 + 8)).take 24) := by
  have h24 : ((p.drop (s * 32 + 8)).take 24).length = 24 := by simp [hp]; omega
  have hk := strmK_len p s
  apply ext_getD
  · rw [putI_len _ _ _ (by omega), hk, strmK_len]
  · intro i hi
    rw [strmK_len] at hi
    rw [putI_get _ _ _ (by omega), h24]
    simp only [strmK]
    rw [getD_map _ _ _ hi, getD_map _ _ _ hi]
    by_cases c1 : i / 24 = s
    · rw [if_pos (by omega), if_pos (by omega), drop_take_get _ _ _ _ (by omega), strmOf, getD_map _ _ _ hi]
      congr 1; omega
    · by_cases c2 : i / 24 < s
      · rw [if_pos (by omega), if_neg (by omega), if_pos c2]
      · rw [if_neg (by omega), if_neg (by omega), if_neg c2]
theorem strmK_byt {p : List Int} (h : Byt p) (k : Nat) : Byt (strmK p k) := by
  refine byt_map _ _ fun i _ => ?_
  split
  · exact (strmOf_byt h).at i
  · omega
/-- How many bytes the content of a page seems to have. -/
def lenOf (p : List Int) : Int := leNum ((strmOf p).take 2)
def contOf (p : List Int) : List Int := ((strmOf p).drop 2).take (lenOf p).toNat
/-- What a page tells: its generation and its content; nought, if it is no root. -/
def rootOf (p : List Int) : Int × List Int := if 186 < lenOf p then (0, []) else if rootP (genAt p 0) (contOf p) == p then (genAt p 0, contOf p) else (0, [])
theorem genAt_bd {p : List Int} (h : Byt p) (s : Nat) : 0 ≤ genAt p s ∧ genAt p s < 18446744073709551616 := by
  have h1 := leNum_bd ((p.drop (s * 32)).take 8) (fun x hx => u8_bd (((h.drop _).take _) x hx))
  have h2 : ((p.drop (s * 32)).take 8).length ≤ 8 := by simp; omega
  refine ⟨h1.1, Int.lt_of_lt_of_le h1.2 ?_⟩
  generalize ((p.drop (s * 32)).take 8).length = n at h2
  clear h1
  have : n = 0 ∨ n = 1 ∨ n = 2 ∨ n = 3 ∨ n = 4 ∨ n = 5 ∨ n = 6 ∨ n = 7 ∨ n = 8 := by omega
  rcases this with rfl | rfl | rfl | rfl | rfl | rfl | rfl | rfl | rfl <;> decide
theorem lenOf_bd {p : List Int} (h : Byt p) : 0 ≤ lenOf p ∧ lenOf p < 65536 := by
  have h1 := leNum_bd ((strmOf p).take 2) (fun x hx => u8_bd (((strmOf_byt h).take _) x hx))
  have h2 : ((strmOf p).take 2).length = 2 := by simp [strmOf_len]
  rw [h2] at h1
  exact h1
theorem contOf_byt {p : List Int} (h : Byt p) : Byt (contOf p) := ((strmOf_byt h).drop 2).take _
theorem contOf_len {p : List Int} (h : Byt p) (hl : lenOf p ≤ 186) : (contOf p).length = (lenOf p).toNat := by
  simp [contOf, strmOf_len]; omega
theorem rootOf_byt {p : List Int} (h : Byt p) : Byt (rootOf p).2 := by
  unfold rootOf; split
  · intro n hn; simp at hn
  · split
    · exact contOf_byt h
    · intro n hn; simp at hn
theorem rootOf_bd {p : List Int} (h : Byt p) : 0 ≤ (rootOf p).1 ∧ (rootOf p).1 < 18446744073709551616 := by
  unfold rootOf; split
  · decide
  · split
    · exact genAt_bd h 0
    · decide

/-- The root of the greater generation of those in their slots. -/
def inSlot (p : List Int) (s : Nat) : Int × List Int := if (rootOf p).1 % 2 = s then rootOf p else (0, [])
def newest (p q : List Int) : Int × List Int :=
  let a := if (rootOf p).1 % 2 = 0 ∧ 0 < (rootOf p).1 then rootOf p else (0, [])
  if (rootOf q).1 % 2 = 1 ∧ a.1 < (rootOf q).1 then rootOf q else a
/-- The greatest of the first k generations. -/
def topK (p : List Int) (t : Int) (k : Nat) : Int := (List.range k).foldl (fun t s => max t (genAt p s)) t
def top (p q : List Int) : Int := topK q (topK p 0 8) 8
theorem topK_succ (p : List Int) (t : Int) (k : Nat) : topK p t (k + 1) = max (topK p t k) (genAt p k) := by
  unfold topK; rw [List.range_succ, List.foldl_append]; rfl
theorem topK_bd {p : List Int} (h : Byt p) (t : Int) (ht : 0 ≤ t ∧ t < 18446744073709551616) (k : Nat) : 0 ≤ topK p t k ∧ topK p t k < 18446744073709551616 := by
  induction k with
  | zero => exact ht
  | succ k ih => rw [topK_succ]; have := genAt_bd h k; omega
theorem top_bd {p q : List Int} (h : Byt p) (k : Byt q) : 0 ≤ top p q ∧ top p q < 18446744073709551616 := topK_bd k _ (topK_bd h _ (by decide) 8) 8
theorem newest_bd {p q : List Int} (h : Byt p) (k : Byt q) : 0 ≤ (newest p q).1 ∧ (newest p q).1 < 18446744073709551616 := by
  have h1 := rootOf_bd h
  have h2 := rootOf_bd k
  have h3 : 0 ≤ (0 : Int) ∧ (0 : Int) < 18446744073709551616 := by decide
  unfold newest
  simp only
  split <;> split <;> assumption
theorem newest_byt {p q : List Int} (h : Byt p) (k : Byt q) : Byt (newest p q).2 := by
  have h1 := rootOf_byt h
  have h2 := rootOf_byt k
  have h3 : Byt [] := by intro n hn; simp at hn
  unfold newest
  simp only
  split <;> split <;> assumption

/-- What Read, Next and Write answer. -/
def rdE (X : DSt) : Int := if (readP X 0).2 = 0 then (readP X 1).2 else (readP X 0).2
def nwst (X : DSt) : Int × List Int := newest (readP X 0).1 (readP X 1).1
def rRead (X : DSt) : List Int × Int × Int := if rdE X = 0 then (if (nwst X).1 = 0 then ([], 0, 51) else ((nwst X).2, (nwst X).1, 0)) else ([], 0, rdE X)
def tp (X : DSt) : Int := top (readP X 0).1 (readP X 1).1
def nextG (X : DSt) : Int := if (nwst X).1 ≠ 0 ∧ (tp X + 1) % 2 = (nwst X).1 % 2 then tp X + 2 else tp X + 1
def rNext (X : DSt) : Int × Int := if rdE X = 0 then (if 18446744073709551612 < tp X then (0, 51) else (nextG X, 0)) else (0, rdE X)
def rWrite (X : DSt) (c : List Int) : DSt × Int × Int :=
  if 186 < c.length then (X, 0, 51)
  else if (rNext X).2 ≠ 0 then (X, 0, (rNext X).2)
  else
    let g := (rNext X).1
    let Y := X.write (g % 2) (rootP g c)
    if X.writeE (g % 2) ≠ 0 then (Y, 0, X.writeE (g % 2))
    else if Y.actE ≠ 0 then (Y.sync, 0, Y.actE) else (Y.sync, g, 0)
end Go.Proofs.Ytamfnjliikiifaa
/- How a slice of integers that came in is opened. -/
namespace Go.Proofs.U
open Go.RowKit Go.ChangeShapes Go.WideShapes Go.ChangeAt

/-- A slice of integers that came in, opened. -/
theorem slI_of_trod {P : Program} {H : Type} {enc : TypeId × Value → H} {W : World} {base t e : Nat} {k : IntKind} {v : Value} {d : DataW H} {p : List MemPlace}
    (hu : P.underlying t = some (.slice e)) (he : P.underlying e = some (.int k)) (hc : P.cellsOf e = 1) (hval : Value.okWide P W .any base t v)
    (h : DataW.Trod enc P W 0 (fun _ => true) true t v d p) : ∃ l, SlI k W v l := by
  obtain ⟨a, len, cap, rfl⟩ := okWide_slice hu hval
  obtain ⟨fuel, hf⟩ := h
  rcases open_ints hu he hc hf with ⟨hcs, _⟩ | ⟨x, l, c, zs, hcs, _, hl, hm, hz, _, hcell, hwz⟩
  · simp [Value.cells] at hcs
    obtain ⟨rfl, rfl, rfl⟩ := hcs
    exact ⟨[], SlI.nil k W⟩
  · simp [Value.cells] at hcs
    obtain ⟨rfl, rfl, rfl⟩ := hcs
    have hzl : zs.length = cap := by simpa using hz
    have e : (zs.take len).length = len := by simp; omega
    refine ⟨zs.take len, ?_, fun n hn => hwz n (List.mem_of_mem_take hn)⟩
    rw [e]
    refine ⟨_, _, rfl, hl, by simp; omega, (fun h => by cases h), fun y hy j u hj => ?_⟩
    cases hy
    have hj1 : j < len := by
      have := (List.getElem?_eq_some_iff.1 hj).1
      simp at this; omega
    rw [List.map_take, List.getElem?_take, if_pos hj1] at hj
    have hc1 := hcell j (by omega)
    have hjz : j < zs.length := by omega
    simp [hjz] at hj
    rw [← hj]
    simpa [List.getD, hjz] using hc1
end Go.Proofs.U
/- How a slice of acts, and one of bools, that came in are opened. -/
namespace Go.Proofs.Ytamfnjliikiifaa
open Go.RowKit Go.Proofs.U Go.ChangeShapes Go.WideShapes Go.ChangeAt
set_option linter.unusedSimpArgs false
set_option linter.unusedVariables false

/-- An act as it lies in memory: its kind, its place, its byte, its slice, and what that slice holds. -/
structure ActR where
  kind : Int
  at' : Int
  byte : Int
  kv : Value
  keep : List Int
def encA (x : ActR) : List Value := [.int .i64 x.kind, .int .i64 x.at', .int .u8 x.byte, x.kv]
def ActOk (w : World) (x : ActR) : Prop := (Lit.int .i64 x.kind).wf = true ∧ (Lit.int .i64 x.at').wf = true ∧ (Lit.int .u8 x.byte).wf = true ∧ SlI .u8 w x.kv x.keep
def SlA (w : World) (v : Value) (l : List ActR) : Prop := SlR encA 4 w v l ∧ ∀ x ∈ l, ActOk w x

theorem slI_of_cells {P : Program} {H : Type} {enc : TypeId × Value → H} {W : World} {t e fuel : Nat} {k : IntKind} {v : Value} {x : DataW H × List MemPlace}
    (hu : P.underlying t = some (.slice e)) (he : P.underlying e = some (.int k)) (hc : P.cellsOf e = 1)
    (hf : DataW.trod enc P W 0 (fun _ => true) true fuel t [v] = some x) : ∃ l, SlI k W v l := by
  rcases open_ints hu he hc hf with ⟨hcs, _⟩ | ⟨x, len, cap, zs, hcs, _, hl, hm, hz, _, hcell, hwz⟩
  · simp at hcs
    subst hcs
    exact ⟨[], SlI.nil k W⟩
  · simp at hcs
    subst hcs
    have hzl : zs.length = cap := by simpa using hz
    have e : (zs.take len).length = len := by simp; omega
    refine ⟨zs.take len, ?_, fun n hn => hwz n (List.mem_of_mem_take hn)⟩
    rw [e]
    refine ⟨_, _, rfl, hl, by simp; omega, (fun h => by cases h), fun y hy j u hj => ?_⟩
    cases hy
    have hj1 : j < len := by
      have := (List.getElem?_eq_some_iff.1 hj).1
      simp at this; omega
    rw [List.map_take, List.getElem?_take, if_pos hj1] at hj
    have hc1 := hcell j (by omega)
    have hjz : j < zs.length := by omega
    simp [hjz] at hj
    rw [← hj]
    simpa [List.getD, hjz] using hc1
end Go.Proofs.Ytamfnjliikiifaa
/- Pages loaded and compared where a guard asks for it. -/
namespace Go.Proofs.Ytamfnjliikiifaa
open Go.RowKit Go.Proofs.U
set_option linter.unusedSimpArgs false
set_option linter.unusedVariables false
section
variable {w : World} {ops : Array Oper} {rest : List Oper} {o : Oper} {a : Act} {Q : Exit → Act → World → Prop}
theorem wpList_loadPw (hgd : Region.wanted o (yielded ops a.tmps) = true) (x : Operand) (ho : o.op = .load 66 x) (g : Nat) (hx : a.eval x = .pointer (some ⟨g, 0, none⟩)) (p : List Int) (hA : BxV w g 66 (pgv p)) (hp : p.length = 256)
    (h : wpList Try.prog ops Q rest (a.put o.dst (pgV p)) w) : wpList Try.prog ops Q (o :: rest) a w := by
  refine wpList_wanted hgd fun K hK => ?_
  have hr := run_loadP w g 0 p (hA.range 0 (pgv p) (by show (pgv p).take (pgv p).length = pgv p; exact List.take_length)) hp
  unfold Oper.wp execOp
  simp only [ho, hx, Sem.run_bind, hr, Result.andThen_ok]
  exact hK _ _ h
theorem at_bin (b : BinOp) (t t' : TypeId) (x y : Operand) (_ho : o.op = .binOp b t x y t') (h : wpList Try.prog ops Q (o :: rest) a w) : wpList Try.prog ops Q (o :: rest) a w := h
theorem wpList_neqP (hgd : Region.wanted o (yielded ops a.tmps) = true) (x y : Operand) (ho : o.op = .binOp .neq 66 x y 66) (p q : List Int) (hx : a.eval x = pgV p) (hy : a.eval y = pgV q) (hp : p.length = 256) (hq : q.length = 256)
    (h : wpList Try.prog ops Q rest (a.put o.dst (.bool (!(p == q)))) w) : wpList Try.prog ops Q (o :: rest) a w := by
  refine wpList_wanted hgd fun K hK => ?_
  have hr := run_neq_page w p q hp hq
  unfold Oper.wp
  simp [execOp, ho, hx, hy, hr, eqg_neq, Result.andThen]
  exact hK _ _ h
end
end Go.Proofs.Ytamfnjliikiifaa
/- DiskKeeps, the plain part: what may be read behind a crash. -/
namespace Go.Proofs.Ytamfnjliikiifaa
open Go.RowKit Go.Proofs.U
set_option linter.unusedSimpArgs false
set_option linter.unusedVariables false

abbrev rep (c : Int) : List Int := List.replicate 256 c
/-- What a page may hold: its own byte, and the bytes of its pending writes. -/
def mayL (c : List Int) (ps : List (Nat × Int)) (i : Nat) : List Int := c.getD i 0 :: (ps.filter (fun x => x.1 == i)).map (·.2)
structure KX (N : Nat) (X : DSt) (c : List Int) (ps : List (Nat × Int)) : Prop where
  pages : X.pages = c.map rep
  pend : X.pend = ps.map (fun x => ((x.1 : Int), rep x.2))
  len : c.length = N
  inN : ∀ x ∈ ps, x.1 < N
  bad : X.bad = fun _ => false
theorem KX.act {N : Nat} {X : DSt} {c : List Int} {ps : List (Nat × Int)} (h : KX N X c ps) : KX N X.act c ps := ⟨h.pages, h.pend, h.len, h.inN, h.bad⟩
theorem KX.cut {N : Nat} {X : DSt} {c : List Int} {ps : List (Nat × Int)} (h : KX N X c ps) (n : Int) : KX N { X with left := n } c ps := ⟨h.pages, h.pend, h.len, h.inN, h.bad⟩
theorem KX.new (n : Int) (N : Nat) (hN : newN n = N) : KX N (newD n) (List.replicate N 0) [] :=
  ⟨by show List.replicate (newN n) zeroP = _; rw [hN, List.map_replicate]; rfl, rfl, by simp, by simp, rfl⟩
theorem KX.plen {N : Nat} {X : DSt} {c : List Int} {ps : List (Nat × Int)} (h : KX N X c ps) : X.pages.length = N := by rw [h.pages, List.length_map, h.len]
theorem KX.write {N : Nat} {X : DSt} {c : List Int} {ps : List (Nat × Int)} (h : KX N X c ps) (i : Int) (b : Int) :
    (X.writeE i = 0 → ∃ j : Nat, i = j ∧ j < N ∧ KX N (X.write i (rep b)) c (ps ++ [(j, b)])) ∧ (X.writeE i ≠ 0 → KX N (X.write i (rep b)) c ps) := by
  unfold DSt.writeE DSt.write
  rw [h.plen]
  cases hin : inR N i with
  | false =>
    simp only [Bool.false_eq_true, if_false]
    exact ⟨fun h0 => by simp at h0, fun _ => h⟩
  | true =>
    simp only [if_true]
    constructor
    · intro h0
      simp only [inR, Bool.and_eq_true, decide_eq_true_eq] at hin
      refine ⟨i.toNat, by omega, by omega, ?_⟩
      rw [if_pos h0]
      refine ⟨h.pages, ?_, h.len, ?_, h.bad⟩
      · show X.pend ++ _ = _
        rw [h.pend, List.map_append]
        simp
        omega
      · intro x hx
        rcases List.mem_append.1 hx with hx | hx
        · exact h.inN x hx
        · simp at hx; subst hx; simp; omega
    · intro h0
      rw [if_neg h0]
      exact h.act
theorem mayL_put (c : List Int) (ps : List (Nat × Int)) (j : Nat) (b : Int) (i : Nat) : mayL c (ps ++ [(j, b)]) i = if j = i then mayL c ps i ++ [b] else mayL c ps i := by
  unfold mayL
  rw [List.filter_append, List.map_append]
  by_cases e : j = i
  · subst e; simp
  · simp [e]
theorem mayL_len (c : List Int) (ps : List (Nat × Int)) (i : Nat) : (mayL c ps i).length ≤ ps.length + 1 := by
  unfold mayL
  have := List.length_filter_le (fun x : Nat × Int => x.1 == i) ps
  simp; omega
/-- What is synced. -/
def lastC (c : List Int) (ps : List (Nat × Int)) : List Int := ps.foldl (fun c x => c.set x.1 x.2) c
theorem lastC_len (c : List Int) (ps : List (Nat × Int)) : (lastC c ps).length = c.length := by
  unfold lastC
  induction ps generalizing c with
  | nil => rfl
  | cons x ps ih => rw [List.foldl_cons, ih]; simp
theorem lastC_put (c : List Int) (ps : List (Nat × Int)) (x : Nat × Int) : lastC c (ps ++ [x]) = (lastC c ps).set x.1 x.2 := by
  unfold lastC; rw [List.foldl_append]; rfl
theorem lastC_may (N : Nat) (c : List Int) (hc : c.length = N) : ∀ (n : Nat) (ps : List (Nat × Int)), ps.length = n → (∀ x ∈ ps, x.1 < N) → ∀ i, i < N → (mayL c ps i).drop ((mayL c ps i).length - 1) = [(lastC c ps).getD i 0] := by
  intro n
  induction n with
  | zero =>
    intro ps hp _ i hi
    obtain rfl := List.eq_nil_of_length_eq_zero hp
    simp [mayL, lastC]
  | succ n ih =>
    intro ps hp hin i hi
    obtain ⟨qs, x, rfl⟩ : ∃ qs x, ps = qs ++ [x] := ⟨ps.dropLast, ps.getLast (by intro e; subst e; cases hp), (List.dropLast_concat_getLast _).symm⟩
    have hq := ih qs (by simpa using hp) (fun y hy => hin y (by simp [hy])) i hi
    have hx : x.1 < N := hin x (by simp)
    rw [lastC_put]
    have e : mayL c (qs ++ [x]) i = if x.1 = i then mayL c qs i ++ [x.2] else mayL c qs i := mayL_put c qs x.1 x.2 i
    rw [e]
    have hl := lastC_len c qs
    by_cases h : x.1 = i
    · subst h
      simp [List.getD, hl, hc, hi]
    · rw [if_neg h, hq]
      simp [List.getD, List.getElem?_set_ne h]
theorem rep_getD (c : Int) (k : Nat) (h : k < 256) : (rep c).getD k 0 = c := by simp [List.getD, h]
theorem getD_map_rep (c : List Int) (i : Nat) (h : i < c.length) : (c.map rep).getD i [] = rep (c.getD i 0) := by simp [List.getD, h]
theorem pend_at (ps : List (Nat × Int)) (m : Nat) (h : m < ps.length) : (ps.map (fun x => ((x.1 : Int), rep x.2))).getD m (0, []) = ((ps[m].1 : Int), rep ps[m].2) := by simp [List.getD, h]
theorem setS_all (N : Nat) (c : List Int) (ps : List (Nat × Int)) (hc : c.length = N) (hin : ∀ x ∈ ps, x.1 < N) : ∀ m, m ≤ ps.length →
    setS (c.map rep) (ps.map (fun x => ((x.1 : Int), rep x.2))) (fun _ _ => true) m = (lastC c (ps.take m)).map rep := by
  intro m
  induction m with
  | zero => intro _; rfl
  | succ m ih =>
    intro hm
    rw [setS_succ, ih (by omega), List.take_succ_eq_append_getElem (by omega), lastC_put]
    unfold setS1
    rw [pend_at ps m (by omega)]
    simp only [Int.toNat_natCast]
    rw [mixS_all _ _ (by simp), List.map_set]
theorem KX.sync {N : Nat} {X : DSt} {c : List Int} {ps : List (Nat × Int)} (h : KX N X c ps) :
    (X.actE = 0 → KX N X.sync (lastC c ps) []) ∧ (X.actE ≠ 0 → KX N X.sync c ps) := by
  unfold DSt.sync
  constructor
  · intro h0
    rw [if_pos h0]
    refine ⟨?_, by simp [DSt.settle], by rw [lastC_len, h.len], by simp, h.bad⟩
    show setS X.pages X.pend _ X.pend.length = _
    rw [h.pages, h.pend, setS_all N c ps h.len h.inN _ (by simp)]
    simp
  · intro h0
    rw [if_neg h0]
    exact h.act
/-- A page that may be there behind a crash. -/
def GoodP (l : List Int) (p : List Int) : Prop := p.length = 256 ∧ ∀ k, k < 256 → p.getD k 0 ∈ l ∧ p.getD k 0 = p.getD (k / 32 * 32) 0
theorem GoodP.mono {l l' p : List Int} (h : GoodP l p) (hl : ∀ x ∈ l, x ∈ l') : GoodP l' p := ⟨h.1, fun k hk => ⟨hl _ (h.2 k hk).1, (h.2 k hk).2⟩⟩
theorem mixS_at (old new : List Int) (st : Nat → Bool) (k : Nat) (hk : k < 256) : (mixS old new st 8).getD k 0 = if st (k / 32) then new.getD k 0 else old.getD k 0 := by
  have : k / 32 < 8 := by omega
  simp [mixS, List.getD, hk, this]
theorem good_mix {l : List Int} {p : List Int} (h : GoodP l p) (b : Int) (st : Nat → Bool) : GoodP (l ++ [b]) (mixS p (rep b) st 8) := by
  refine ⟨mixS_len _ _ _ _, fun k hk => ?_⟩
  have hk2 : k / 32 * 32 < 256 := by omega
  have hk3 : k / 32 * 32 / 32 = k / 32 := by omega
  rw [mixS_at _ _ _ _ hk, mixS_at _ _ _ _ hk2, hk3, rep_getD b k hk, rep_getD b _ hk2]
  have := h.2 k hk
  cases st (k / 32) with
  | true => simp
  | false => exact ⟨by simp only [Bool.false_eq_true, if_false]; exact List.mem_append_left _ this.1, by simpa using this.2⟩
theorem setS_good (N : Nat) (c : List Int) (ps : List (Nat × Int)) (hc : c.length = N) (hin : ∀ x ∈ ps, x.1 < N) (st : Nat → Nat → Bool) : ∀ m, m ≤ ps.length → ∀ i, i < N →
    GoodP (mayL c (ps.take m) i) ((setS (c.map rep) (ps.map (fun x => ((x.1 : Int), rep x.2))) st m).getD i []) := by
  intro m
  induction m with
  | zero =>
    intro _ i hi
    have e : (setS (c.map rep) (ps.map (fun x => ((x.1 : Int), rep x.2))) st 0) = c.map rep := rfl
    rw [e, getD_map_rep c i (by omega)]
    refine ⟨by simp, fun k hk => ?_⟩
    rw [rep_getD _ k hk, rep_getD _ _ (by omega)]
    simp [mayL]
  | succ m ih =>
    intro hm i hi
    have hlen := setS_len (c.map rep) (ps.map (fun x => ((x.1 : Int), rep x.2))) st m
    rw [List.length_map, hc] at hlen
    rw [setS_succ, List.take_succ_eq_append_getElem (by omega)]
    have e : mayL c (ps.take m ++ [ps[m]]) i = if ps[m].1 = i then mayL c (ps.take m) i ++ [ps[m].2] else mayL c (ps.take m) i := mayL_put c _ ps[m].1 ps[m].2 i
    rw [e]
    unfold setS1
    rw [pend_at ps m (by omega)]
    simp only [Int.toNat_natCast]
    have h0 := ih (by omega) i hi
    generalize setS (c.map rep) (ps.map (fun x => ((x.1 : Int), rep x.2))) st m = S at *
    by_cases h : ps[m].1 = i
    · rw [if_pos h, h]
      have : (S.set i (mixS (S.getD i []) (rep ps[m].2) (st m) 8)).getD i [] = mixS (S.getD i []) (rep ps[m].2) (st m) 8 := by simp [List.getD, hlen, hi]
      rw [this]
      exact good_mix h0 _ _
    · rw [if_neg h]
      have : (S.set ps[m].1 (mixS (S.getD ps[m].1 []) (rep ps[m].2) (st m) 8)).getD i [] = S.getD i [] := by simp [List.getD, List.getElem?_set_ne h]
      rw [this]
      exact h0
theorem KX.crash {N : Nat} {X : DSt} {c : List Int} {ps : List (Nat × Int)} (h : KX N X c ps) (keep : List Int) :
    (X.crash keep).pages.length = N ∧ (X.crash keep).pend = [] ∧ (X.crash keep).down = false ∧ (∀ i : Nat, i < N → ∃ p, readP (X.crash keep) (i : Int) = (p, 0) ∧ GoodP (mayL c ps i) p) := by
  have e : (X.crash keep).pages = setS (c.map rep) (ps.map (fun x => ((x.1 : Int), rep x.2))) (stayK keep) ps.length := by
    show setS X.pages X.pend _ X.pend.length = _
    rw [h.pages, h.pend, List.length_map]
  have hl : (X.crash keep).pages.length = N := by rw [e, setS_len, List.length_map, h.len]
  refine ⟨hl, rfl, rfl, fun i hi => ⟨(X.crash keep).pages.getD i [], ?_, ?_⟩⟩
  · have h1 : inR N (i : Int) = true := by simp [inR]; omega
    have h2 : (X.crash keep).bad (i : Int) = false := by show X.bad _ = _; rw [h.bad]
    have h3 : (X.crash keep).pend = [] := rfl
    unfold readP
    rw [hl, h1, h2, h3]
    simp [lastW]
  · rw [e]
    have := setS_good N c ps h.len h.inN (stayK keep) ps.length (Nat.le_refl _) i hi
    rwa [List.take_length] at this
end Go.Proofs.Ytamfnjliikiifaa
/- Rows of one's own, of one cell an element, that begin somewhere in their block: cut from the left, and appended to. -/
namespace Go.Proofs.U
open Go.RowKit
set_option linter.unusedSimpArgs false
set_option linter.unusedVariables false
/-- v is a row in block b, from some cell on to the block's end. -/
def OwnT (e : TypeId) (w : World) (b : Nat) (v : Value) (xs : List Value) : Prop :=
  ∃ o cap cur, v = .slice (some ⟨b, o, none⟩) xs.length cap ∧ w.heap[b]? = some (.cells cur e (0, 0)) ∧ xs.length ≤ cap ∧ cap ≤ maxLen ∧ cur.size = o + cap ∧ (cur.toList.drop o).take xs.length = xs
section
variable {e : TypeId} {w w' : World} {b : Nat} {v : Value} {xs : List Value} {S : Nat → Prop} {P : Program}
theorem OwnT.lt (h : OwnT e w b v xs) : b < w.heap.size := by
  obtain ⟨o, cap, cur, _, h, _⟩ := h
  exact (Array.getElem?_eq_some_iff.mp h).1
theorem OwnT.fr (h : OwnT e w b v xs) (f : Fr S w w') (hs : ¬ S b) : OwnT e w' b v xs := by
  have hl := h.lt
  obtain ⟨o, cap, cur, h1, h2, h3⟩ := h
  exact ⟨o, cap, cur, h1, (f.block b hl hs).trans h2, h3⟩
theorem OwnT.opn (h : OwnT e w b v xs) : ∃ o cap, v = .slice (some ⟨b, o, none⟩) xs.length cap := by
  obtain ⟨o, cap, cur, h1, _⟩ := h
  exact ⟨o, cap, h1⟩
theorem OwnT.blk (h : OwnT e w b v xs) : ∃ cur, w.heap[b]? = some (.cells cur e (0, 0)) := by
  obtain ⟨o, cap, cur, _, h2, _⟩ := h
  exact ⟨cur, h2⟩
theorem OwnT.cellsAt {o cap n : Nat} (h : OwnT e w b (.slice (some ⟨b, o, none⟩) n cap) xs) : ∀ j u, xs[j]? = some u → w.cell? ((⟨b, o, none⟩ : Addr).add j) = some u := by
  obtain ⟨o', cap', cur, h1, h2, h3, h4, h5, h6⟩ := h
  obtain ⟨rfl, _, _⟩ : o = o' ∧ n = xs.length ∧ cap = cap' := by simpa using h1
  intro j u hj
  have hadd : (⟨b, o, none⟩ : Addr).add j = ⟨b, o + j, none⟩ := by unfold Addr.add; split <;> simp_all
  rw [hadd, cell_of_row w b (o + j) cur e (0, 0) h2]
  rw [← h6, List.getElem?_take] at hj
  split at hj
  · rw [List.getElem?_drop] at hj; simpa using hj
  · cases hj
theorem OwnT.sl (h : OwnT e w b v xs) : Sl w 1 v xs.length xs := by
  obtain ⟨o, cap, rfl⟩ := h.opn
  have hc := h.cellsAt
  obtain ⟨o', cap', cur, h1, h2, h3, _⟩ := h
  obtain ⟨_, rfl⟩ : o = o' ∧ cap = cap' := by simpa using h1
  exact ⟨some ⟨b, o, none⟩, cap, rfl, h3, by simp, (fun h => by cases h), fun x hx => by cases hx; exact hc⟩
theorem OwnT.cutL {o cap n : Nat} (h : OwnT e w b (.slice (some ⟨b, o, none⟩) n cap) xs) (i : Nat) (hi : i < xs.length) : OwnT e w b (.slice (some ⟨b, o + i, none⟩) (n - i) (cap - i)) (xs.drop i) := by
  obtain ⟨o', cap', cur, h1, h2, h3, h4, h5, h6⟩ := h
  obtain ⟨rfl, rfl, rfl⟩ : o = o' ∧ n = xs.length ∧ cap = cap' := by simpa using h1
  refine ⟨o + i, cap - i, cur, by simp, h2, by simp; omega, by omega, by omega, ?_⟩
  have e1 : (cur.toList.drop o).take xs.length = xs := h6
  have e2 : xs.drop i = ((cur.toList.drop o).take xs.length).drop i := by rw [e1]
  rw [List.drop_take, List.drop_drop] at e2
  rw [e2]
  simp only [List.length_take, List.length_drop, Array.length_toList]
  congr 1
  omega
theorem OwnT.made (w : World) (x : Value) (e : TypeId) : OwnT e (w.alloc (.cells #[x] e)) w.heap.size (.slice (some ⟨w.heap.size, 0, none⟩) 1 1) [x] :=
  ⟨0, 1, #[x], rfl, heap_alloc_new w _, by simp, by unfold maxLen; decide, by simp, by simp⟩

theorem run_cutL (t : TypeId) (ht : P.underlying t = some (.slice e)) (hsz : (P.info? e).map (·.size) = some 1) (o cap n i : Nat) (hi : i < n) (hn : n ≤ cap) (w : World) :
    (Instr.sliceAt t (.slice (some ⟨b, o, none⟩) n cap) (some (.int .i64 (i : Int))) none none).run P w = .ok (.slice (some ⟨b, o + i, none⟩) (n - i) (cap - i)) w := by
  obtain ⟨ii, hinf, hsz'⟩ := Option.map_eq_some_iff.1 hsz
  have hne : ¬ cap = i := by omega
  have hin : i ≤ n := by omega
  have hnc : ¬ cap < n := by omega
  simp [Instr.sliceAt, Instr.slice, Instr.sliceBounds, Instr.sliceBound, asIntOf, run_underlying ht, sizeOf, typeInfo, hinf, hsz', go_sem, hne, Addr.plain, hin, hnc]
  try omega

theorem run_append_T (t ty : TypeId) (i : TypeInfo) (z : Value) (ht : P.underlying t = some (.slice e)) (hi : P.info? e = some i) (hz : i.zero = some z) (hs1 : i.size = 1) (hb1 : i.bytes = 1) (hzs : z.cells.size = 1)
    (hO : OwnT e w b v xs) (g : Nat) (x : Value) (hx : w.cell? ⟨g, 0, none⟩ = some x) (h1 : x.oneCell' = true) (hl : xs.length ≤ 100000) :
    ∃ v' w' b', (Builtin.append_ #[t, t] ty #[v, .slice (some ⟨g, 0, none⟩) 1 1]).run P w = .ok v' w' ∧ OwnT e w' b' v' (xs ++ [x]) ∧ Fr (onB1 b) w w' ∧ (b' = b ∨ w.heap.size ≤ b') := by
  obtain ⟨o, cap, rfl⟩ := hO.opn
  have holds := hO.cellsAt
  obtain ⟨o', cap', cur, hv, h2, h3, h4, h5, h6⟩ := hO
  obtain ⟨rfl, rfl⟩ : o = o' ∧ cap = cap' := by simpa using hv
  have hnews : ∀ j u, [x][j]? = some u → w.cell? ((⟨g, 0, none⟩ : Addr).add j) = some u := by
    intro j u hj
    cases j with
    | zero => simp at hj; subst hj; exact hx
    | succ j => simp at hj
  by_cases hroom : xs.length + 1 ≤ cap
  · have hf := run_firstCells_some (P := P) w i.size 1 ⟨g, 0, none⟩ 1 1 [x] (by simp [hs1]) hnews
    have hst := run_storeCells_at P b (o + xs.length) e [x] 0 cur w h2 (by simp; omega) (by simpa using h1)
    simp only [Nat.add_zero] at hst
    have hadd : (⟨b, o, none⟩ : Addr).add (xs.length * i.size) = ⟨b, o + xs.length, none⟩ := by rw [hs1, Nat.mul_one]; unfold Addr.add; split <;> simp_all
    refine ⟨.slice (some ⟨b, o, none⟩) (xs.length + 1) cap, w.setRow b (cur.toList.take (o + xs.length) ++ [x] ++ cur.toList.drop (o + xs.length + [x].length)).toArray, b, ?_, ⟨o, cap, _, by simp, setRow_heap w b cur _ e _ h2, by simpa using hroom, h4, ?_, ?_⟩, ⟨rfl, rfl, rfl, by simp, fun k _ hk => setRow_other w b k _ (fun e => hk e)⟩, Or.inl rfl⟩
    · simp [Builtin.append_, run_underlying ht, sizeOf, typeInfo, hi, Builtin.lenOf, hroom, hf, hadd, hst]
    · simp only [List.size_toArray, List.length_append, List.length_take, List.length_drop, Array.length_toList, List.length_singleton]
      omega
    · have e1 : (cur.toList.take (o + xs.length)).drop o = xs := by rw [List.drop_take]; simpa using h6
      have e2 : (cur.toList.take (o + xs.length)).length = o + xs.length := by simp; omega
      simp only [List.append_assoc]
      rw [List.drop_append_of_le_length (by omega), e1, ← List.append_assoc]
      exact List.take_left
  · have hr := run_append_grow (P := P) w t ty e i z ht hi hz ⟨b, o, none⟩ xs.length cap xs (by simp [hs1]) holds ⟨g, 0, none⟩ 1 1 [x] (by simp [hs1]) hnews (by omega) (by omega) (growslice_fits (by omega) (by rw [hb1]; omega))
    have hge := grownCap_ge w (xs.length + 1) cap e
    have hcm : grownCap w (xs.length + 1) cap e ≤ maxLen := grownCap_le_maxLen w (xs.length + 1) cap e (by unfold maxLen; omega)
    refine ⟨_, _, w.heap.size, hr, ⟨0, _, _, by simp, heap_alloc_new w.drew _, by simpa using hge, hcm, ?_, ?_⟩, ⟨rfl, rfl, rfl, by simp, fun k hk _ => heap_alloc_old w.drew _ hk⟩, Or.inr (Nat.le_refl _)⟩
    · simp only [Array.size_append, List.size_toArray, size_zeroCells, hzs, List.length_singleton]
      omega
    · simp only [Array.toList_append, List.append_assoc, List.drop_zero]
      rw [← List.append_assoc]
      exact List.take_left
end
end Go.Proofs.U
/- DiskKeeps: the row of rows that it keeps; what lies in memory while its regions run. -/
namespace Go.Proofs.U
open Go.RowKit
set_option linter.unusedSimpArgs false
set_option linter.unusedVariables false
abbrev enV (v : Value) : List Value := [v]
def upd {α : Type} (f : Nat → α) (j : Nat) (x : α) : Nat → α := fun i => if i = j then x else f i
theorem upd_self {α : Type} (f : Nat → α) (j : Nat) (x : α) : upd f j x j = x := by simp [upd]
theorem upd_ne {α : Type} (f : Nat → α) {j : Nat} (x : α) {i : Nat} (h : i ≠ j) : upd f j x i = f i := by simp [upd, h]
theorem set_upd {α : Type} (f : Nat → α) (j : Nat) (x : α) (n : Nat) : ((List.range n).map f).set j x = (List.range n).map (upd f j x) := by
  apply List.ext_getElem
  · simp
  · intro i h1 h2
    rw [List.getElem_set]
    by_cases h : j = i
    · subst h; simp [upd]
    · have h' : ¬ i = j := fun e => h e.symm
      simp [upd, h, h']
theorem map_const_range {α : Type} (x : α) (n : Nat) : (List.range n).map (fun _ => x) = List.replicate n x := by simp [List.map_const']
theorem flat_enV : ∀ l : List Value, l.flatMap enV = l
  | [] => rfl
  | x :: l => by rw [List.flatMap_cons, flat_enV l]; rfl
theorem bx_full {w : World} {base g N : Nat} {e : TypeId} {l : List Value} (h : OwnR enV 1 e w base (.slice (some ⟨g, 0, none⟩) N N) l) (hl : l.length = N) : BxV w g e l := by
  obtain ⟨_, h1, h2⟩ := h
  rcases h2 with ⟨h2, _⟩ | ⟨g', cap, cur, hv, _, hg, _, _, hcs, ht⟩
  · cases hv : h2
  · obtain ⟨rfl, hN, rfl⟩ : g = g' ∧ N = l.length ∧ N = cap := by simpa using hv
    rw [flat_enV] at ht
    unfold BxV
    rw [hg]
    have : cur.toList = l := by
      rw [← ht, List.take_of_length_le]
      rw [Array.length_toList, hcs, hN]; omega
    rw [← this]
section
variable {P : Program} {w : World} {ops : Array Oper} {rest : List Oper} {o : Oper} {a : Act} {Q : Exit → Act → World → Prop} {e : TypeId} {K : Act → World → Prop} {b : Nat} {xs : List Value}
theorem wpList_mkT (hgd : Region.wanted o (yielded ops a.tmps) = true) (t : TypeId) (y : Operand) (ho : o.op = .buildSlice t 1 #[(0, y)]) (e : TypeId) (ht : P.underlying t = some (.slice e)) (z : Value) (hinfo : (P.info? e).map (fun i => (i.zero, i.size)) = some (some z, 1))
    (x : Value) (hy : a.eval y = x) (hV : x.cells = #[x])
    (h : ∀ g w', OwnT e w' g (.slice (some ⟨g, 0, none⟩) 1 1) [x] → Fr noB w w' → w.heap.size ≤ g → wpList P ops Q rest (a.put o.dst (.slice (some ⟨g, 0, none⟩) 1 1)) w') : wpList P ops Q (o :: rest) a w := by
  refine wpList_wanted hgd fun K hK => ?_
  have hr := run_mk1 (P := P) (ec := enV) (sz := 1) t ht z hinfo (by decide) (by decide) x x (by rw [hV]) rfl w
  unfold Oper.wp
  simp only [execOp, ho]
  simp [hy, hr, Result.andThen]
  exact hK _ _ (h w.heap.size _ (OwnT.made w x e) ((Fr.refl _ _).alloc _) (Nat.le_refl _))
theorem wp_appT (s x : Operand) (t : TypeId) (ho : o.op = .call { callee := .builtin .append, args := #[s, x], argTypes := #[t, t] })
    (z : Value) (ht : P.underlying t = some (.slice e)) (hinfo : (P.info? e).map (fun i => (i.zero, i.size, i.bytes)) = some (some z, 1, 1)) (hzs : z.cells.size = 1)
    (v : Value) (hs : a.eval s = v) (hO : OwnT e w b v xs) (g : Nat) (hx : a.eval x = .slice (some ⟨g, 0, none⟩) 1 1) (y : Value) (hc : w.cell? ⟨g, 0, none⟩ = some y) (h1 : y.oneCell' = true) (hl : xs.length ≤ 100000)
    (h : ∀ v' w' b', OwnT e w' b' v' (xs ++ [y]) → Fr (onB1 b) w w' → (b' = b ∨ w.heap.size ≤ b') → K (a.put o.dst v') w') : o.wp P a w K Q := by
  obtain ⟨i0, hi, hz0, hz1, hz2⟩ := info_parts hinfo
  obtain ⟨v', w', b', hr, h2, h3, h5⟩ := run_append_T (P := P) t o.type i0 z ht hi hz0 hz1 hz2 hzs hO g y hc h1 hl
  unfold Oper.wp execOp
  simp only [ho, resolve, invoke, builtin, Sem.run_bind, Sem.run_pure, Result.andThen_ok, List.map_toArray, List.map_cons, List.map_nil, hs, hx, hr]
  exact h v' w' b' h2 h3 h5
theorem run_ld1 (t : TypeId) (e : TypeId) (ht : P.underlying t = some (.slice e)) (g off : Nat) (v : Value) (hc : w.cell? ⟨g, off, none⟩ = some v) : (Instr.loadAt t (.pointer (some ⟨g, off, none⟩))).run P w = .ok v w := by
  simp [Instr.loadAt, Instr.sureAddr, loadVar, isAgg, run_underlying ht, go_sem, hc]
end
end Go.Proofs.U
namespace Go.Proofs.Ytamfnjliikiifaa
open Go.RowKit Go.Proofs.U
set_option linter.unusedSimpArgs false
set_option linter.unusedVariables false
theorem encA_le (x y : ActR) : 0 + (encA x).length ≤ (encA y).length := by simp [encA]
theorem encA_eq (x y : ActR) : (encA x).length = (encA y).length := rfl
theorem wf64 {z : Int} (h : (Lit.int .i64 z).wf = true) : -9223372036854775808 ≤ z ∧ z ≤ 9223372036854775807 := by
  simp [Lit.wf, IntKind.min, IntKind.max, IntKind.signed, IntKind.bits] at h; omega
theorem encA_one {w : World} {x : ActR} (h : ActOk w x) : ∀ u ∈ encA x, u.oneCell' = true := by
  obtain ⟨a, c, e, _⟩ := h.2.2.2.opn
  intro u hu
  simp [encA, e] at hu
  rcases hu with rfl | rfl | rfl | rfl <;> rfl
theorem wrapN (n : Nat) (h : n ≤ 1000) : IntKind.i64.wrap (n : Int) = n := by rw [IntKind.wrap_i64]; omega
section
variable {w : World} {ops : Array Oper} {rest : List Oper} {o : Oper} {a : Act} {Q : Exit → Act → World → Prop}
theorem at_index (t : TypeId) (x y : Operand) (_ho : o.op = .index t x y) (h : wpList Try.prog ops Q (o :: rest) a w) : wpList Try.prog ops Q (o :: rest) a w := h
theorem wpList_indexP (hgd : Region.wanted o (yielded ops a.tmps) = true) (x y : Operand) (ho : o.op = .index 66 x y) (p : List Int) (hx : a.eval x = pgV p) (hl : p.length = 256) (i : Nat) (hy : a.eval y = .int .i64 (i : Int)) (hi : i < 256)
    (h : wpList Try.prog ops Q rest (a.put o.dst (.int .u8 (p.getD i 0))) w) : wpList Try.prog ops Q (o :: rest) a w := by
  refine wpList_wanted hgd fun K hK => ?_
  have hrun : (Instr.index 66 (pgV p) (.int .i64 (i : Int))).run Try.prog w = .ok (.int .u8 (p.getD i 0)) w := by
    obtain ⟨ii, hii, hs⟩ := Option.map_eq_some_iff.1 size_u8
    have ht : Try.prog.underlying 66 = some (.array 256 5) := by kernel_rfl
    have he : Try.prog.underlying 5 = some (.int .u8) := Try.underlying5
    have hgi : p[i]? = some (p.getD i 0) := by simp [List.getD, show i < p.length by omega]
    generalize p.getD i 0 = y at hgi
    have h1 : (i : Int) < 256 := by omega
    unfold pgV pgv
    simp [Instr.index, asIntOf, run_underlying ht, run_underlying he, part, isAgg, sizeOf, typeInfo, hii, hs, go_sem, h1, hgi]
    intro hh; omega
  unfold Oper.wp
  simp [execOp, ho, hx, hy, hrun, Result.andThen]
  exact hK _ _ h
theorem wpList_ld1w (hgd : Region.wanted o (yielded ops a.tmps) = true) (t e : TypeId) (ht : Try.prog.underlying t = some (.slice e)) (x : Operand) (ho : o.op = .load t x) (g off : Nat) (hx : a.eval x = .pointer (some ⟨g, off, none⟩)) (v : Value) (hc : w.cell? ⟨g, off, none⟩ = some v)
    (h : wpList Try.prog ops Q rest (a.put o.dst v) w) : wpList Try.prog ops Q (o :: rest) a w := by
  refine wpList_wanted hgd fun K hK => ?_
  have hr := run_ld1 (P := Try.prog) (w := w) t e ht g off v hc
  unfold Oper.wp
  simp [execOp, ho, hx, hr, Result.andThen]
  exact hK _ _ h
end
def JN (w0 : World) : List Value → World → Prop := fun _ W => W = w0

/-- Rows of bytes in blocks of their own, held by a row. -/
structure May (w : World) (lo g N : Nat) (vs : Nat → Value) (bs : Nat → Nat) (ls : Nat → List Int) (K : Nat) : Prop where
  out : BxV w g 92 ((List.range N).map vs)
  each : ∀ i, i < K → OwnT 5 w (bs i) (vs i) ((ls i).map (Value.int .u8))
  inj : ∀ i j, i < K → j < K → bs i = bs j → i = j
  low : ∀ i, i < K → lo ≤ bs i
section
variable {w w' : World} {lo g N K : Nat} {vs : Nat → Value} {bs : Nat → Nat} {ls ls' : Nat → List Int} {S : Nat → Prop}
theorem May.ne (h : May w lo g N vs bs ls K) : ∀ i, i < K → bs i ≠ g := by
  intro i hi e
  obtain ⟨cur, hc⟩ := (h.each i hi).blk
  have := h.out
  unfold BxV at this
  rw [e, this] at hc
  simp at hc
theorem May.fr (h : May w lo g N vs bs ls K) (f : Fr S w w') (hg : ¬ S g) (hb : ∀ i, i < K → ¬ S (bs i)) : May w' lo g N vs bs ls K :=
  ⟨h.out.fr f hg, fun i hi => (h.each i hi).fr f (hb i hi), h.inj, h.low⟩
theorem May.fr0 (h : May w lo g N vs bs ls K) (f : Fr noB w w') : May w' lo g N vs bs ls K := h.fr f (fun q => q) (fun _ _ q => q)
theorem May.congr (h : May w lo g N vs bs ls K) (hl : ∀ i, i < K → ls i = ls' i) : May w lo g N vs bs ls' K :=
  ⟨h.out, fun i hi => hl i hi ▸ h.each i hi, h.inj, h.low⟩
end
/-- While a page is written. -/
def JK (w0 : World) (F : Nat → Prop) (gd : Nat) (E : Int) (Y : DSt) (P : List Int) : List Value → World → Prop
  | [], W => W = w0
  | [v], W => v = pgV P ∧ Fr noB w0 W
  | [_, e], W => e = .int .i64 E ∧ Fr F w0 W ∧ ∃ F', Disk W F' gd Y ∧ ∀ q, F' q → q < W.heap.size ∧ (F q ∨ w0.heap.size ≤ q)
  | _, _ => False
theorem JK.fr {w0 : World} {F : Nat → Prop} {gd : Nat} {E : Int} {Y : DSt} {P : List Int} : ∀ {hv : List Value} {W : World}, JK w0 F gd E Y P hv W → Fr F w0 W
  | [], _, h => by cases h; exact Fr.refl _ _
  | [_], _, h => h.2.mono (fun _ _ q => q.elim)
  | [_, _], _, h => h.2.1
  | _ :: _ :: _ :: _, _, h => h.elim
/-- While a byte is appended to one of the rows. -/
def JA (w0 : World) (g2 bj j : Nat) (L xs : List Value) (c : Int) : List Value → World → Prop
  | [], W => W = w0
  | [v], W => v = .slice (some ⟨w0.heap.size, 0, none⟩) 1 1 ∧ W = w0.alloc (.cells #[.int .u8 c] 5)
  | [_, v], W => ∃ b', OwnT 5 W b' v (xs ++ [.int .u8 c]) ∧ Fr (onB1 bj) w0 W ∧ (b' = bj ∨ w0.heap.size ≤ b')
  | [_, v, _], W => ∃ b', OwnT 5 W b' v (xs ++ [.int .u8 c]) ∧ BxV W g2 92 (L.set j v) ∧ Fr (fun q => q = bj ∨ q = g2) w0 W ∧ (b' = bj ∨ w0.heap.size ≤ b')
  | _, _ => False
theorem JA.fr {w0 : World} {g2 bj j : Nat} {L xs : List Value} {c : Int} : ∀ {hv : List Value} {W : World}, JA w0 g2 bj j L xs c hv W → Fr (fun q => q = bj ∨ q = g2) w0 W
  | [], _, h => by cases h; exact Fr.refl _ _
  | [_], _, h => by obtain ⟨_, rfl⟩ := h; exact ((Fr.refl noB w0).alloc _).mono (fun _ _ q => q.elim)
  | [_, _], _, h => by obtain ⟨_, _, h, _⟩ := h; exact h.mono (fun _ _ q => Or.inl q)
  | [_, _, _], _, h => by obtain ⟨_, _, _, h, _⟩ := h; exact h
  | _ :: _ :: _ :: _ :: _, _, h => h.elim
/-- While one of the rows is cut. -/
def JU (w0 : World) (g2 : Nat) (L : List Value) : List Value → World → Prop
  | [], W => W = w0
  | [_], W => BxV W g2 92 L ∧ Fr (onB1 g2) w0 W
  | _, _ => False
end Go.Proofs.Ytamfnjliikiifaa
