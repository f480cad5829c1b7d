/- Contracts of Turn of package crc, and of crcAlive. -/
import Derived.Test.YtaaiockknpeglaaC3
import Derived.Lib.SlBytesConst
namespace Go.Proofs.Ytaaiockknpeglaa
open Go.RowKit Go.Proofs.U

def xI (a b : Int) : Int := ((a.toNat ^^^ b.toNat : Nat) : Int)
def turnI (l : List Int) (at' m : Int) : List Int := if 0 ≤ at' ∧ at' < (l.length : Int) then l.set at'.toNat (xI (l.getD at'.toNat 0) m) else l
theorem xI_bd {a b : Int} (ha : 0 ≤ a ∧ a < 256) (hb : 0 ≤ b ∧ b < 256) : 0 ≤ xI a b ∧ xI a b < 256 := by
  have : a.toNat ^^^ b.toNat < 2 ^ 8 := Nat.xor_lt_two_pow (by omega) (by omega)
  unfold xI; omega
theorem turnI_wf (l : List Int) (at' m : Int) (hl : ∀ n ∈ l, (Lit.int .u8 n).wf = true) (hm : 0 ≤ m ∧ m < 256) : ∀ n ∈ turnI l at' m, (Lit.int .u8 n).wf = true := by
  unfold turnI
  split
  · rename_i h
    intro n hn
    rcases List.mem_or_eq_of_mem_set hn with h1 | h1
    · exact hl n h1
    · subst h1
      have hj : at'.toNat < l.length := by omega
      have hd : l.getD at'.toNat 0 = l[at'.toNat] := by simp [List.getD, hj]
      have := xI_bd (u8_bd (hl l[at'.toNat] (by simp))) hm
      rw [hd]; exact wf_byte this.1 this.2
  · exact hl
theorem turnI_length (l : List Int) (at' m : Int) : (turnI l at' m).length = l.length := by unfold turnI; split <;> simp
theorem made_ints (n : Nat) : (madeCells (Value.int IntKind.u8 0).cells (n * 1)).toList = (List.replicate n 0).map (Value.int .u8) := by
  rw [Nat.mul_one]; show (madeCells #[Value.int IntKind.u8 0] n).toList = _; rw [toList_madeCells_one, List.map_replicate]

theorem cpy_all (l : List Int) : (l.map (Value.int .u8)).take l.length ++ ((madeCells (Value.int IntKind.u8 0).cells (l.length * 1)).toList).drop l.length = l.map (Value.int .u8) := by
  rw [made_ints, List.take_of_length_le (by simp), List.drop_of_length_le (by simp), List.append_nil]

set_option maxHeartbeats 1000000 in
theorem turn_any (v : Value) (l : List Int) (at' m : Int) (w : World) (h : SlI .u8 w v l) (hb : l.length ≤ 1000000000000) (hm : 0 ≤ m ∧ m < 256) :
    Calls Try.prog 16 #[v, .int .i64 at', .int .u8 m] w fun e w' => ∃ v', e = .returned v' ∧ OwnI .u8 5 w' w.heap.size v' (turnI l at' m) ∧ Fr noB w w' := by
  obtain ⟨a, cap, rfl, hcap⟩ := h.opn
  obtain ⟨i5, hi5, hz5, hs5, hy5⟩ := info_parts info5
  by_cases hat : 0 ≤ at' ∧ at' < (l.length : Int)
  · obtain ⟨j, rfl⟩ := Int.eq_ofNat_of_zero_le hat.1
    have hj : j < l.length := by omega
    have hd : l.getD j 0 = l[j] := by simp [List.getD, hj]
    have hbd := u8_bd (h.2 l[j] (by simp))
    have Ht : Hid (turnI l (j : Int) m = l.set j (xI l[j] m)) := by
      show _ = _
      unfold turnI; rw [if_pos hat, Int.toNat_natCast, hd]
    have hx : bits .xor .u8 l[j] m = xI l[j] m := u8_xor _ _ hbd.1 hbd.2 hm.1 hm.2
    have Hx := Hid.mk hx
    clear hx hat
    go_enter Try.func16, Try.ntmps16
    go_wp2_with (first
      | (refine at_make 24 _ _ rfl ?_; go_must (refine wpList_make_full _ rfl _ _ 24 rfl w.heap.size 5 i5 _ 1 Try.underlying24 hi5 hz5 hs5 .i64 .i64 _ _ l.length rfl rfl rfl rfl ?hb2 ?hb3 (Nat.le_refl _) ?_; rotate_left 2; intro w1 hown hgr; have hf1 := Fr.of_grown hgr; have hS1 := h.1.fr0 hf1))
      | (refine wpList_cpy rfl _ _ 24 24 rfl 5 Try.underlying24 size5 w.heap.size 5 _ _ _ rfl hown _ _ _ rfl hS1 (ones _ _) ?_; go_must (intro w2 hown2 hgr2; have hf2 := hf1.grown hgr2 (owns_new hown); have ho2 : OwnI .u8 5 w2 w.heap.size _ l := OwnI.mk l hown2 (cpy_all l); obtain ⟨hc2, hz2⟩ := ho2.cellK j hj; rw [hd] at hc2)))
    case hb2 => rw [hy5]; omega
    case hb3 => unfold maxLen; omega
    go_ret
    refine ⟨_, rfl, ?_, hf2.setCell _ _ (fun q => by simp at q)⟩
    rw [Ht.out, Hx.out]
    exact ho2.setK j hj _
  · have Ht : Hid (turnI l at' m = l) := by
      show _ = _
      unfold turnI; rw [if_neg hat]
    rcases (by omega : at' < 0 ∨ (0 ≤ at' ∧ (l.length : Int) ≤ at')) with hq | ⟨hq, hq2⟩
    all_goals
      go_enter Try.func16, Try.ntmps16
      go_wp2_with (first
        | (refine at_make 24 _ _ rfl ?_; go_must (refine wpList_make_full _ rfl _ _ 24 rfl w.heap.size 5 i5 _ 1 Try.underlying24 hi5 hz5 hs5 .i64 .i64 _ _ l.length rfl rfl rfl rfl ?hb2 ?hb3 (Nat.le_refl _) ?_; rotate_left 2; intro w1 hown hgr; have hf1 := Fr.of_grown hgr; have hS1 := h.1.fr0 hf1))
        | (refine wpList_cpy rfl _ _ 24 24 rfl 5 Try.underlying24 size5 w.heap.size 5 _ _ _ rfl hown _ _ _ rfl hS1 (ones _ _) ?_; go_must (intro w2 hown2 hgr2; have hf2 := hf1.grown hgr2 (owns_new hown); have ho2 : OwnI .u8 5 w2 w.heap.size _ l := OwnI.mk l hown2 (cpy_all l))))
      case hb2 => rw [hy5]; omega
      case hb3 => unfold maxLen; omega
      go_ret
      refine ⟨_, rfl, ?_, hf2⟩
      rw [Ht.out]; exact ho2

theorem sum9 : crcI [49, 50, 51, 52, 53, 54, 55, 56, 57] = 58124007 := by decide +kernel
theorem seal0 : sealI [] = [255, 255, 255, 255] := by decide +kernel
theorem str255 : ((strOfNums [255, 255, 255, 255]).toList == [255, 255, 255, 255]) = true := by decide +kernel

theorem SlB3 (w : World) (t : TypeId) (v1 v2 v3 : Value) (l1 l2 l3 : List Int) (b : Nat) (hb : w.heap.size = b) (h1 : SlI .u8 w v1 l1) (h2 : SlI .u8 w v2 l2) (h3 : SlI .u8 w v3 l3) : SlB (w.alloc (.cells #[v1, v2, v3] t)) (.slice (some ⟨b, 0, none⟩) 3 3) [l1, l2, l3] := by
  refine ⟨[v1, v2, v3], Sl_made w t #[v1, v2, v3] 3 b rfl hb, fun j hj u hu => ?_⟩
  have hf : Fr noB w (w.alloc (.cells #[v1, v2, v3] t)) := (Fr.refl _ _).alloc _
  have hj' : j = 0 ∨ j = 1 ∨ j = 2 := by simp at hj; omega
  rcases hj' with rfl | rfl | rfl <;> simp at hu <;> subst hu
  · exact h1.fr0 hf
  · exact h2.fr0 hf
  · exact h3.fr0 hf
theorem SlI_made (w : World) (t : TypeId) (l : List Int) (cs : Array Value) (n b : Nat) (hn : cs.size = n) (hb : w.heap.size = b) (hc : cs.toList = l.map (Value.int .u8)) (hl : ∀ n ∈ l, (Lit.int .u8 n).wf = true) : SlI .u8 (w.alloc (.cells cs t)) (.slice (some ⟨b, 0, none⟩) n n) l := by
  have hnl : n = l.length := by rw [← hn, ← Array.length_toList, hc]; simp
  subst hnl
  refine ⟨?_, hl⟩
  rw [← hc]; exact Sl_made w t cs _ b hn hb

theorem SlI_marked (w : World) (t : TypeId) (l : List Int) (cs : Array Value) (n b : Nat) (fz : Nat × Nat) (hn : cs.size = n) (hb : w.heap.size = b) (hc : cs.toList = l.map (Value.int .u8)) (hl : ∀ n ∈ l, (Lit.int .u8 n).wf = true) : SlI .u8 (w.alloc (.cells cs t fz)) (.slice (some ⟨b, 0, none⟩) n n) l := by
  subst hb
  have hnl : n = l.length := by rw [← hn, ← Array.length_toList, hc]; simp
  subst hnl
  refine ⟨?_, hl⟩
  rw [← hc]
  refine ⟨_, _, rfl, Nat.le_refl _, by simp [hn], (fun h => by cases h), fun x hx => ?_⟩
  cases hx
  intro j u hj
  rw [Addr.plain, Nat.zero_add]
  have h1 : cs[j]? = some u := by simpa using hj
  have h2 : (w.alloc (.cells cs t fz)).heap[w.heap.size]? = some (.cells cs t fz) := by
    show (w.heap.push _)[w.heap.size]? = _
    simp
  unfold World.cell?
  rw [h2]
  exact h1

section
variable {w0 : World} {ops : Array Oper} {rest : List Oper} {o : Oper} {a : Act} {Q : Exit → Act → World → Prop}
/-- []byte of a constant. -/
theorem wpList_const (hgd : Region.wanted o (yielded ops a.tmps) = true) (x : Operand) (ho : o.op = .convert 24 24 x) (w : World) (cs : Array Value) (n b : Nat) (l : List Int) (hx : a.eval x = .slice (some ⟨b, 0, none⟩) n n) (hn : cs.size = n) (hb : w.heap.size = b)
    (hc : cs.toList = l.map (Value.int .u8)) (hl : ∀ n ∈ l, (Lit.int .u8 n).wf = true) (hw0 : w0 = w.alloc (.cells cs 5))
    (h : ∀ w', Fr noB w w' → SlI .u8 w' (.slice (some ⟨b, 0, none⟩) n n) l → wpList Try.prog ops Q rest (a.put o.dst (.slice (some ⟨b, 0, none⟩) n n)) w') : wpList Try.prog ops Q (o :: rest) a w0 := by
  subst hw0 hb
  refine wpList_wanted hgd fun K hK => ?_
  have hrun := Go.Lib.run_convert_bytes_const (P := Try.prog) w 24 5 cs n n Try.underlying24 Try.underlying5
  unfold Oper.wp
  simp [execOp, ho, hx, hrun, Result.andThen]
  exact hK _ _ (h _ ((Fr.refl _ _).alloc _) (SlI_marked w _ l cs n _ _ hn rfl hc hl))
end

set_option maxHeartbeats 1000000 in
theorem alive_any (w : World) : Calls Try.prog 9 #[] w fun e w' => e = .returned (.bool true) ∧ Fr noB w w' := by
  have hst := str255
  have Hs9 := Hid.mk sum9
  go_enter Try.func9, Try.ntmps9
  go_wp2_with (first
    | (refine at_conv 24 24 _ rfl ?_; refine wpList_const rfl _ rfl w _ _ _ [49, 50, 51, 52] rfl rfl rfl (by rfl) (by decide) rfl ?_; intro w1 hf1 hl1)
    | (refine at_conv 24 24 _ rfl ?_; refine wpList_const rfl _ rfl w1 _ _ _ [53, 54, 55, 56, 57] rfl rfl rfl (by rfl) (by decide) rfl ?_; intro w2 hf2 hl2; have hl12 := hl1.fr0 hf2)
    | (go_at_call 11; go_must (refine (of_any _ [[49, 50, 51, 52], [], [53, 54, 55, 56, 57]] _ (SlB3 _ _ _ _ _ _ _ _ _ rfl hl12 (SlI.nil _ _) hl2) ⟨by decide, by decide⟩).mono ?_; rintro e w3 ⟨rfl, rfl⟩; rw [show ([[49, 50, 51, 52], [], [53, 54, 55, 56, 57]] : List (List Int)).flatten = [49, 50, 51, 52, 53, 54, 55, 56, 57] from rfl, Hs9.out]))
    | (go_at_call 12; go_must (refine (seal_any _ [] [] rfl _ (SlB.nil _) (by decide) (by decide)).mono ?_; rintro e w4 ⟨v4, rfl, ho4, hf4⟩; rw [seal0] at ho4; have hs4 := ho4.sl (by decide); obtain ⟨a4, c4, rfl⟩ := ho4.opn))
    | (refine at_conv 24 9 _ rfl ?_; go_must (refine wpList_str rfl _ 24 9 5 rfl Try.underlying24 Try.underlying5 Try.underlying9 _ _ rfl hs4 ?_)))
  go_ret
  exact ⟨rfl, (((hf1.thenN hf2).alloc _).thenN hf4)⟩
end Go.Proofs.Ytaaiockknpeglaa
