/- Contract of the document's own Num for layer 1; bytes of at most 10^12. -/
import Derived.Test.YtffdgbimpodopaaR3
namespace Go.Proofs.Ytffdgbimpodopaa
open Go.RowKit Go.Proofs.U

theorem rtake_any (vb : Value) (l : List Int) (t : Nat) (f : Bool) (n : Int) (w : World) (hb : SlI .u8 w vb l) (ht : t ≤ l.length) (hl : l.length ≤ 1000000000000) :
    Calls Try.prog 18 #[.agg #[vb, .int .i64 t, .bool f], .int .i64 n] w fun e w' => ∃ v, e = .returned (.tuple #[.agg #[vb, .int .i64 (tkT l t f n : Nat), .bool (tkF l t f n)], v]) ∧ OwnI .u8 5 w' w.heap.size v (tkL l t f n) ∧ Fr noB w w' := by
  cases hk : tkOk l t f n with
  | true =>
    have hk' := hk
    simp [tkOk] at hk
    obtain ⟨⟨rfl, hn0⟩, hn⟩ := hk
    obtain ⟨m, rfl⟩ := Int.eq_ofNat_of_zero_le hn0
    refine (rtake_yes vb l t m w hb ht hl (by omega)).mono ?_
    rintro e w' ⟨v, rfl, ho, hf⟩
    refine ⟨v, ?_, ?_, hf⟩
    · simp [tkT, tkF, hk']
    · simpa [tkL, hk'] using ho
  | false =>
    refine (rtake_no vb l t f n w hb ht hl hk).mono ?_
    rintro e w' ⟨rfl, hf⟩
    refine ⟨.slice none 0 0, ?_, ?_, hf⟩
    · simp [tkT, tkF, hk]
    · simpa [tkL, hk] using OwnI.mk (k := .u8) [] (World.ownsRow_nil w' w.heap.size 5 1) rfl

theorem heap2_0 (w : World) (A B : Obj) : ((w.alloc A).alloc B).heap[w.heap.size]? = some A := by
  show ((w.heap.push A).push B)[w.heap.size]? = _
  rw [Array.getElem?_push, if_neg (by simp), Array.getElem?_push, if_pos rfl]
theorem heap2_1 (w : World) (A B : Obj) : ((w.alloc A).alloc B).heap[w.heap.size + 1]? = some B := by
  show ((w.heap.push A).push B)[w.heap.size + 1]? = _
  rw [Array.getElem?_push, if_pos (by simp)]

set_option maxHeartbeats 1000000 in
theorem rnum_nowidth (vb : Value) (l : List Int) (t : Nat) (f : Bool) (width : Int) (w : World) (hb : SlI .u8 w vb l) (hwd : isW width = false) :
    Calls Try.prog 17 #[.agg #[vb, .int .i64 t, .bool f], .int .i64 width] w fun e w' => e = .returned (.tuple #[.agg #[vb, .int .i64 t, .bool true], .int .u64 0]) ∧ Fr noB w w' := by
  obtain ⟨a, cap, rfl, hcap⟩ := hb.opn
  have Hwd := Hid.mk hwd
  clear hwd
  go_enter Try.func17, Try.ntmps17
  go_wp2_with (go_at_call 24; refine (right_any _ _).mono ?_; rintro e w' ⟨rfl, rfl⟩; rw [Hwd.out])
  refine bodyPost_ret (v := .tuple #[.agg #[.slice a l.length cap, .int .i64 t, .bool true], .int .u64 0]) (by simp [results, Try.results17, go_sem]) rfl ⟨rfl, ?_⟩
  exact ((Fr.refl _ _).alloc _).alloc _

theorem leNum_snoc (zs : List Int) (c : Int) : leNum (zs ++ [c]) = leNum zs + 256 ^ zs.length * c := by
  induction zs with
  | nil => simp [leNum]
  | cons x zs ih =>
    simp only [List.cons_append, leNum, ih, List.length_cons, Int.pow_succ]
    rw [Int.mul_add, Int.mul_right_comm, Int.mul_comm (256 ^ zs.length * c) 256, Int.add_assoc]
theorem pow_small (k : Nat) (hk : k < 8) : (256 : Int) ^ k ≤ 72057594037927936 := by
  have h7 : k = 0 ∨ k = 1 ∨ k = 2 ∨ k = 3 ∨ k = 4 ∨ k = 5 ∨ k = 6 ∨ k = 7 := by omega
  rcases h7 with e | e | e | e | e | e | e | e <;> rw [e] <;> decide
theorem rstep (L : List Int) (k : Nat) (hk : k < L.length) (h8 : L.length ≤ 8) (hw : ∀ x ∈ L, 0 ≤ x ∧ x < 256) :
    IntKind.u64.wrap (leNum (L.take k) + IntKind.u64.wrap (256 ^ k % 18446744073709551616 * IntKind.u64.wrap L[k])) = leNum (L.take (k + 1)) := by
  have hc := hw L[k] (by simp)
  have hp : (0 : Int) < 256 ^ k := Int.pow_pos (by decide)
  have hs := pow_small k (by omega)
  have hb := leNum_bd (L.take k) (fun x hx => hw x (List.mem_of_mem_take hx))
  have hl : (L.take k).length = k := by simp; omega
  rw [hl] at hb
  rw [List.take_succ_eq_append_getElem hk, leNum_snoc, hl, Int.emod_eq_of_lt (by omega) (by omega), wrap_u64_id L[k] hc.1 (by omega)]
  have h1 : 0 ≤ (256 : Int) ^ k * L[k] := Int.mul_nonneg (by omega) hc.1
  have h2 : (256 : Int) ^ k * L[k] ≤ 256 ^ k * 255 := Int.mul_le_mul_of_nonneg_left (by omega) (by omega)
  rw [wrap_u64_id _ h1 (by omega), wrap_u64_id _ (by omega) (by omega)]
theorem rstep2 (k : Nat) : IntKind.u64.wrap ((256 : Int) ^ k % 18446744073709551616 * 256) = 256 ^ (k + 1) % 18446744073709551616 := by
  have h : ∀ x : Int, IntKind.u64.wrap x = x % 18446744073709551616 := fun x => by simp [IntKind.wrap, IntKind.bits, IntKind.signed]
  rw [h, Int.pow_succ]
  generalize (256 : Int) ^ k = y
  omega

set_option maxHeartbeats 1000000 in
theorem rnum_width (vb : Value) (l : List Int) (t : Nat) (f : Bool) (width : Int) (w : World) (hb : SlI .u8 w vb l) (ht : t ≤ l.length) (hl : l.length ≤ 1000000000000) (hwd : isW width = true) :
    Calls Try.prog 17 #[.agg #[vb, .int .i64 t, .bool f], .int .i64 width] w fun e w' => e = .returned (.tuple #[.agg #[vb, .int .i64 (tkT l t f width : Nat), .bool (tkF l t f width)], .int .u64 (leNum (tkL l t f width))]) ∧ Fr noB w w' := by
  obtain ⟨a, cap, rfl, hcap⟩ := hb.opn
  have Hwd := Hid.mk hwd
  clear hwd
  have hL8 : (tkL l t f width).length ≤ 8 := by
    have hcase : width = 1 ∨ width = 2 ∨ width = 4 ∨ width = 8 := by simpa [isW, or_assoc] using Hwd.out
    unfold tkL; split
    · simp; omega
    · simp
  have hwfL : ∀ x ∈ tkL l t f width, (Lit.int .u8 x).wf = true := by
    unfold tkL; split
    · exact fun x hx => hb.2 x (List.mem_of_mem_drop (List.mem_of_mem_take hx))
    · simp
  have hta := fun W (hf : Fr noB w W) => rtake_any _ l t f width W (hb.fr0 hf) ht hl
  generalize tkL l t f width = L at *
  generalize tkT l t f width = t' at *
  generalize tkF l t f width = f' at *
  have Hta := Hid.mk hta
  clear hta
  go_enter Try.func17, Try.ntmps17
  go_wp2_with (first
    | (go_at_call 24; refine (right_any _ _).mono ?_; rintro e w' ⟨rfl, rfl⟩; rw [Hwd.out])
    | (go_at_call 18; go_must (refine (Hta.out _ (((Fr.refl _ _).alloc _).alloc _)).mono ?_; rintro e w2 ⟨v2, rfl, ho2, hf2⟩; obtain ⟨a2, c2, rfl⟩ := ho2.opn; have B0 := box3 ((hf2.block w.heap.size (by simp only [World.size_alloc]; omega) (fun q => q)).trans (heap2_0 _ _ _)); have B1 := box3 ((hf2.block (w.heap.size + 1) (by simp only [World.size_alloc]; omega) (fun q => q)).trans (heap2_1 _ _ _)); obtain ⟨b00, b01, b02, b03, b04, b05⟩ := B0; obtain ⟨b10, b11, b12, b13, b14, b15⟩ := B1)))
  obtain ⟨W3, hW3⟩ : ∃ W3, ((w2.setCell ⟨w.heap.size, 0, none⟩ (.slice a l.length cap)).setCell ⟨w.heap.size, 1, none⟩ (.int .i64 (t' : Int))).setCell ⟨w.heap.size, 2, none⟩ (.bool f') = W3 := ⟨_, rfl⟩
  rw [hW3]
  have hf3 : Fr (onB w.heap.size) w2 W3 := by
    rw [← hW3]; exact (((Fr.refl (onB w.heap.size) w2).setCell ⟨w.heap.size, 0, none⟩ _ (fun _ => rfl)).setCell ⟨w.heap.size, 1, none⟩ _ (fun _ => rfl)).setCell ⟨w.heap.size, 2, none⟩ _ (fun _ => rfl)
  have hsz2 := hf2.size
  simp only [World.size_alloc] at hsz2
  have sl3 : SlI .u8 W3 (.slice a2 L.length c2) L := (ho2.sl hwfL).fr hf3 (fun k hk q => by have := (ho2.newB k hk).1; simp only [World.size_alloc] at this; unfold onB at q; omega)
  have g3 : Fr noB w W3 := (((((Fr.refl _ _).alloc _).alloc _).thenN hf2)).thenT hf3 (fun i hi q => by unfold onB at q; omega)
  have c0 : W3.cell? ⟨w.heap.size, 0, none⟩ = some (.slice a l.length cap) := by rw [← hW3]; simp [go_sem, b00]
  have c1 : W3.cell? ⟨w.heap.size, 1, none⟩ = some (.int .i64 (t' : Int)) := by rw [← hW3]; simp [go_sem, b01]
  have c2' : W3.cell? ⟨w.heap.size, 2, none⟩ = some (.bool f') := by rw [← hW3]; simp [go_sem, b02]
  have d0 := hf3.cell b10 (fun q => by unfold onB at q; simp at q)
  have d1 := hf3.cell b11 (fun q => by unfold onB at q; simp at q)
  have d2 := hf3.cell b12 (fun q => by unfold onB at q; simp at q)
  have d3 := (hf3.frozen b10 (fun q => by unfold onB at q; simp at q)).trans b13
  have d4 := (hf3.frozen b11 (fun q => by unfold onB at q; simp at q)).trans b14
  have d5 := (hf3.frozen b12 (fun q => by unfold onB at q; simp at q)).trans b15
  clear b00 b01 b02 b03 b04 b05 b10 b11 b12 b13 b14 b15 hW3 Hta
  go_loop [7, 8, 24] (fun n m i => ∃ k : Nat, k ≤ L.length ∧ i = .int .i64 k ∧ n = .int .u64 (leNum (L.take k)) ∧ m = .int .u64 (256 ^ k % 18446744073709551616)) (fun _ _ i => L.length - (intOf i).toNat)
  case atStart => exact ⟨0, Nat.zero_le _, rfl, by simp [leNum], by simp⟩
  case round =>
    obtain ⟨k, hk, rfl, rfl, rfl⟩ := hrel
    by_cases hlt : k < L.length
    · go_wp2_with (refine wpList_idx1 rfl 22 _ _ rfl 5 Try.underlying22 size5 _ _ _ rfl sl3.1 _ _ k rfl rfl hlt ?_; intro p u hu hc; obtain rfl := getu _ _ _ _ hu)
      go_round
      case rel => exact ⟨k + 1, by omega, by go_num, by rw [← rstep L k hlt hL8 (fun x hx => u8_bd (hwfL x hx))], by rw [rstep2]⟩
      case measure => simp [intOf]; omega
    · obtain rfl : k = L.length := by omega
      go_wp2
      refine bodyPost_ret (v := .tuple #[.agg #[.slice a l.length cap, .int .i64 (t' : Int), .bool f'], .int .u64 (leNum L)]) (by simp [results, Try.results17, go_sem, d0, d1, d2]) rfl ⟨rfl, ?_⟩
      exact ((g3.setCell ⟨w.heap.size + 1, 0, none⟩ _ (fun h => by simp at h; omega)).setCell ⟨w.heap.size + 1, 1, none⟩ _ (fun h => by simp at h; omega)).setCell ⟨w.heap.size + 1, 2, none⟩ _ (fun h => by simp at h; omega)

theorem rnum_any (vb : Value) (l : List Int) (t : Nat) (f : Bool) (width : Int) (w : World) (hb : SlI .u8 w vb l) (ht : t ≤ l.length) (hl : l.length ≤ 1000000000000) :
    Calls Try.prog 17 #[.agg #[vb, .int .i64 t, .bool f], .int .i64 width] w fun e w' => e = .returned (.tuple #[.agg #[vb, .int .i64 (nmT l t f width : Nat), .bool (nmF l t f width)], .int .u64 (nmV l t f width)]) ∧ Fr noB w w' := by
  cases hwd : isW width with
  | true => simpa only [nmV, nmT, nmF, hwd, if_true] using rnum_width vb l t f width w hb ht hl hwd
  | false => simpa only [nmV, nmT, nmF, hwd, if_false, Bool.false_eq_true] using rnum_nowidth vb l t f width w hb hwd
end Go.Proofs.Ytffdgbimpodopaa
