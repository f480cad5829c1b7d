/- Texts V17 of the proof of RootSpoilt, one behind the other. -/
import Derived.Test.YtijgfojnppcbjaaBundleRootSpoilt1
import Derived.Test.YtijgfojnppcbjaaBundleRootSpoilt2
import Derived.Test.YtijgfojnppcbjaaBundleRootSpoilt3
import Derived.Test.YtijgfojnppcbjaaBundleRootSpoilt4
import Derived.Test.YtijgfojnppcbjaaBundleRootSpoilt5
import Derived.Test.YtijgfojnppcbjaaBundleRootSpoilt6
import Derived.Test.YtijgfojnppcbjaaBundleRootSpoilt7
import Derived.Test.YtijgfojnppcbjaaBundleRootSpoilt8
import Derived.Test.YtijgfojnppcbjaaBundleRootSpoilt9
import Derived.Test.YtijgfojnppcbjaaBundleRootSpoilt10
import Derived.Test.YtijgfojnppcbjaaBundleRootSpoilt11
import Derived.Test.YtijgfojnppcbjaaBundleRootSpoilt12
import Derived.Test.YtijgfojnppcbjaaBundleRootSpoilt13
import Derived.Test.YtijgfojnppcbjaaBundleRootSpoilt14
/- RootSpoilt. (Written by v17_gen.py.) -/
namespace Go.Proofs.Ytijgfojnppcbjaa
open Go.RowKit Go.Proofs.U
set_option linter.unusedSimpArgs false
set_option linter.unusedVariables false
/-- While one byte of a page is turned. -/
def JT (w0 : World) (g : Nat) (x y : Value) (l : List Int) : List Value → World → Prop
  | [], W => W = w0
  | [a], W => W = w0 ∧ a = x
  | [_, b], W => W = w0 ∧ b = y
  | [_, _, _], W => BxV W g 46 (pgv l) ∧ Fr (onB1 g) w0 W
  | _, _ => False
theorem JT.fr {w0 : World} {g : Nat} {x y : Value} {l : List Int} : ∀ {hv : List Value} {W : World}, JT w0 g x y l hv W → Fr (onB1 g) w0 W
  | [], _, h => by cases h; exact Fr.refl _ _
  | [_], _, h => by cases h.1; exact Fr.refl _ _
  | [_, _], _, h => by cases h.1; exact Fr.refl _ _
  | [_, _, _], _, h => h.2
  | _ :: _ :: _ :: _ :: _, _, h => h.elim
theorem under_t2 : Try.prog.underlying 66 = some (.array 2 5) := by kernel_rfl
theorem run_idxT (w : World) (g i : Nat) (hi : i < 2) : (Instr.indexAt 66 (.pointer (some ⟨g, 0, none⟩)) (.int .i64 (i : Int))).run Try.prog w = .ok (.pointer (some ⟨g, i, none⟩)) w := by
  obtain ⟨ii, hinf, hsz⟩ := Option.map_eq_some_iff.1 size_u8
  have h1 : (0 : Int) ≤ (i : Int) ∧ (i : Int) < 2 := by omega
  simp [Instr.indexAt, asIntOf, run_underlying under_t2, h1, sizeOf, typeInfo, hinf, hsz, go_sem, Addr.plain]
  omega
theorem run_idxP (w : World) (g i : Nat) (hi : i < 256) : (Instr.indexAt 46 (.pointer (some ⟨g, 0, none⟩)) (.int .u8 (i : Int))).run Try.prog w = .ok (.pointer (some ⟨g, i, none⟩)) w := by
  obtain ⟨ii, hinf, hsz⟩ := Option.map_eq_some_iff.1 size_u8
  have h1 : (0 : Int) ≤ (i : Int) ∧ (i : Int) < 256 := by omega
  simp [Instr.indexAt, asIntOf, run_underlying under_pg, h1, sizeOf, typeInfo, hinf, hsz, go_sem, Addr.plain]
  omega
theorem under_s2 : Try.prog.underlying 67 = some (.array 2 9) := by kernel_rfl
theorem size_str : (Try.prog.info? 9).map (·.size) = some 1 := by kernel_rfl
theorem run_indexS (w : World) (x y : ByteArray) (i : Nat) (hi : i < 2) : (Instr.index 67 (.agg #[.string x, .string y]) (.int .i64 (i : Int))).run Try.prog w = .ok (.string (if i = 0 then x else y)) w := by
  obtain ⟨ii, hii, hs⟩ := Option.map_eq_some_iff.1 size_str
  have : i = 0 ∨ i = 1 := by omega
  rcases this with rfl | rfl <;> simp [Instr.index, asIntOf, run_underlying under_s2, run_underlying Try.underlying9, part, isAgg, sizeOf, typeInfo, hii, hs, go_sem]
section
variable {w : World} {ops : Array Oper} {rest : List Oper} {o : Oper} {a : Act} {Q : Exit → Act → World → Prop}
theorem wpList_indexS (hgd : Region.wanted o (yielded ops a.tmps) = true) (x y : Operand) (ho : o.op = .index 67 x y) (s t : ByteArray) (hx : a.eval x = .agg #[.string s, .string t]) (i : Nat) (hy : a.eval y = .int .i64 (i : Int)) (hi : i < 2)
    (h : wpList Try.prog ops Q rest (a.put o.dst (.string (if i = 0 then s else t))) w) : wpList Try.prog ops Q (o :: rest) a w := by
  refine wpList_wanted hgd fun K hK => ?_
  have hrun := run_indexS w s t i hi
  unfold Oper.wp
  simp [execOp, ho, hx, hy, hrun, Result.andThen]
  exact hK _ _ h
end
def P0S (b : List Int) (t0 : Nat) (M : Int) : List Int := turn1 (rootP 2 b) t0 M
def P1S (a : List Int) (t0 : Nat) (M : Int) : List Int := turn1 (rootP 1 a) t0 M
def X3S (a b : List Int) (t0 : Nat) (M : Int) : DSt := (X2S a b).write 0 (P0S b t0 M)
def X4S (a b : List Int) (t0 : Nat) (M : Int) : DSt := (X3S a b t0 M).write 1 (P1S a t0 M)
theorem spoil_plain (a b : List Int) (ha : a.length ≤ 186) (ba : Byt a) (hb : b.length ≤ 186) (bb : Byt b) (t0 : Nat) (ht : t0 < 256) (M : Int) (hM : 0 < M ∧ M < 256) :
    (readP (X2S a b) 0 = (rootP 2 b, 0) ∧ (X2S a b).writeE 0 = 0 ∧ (X2S a b).pend.length = 0 ∧ (X2S a b).byt) ∧
    (readP (X3S a b t0 M) 1 = (rootP 1 a, 0) ∧ (X3S a b t0 M).writeE 1 = 0 ∧ (X3S a b t0 M).pend.length ≤ 5 ∧ (X3S a b t0 M).byt ∧ rRead (X3S a b t0 M) = (a, 1, 0)) ∧
    ((X4S a b t0 M).pend.length ≤ 5 ∧ (X4S a b t0 M).byt ∧ rRead (X4S a b t0 M) = ([], 0, 51) ∧ (rNext (X4S a b t0 M) = (0, 51) ∨ ∃ k, 2 < k ∧ rNext (X4S a b t0 M) = (k, 0))) := by
  obtain ⟨_, hT, hd, hl⟩ := two_second a b ha ba hb bb
  have b0 := turn1_byt (rootP_byt 2 bb) t0 (m := M) (by omega)
  have b1 := turn1_byt (rootP_byt 1 ba) t0 (m := M) (by omega)
  have s0 := spoilt 2 b hb bb t0 ht hM
  have s1 := spoilt 1 a ha ba t0 ht hM
  obtain ⟨s, hs, hsg⟩ := turn_gen 2 (by decide) b t0 ht M
  have l0 : (turn1 (rootP 2 b) t0 M).length = 256 := by rw [turn1_len, rootP_len]
  have l1 : (turn1 (rootP 1 a) t0 M).length = 256 := by rw [turn1_len, rootP_len]
  unfold X4S X3S P0S P1S
  have hbX := hT.byt
  have hr0 := hT.read0
  have hr1 := rootOf_root 1 (by decide) a ha
  generalize X2S a b = X at *
  generalize turn1 (rootP 2 b) t0 M = P0 at *
  generalize turn1 (rootP 1 a) t0 M = P1 at *
  obtain ⟨pages, bad, pend, down, left⟩ := X
  obtain rfl : pages = [rootP 2 b, rootP 1 a] := hT.pages
  obtain rfl : pend = [] := hT.pend
  obtain rfl : down = false := hd
  obtain rfl : left = -1 := hl
  have hbad : ∀ i, bad i = false := hT.bad
  have e3 : (⟨[rootP 2 b, rootP 1 a], bad, [], false, -1⟩ : DSt).write 0 P0 = ⟨[rootP 2 b, rootP 1 a], bad, [(0, P0)], false, -1⟩ := rfl
  have e4 : (⟨[rootP 2 b, rootP 1 a], bad, [(0, P0)], false, -1⟩ : DSt).write 1 P1 = ⟨[rootP 2 b, rootP 1 a], bad, [(0, P0), (1, P1)], false, -1⟩ := rfl
  have q30 : readP ⟨[rootP 2 b, rootP 1 a], bad, [(0, P0)], false, -1⟩ 0 = (P0, 0) := by unfold readP; simp only [hbad]; rfl
  have q31 : readP ⟨[rootP 2 b, rootP 1 a], bad, [(0, P0)], false, -1⟩ 1 = (rootP 1 a, 0) := by unfold readP; simp only [hbad]; rfl
  have q40 : readP ⟨[rootP 2 b, rootP 1 a], bad, [(0, P0), (1, P1)], false, -1⟩ 0 = (P0, 0) := by unfold readP; simp only [hbad]; rfl
  have q41 : readP ⟨[rootP 2 b, rootP 1 a], bad, [(0, P0), (1, P1)], false, -1⟩ 1 = (P1, 0) := by unfold readP; simp only [hbad]; rfl
  have by3 := write_byt hbX 0 b0
  have by4 := write_byt by3 1 b1
  rw [e3] at by3 by4 ⊢
  rw [e4] at by4 ⊢
  have n3 : newest P0 (rootP 1 a) = (1, a) := by unfold newest; rw [hr1]; simp [s0]
  have n4 : newest P0 P1 = (0, []) := by unfold newest; simp [s0, s1]
  have ht4 : 2 ≤ top P0 P1 := by have := top_p P0 P1 s hs; omega
  refine ⟨⟨hr0, rfl, rfl, hbX⟩, ⟨q31, rfl, by simp, by3, ?_⟩, by simp, by4, ?_, ?_⟩
  · unfold rRead rdE nwst
    rw [q30, q31, n3]
    rfl
  · unfold rRead rdE nwst
    rw [q40, q41, n4]
    rfl
  · unfold rNext rdE tp nextG nwst tp
    rw [q40, q41, n4]
    by_cases h : 18446744073709551612 < top P0 P1
    · refine Or.inl ?_
      simp only [if_true, if_pos h]
    · refine Or.inr ⟨top P0 P1 + 1, by omega, ?_⟩
      simp only [if_true, if_neg h]
      simp

set_option maxRecDepth 100000 in
set_option maxHeartbeats 8000000 in
theorem spoilt_walk (va : Value) (a : List Int) (vb : Value) (b : List Int) (vt : Value) (tm : Int × Int) (w : World) (hA : SlI .u8 w va a) (hB : SlI .u8 w vb b) (htm : vt = .agg #[.int .u8 tm.1, .int .u8 tm.2] ∧ (Lit.int .u8 tm.1).wf = true ∧ (Lit.int .u8 tm.2).wf = true) :
    Calls Try.prog 7 #[va, vb, vt] w fun r w' => r = .returned (.bool true) ∧ Below w.heap.size w w' := by
  obtain ⟨a1, c1, rfl, hc1⟩ := hA.opn
  obtain ⟨a2, c2, rfl, hc2⟩ := hB.opn
  obtain ⟨tz, M⟩ := tm
  obtain ⟨rfl, hw0, hw1⟩ := htm
  have hz := u8_bd hw0
  have hM := u8_bd hw1
  obtain ⟨t0, rfl⟩ := Int.eq_ofNat_of_zero_le hz.1
  have ht0 : t0 < 256 := by omega
  by_cases hla : 186 < a.length
  · have h1 : (186 : Int) < (a.length : Int) := by omega
    go_enter Try.func7, Try.ntmps7
    go_wp2_with (first
      | (with_reducible refine at_wpP ?_; refine wpList_boxV rfl 66 _ rfl [.int .u8 (t0 : Int), .int .u8 M] rfl ?_; intro g5 w1 hg5 b1 f1 s1)
      | (go_at_call 12; go_must (refine (ralive_any _).mono ?_; rintro e w2 ⟨rfl, f2⟩)))
    go_ret
    exact ⟨rfl, (f1.thenN f2).below⟩
  by_cases hlb : 186 < b.length
  · have h1 : ¬ (186 : Int) < (a.length : Int) := by omega
    have h2 : (186 : Int) < (b.length : Int) := by omega
    go_enter Try.func7, Try.ntmps7
    go_wp2_with (first
      | (with_reducible refine at_wpP ?_; refine wpList_boxV rfl 66 _ rfl [.int .u8 (t0 : Int), .int .u8 M] rfl ?_; intro g5 w1 hg5 b1 f1 s1)
      | (go_at_call 12; go_must (refine (ralive_any _).mono ?_; rintro e w2 ⟨rfl, f2⟩)))
    go_ret
    exact ⟨rfl, (f1.thenN f2).below⟩
  have h1 : ¬ (186 : Int) < (a.length : Int) := by omega
  have h2 : ¬ (186 : Int) < (b.length : Int) := by omega
  by_cases hM0 : M = 0
  · subst hM0
    go_enter Try.func7, Try.ntmps7
    go_wp2_with (first
      | (with_reducible refine at_wpP ?_; refine wpList_boxV rfl 66 _ rfl [.int .u8 (t0 : Int), .int .u8 0] rfl ?_; intro g5 w1 hg5 b1 f1 s1)
      | (go_at_call 12; go_must (refine (ralive_any _).mono ?_; rintro e w2 ⟨rfl, f2⟩; obtain ⟨q1, _⟩ := (b1.fr0 f2).cell 1 _ rfl)))
    go_ret
    exact ⟨rfl, (f1.thenN f2).below⟩
  have hMb : (M == 0) = false := by simpa using hM0
  have hba : Byt a := hA.2
  have hbb : Byt b := hB.2
  obtain ⟨⟨r20, e20, p20, y20⟩, ⟨r31, e31, p31, y31, d31⟩, p4, y4, d4, n4⟩ := spoil_plain a b (by omega) hba (by omega) hbb t0 ht0 M (by omega)
  obtain ⟨f1w, f1t, _, _⟩ := two_first a (by omega) hba
  obtain ⟨f2w, f2t, _, _⟩ := two_second a b (by omega) hba (by omega) hbb
  have y1 := f1t.byt
  have p1 : (rWrite (newD 2) a).1.pend.length ≤ 90000 := by rw [f1t.pend]; simp
  have y0 := newD_byt 2
  have p0 : (newD 2).pend.length ≤ 90000 := by decide
  have wr0 := show Hid _ from fun (F : Nat → Prop) (g : Nat) (W : World) (h : Disk W F g (newD 2)) (hS : SlI .u8 W (.slice a1 a.length c1) a) => rwrite_p g _ a W h p0 y0 hS
  have wr1 := show Hid _ from fun (F : Nat → Prop) (g : Nat) (W : World) (h : Disk W F g (rWrite (newD 2) a).1) (hS : SlI .u8 W (.slice a2 b.length c2) b) => rwrite_p g _ b W h p1 y1 hS
  simp only [f1w] at wr0
  simp only [f2w, show (rWrite (rWrite (newD 2) a).1 b).1 = X2S a b from rfl] at wr1
  obtain ⟨X0, HX0⟩ : ∃ X, Hid (newD 2 = X) := ⟨_, rfl⟩
  obtain ⟨X1, HX1⟩ : ∃ X, Hid ((rWrite (newD 2) a).1 = X) := ⟨_, rfl⟩
  simp only [HX1.out] at wr0 wr1
  simp only [HX0.out] at wr0
  obtain ⟨X2, HX2⟩ : ∃ X, Hid (X2S a b = X) := ⟨_, rfl⟩
  obtain ⟨X3, HX3⟩ : ∃ X, Hid (X3S a b t0 M = X) := ⟨_, rfl⟩
  obtain ⟨X4, HX4⟩ : ∃ X, Hid (X4S a b t0 M = X) := ⟨_, rfl⟩
  have hX3 : (X2S a b).write 0 (P0S b t0 M) = X3S a b t0 M := rfl
  have hX4 : (X3S a b t0 M).write 1 (P1S a t0 M) = X4S a b t0 M := rfl
  simp only [HX2.out] at wr1 r20 e20 p20 y20 hX3
  simp only [HX3.out] at r31 e31 p31 y31 d31 hX3 hX4
  simp only [HX4.out] at p4 y4 d4 n4 hX4
  obtain ⟨R2, HR2⟩ : ∃ R, Hid (rootP 2 b = R) := ⟨_, rfl⟩
  obtain ⟨R1, HR1⟩ : ∃ R, Hid (rootP 1 a = R) := ⟨_, rfl⟩
  have lR2 : Hid (R2.length = 256) := by show _ = _; rw [← HR2.out, rootP_len]
  have lR1 : Hid (R1.length = 256) := by show _ = _; rw [← HR1.out, rootP_len]
  have bR2 : Byt R2 := by rw [← HR2.out]; exact rootP_byt 2 hbb
  have bR1 : Byt R1 := by rw [← HR1.out]; exact rootP_byt 1 hba
  unfold P0S at hX3
  unfold P1S at hX4
  rw [HR2.out] at r20 hX3
  rw [HR1.out] at r31 hX4
  obtain ⟨Z, HZ⟩ : ∃ Z, Hid (zeroP = Z) := ⟨_, rfl⟩
  have hZl : Hid (Z.length = 256) := by show _ = _; rw [← HZ.out]; exact zeroP_len
  have rd2 := show Hid _ from fun (F : Nat → Prop) (g : Nat) (W : World) (h : Disk W F g X2) => read_any g 0 (by decide) W h (by omega)
  have rd3 := show Hid _ from fun (F : Nat → Prop) (g : Nat) (W : World) (h : Disk W F g X3) => read_any g 1 (by decide) W h (by omega)
  simp only [r20] at rd2
  simp only [r31] at rd3
  have dw2 := show Hid _ from fun (F : Nat → Prop) (g : Nat) (W : World) (h : Disk W F g X2) => write_any g 0 (turn1 R2 t0 M) (by rw [turn1_len]; exact lR2.out) W h (by omega)
  have dw3 := show Hid _ from fun (F : Nat → Prop) (g : Nat) (W : World) (h : Disk W F g X3) => write_any g 1 (turn1 R1 t0 M) (by rw [turn1_len]; exact lR1.out) W h (by omega)
  simp only [hX3, e20] at dw2
  simp only [hX4, e31] at dw3
  have rr3 := show Hid _ from fun (F : Nat → Prop) (g : Nat) (W : World) (h : Disk W F g X3) => rread_p g W h (by omega) y31
  have rr4 := show Hid _ from fun (F : Nat → Prop) (g : Nat) (W : World) (h : Disk W F g X4) => rread_p g W h (by omega) y4
  unfold ReadIs at rr3 rr4
  simp only [d31] at rr3
  simp only [d4] at rr4
  have nx4 := show Hid _ from fun (F : Nat → Prop) (g : Nat) (W : World) (h : Disk W F g X4) => rnext_p g W h (by omega) y4
  have n4 := show Hid _ from n4
  have lT2 : Hid ((turn1 R2 t0 M).length = 256) := by show _ = _; rw [turn1_len]; exact lR2.out
  have lT1 : Hid ((turn1 R1 t0 M).length = 256) := by show _ = _; rw [turn1_len]; exact lR1.out
  have hst := str_refl a
  clear f1w f1t f2w f2t y1 p1 y0 p0 r20 e20 p20 y20 r31 e31 p31 y31 d31 p4 y4 d4 hX3 hX4
  go_enter Try.func7, Try.ntmps7
  go_wp2_with (first
    | (with_reducible refine at_wpP ?_; refine wpList_boxV rfl 66 _ rfl [.int .u8 (t0 : Int), .int .u8 M] rfl ?_; intro g5 w1 hg5 b1 f1 s1)
    | (go_at_call 12; go_must (refine (ralive_any _).mono ?_; rintro e w2 ⟨rfl, f2⟩; have b2 := b1.fr0 f2; obtain ⟨q1, _⟩ := b2.cell 1 _ rfl))
    | (go_at_call 8; go_must (refine (new_any 2 (by omega) _).mono ?_; rw [HX0.out]; rintro e w3 ⟨g, rfl, d3, f3⟩; have F3 := (f1.thenN f2).thenN f3; have l2 := b2.lt))
    | (go_at_call 10; have d4' := d4; go_must (refine (wr1.out _ g _ d4 (hB.fr0 F4)).mono ?_; rintro e w5 ⟨rfl, d5, f5⟩; have F5 : Fr noB w w5 := F4.thenT f5 (fun b hb q => (by unfold orNew at q; omega))))
    | (go_at_call 10; go_must (refine (wr0.out _ g _ d3 (hA.fr0 F3)).mono ?_; rintro e w4 ⟨rfl, d4, f4⟩; have z1 := f1.size; have z2 := f2.size; have z3 := F3.size; have F4 : Fr noB w w4 := F3.thenT f4 (fun b hb q => (by omega))))
    | (refine at_conv 24 9 _ rfl ?_; go_must (refine wpList_str rfl _ 24 9 5 rfl Try.underlying24 Try.underlying5 Try.underlying9 _ _ rfl (hA.fr0 F5) ?_)))
  have z4 := F4.size
  have z5 := F5.size
  have d5 : Disk w5 (fun q => w2.heap.size ≤ q) g X2 := d5.mono (fun q _ h => by unfold orNew at h; have := f3.size; have := f4.size; omega)
  have b5 : BxV w5 g5 66 [.int .u8 (t0 : Int), .int .u8 M] := ((b2.fr0 f3).fr f4 (fun q => by omega)).fr f5 (fun q => by unfold orNew at q; have := f3.size; have := f4.size; omega)
  go_loopw [65] (fun i wr => ∃ (k : Nat) (X : DSt), k ≤ 2 ∧ i = .int .i64 (k : Int) ∧ Hid ((k = 0 ∧ X2 = X) ∨ (k = 1 ∧ X3 = X) ∨ (k = 2 ∧ X4 = X)) ∧ Disk wr (fun q => w2.heap.size ≤ q) g X ∧ BxV wr g5 66 [.int .u8 (t0 : Int), .int .u8 M] ∧ Fr noB w wr) (fun i _ => 2 - (intOf i).toNat)
  case atStart => exact ⟨0, X2, by omega, rfl, show _ ∨ _ from Or.inl ⟨rfl, rfl⟩, d5, b5, F5⟩
  case round =>
    obtain ⟨k, X, hk, rfl, hc, hD, hG5, hf⟩ := hrel
    rcases hc.out with ⟨rfl, rfl⟩ | ⟨rfl, rfl⟩ | ⟨rfl, rfl⟩
    · clear hc
      have zf := hf.size
      have l5g := hG5.lt
      go_wp2_with (first
        | (with_reducible refine at_wpP ?_; refine at_index 67 _ _ rfl ?_; go_must (refine wpList_indexS rfl _ _ rfl _ _ rfl 0 rfl (by decide) ?_))
        | (go_at_call 28; go_must (refine (rd2.out _ g _ hD).mono ?_; rintro e w6 ⟨rfl, f6⟩))
        | (with_reducible refine at_wpP ?_; refine wpList_allocP rfl rfl ?_; rw [HZ.out]; intro g15 w7 hg15 b7 f7 s7; have l7 := b7.lt; have z6 := f6.size)
        | (with_reducible refine at_wpP ?_; refine at_st 46 _ _ rfl ?_; go_must (refine wpList_storeP rfl _ _ rfl g15 rfl R2 rfl _ b7 lR2.out hZl.out ?_; intro w8 b8 f8)))
      have z7 := f7.size
      have z8 := f8.size
      have zd := hD.lt
      have hgF : w2.heap.size ≤ g := by obtain ⟨_, _, _, h⟩ := hD; exact h.fg
      have D8 : Disk w8 (fun q => w2.heap.size ≤ q ∧ q ≠ g15) g X2 := ((((hD.tight).fr0 f6).fr0 f7).fr f8 (fun q hq h e => by have := h.2; unfold onB1 at e; omega)).mono (fun q _ h => ⟨h.1, by have := h.2; omega⟩)
      have G8 := ((hG5.fr0 f6).fr0 f7).ne f8 (by omega)
      have F8 : Fr noB w w8 := ((hf.thenN f6).thenN f7).thenT f8 (fun i hi q => by unfold onB1 at q; omega)
      obtain ⟨P, HP⟩ : ∃ P, Hid (R2 = P) := ⟨_, rfl⟩
      have hPl : Hid (P.length = 256) := by show _ = _; rw [← HP.out]; exact lR2.out
      have hPb : Byt P := by rw [← HP.out]; exact bR2
      rw [HP.out] at b8
      obtain ⟨w0, HW⟩ : ∃ w0, Hid (w8.drew = w0) := ⟨_, rfl⟩
      have f0 : Fr noB w8 w0 := by rw [← HW.out]; exact (Fr.refl _ _).drew
      have hB15 := b8.fr0 f0
      have hB5 := G8.fr0 f0
      have hDd := D8.fr0 f0
      have F0 := F8.thenN f0
      have hg : g5 ≠ g15 := by omega
      have hxb := hPb.at t0
      obtain ⟨x, Hx⟩ : ∃ x, Hid (P.getD t0 0 = x) := ⟨_, rfl⟩
      rw [Hx.out] at hxb
      have hxr : bits .xor .u8 x M = xI x M := u8_xor _ _ hxb.1 hxb.2 hM.1 hM.2
      have hPc : w0.cell? ⟨g15, t0, none⟩ = some (.int .u8 x) := by
        refine (hB15.cell t0 _ ?_).1
        have := pgv_get P t0 (by rw [hPl.out]; exact ht0)
        rw [this, ← Hx.out]
        simp [List.getD, show t0 < P.length by rw [hPl.out]; exact ht0]
      have hTn : Hid (P.set t0 (xI x M) = turn1 P t0 M) := by show _ = _; rw [← Hx.out]; rfl
      refine wp_region_chain_lay (by kernel_rfl) [3, 6, 8] [none, none, none, some 0, none, none, some 1, none, some 2]
        [fun v => v = .pointer (some ⟨g5, 0, none⟩), fun v => v = .int .u8 (t0 : Int), fun v => v = .pointer (some ⟨g15, t0, none⟩), fun _ => True, fun v => v = .pointer (some ⟨g5, 1, none⟩), fun v => v = .int .u8 M, fun _ => True, fun v => v = .pointer (some ⟨g15, t0, none⟩), fun _ => True]
        (JT w0 g15 (.int .u8 x) (.int .u8 (xI x M)) (P.set t0 (xI x M))) (HW.out) (by kernel_rfl) (by kernel_rfl) (by decide) ⟨?o0, ?o1, ?o2, ?o3, ?o4, ?o5, ?o6, ?o7, ?o8, trivial⟩ ?oe
      case o0 =>
        intro A W hv hlen hJ hbase hdL hdH
        have e5 : A.eval (.tmp 5) = ptr g5 := hbase 5 (by kernel_rfl)
        have f5 : A.tmps[5]?.getD undef = ptr g5 := by simpa [Act.eval] using e5
        have hr : (Instr.indexAt 66 (ptr g5) (.int .i64 0)).run Try.prog W = .ok (.pointer (some ⟨g5, 0, none⟩)) W := run_idxT W g5 0 (by decide)
        exact light_val rfl (v := .pointer (some ⟨g5, 0, none⟩)) (by simp [execOp, Act.eval, f5, hr, Result.andThen]) hJ rfl
      case o1 =>
        intro A W hv hlen hJ hbase hdL hdH
        have e81 : A.eval (.tmp 81) = .pointer (some ⟨g5, 0, none⟩) := hdL 0 81 (by kernel_rfl) (by kernel_rfl) (by kernel_rfl)
        have f81 : A.tmps[81]?.getD undef = .pointer (some ⟨g5, 0, none⟩) := by simpa [Act.eval] using e81
        have hc := ((hB5.fr hJ.fr (fun q => hg q)).cell 0 _ rfl).1
        exact light_val rfl (v := .int .u8 (t0 : Int)) (by simp [execOp, go_sem, e81, f81, hc]) hJ rfl
      case o2 =>
        intro A W hv hlen hJ hbase hdL hdH
        have e15 : A.eval (.tmp 15) = ptr g15 := hbase 15 (by kernel_rfl)
        have f15 : A.tmps[15]?.getD undef = ptr g15 := by simpa [Act.eval] using e15
        have e82 : A.eval (.tmp 82) = .int .u8 (t0 : Int) := hdL 1 82 (by kernel_rfl) (by kernel_rfl) (by kernel_rfl)
        have f82 : A.tmps[82]?.getD undef = .int .u8 (t0 : Int) := by simpa [Act.eval] using e82
        have hr := run_idxP W g15 t0 ht0
        exact light_val rfl (v := .pointer (some ⟨g15, t0, none⟩)) (by simp [execOp, e15, e82, hr, Result.andThen]) hJ rfl
      case o3 =>
        intro A W hv hlen hJ hbase hdL hdH
        have e83 : A.eval (.tmp 83) = .pointer (some ⟨g15, t0, none⟩) := hdL 2 83 (by kernel_rfl) (by kernel_rfl) (by kernel_rfl)
        have f83 : A.tmps[83]?.getD undef = .pointer (some ⟨g15, t0, none⟩) := by simpa [Act.eval] using e83
        obtain rfl : hv = [] := List.eq_nil_of_length_eq_zero hlen
        obtain rfl := hJ
        exact heavy_val rfl (v := .int .u8 (x)) (by simp [execOp, go_sem, e83, f83, hPc]) ⟨rfl, rfl⟩
      case o4 =>
        intro A W hv hlen hJ hbase hdL hdH
        have e5 : A.eval (.tmp 5) = ptr g5 := hbase 5 (by kernel_rfl)
        have f5 : A.tmps[5]?.getD undef = ptr g5 := by simpa [Act.eval] using e5
        have hr : (Instr.indexAt 66 (ptr g5) (.int .i64 1)).run Try.prog W = .ok (.pointer (some ⟨g5, 1, none⟩)) W := run_idxT W g5 1 (by decide)
        exact light_val rfl (v := .pointer (some ⟨g5, 1, none⟩)) (by simp [execOp, Act.eval, f5, hr, Result.andThen]) hJ rfl
      case o5 =>
        intro A W hv hlen hJ hbase hdL hdH
        have e85 : A.eval (.tmp 85) = .pointer (some ⟨g5, 1, none⟩) := hdL 4 85 (by kernel_rfl) (by kernel_rfl) (by kernel_rfl)
        have f85 : A.tmps[85]?.getD undef = .pointer (some ⟨g5, 1, none⟩) := by simpa [Act.eval] using e85
        have hc := ((hB5.fr hJ.fr (fun q => hg q)).cell 1 _ rfl).1
        exact light_val rfl (v := .int .u8 M) (by simp [execOp, go_sem, e85, f85, hc]) hJ rfl
      case o6 =>
        intro A W hv hlen hJ hbase hdL hdH
        have e86 : A.eval (.tmp 86) = .int .u8 M := hdL 5 86 (by kernel_rfl) (by kernel_rfl) (by kernel_rfl)
        have f86 : A.tmps[86]?.getD undef = .int .u8 M := by simpa [Act.eval] using e86
        obtain ⟨v84, rfl⟩ := List.length_eq_one_iff.1 hlen
        obtain ⟨rfl, rfl⟩ := hJ
        have e84 : A.eval (.tmp 84) = .int .u8 (x) := by have := hdH 3 84 0 (by kernel_rfl) rfl (by kernel_rfl); simpa using this.symm
        have f84 : A.tmps[84]?.getD undef = .int .u8 (x) := by simpa [Act.eval] using e84
        exact heavy_val rfl (v := .int .u8 (xI (x) M)) (by simp [execOp, go_sem, e84, f84, e86, f86, hxr]) ⟨rfl, rfl⟩
      case o7 =>
        intro A W hv hlen hJ hbase hdL hdH
        have e15 : A.eval (.tmp 15) = ptr g15 := hbase 15 (by kernel_rfl)
        have f15 : A.tmps[15]?.getD undef = ptr g15 := by simpa [Act.eval] using e15
        have e82 : A.eval (.tmp 82) = .int .u8 (t0 : Int) := hdL 1 82 (by kernel_rfl) (by kernel_rfl) (by kernel_rfl)
        have f82 : A.tmps[82]?.getD undef = .int .u8 (t0 : Int) := by simpa [Act.eval] using e82
        have hr := run_idxP W g15 t0 ht0
        exact light_val rfl (v := .pointer (some ⟨g15, t0, none⟩)) (by simp [execOp, e15, e82, hr, Result.andThen]) hJ rfl
      case o8 =>
        intro A W hv hlen hJ hbase hdL hdH
        have e88 : A.eval (.tmp 88) = .pointer (some ⟨g15, t0, none⟩) := hdL 7 88 (by kernel_rfl) (by kernel_rfl) (by kernel_rfl)
        have f88 : A.tmps[88]?.getD undef = .pointer (some ⟨g15, t0, none⟩) := by simpa [Act.eval] using e88
        match hv, hlen with
        | [v84, v87], _ =>
          obtain ⟨rfl, rfl⟩ := hJ
          have e87 : A.eval (.tmp 87) = .int .u8 (xI (x) M) := by have := hdH 6 87 1 (by kernel_rfl) rfl (by kernel_rfl); simpa using this.symm
          have hr := run_st1 (P := Try.prog) (off := t0) 5 size_u8 (.int .u8 (xI (x) M)) rfl _ _ hB15 (by rw [pgv_len, hPl.out]; exact ht0)
          have hb2 := hB15.set t0 (.int .u8 (xI (x) M))
          rw [pgv_set] at hb2
          refine heavy_wp rfl ?_
          unfold Oper.wp execOp
          simp only [e87, e88, Sem.run_bind, hr, Result.andThen_ok]
          exact ⟨_, rfl, hb2, (Fr.refl _ _).setCell _ _ (fun _ => rfl)⟩
      case oe =>
        intro vs W' hv hlen hJ hL hH
        match hv, hlen with
        | [y1, y2, y3], _ =>
          obtain ⟨hBT, hfT⟩ := hJ
          simp only [layL, Nat.reduceAdd, Act.put, List.setIfInBounds_toArray, List.set_cons_zero, List.set_cons_succ]
          clear hL hH
          generalize vs 0 = y100 at *
          generalize vs 1 = y101 at *
          generalize vs 2 = y102 at *
          generalize vs 3 = y103 at *
          generalize vs 4 = y104 at *
          generalize vs 5 = y105 at *
          generalize vs 6 = y106 at *
          generalize vs 7 = y107 at *
          generalize vs 8 = y108 at *
          have zT := hfT.size
          have zz0 := f0.size
          have DT : Disk W' (fun q => w2.heap.size ≤ q ∧ q ≠ g15) g X2 := hDd.fr hfT (fun q hq h e => h.2 e)
          have GT := hB5.ne hfT hg
          have FT : Fr noB w W' := F0.thenT hfT (fun i hi q => by unfold onB1 at q; omega)
          rw [hTn.out, ← HP.out] at hBT
          go_wp2_with (first
            | (with_reducible refine at_wpP ?_; refine at_ld 46 _ rfl ?_; go_must (refine wpList_loadPw rfl _ rfl g15 rfl _ hBT lT2.out ?_))
            | (go_at_call 17; go_must (refine (dw2.out _ g _ DT).mono ?_; rintro e w9 ⟨rfl, d9, f9⟩; have z9 := f9.size; have F9 : Fr noB w w9 := FT.thenT f9 (fun i hi q => (by have := q.1; omega))))
            | (go_at_call 9; go_must (refine (rr3.out _ g _ d9).mono ?_; rintro e w10 ⟨v10, rfl, i10, n10, f10⟩; have G10 := (GT.fr f9 (fun q => (by have := q.1; have := b2.lt; omega))).fr0 f10; have F10 := F9.thenN f10; obtain ⟨a10, c10, rfl, h10⟩ := i10.opn))
            | (refine at_conv 24 9 _ rfl ?_; go_must (refine wpList_str rfl _ 24 9 5 rfl Try.underlying24 Try.underlying5 Try.underlying9 _ _ rfl i10 ?_)))
          go_roundw
          case rel => exact ⟨0 + 1, X3, by omega, by go_num, by show _ ∨ _; simp, (d9.fr0 f10).mono (fun q _ h => by unfold orNew at h; have := f3.size; have := f4.size; have := f5.size; omega), G10, F10⟩
          case measure => simp [intOf]
    · clear hc
      have zf := hf.size
      have l5g := hG5.lt
      go_wp2_with (first
        | (with_reducible refine at_wpP ?_; refine at_index 67 _ _ rfl ?_; go_must (refine wpList_indexS rfl _ _ rfl _ _ rfl 1 rfl (by decide) ?_))
        | (go_at_call 28; go_must (refine (rd3.out _ g _ hD).mono ?_; rintro e w6 ⟨rfl, f6⟩))
        | (with_reducible refine at_wpP ?_; refine wpList_allocP rfl rfl ?_; rw [HZ.out]; intro g15 w7 hg15 b7 f7 s7; have l7 := b7.lt; have z6 := f6.size)
        | (with_reducible refine at_wpP ?_; refine at_st 46 _ _ rfl ?_; go_must (refine wpList_storeP rfl _ _ rfl g15 rfl R1 rfl _ b7 lR1.out hZl.out ?_; intro w8 b8 f8)))
      have z7 := f7.size
      have z8 := f8.size
      have zd := hD.lt
      have hgF : w2.heap.size ≤ g := by obtain ⟨_, _, _, h⟩ := hD; exact h.fg
      have D8 : Disk w8 (fun q => w2.heap.size ≤ q ∧ q ≠ g15) g X3 := ((((hD.tight).fr0 f6).fr0 f7).fr f8 (fun q hq h e => by have := h.2; unfold onB1 at e; omega)).mono (fun q _ h => ⟨h.1, by have := h.2; omega⟩)
      have G8 := ((hG5.fr0 f6).fr0 f7).ne f8 (by omega)
      have F8 : Fr noB w w8 := ((hf.thenN f6).thenN f7).thenT f8 (fun i hi q => by unfold onB1 at q; omega)
      obtain ⟨P, HP⟩ : ∃ P, Hid (R1 = P) := ⟨_, rfl⟩
      have hPl : Hid (P.length = 256) := by show _ = _; rw [← HP.out]; exact lR1.out
      have hPb : Byt P := by rw [← HP.out]; exact bR1
      rw [HP.out] at b8
      obtain ⟨w0, HW⟩ : ∃ w0, Hid (w8.drew = w0) := ⟨_, rfl⟩
      have f0 : Fr noB w8 w0 := by rw [← HW.out]; exact (Fr.refl _ _).drew
      have hB15 := b8.fr0 f0
      have hB5 := G8.fr0 f0
      have hDd := D8.fr0 f0
      have F0 := F8.thenN f0
      have hg : g5 ≠ g15 := by omega
      have hxb := hPb.at t0
      obtain ⟨x, Hx⟩ : ∃ x, Hid (P.getD t0 0 = x) := ⟨_, rfl⟩
      rw [Hx.out] at hxb
      have hxr : bits .xor .u8 x M = xI x M := u8_xor _ _ hxb.1 hxb.2 hM.1 hM.2
      have hPc : w0.cell? ⟨g15, t0, none⟩ = some (.int .u8 x) := by
        refine (hB15.cell t0 _ ?_).1
        have := pgv_get P t0 (by rw [hPl.out]; exact ht0)
        rw [this, ← Hx.out]
        simp [List.getD, show t0 < P.length by rw [hPl.out]; exact ht0]
      have hTn : Hid (P.set t0 (xI x M) = turn1 P t0 M) := by show _ = _; rw [← Hx.out]; rfl
      refine wp_region_chain_lay (by kernel_rfl) [3, 6, 8] [none, none, none, some 0, none, none, some 1, none, some 2]
        [fun v => v = .pointer (some ⟨g5, 0, none⟩), fun v => v = .int .u8 (t0 : Int), fun v => v = .pointer (some ⟨g15, t0, none⟩), fun _ => True, fun v => v = .pointer (some ⟨g5, 1, none⟩), fun v => v = .int .u8 M, fun _ => True, fun v => v = .pointer (some ⟨g15, t0, none⟩), fun _ => True]
        (JT w0 g15 (.int .u8 x) (.int .u8 (xI x M)) (P.set t0 (xI x M))) (HW.out) (by kernel_rfl) (by kernel_rfl) (by decide) ⟨?o0, ?o1, ?o2, ?o3, ?o4, ?o5, ?o6, ?o7, ?o8, trivial⟩ ?oe
      case o0 =>
        intro A W hv hlen hJ hbase hdL hdH
        have e5 : A.eval (.tmp 5) = ptr g5 := hbase 5 (by kernel_rfl)
        have f5 : A.tmps[5]?.getD undef = ptr g5 := by simpa [Act.eval] using e5
        have hr : (Instr.indexAt 66 (ptr g5) (.int .i64 0)).run Try.prog W = .ok (.pointer (some ⟨g5, 0, none⟩)) W := run_idxT W g5 0 (by decide)
        exact light_val rfl (v := .pointer (some ⟨g5, 0, none⟩)) (by simp [execOp, Act.eval, f5, hr, Result.andThen]) hJ rfl
      case o1 =>
        intro A W hv hlen hJ hbase hdL hdH
        have e81 : A.eval (.tmp 81) = .pointer (some ⟨g5, 0, none⟩) := hdL 0 81 (by kernel_rfl) (by kernel_rfl) (by kernel_rfl)
        have f81 : A.tmps[81]?.getD undef = .pointer (some ⟨g5, 0, none⟩) := by simpa [Act.eval] using e81
        have hc := ((hB5.fr hJ.fr (fun q => hg q)).cell 0 _ rfl).1
        exact light_val rfl (v := .int .u8 (t0 : Int)) (by simp [execOp, go_sem, e81, f81, hc]) hJ rfl
      case o2 =>
        intro A W hv hlen hJ hbase hdL hdH
        have e15 : A.eval (.tmp 15) = ptr g15 := hbase 15 (by kernel_rfl)
        have f15 : A.tmps[15]?.getD undef = ptr g15 := by simpa [Act.eval] using e15
        have e82 : A.eval (.tmp 82) = .int .u8 (t0 : Int) := hdL 1 82 (by kernel_rfl) (by kernel_rfl) (by kernel_rfl)
        have f82 : A.tmps[82]?.getD undef = .int .u8 (t0 : Int) := by simpa [Act.eval] using e82
        have hr := run_idxP W g15 t0 ht0
        exact light_val rfl (v := .pointer (some ⟨g15, t0, none⟩)) (by simp [execOp, e15, e82, hr, Result.andThen]) hJ rfl
      case o3 =>
        intro A W hv hlen hJ hbase hdL hdH
        have e83 : A.eval (.tmp 83) = .pointer (some ⟨g15, t0, none⟩) := hdL 2 83 (by kernel_rfl) (by kernel_rfl) (by kernel_rfl)
        have f83 : A.tmps[83]?.getD undef = .pointer (some ⟨g15, t0, none⟩) := by simpa [Act.eval] using e83
        obtain rfl : hv = [] := List.eq_nil_of_length_eq_zero hlen
        obtain rfl := hJ
        exact heavy_val rfl (v := .int .u8 (x)) (by simp [execOp, go_sem, e83, f83, hPc]) ⟨rfl, rfl⟩
      case o4 =>
        intro A W hv hlen hJ hbase hdL hdH
        have e5 : A.eval (.tmp 5) = ptr g5 := hbase 5 (by kernel_rfl)
        have f5 : A.tmps[5]?.getD undef = ptr g5 := by simpa [Act.eval] using e5
        have hr : (Instr.indexAt 66 (ptr g5) (.int .i64 1)).run Try.prog W = .ok (.pointer (some ⟨g5, 1, none⟩)) W := run_idxT W g5 1 (by decide)
        exact light_val rfl (v := .pointer (some ⟨g5, 1, none⟩)) (by simp [execOp, Act.eval, f5, hr, Result.andThen]) hJ rfl
      case o5 =>
        intro A W hv hlen hJ hbase hdL hdH
        have e85 : A.eval (.tmp 85) = .pointer (some ⟨g5, 1, none⟩) := hdL 4 85 (by kernel_rfl) (by kernel_rfl) (by kernel_rfl)
        have f85 : A.tmps[85]?.getD undef = .pointer (some ⟨g5, 1, none⟩) := by simpa [Act.eval] using e85
        have hc := ((hB5.fr hJ.fr (fun q => hg q)).cell 1 _ rfl).1
        exact light_val rfl (v := .int .u8 M) (by simp [execOp, go_sem, e85, f85, hc]) hJ rfl
      case o6 =>
        intro A W hv hlen hJ hbase hdL hdH
        have e86 : A.eval (.tmp 86) = .int .u8 M := hdL 5 86 (by kernel_rfl) (by kernel_rfl) (by kernel_rfl)
        have f86 : A.tmps[86]?.getD undef = .int .u8 M := by simpa [Act.eval] using e86
        obtain ⟨v84, rfl⟩ := List.length_eq_one_iff.1 hlen
        obtain ⟨rfl, rfl⟩ := hJ
        have e84 : A.eval (.tmp 84) = .int .u8 (x) := by have := hdH 3 84 0 (by kernel_rfl) rfl (by kernel_rfl); simpa using this.symm
        have f84 : A.tmps[84]?.getD undef = .int .u8 (x) := by simpa [Act.eval] using e84
        exact heavy_val rfl (v := .int .u8 (xI (x) M)) (by simp [execOp, go_sem, e84, f84, e86, f86, hxr]) ⟨rfl, rfl⟩
      case o7 =>
        intro A W hv hlen hJ hbase hdL hdH
        have e15 : A.eval (.tmp 15) = ptr g15 := hbase 15 (by kernel_rfl)
        have f15 : A.tmps[15]?.getD undef = ptr g15 := by simpa [Act.eval] using e15
        have e82 : A.eval (.tmp 82) = .int .u8 (t0 : Int) := hdL 1 82 (by kernel_rfl) (by kernel_rfl) (by kernel_rfl)
        have f82 : A.tmps[82]?.getD undef = .int .u8 (t0 : Int) := by simpa [Act.eval] using e82
        have hr := run_idxP W g15 t0 ht0
        exact light_val rfl (v := .pointer (some ⟨g15, t0, none⟩)) (by simp [execOp, e15, e82, hr, Result.andThen]) hJ rfl
      case o8 =>
        intro A W hv hlen hJ hbase hdL hdH
        have e88 : A.eval (.tmp 88) = .pointer (some ⟨g15, t0, none⟩) := hdL 7 88 (by kernel_rfl) (by kernel_rfl) (by kernel_rfl)
        have f88 : A.tmps[88]?.getD undef = .pointer (some ⟨g15, t0, none⟩) := by simpa [Act.eval] using e88
        match hv, hlen with
        | [v84, v87], _ =>
          obtain ⟨rfl, rfl⟩ := hJ
          have e87 : A.eval (.tmp 87) = .int .u8 (xI (x) M) := by have := hdH 6 87 1 (by kernel_rfl) rfl (by kernel_rfl); simpa using this.symm
          have hr := run_st1 (P := Try.prog) (off := t0) 5 size_u8 (.int .u8 (xI (x) M)) rfl _ _ hB15 (by rw [pgv_len, hPl.out]; exact ht0)
          have hb2 := hB15.set t0 (.int .u8 (xI (x) M))
          rw [pgv_set] at hb2
          refine heavy_wp rfl ?_
          unfold Oper.wp execOp
          simp only [e87, e88, Sem.run_bind, hr, Result.andThen_ok]
          exact ⟨_, rfl, hb2, (Fr.refl _ _).setCell _ _ (fun _ => rfl)⟩
      case oe =>
        intro vs W' hv hlen hJ hL hH
        match hv, hlen with
        | [y1, y2, y3], _ =>
          obtain ⟨hBT, hfT⟩ := hJ
          simp only [layL, Nat.reduceAdd, Act.put, List.setIfInBounds_toArray, List.set_cons_zero, List.set_cons_succ]
          clear hL hH
          generalize vs 0 = y100 at *
          generalize vs 1 = y101 at *
          generalize vs 2 = y102 at *
          generalize vs 3 = y103 at *
          generalize vs 4 = y104 at *
          generalize vs 5 = y105 at *
          generalize vs 6 = y106 at *
          generalize vs 7 = y107 at *
          generalize vs 8 = y108 at *
          have zT := hfT.size
          have zz0 := f0.size
          have DT : Disk W' (fun q => w2.heap.size ≤ q ∧ q ≠ g15) g X3 := hDd.fr hfT (fun q hq h e => h.2 e)
          have GT := hB5.ne hfT hg
          have FT : Fr noB w W' := F0.thenT hfT (fun i hi q => by unfold onB1 at q; omega)
          rw [hTn.out, ← HP.out] at hBT
          go_wp2_with (first
            | (with_reducible refine at_wpP ?_; refine at_ld 46 _ rfl ?_; go_must (refine wpList_loadPw rfl _ rfl g15 rfl _ hBT lT1.out ?_))
            | (go_at_call 17; go_must (refine (dw3.out _ g _ DT).mono ?_; rintro e w9 ⟨rfl, d9, f9⟩; have z9 := f9.size; have F9 : Fr noB w w9 := FT.thenT f9 (fun i hi q => (by have := q.1; omega))))
            | (go_at_call 9; go_must (refine (rr4.out _ g _ d9).mono ?_; rintro e w10 ⟨v10, rfl, i10, n10, f10⟩; have G10 := (GT.fr f9 (fun q => (by have := q.1; have := b2.lt; omega))).fr0 f10; have F10 := F9.thenN f10; obtain ⟨a10, c10, rfl, h10⟩ := i10.opn))
            | (refine at_conv 24 9 _ rfl ?_; go_must (refine wpList_str rfl _ 24 9 5 rfl Try.underlying24 Try.underlying5 Try.underlying9 _ _ rfl i10 ?_)))
          go_roundw
          case rel => exact ⟨1 + 1, X4, by omega, by go_num, by show _ ∨ _; simp, (d9.fr0 f10).mono (fun q _ h => by unfold orNew at h; have := f3.size; have := f4.size; have := f5.size; omega), G10, F10⟩
          case measure => simp [intOf]
    · clear hc
      have zf := hf.size
      rcases n4.out with e | ⟨kk, hkk, e⟩
      · simp only [e] at nx4
        go_wp2_with (first
          | (go_at_call 11; go_must (refine (nx4.out _ g _ hD).mono ?_; rintro e w6 ⟨rfl, f6⟩)))
        go_ret
        exact ⟨rfl, (hf.thenN f6).below⟩
      · simp only [e] at nx4
        go_wp2_with (first
          | (go_at_call 11; go_must (refine (nx4.out _ g _ hD).mono ?_; rintro e w6 ⟨rfl, f6⟩)))
        go_ret
        exact ⟨rfl, (hf.thenN f6).below⟩
end Go.Proofs.Ytijgfojnppcbjaa
