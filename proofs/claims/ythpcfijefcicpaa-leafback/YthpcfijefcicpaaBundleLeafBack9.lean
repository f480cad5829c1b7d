/- Texts X4, V3, V4, V5, V6, V7, V8, V9, V10, V11, V12, B5a, C3, C4, V13 of the proof of LeafBack, one behind the other. -/
import Derived.Lib.SlBytesConst
import Derived.Test.YthpcfijefcicpaaBundleLeafBack1
import Derived.Test.YthpcfijefcicpaaBundleLeafBack2
import Derived.Test.YthpcfijefcicpaaBundleLeafBack3
import Derived.Test.YthpcfijefcicpaaBundleLeafBack4
import Derived.Test.YthpcfijefcicpaaBundleLeafBack5
import Derived.Test.YthpcfijefcicpaaBundleLeafBack6
import Derived.Test.YthpcfijefcicpaaBundleLeafBack7
import Derived.Test.YthpcfijefcicpaaBundleLeafBack8
/- content of package leaf: the bytes of a node that can be. (Written by x4_gen.py.) -/
namespace Go.Proofs.U
open Go.RowKit
section
variable {P : Program} {w : World} {ops : Array Oper} {rest : List Oper} {o : Oper} {a : Act} {Q : Exit → Act → World → Prop}
theorem ownI_new (w : World) (k : IntKind) (e : TypeId) (xs : List Int) (hm : xs.length ≤ maxLen) : OwnI k e (w.alloc (.cells (xs.map (Value.int k)).toArray e)) w.heap.size (.slice (some ⟨w.heap.size, 0, none⟩) xs.length xs.length) xs :=
  ⟨by simp, .inr ⟨w.heap.size, xs.length, _, rfl, Nat.le_refl _, heap_alloc_new w _, Nat.le_refl _, hm, by simp, by rw [List.take_of_length_le (by simp)]⟩⟩
theorem wpList_mk1I (hgd : Region.wanted o (yielded ops a.tmps) = true) (t : TypeId) (y : Operand) (ho : o.op = .buildSlice t 1 #[(0, y)]) (e : TypeId) (k : IntKind) (x : Int) (hy : a.eval y = .int k x)
    (hrun : ∀ w, (Instr.buildSlice t 1 #[(0, .int k x)]).run P w = .ok (.slice (some ⟨w.heap.size, 0, none⟩) 1 1) (w.alloc (.cells #[.int k x] e)))
    (h : ∀ g w', OwnI k e w' w.heap.size (.slice (some ⟨g, 0, none⟩) 1 1) [x] → Fr noB w w' → w.heap.size ≤ g → g < w'.heap.size → wpList P ops Q rest (a.put o.dst (.slice (some ⟨g, 0, none⟩) 1 1)) w') : wpList P ops Q (o :: rest) a w := by
  refine wpList_wanted hgd fun K hK => ?_
  unfold Oper.wp
  simp [execOp, ho, hy, hrun, Result.andThen]
  exact hK _ _ (h w.heap.size _ (ownI_new w k e [x] (by unfold maxLen; simp)) ((Fr.refl _ _).alloc _) (Nat.le_refl _) (by simp))
theorem wpList_mk2I (hgd : Region.wanted o (yielded ops a.tmps) = true) (t : TypeId) (y z : Operand) (ho : o.op = .buildSlice t 2 #[(0, y), (1, z)]) (e : TypeId) (k : IntKind) (x x' : Int) (hy : a.eval y = .int k x) (hz : a.eval z = .int k x')
    (hrun : ∀ w, (Instr.buildSlice t 2 #[(0, .int k x), (1, .int k x')]).run P w = .ok (.slice (some ⟨w.heap.size, 0, none⟩) 2 2) (w.alloc (.cells #[.int k x, .int k x'] e)))
    (h : ∀ g w', OwnI k e w' w.heap.size (.slice (some ⟨g, 0, none⟩) 2 2) [x, x'] → Fr noB w w' → w.heap.size ≤ g → g < w'.heap.size → wpList P ops Q rest (a.put o.dst (.slice (some ⟨g, 0, none⟩) 2 2)) w') : wpList P ops Q (o :: rest) a w := by
  refine wpList_wanted hgd fun K hK => ?_
  unfold Oper.wp
  simp [execOp, ho, hy, hz, hrun, Result.andThen]
  exact hK _ _ (h w.heap.size _ (ownI_new w k e [x, x'] (by unfold maxLen; simp)) ((Fr.refl _ _).alloc _) (Nat.le_refl _) (by simp))
end
end Go.Proofs.U
namespace Go.Proofs.Ythpcfijefcicpaa
open Go.RowKit Go.Proofs.U
set_option linter.unusedSimpArgs false
set_option linter.unusedVariables false
theorem run_mk1_u64 (x : Int) (w : World) : (Instr.buildSlice 61 1 #[(0, .int .u64 x)]).run Try.prog w = .ok (.slice (some ⟨w.heap.size, 0, none⟩) 1 1) (w.alloc (.cells #[.int .u64 x] 60)) := by simp [go_sem]
theorem run_mk2_u64 (x y : Int) (w : World) : (Instr.buildSlice 61 2 #[(0, .int .u64 x), (1, .int .u64 y)]).run Try.prog w = .ok (.slice (some ⟨w.heap.size, 0, none⟩) 2 2) (w.alloc (.cells #[.int .u64 x, .int .u64 y] 60)) := by simp [go_sem]
theorem info_u64 : (Try.prog.info? 60).map (fun i => (i.zero, i.size, i.bytes)) = some (some (.int .u64 0), 1, 8) := by kernel_rfl
theorem wrap_u64_sm {x : Int} (h0 : 0 ≤ x) (h1 : x < 1000) : IntKind.u64.wrap x = x := by
  have : (0:Int) ≤ x ∧ x < 18446744073709551616 := by omega
  simp [IntKind.wrap, IntKind.bits, IntKind.signed, IntKind.min, IntKind.max]
  omega
theorem wf_u64_sm {x : Int} (h0 : 0 ≤ x) (h1 : x < 1000) : (Lit.int .u64 x).wf = true := by
  simp [Lit.wf, IntKind.min, IntKind.max, IntKind.signed, IntKind.bits]; omega
theorem putB_one {l : List Int} (h : Byt l) : ([] : List Int) ++ putB (1 : Int).toNat l = l := by
  rw [List.nil_append]
  show putB 1 l = l
  induction l with
  | nil => rfl
  | cons x l ih =>
    have hx := u8_bd (h x (by simp))
    have := ih (fun y hy => h y (by simp [hy]))
    simp [putB, leB] at this ⊢
    exact ⟨by omega, this⟩
theorem fits_one {l : List Int} (h : Byt l) : l.all (fits 1) = true := by
  rw [List.all_eq_true]
  intro x hx
  have hx := u8_bd (h x hx)
  simp [fits, lim]; omega
theorem byt_u64 {l : List Int} (h : Byt l) : ∀ n ∈ l, (Lit.int .u64 n).wf = true := fun n hn => by
  have := u8_bd (h n hn)
  exact wf_u64_sm this.1 (by omega)
theorem pairs_snoc (l : List (Int × Int)) (j : Nat) (h : j < l.length) : pairs (l.take (j + 1)) = pairs (l.take j) ++ [l[j].1, l[j].2] := by
  rw [List.take_succ_eq_append_getElem h]
  unfold pairs
  rw [List.flatMap_append]; rfl

set_option maxRecDepth 100000 in
set_option maxHeartbeats 2000000 in
theorem content_1 (n : Nd) (v : Value) (w : World) (h : NdS w v n) (hr : n.right = true) (hk : n.k = 1) :
    Calls Try.prog 16 #[ndV n.k n.b v] w fun r w' => ∃ u, r = .returned u ∧ OwnI .u8 5 w' w.heap.size u n.body ∧ Fr noB w w' := by
  have hbyt := body_byt hr h.2.1
  have hbl := body_len hr h.2.1.1
  have hes := right_data hr hk
  obtain ⟨k, b, es⟩ := n
  simp only at hk hes
  subst hk
  subst hes
  obtain ⟨hs, ⟨hb, hy⟩, hm, hwf⟩ := h
  simp only at hs hb hy hm hwf
  have Hb := show Hid _ from hb
  have hS := hs
  obtain ⟨a0, c0, rfl, hc0⟩ := hs.1.opn
  obtain ⟨es, Hes⟩ : ∃ es : List (Int × Int), Hid (es = []) := ⟨_, rfl⟩
  obtain ⟨Y, HY⟩ : ∃ Y, Hid ((Nd.mk 1 b []).body = Y) := ⟨_, rfl⟩
  have hY : Hid ([1] ++ b = Y) := by show _ = _; rw [← HY.out]; unfold Nd.body; simp
  simp only
  rw [HY.out]
  rw [← Hes.out] at hS ⊢
  have hel : Hid (es.length = 0) := by show _ = _; rw [Hes.out]; rfl
  have hes6 : es.length ≤ 6 := by rw [hel.out]; decide
  obtain ⟨L, HL⟩ : ∃ L : List Int, Hid (([1] : List Int) ++ pairs es = L) := ⟨_, rfl⟩
  have hL1 : Hid (L = [1]) := by show _ = _; rw [← HL.out, Hes.out]; rfl
  have hLb : Byt L := by rw [hL1.out]; intro x hx; simp at hx; subst hx; decide
  clear hbyt hbl hb hs HY
  have hLl0 : Hid (L.length ≤ 20) := by
    show _ ≤ _
    rw [← HL.out, List.length_append, pairs_len]; simp; omega
  have hLl : Hid (L.length ≤ 1000000000000) := Nat.le_trans hLl0.out (by decide)
  have hput : Hid (([] : List Int) ++ putB (1 : Int).toNat L = L) := putB_one hLb
  have hfit := fits_one hLb
  go_enter Try.func16, Try.ntmps16
  have hkw : IntKind.u64.wrap 1 = 1 := wrap_u64_sm (by decide) (by decide)
  go_wp2_with (first
    | (with_reducible refine at_wpP ?_; refine wpList_boxN rfl _ rfl _ b (.slice a0 es.length c0) rfl ?_; intro g1 w1 hg1 b1 f1 s1; have q0 := NdB.kind b1; have q2 := NdB.ents b1 Hb.out; have l1 := b1.lt; have z1 := f1.size)
    | (with_reducible refine at_wpP ?_; refine wpList_mk1I rfl 61 _ rfl 60 .u64 1 rfl (run_mk1_u64 1) ?_; intro g3 w2 o2 f2 r2 t2; have b2 := b1.fr0 f2; have q0 := NdB.kind b2; have q2 := NdB.ents b2 Hb.out))
  go_loopw [3, 25] (fun u i wr => ∃ (j : Nat), j ≤ es.length ∧ i = .int .i64 (j : Int) ∧ OwnI .u64 60 wr w1.heap.size u ([1] ++ pairs (es.take j)) ∧ Fr noB w1 wr) (fun _ i _ => es.length - (intOf i).toNat)
  case atStart => exact ⟨0, by omega, rfl, by rw [List.take_zero]; exact o2, f2⟩
  case round =>
    obtain ⟨j, hj, rfl, ho, hf⟩ := hrel
    have zf := hf.size
    by_cases hlt : j < es.length
    · exact absurd hlt (by rw [hel.out]; omega)
    · obtain rfl : j = es.length := by omega
      rw [List.take_length, HL.out] at ho
      have hosl := ho.sl (byt_u64 hLb)
      obtain ⟨a7, c7, rfl⟩ := ho.opn
      have hlt' : ¬ (es.length : Int) < (es.length : Int) := by omega
      have hLl1 : Hid (L.length = 1) := by show _ = _; rw [hL1.out]; rfl
      have hblk0 := fun W (f : Fr noB w1 W) => NdB.slI (b1.fr0 f) Hb.out hy
      go_wp2_with (first
        | (go_at_call 23; go_must (refine (put_yes 1 rfl _ _ [] L _ (SlI.nil _ _) hosl (by simp) hLl.out hfit).mono ?_; rw [hput.out]; rintro e w9 ⟨v9, rfl, o9, f9⟩; have F9 := hf.thenN f9; have b9 := b1.fr0 F9; have q0 := NdB.kind b9; have hblk := hblk0 _ F9; obtain ⟨a9, c9, rfl⟩ := o9.opn))
        | (refine at_cut 28 _ none none none rfl ?_; go_must (refine wpList_allOff arr1_block (by decide) rfl _ rfl g1 1 rfl ?_))
        | (at_builtin; go_must (refine wpList_app rfl _ _ 45 rfl wr.heap.size 5 _ 1 1 Try.underlying45 info5 rfl (by decide) _ _ _ rfl o9 _ _ _ rfl hblk.1 (ones _ _) (by rw [hLl1.out, Hb.out]; unfold maxLen; decide) (by rw [hLl1.out, Hb.out]; decide) f9.size ?_; intro v10 w10 hown10 hgr10)))
      go_ret
      have o10 : OwnI .u8 5 w10 wr.heap.size v10 (L ++ b) := OwnI.mk _ hown10 (by simp)
      rw [hL1.out, hY.out] at o10
      exact ⟨_, rfl, o10.rebase (by omega), f1.thenN (F9.grown hgr10 (fun k hk hlt => by have := (o9.newB k hk).1; omega))⟩

set_option maxRecDepth 100000 in
set_option maxHeartbeats 2000000 in
theorem content_2 (n : Nd) (v : Value) (w : World) (h : NdS w v n) (hr : n.right = true) (hk : ¬ n.k = 1) :
    Calls Try.prog 16 #[ndV n.k n.b v] w fun r w' => ∃ u, r = .returned u ∧ OwnI .u8 5 w' w.heap.size u n.body ∧ Fr noB w w' := by
  have hbyt := body_byt hr h.2.1
  have hbl := body_len hr h.2.1.1
  obtain ⟨hkk, hbz, he1, he6, hri⟩ := right_tree hr hk
  have hall := rises_all hri (by decide)
  obtain ⟨k, b, es⟩ := n
  obtain ⟨hs, ⟨hb, hy⟩, hm, hwf⟩ := h
  simp only at hs hb hy hm hwf hk hkk hbz he1 he6 hri hall hbyt hbl
  have Hb := show Hid _ from hb
  have hS := hs
  obtain ⟨a0, c0, rfl, hc0⟩ := hs.1.opn
  have hes6 : es.length ≤ 6 := he6
  obtain ⟨L, HL⟩ : ∃ L : List Int, Hid ([k, (es.length : Int)] ++ pairs es = L) := ⟨_, rfl⟩
  have hL1 : Hid ((Nd.mk k b es).body = L) := by show _ = _; rw [← HL.out]; unfold Nd.body; simp only; rw [if_neg hk]; rfl
  have hLb : Byt L := by rw [← hL1.out]; exact hbyt
  simp only
  rw [hL1.out]
  have hk0 : 0 ≤ k ∧ k < 1000 := by omega
  have hkw : IntKind.u64.wrap k = k := wrap_u64_sm hk0.1 hk0.2
  have hnw : IntKind.u64.wrap (es.length : Int) = (es.length : Int) := wrap_u64_sm (by omega) (by omega)
  have hnwf : ∀ n ∈ [(es.length : Int)], (Lit.int .u64 n).wf = true := by intro n hn; simp at hn; subst hn; exact wf_u64_sm (by omega) (by omega)
  have hk1 : (k == 1) = false := by simpa using hk
  clear hbyt hbl hb hs hbz hri hkk hm he1 he6
  have hLl0 : Hid (L.length ≤ 20) := by
    show _ ≤ _
    rw [← HL.out, List.length_append, pairs_len]; simp; omega
  have hLl : Hid (L.length ≤ 1000000000000) := Nat.le_trans hLl0.out (by decide)
  have hput : Hid (([] : List Int) ++ putB (1 : Int).toNat L = L) := putB_one hLb
  have hfit := fits_one hLb
  go_enter Try.func16, Try.ntmps16
  go_wp2_with (first
    | (with_reducible refine at_wpP ?_; refine wpList_boxN rfl _ rfl _ b (.slice a0 es.length c0) rfl ?_; intro g1 w1 hg1 b1 f1 s1; have q0 := NdB.kind b1; have q2 := NdB.ents b1 Hb.out; have l1 := b1.lt; have z1 := f1.size)
    | (with_reducible refine at_wpP ?_; have q := o2; refine wpList_mk1I rfl 61 _ rfl 60 .u64 (es.length : Int) rfl (run_mk1_u64 _) ?_; intro g4 w3 o3 f3 r3 t3; have p3 := o2.fr f3 (fun _ _ q => q))
    | (with_reducible refine at_wpP ?_; refine wpList_mk1I rfl 61 _ rfl 60 .u64 k rfl (run_mk1_u64 k) ?_; intro g3 w2 o2 f2 r2 t2; have b2 := b1.fr0 f2; have q0 := NdB.kind b2; have q2 := NdB.ents b2 Hb.out)
    | (at_builtin; go_must (refine wpList_app rfl _ _ 61 rfl w1.heap.size 60 _ 1 8 Try.underlying61 info_u64 rfl (by decide) _ _ _ rfl p3 _ _ _ rfl (o3.sl hnwf).1 (ones _ _) (by unfold maxLen; simp) (by simp) ?hz ?_; rotate_left 1; intro v4 w4 hown4 hgr4; have F4 : Fr noB w1 w4 := (f2.thenN f3).grown hgr4 (owns_new p3); have b4 := b1.fr0 F4; have q0 := NdB.kind b4; have q2 := NdB.ents b4 Hb.out)))
  case hz => have := f2.size; have := f3.size; omega
  have o4 : OwnI .u64 60 w4 w1.heap.size v4 [k, (es.length : Int)] := OwnI.mk _ hown4 rfl
  go_loopw [3, 25] (fun u i wr => ∃ (j : Nat), j ≤ es.length ∧ i = .int .i64 (j : Int) ∧ OwnI .u64 60 wr w1.heap.size u ([k, (es.length : Int)] ++ pairs (es.take j)) ∧ Fr noB w1 wr) (fun _ i _ => es.length - (intOf i).toNat)
  case atStart => exact ⟨0, by omega, rfl, by rw [List.take_zero]; exact o4, F4⟩
  case round =>
    obtain ⟨j, hj, rfl, ho, hf⟩ := hrel
    have zf := hf.size
    by_cases hlt : j < es.length
    · have hlt' : (j : Int) < (es.length : Int) := by omega
      have hps := show Hid _ from pairs_snoc es j hlt
      have hxa := hall es[j] (List.getElem_mem hlt)
      obtain ⟨x, Hx⟩ : ∃ x, Hid (es[j] = x) := ⟨es[j], (rfl : es[j] = es[j])⟩
      rw [Hx.out] at hxa hps
      have hx1 : IntKind.u64.wrap x.1 = x.1 := wrap_u64_sm hxa.1.1 (by omega)
      have hx2 : IntKind.u64.wrap x.2 = x.2 := wrap_u64_sm hxa.2.1 (by omega)
      have hxwf : ∀ n ∈ [x.1, x.2], (Lit.int .u64 n).wf = true := by
        intro n hn
        simp at hn
        rcases hn with rfl | rfl
        · exact wf_u64_sm hxa.1.1 (by omega)
        · exact wf_u64_sm hxa.2.1 (by omega)
      obtain ⟨M, HM⟩ : ∃ M, Hid ([k, (es.length : Int)] ++ pairs (es.take j) = M) := ⟨_, rfl⟩
      have hMl : Hid (M.length ≤ 20) := by
        show _ ≤ _
        rw [← HM.out, List.length_append, pairs_len, List.length_take]; simp; omega
      rw [HM.out] at ho
      obtain ⟨a7, c7, rfl⟩ := ho.opn
      go_wp2_with (first
        | (refine at_idx 29 _ _ rfl ?_; go_must (refine wpList_idxR rfl 29 _ _ rfl 43 Try.underlying29 2 en_size _ _ _ rfl (hS.1.fr0 (f1.thenN hf)) (by decide) _ _ j rfl rfl hlt ?_; rw [Hx.out]; intro ba oa hba hca))
        | (with_reducible refine at_wpP ?_; refine at_ld 43 _ rfl ?_; have q := hca; refine wpList_ldE rfl _ rfl ba oa rfl x hca ?_)
        | (with_reducible refine at_wpP ?_; refine wpList_allocE rfl rfl ?_; intro gl w5 hgl b5 f5 sl; have l5 := b5.lt; have F5 := hf.thenN f5; have z5 := f5.size)
        | (with_reducible refine at_wpP ?_; refine at_st 43 _ _ rfl ?_; go_must (refine wpList_stE rfl _ _ rfl gl rfl (0, 0) x b5 rfl ?_; intro w6 B6 f6; have F6 := Fr.ownX F5 (by omega) f6; have z6 := f6.size; obtain ⟨c0, c1⟩ := B6.all; have o6 := (ho.fr f5 (fun _ _ q => q)).fr f6 (fun q hq e => by have := (ho.newB q hq).2; unfold onB1 at e; omega)))
        | (with_reducible refine at_wpP ?_; refine wpList_mk2I rfl 61 _ _ rfl 60 .u64 x.1 x.2 rfl rfl (run_mk2_u64 x.1 x.2) ?_; intro g7 w7 s7 f7 r7 t7; have o7 := o6.fr f7 (fun _ _ q => q); have F7 := F6.thenN f7)
        | (at_builtin; go_must (refine wpList_app rfl _ _ 61 rfl w1.heap.size 60 _ 1 8 Try.underlying61 info_u64 rfl (by decide) _ _ _ rfl o7 _ _ _ rfl (s7.sl hxwf).1 (ones _ _) ?hq1 ?hq2 ?hq3 ?_; rotate_left 3; intro v8 w8 hown8 hgr8)))
      case hq1 => have := hMl.out; unfold maxLen; simp; omega
      case hq2 => have := hMl.out; simp; omega
      case hq3 => have := F7.size; omega
      go_roundw
      case rel => exact ⟨j + 1, by omega, by go_num, OwnI.mk _ hown8 (by rw [hps.out, ← List.append_assoc, HM.out]; simp), F7.grown hgr8 (owns_new o7)⟩
      case measure => simp [intOf]; omega
    · obtain rfl : j = es.length := by omega
      rw [List.take_length, HL.out] at ho
      have hosl := ho.sl (byt_u64 hLb)
      obtain ⟨a7, c7, rfl⟩ := ho.opn
      have hlt' : ¬ (es.length : Int) < (es.length : Int) := by omega
      go_wp2_with (first
        | (go_at_call 23; go_must (refine (put_yes 1 rfl _ _ [] L _ (SlI.nil _ _) hosl (by simp) hLl.out hfit).mono ?_; rw [hput.out]; rintro e w9 ⟨v9, rfl, o9, f9⟩; have F9 := hf.thenN f9; have b9 := b1.fr0 F9; have q0 := NdB.kind b9; obtain ⟨a9, c9, rfl⟩ := o9.opn)))
      go_ret
      exact ⟨_, rfl, o9.rebase (by omega), f1.thenN F9⟩

theorem content_any (n : Nd) (v : Value) (w : World) (h : NdS w v n) (hr : n.right = true) :
    Calls Try.prog 16 #[ndV n.k n.b v] w fun r w' => ∃ u, r = .returned u ∧ OwnI .u8 5 w' w.heap.size u n.body ∧ Fr noB w w' := by
  by_cases hk : n.k = 1
  · exact content_1 n v w h hr hk
  · exact content_2 n v w h hr hk
end Go.Proofs.Ythpcfijefcicpaa
/- streamOf of package root. (Written by v3_gen.py.) -/
namespace Go.Proofs.Ythpcfijefcicpaa
open Go.RowKit Go.Proofs.U
set_option linter.unusedSimpArgs false
set_option linter.unusedVariables false
/-- While bytes are copied into a variable. -/
def JB (w0 : World) (g : Nat) (t : TypeId) (l : List Int) : List Value → World → Prop
  | [], W => W = w0
  | [_], W => BxV W g t (pgv l) ∧ Fr (onB1 g) w0 W
  | _, _ => False

end Go.Proofs.Ythpcfijefcicpaa
/- pageOf of package root. (Written by v3_gen.py.) -/
namespace Go.Proofs.Ythpcfijefcicpaa
open Go.RowKit Go.Proofs.U
set_option linter.unusedSimpArgs false
set_option linter.unusedVariables false
theorem SlB_two (w : World) (t : TypeId) (v u : Value) (l m : List Int) (h : SlI .u8 w v l) (k : SlI .u8 w u m) (b : Nat) (hb : w.heap.size = b) : SlB (w.alloc (.cells #[v, u] t)) (.slice (some ⟨b, 0, none⟩) 2 2) [l, m] := by
  refine ⟨[v, u], by simpa using Sl_made w t #[v, u] 2 b rfl hb, fun j hj x hx => ?_⟩
  have hf : Fr noB w (w.alloc (.cells #[v, u] t)) := (Fr.refl _ _).alloc _
  have hj2 : j = 0 ∨ j = 1 := by simp at hj; omega
  rcases hj2 with rfl | rfl
  · simp at hx; subst hx; exact h.fr0 hf
  · simp at hx; subst hx; exact k.fr0 hf
theorem Sl1b (w : World) (t : TypeId) (k : IntKind) (n : Int) (h : (Lit.int k n).wf = true) (b : Nat) (hb : w.heap.size = b) : SlI k (w.alloc (.cells #[.int k n] t)) (.slice (some ⟨b, 0, none⟩) 1 1) [n] := by
  subst hb; exact Sl1 w t k n h
theorem st192_of (c : List Int) (hc : c.length ≤ 186) : putI (List.replicate 192 0) 0 ((strm c).take 192) = st192 c := by
  have hl := strm_len c
  rw [st192_eq c hc, List.take_of_length_le (by omega)]
  unfold putI
  rw [List.take_zero, List.nil_append, List.drop_replicate, Nat.zero_add, hl]
  congr 2; omega

end Go.Proofs.Ythpcfijefcicpaa
/- rootOf of package root. (Written by v5_gen.py.) -/
namespace Go.Proofs.Ythpcfijefcicpaa
open Go.RowKit Go.Proofs.U
set_option linter.unusedSimpArgs false
set_option linter.unusedVariables false
/-- While one call lays memory and answers V. -/
def JV (w0 : World) (V : Value) : List Value → World → Prop
  | [], W => W = w0
  | [v], W => v = V ∧ Fr noB w0 W
  | _, _ => False
theorem JV.fr {w0 : World} {V : Value} : ∀ {hv : List Value} {W : World}, JV w0 V hv W → Fr noB w0 W
  | [], _, h => by cases h; exact Fr.refl _ _
  | [_], _, h => h.2
  | _ :: _ :: _, _, h => h.elim
abbrev rtL (g : Int) (v : Value) : List Value := [.int .u64 g, v]
abbrev rtV (g : Int) (v : Value) : Value := .agg #[.int .u64 g, v]
theorem isSl_one {v : Value} (h : isSl v) : v.oneCell' = true := by obtain ⟨a, n, c, rfl⟩ := h; rfl
section
variable {w : World} {ops : Array Oper} {rest : List Oper} {o : Oper} {a : Act} {Q : Exit → Act → World → Prop}
end
theorem nm2 (p : List Int) : nmV (strmOf p) 0 false 2 = lenOf p ∧ nmT (strmOf p) 0 false 2 = 2 ∧ nmF (strmOf p) 0 false 2 = false := by
  have e : isW 2 = true := rfl
  have hl := strmOf_len p
  simp [nmV, nmT, nmF, e, tkL, tkT, tkF, tkOk, hl, lenOf]
theorem tk2 (p : List Int) (n : Nat) (hn : lenOf p = (n : Int)) (h : n ≤ 186) : tkL (strmOf p) 2 false (n : Int) = contOf p := by
  have hl := strmOf_len p
  simp [tkL, tkOk, hl, contOf, hn]
  intro hh; omega
/-- What rootOf answers. -/
def RootIs (w w' : World) (p : List Int) (e : Ending) : Prop := ∃ v, e = .returned (rtV (rootOf p).1 v) ∧ SlI .u8 w' v (rootOf p).2 ∧ (∀ q, v.ownBlock = some q → w.heap.size ≤ q ∧ q < w'.heap.size) ∧ Fr noB w w'

end Go.Proofs.Ythpcfijefcicpaa
/- Both slots' pages as one value; newestOf and topOf of package root. -/
namespace Go.Proofs.Ythpcfijefcicpaa
open Go.RowKit Go.Proofs.U
set_option linter.unusedSimpArgs false
set_option linter.unusedVariables false
def pp (p q : List Int) : List Value := pgv p ++ pgv q
/-- Both slots' pages. -/
def ppV (p q : List Int) : Value := .agg (pp p q).toArray
theorem pp_len (p q : List Int) (hp : p.length = 256) (hq : q.length = 256) : (pp p q).length = 512 := by simp only [pp, List.length_append, pgv_len, hp, hq]
theorem pp_one (p q : List Int) : ∀ v ∈ pp p q, v.oneCell' = true := by
  intro v hv
  rcases List.mem_append.1 hv with h | h
  · exact pgv_one p v h
  · exact pgv_one q v h
theorem under_pg : Try.prog.underlying 23 = some (.array 256 5) := by kernel_rfl
def pick2 (p q : List Int) (i : Nat) : List Int := if i = 0 then p else q
theorem pick2_len {p q : List Int} (hp : p.length = 256) (hq : q.length = 256) (i : Nat) : (pick2 p q i).length = 256 := by unfold pick2; split <;> assumption
theorem pick2_byt {p q : List Int} (hp : Byt p) (hq : Byt q) (i : Nat) : Byt (pick2 p q i) := by unfold pick2; split <;> assumption
theorem pp_cut (p q : List Int) (hp : p.length = 256) (hq : q.length = 256) (i : Nat) (hi : i < 2) : ((pp p q).drop (i * 256)).take 256 = pgv (pick2 p q i) := by
  have h1 := pgv_len p
  have h2 := pgv_len q
  have : i = 0 ∨ i = 1 := by omega
  rcases this with rfl | rfl
  · simp only [pp, pick2, Nat.zero_mul, List.drop_zero, if_true]
    rw [List.take_append_of_le_length (by omega), List.take_of_length_le (by omega)]
  · simp only [pp, pick2, Nat.one_mul, Nat.one_ne_zero, if_false]
    rw [List.drop_append_of_le_length (by omega), List.drop_of_length_le (by omega), List.nil_append, List.take_of_length_le (by omega)]
section
variable {w : World} {ops : Array Oper} {rest : List Oper} {o : Oper} {a : Act} {Q : Exit → Act → World → Prop}
end

/-- The root that counts of the first k pages. -/
def nwK (p q : List Int) (k : Nat) : Int × List Int :=
  if k = 0 then (0, []) else if k = 1 then (if (rootOf p).1 % 2 = 0 ∧ 0 < (rootOf p).1 then rootOf p else (0, [])) else newest p q
theorem nwK_succ (p q : List Int) (k : Nat) (hk : k < 2) : nwK p q (k + 1) = if (rootOf (pick2 p q k)).1 % 2 = (k : Int) ∧ (nwK p q k).1 < (rootOf (pick2 p q k)).1 then rootOf (pick2 p q k) else nwK p q k := by
  have : k = 0 ∨ k = 1 := by omega
  rcases this with rfl | rfl
  · simp [nwK, pick2]
  · simp [nwK, pick2, newest]
theorem nwK_bd {p q : List Int} (h : Byt p) (k : Byt q) (n : Nat) : 0 ≤ (nwK p q n).1 ∧ (nwK p q n).1 < 18446744073709551616 := by
  have h1 := rootOf_bd h
  have h3 : 0 ≤ (0 : Int) ∧ (0 : Int) < 18446744073709551616 := by decide
  unfold nwK
  split
  · exact h3
  · split
    · split
      · exact h1
      · exact h3
    · exact newest_bd h k

/-- The greatest generation of the first k pages. -/
def tpK (p q : List Int) (k : Nat) : Int := if k = 0 then 0 else if k = 1 then topK p 0 8 else top p q
theorem tpK_succ (p q : List Int) (k : Nat) (hk : k < 2) : tpK p q (k + 1) = topK (pick2 p q k) (tpK p q k) 8 := by
  have : k = 0 ∨ k = 1 := by omega
  rcases this with rfl | rfl
  · simp [tpK, pick2]
  · simp [tpK, pick2, top]
theorem tpK_bd {p q : List Int} (h : Byt p) (k : Byt q) (n : Nat) : 0 ≤ tpK p q n ∧ tpK p q n < 18446744073709551616 := by
  unfold tpK
  split
  · decide
  · split
    · exact topK_bd h _ (by decide) 8
    · exact top_bd h k

end Go.Proofs.Ythpcfijefcicpaa
/- slots of package root. -/
namespace Go.Proofs.Ythpcfijefcicpaa
open Go.RowKit Go.Proofs.U
set_option linter.unusedSimpArgs false
set_option linter.unusedVariables false
/-- All pages, and all that is pending, are bytes. -/
def DSt.byt (X : DSt) : Prop := (∀ p ∈ X.pages, Byt p) ∧ ∀ x ∈ X.pend, Byt x.2
theorem lastW_byt {l : List (Int × List Int)} (h : ∀ x ∈ l, Byt x.2) (i : Int) {p : List Int} (hp : Byt p) : Byt (lastW l i p) := by
  unfold lastW
  induction l generalizing p with
  | nil => exact hp
  | cons x l ih =>
    rw [List.foldl_cons]
    refine ih (fun y hy => h y (by simp [hy])) ?_
    split
    · exact h x (by simp)
    · exact hp
theorem readP_byt {X : DSt} (h : X.byt) (i : Int) : Byt (readP X i).1 := by
  unfold readP
  split
  · split
    · exact zeroP_byt
    · refine lastW_byt h.2 i ?_
      by_cases hj : i.toNat < X.pages.length
      · have : X.pages.getD i.toNat [] = X.pages[i.toNat] := by simp [List.getD, hj]
        rw [this]; exact h.1 _ (by simp)
      · have : X.pages.getD i.toNat [] = [] := by simp [List.getD, hj]
        rw [this]; intro n hn; simp at hn
  · exact zeroP_byt
theorem readP_err (X : DSt) (i : Int) : (readP X i).2 = 0 ∨ (readP X i).2 = 41 ∨ (readP X i).2 = 43 := by
  unfold readP
  split
  · split <;> simp
  · simp
section
variable {w : World} {ops : Array Oper} {rest : List Oper} {o : Oper} {a : Act} {Q : Exit → Act → World → Prop}
end
section
variable {w : World} {ops : Array Oper} {rest : List Oper} {o : Oper} {a : Act} {Q : Exit → Act → World → Prop}
end
def slA (X : DSt) : List Int := if rdE X = 0 then (readP X 0).1 else zeroP
def slB (X : DSt) : List Int := if rdE X = 0 then (readP X 1).1 else zeroP

end Go.Proofs.Ythpcfijefcicpaa
/- Read and Next of package root. -/
namespace Go.Proofs.Ythpcfijefcicpaa
open Go.RowKit Go.Proofs.U
set_option linter.unusedSimpArgs false
set_option linter.unusedVariables false

/-- What Read answers. -/
def ReadIs (w w' : World) (X : DSt) (e : Ending) : Prop := ∃ v, e = .returned (.tuple #[v, .int .u64 (rRead X).2.1, .int .i64 (rRead X).2.2]) ∧ SlI .u8 w' v (rRead X).1 ∧ (∀ q, v.ownBlock = some q → w.heap.size ≤ q ∧ q < w'.heap.size) ∧ Fr noB w w'

end Go.Proofs.Ythpcfijefcicpaa
/- Next of package root. -/
namespace Go.Proofs.Ythpcfijefcicpaa
open Go.RowKit Go.Proofs.U
set_option linter.unusedSimpArgs false
set_option linter.unusedVariables false

end Go.Proofs.Ythpcfijefcicpaa
/- Write of package root. -/
namespace Go.Proofs.Ythpcfijefcicpaa
open Go.RowKit Go.Proofs.U
set_option linter.unusedSimpArgs false
set_option linter.unusedVariables false
theorem nextG_bd {X : DSt} (hb : X.byt) (h : (rNext X).2 = 0) : 0 ≤ (rNext X).1 ∧ (rNext X).1 < 18446744073709551616 := by
  have ht := top_bd (readP_byt hb 0) (readP_byt hb 1)
  unfold rNext at h ⊢
  split
  · rename_i he
    rw [if_pos he] at h
    split
    · decide
    · rename_i h1
      have h2 : 0 ≤ tp X ∧ tp X < 18446744073709551616 := ht
      simp only [nextG]
      split <;> omega
  · exact ⟨Int.le_refl _, (by decide : (0 : Int) < 18446744073709551616)⟩

theorem write_pend (X : DSt) (i : Int) (p : List Int) {n : Nat} (h : X.pend.length + 1 ≤ n) : (X.write i p).pend.length ≤ n := by
  unfold DSt.write
  split
  · split
    · show (X.pend ++ [(i, p)]).length ≤ n
      rw [List.length_append]; exact h
    · show X.pend.length ≤ n
      omega
  · omega

end Go.Proofs.Ythpcfijefcicpaa
/- Roots, plain: what is written is read; what is torn is no root; the greatest generation. -/
namespace Go.Proofs.Ythpcfijefcicpaa
open Go.RowKit Go.Proofs.U
set_option linter.unusedSimpArgs false
set_option linter.unusedVariables false

theorem sec_root (g : Int) (c : List Int) (s : Nat) (hs : s < 8) : ((rootP g c).drop (s * 32)).take 8 = leB 8 g := by
  have h8 := leB_length 8 g
  apply ext_getD
  · rw [h8, List.length_take, List.length_drop, rootP_len]; omega
  · intro i hi
    have hi8 : i < 8 := by rw [List.length_take] at hi; omega
    rw [drop_take_get _ _ _ _ hi8, rootP_get _ _ _ (by omega), if_pos (by omega)]
    congr 1; omega
theorem genAt_root (g : Int) (hg : 0 ≤ g ∧ g < 18446744073709551616) (c : List Int) (s : Nat) (hs : s < 8) : genAt (rootP g c) s = g := by
  unfold genAt
  rw [sec_root g c s hs, leNum_leB 8 g hg.1 (by have : (256 : Int) ^ 8 = 18446744073709551616 := by decide
                                                omega)]
theorem strmOf_root (g : Int) (c : List Int) : strmOf (rootP g c) = st192 c := by
  apply ext_getD
  · rw [strmOf_len, st192_len]
  · intro i hi
    rw [strmOf_len] at hi
    rw [strmOf, getD_map _ _ _ hi, rootP_get _ _ _ (by omega), if_neg (by omega)]
    congr 1; omega
theorem strm_take2 (c : List Int) : (strm c).take 2 = leB 2 c.length := by
  unfold strm sealI
  rw [List.append_assoc, List.take_append_of_le_length (by rw [leB_length]; decide), List.take_of_length_le (by rw [leB_length]; decide)]
theorem lenOf_root (g : Int) (c : List Int) (hc : c.length ≤ 186) : lenOf (rootP g c) = c.length := by
  unfold lenOf
  rw [strmOf_root, st192_eq c hc, List.take_append_of_le_length (by rw [strm_len]; omega), strm_take2]
  refine leNum_leB 2 _ (by omega) ?_
  have : (256 : Int) ^ 2 = 65536 := by decide
  omega
theorem contOf_root (g : Int) (c : List Int) (hc : c.length ≤ 186) : contOf (rootP g c) = c := by
  unfold contOf
  rw [lenOf_root g c hc, strmOf_root, st192_eq c hc, Int.toNat_natCast]
  unfold strm sealI
  rw [List.append_assoc, List.append_assoc, List.drop_append_of_le_length (by rw [leB_length]; decide), List.drop_of_length_le (by rw [leB_length]; decide), List.nil_append, List.take_append_of_le_length (Nat.le_refl _), List.take_length]
theorem rootOf_root (g : Int) (hg : 0 ≤ g ∧ g < 18446744073709551616) (c : List Int) (hc : c.length ≤ 186) : rootOf (rootP g c) = (g, c) := by
  unfold rootOf
  rw [lenOf_root g c hc, contOf_root g c hc, genAt_root g hg c 0 (by decide), if_neg (by omega)]
  simp
/-- A page that is a root has its generation in all sectors. -/
theorem rootOf_some {p : List Int} (h : (rootOf p).1 ≠ 0) : p = rootP (rootOf p).1 (rootOf p).2 := by
  unfold rootOf at h ⊢
  split
  · rename_i h1; rw [if_pos h1] at h; simp at h
  · rename_i h1
    rw [if_neg h1] at h
    split
    · rename_i h2
      exact (by simpa using h2 : rootP (genAt p 0) (contOf p) = p).symm
    · rename_i h2; rw [if_neg h2] at h; simp at h
theorem rootOf_gen {p : List Int} (hb : Byt p) (h : (rootOf p).1 ≠ 0) (s : Nat) (hs : s < 8) : genAt p s = (rootOf p).1 := by
  have h1 := rootOf_some h
  have h2 := rootOf_bd hb
  conv => lhs; rw [h1]
  exact genAt_root _ h2 _ s hs
theorem rootOf_none {p : List Int} (h : (rootOf p).1 = 0) (hb : Byt p) (h0 : genAt p 0 ≠ 0) : rootOf p = (0, []) := by
  unfold rootOf at h ⊢
  split
  · rfl
  · rename_i h1
    rw [if_neg h1] at h
    split
    · rename_i h2; rw [if_pos h2] at h; exact absurd h h0
    · rfl
/-- Unlike generations: no root. -/
theorem rootOf_unlike {p : List Int} (hb : Byt p) {s t : Nat} (hs : s < 8) (ht : t < 8) (h : genAt p s ≠ genAt p t) : (rootOf p).1 = 0 := by
  apply Decidable.byContradiction
  intro h0
  exact h ((rootOf_gen hb h0 s hs).trans (rootOf_gen hb h0 t ht).symm)

theorem mixS_get (old new : List Int) (st : Nat → Bool) (i : Nat) (h : i < 256) : (mixS old new st 8).getD i 0 = if st (i / 32) = true then new.getD i 0 else old.getD i 0 := by
  unfold mixS
  rw [getD_map _ _ _ h]
  have : i / 32 < 8 := by omega
  simp [this]
theorem sec_mix (old new : List Int) (st : Nat → Bool) (ho : old.length = 256) (hn : new.length = 256) (s : Nat) (hs : s < 8) : ((mixS old new st 8).drop (s * 32)).take 8 = if st s then (new.drop (s * 32)).take 8 else (old.drop (s * 32)).take 8 := by
  apply ext_getD
  · split <;> simp only [List.length_take, List.length_drop, mixS_len, ho, hn]
  · intro i hi
    have hi8 : i < 8 := by rw [List.length_take] at hi; omega
    rw [drop_take_get _ _ _ _ hi8, mixS_get _ _ _ _ (by omega)]
    have : (s * 32 + i) / 32 = s := by omega
    rw [this]
    split <;> rw [drop_take_get _ _ _ _ hi8]
theorem genAt_mix (old new : List Int) (st : Nat → Bool) (ho : old.length = 256) (hn : new.length = 256) (s : Nat) (hs : s < 8) : genAt (mixS old new st 8) s = if st s then genAt new s else genAt old s := by
  unfold genAt
  rw [sec_mix old new st ho hn s hs]
  split <;> rfl
theorem mixS_byt {old new : List Int} (ho : Byt old) (hn : Byt new) (st : Nat → Bool) : Byt (mixS old new st 8) := by
  refine byt_map _ _ fun i _ => ?_
  split
  · exact hn.at i
  · exact ho.at i
theorem mixS_full (old new : List Int) (st : Nat → Bool) (h : new.length = 256) (hs : ∀ s, s < 8 → st s = true) : mixS old new st 8 = new := by
  apply ext_getD
  · rw [mixS_len, h]
  · intro i hi
    rw [mixS_len] at hi
    rw [mixS_get _ _ _ _ hi, hs _ (by omega)]; rfl
theorem mixS_old (old new : List Int) (st : Nat → Bool) (h : old.length = 256) (hs : ∀ s, s < 8 → st s = false) : mixS old new st 8 = old := by
  apply ext_getD
  · rw [mixS_len, h]
  · intro i hi
    rw [mixS_len] at hi
    rw [mixS_get _ _ _ _ hi, hs _ (by omega)]; rfl

theorem topK_le (p : List Int) (t : Int) (k : Nat) : t ≤ topK p t k ∧ ∀ s, s < k → genAt p s ≤ topK p t k := by
  induction k with
  | zero => exact ⟨Int.le_refl _, fun s h => by omega⟩
  | succ k ih =>
    rw [topK_succ]
    refine ⟨by omega, fun s hs => ?_⟩
    by_cases h : s = k
    · subst h; omega
    · have := ih.2 s (by omega); omega
theorem topK_up {p : List Int} {t B : Int} (k : Nat) (ht : t ≤ B) (h : ∀ s, s < k → genAt p s ≤ B) : topK p t k ≤ B := by
  induction k with
  | zero => exact ht
  | succ k ih =>
    rw [topK_succ]
    have h1 := ih (fun s hs => h s (by omega))
    have h2 := h k (by omega)
    omega
theorem top_p (p q : List Int) (s : Nat) (hs : s < 8) : genAt p s ≤ top p q := by
  have h1 := (topK_le p 0 8).2 s hs
  have h2 := (topK_le q (topK p 0 8) 8).1
  unfold top; omega
theorem top_q (p q : List Int) (s : Nat) (hs : s < 8) : genAt q s ≤ top p q := (topK_le q (topK p 0 8) 8).2 s hs
theorem top_up {p q : List Int} {B : Int} (h0 : 0 ≤ B) (hp : ∀ s, s < 8 → genAt p s ≤ B) (hq : ∀ s, s < 8 → genAt q s ≤ B) : top p q ≤ B := topK_up 8 (topK_up 8 h0 hp) hq
theorem top_nn (p q : List Int) : 0 ≤ top p q := by
  have h1 := (topK_le p 0 8).1
  have h2 := (topK_le q (topK p 0 8) 8).1
  unfold top; omega

/-- What newest tells. -/
theorem newest_cases (p q : List Int) :
    ((rootOf q).1 % 2 = 1 ∧ newest p q = rootOf q ∧ (0 ≤ (rootOf p).1 → 0 < (rootOf q).1)) ∨ ((rootOf p).1 % 2 = 0 ∧ 0 < (rootOf p).1 ∧ newest p q = rootOf p) ∨ newest p q = (0, []) := by
  unfold newest
  generalize rootOf p = a
  generalize rootOf q = b
  by_cases c1 : a.1 % 2 = 0 ∧ 0 < a.1
  · by_cases c2 : b.1 % 2 = 1 ∧ a.1 < b.1
    · simp only [c1, c2, and_self, if_true, true_and]
      exact Or.inl (fun h => by omega)
    · simp only [c1, and_self, if_true, if_neg c2, true_and]
      exact Or.inr (Or.inl trivial)
  · by_cases c2 : b.1 % 2 = 1 ∧ (0 : Int) < b.1
    · simp only [if_neg c1, c2, and_self, if_true, true_and]
      exact Or.inl (fun _ => trivial)
    · simp only [if_neg c1, if_neg c2]
      exact Or.inr (Or.inr trivial)
theorem newest_zero {p q : List Int} (h : (newest p q).1 = 0) (hb : Byt p) (hc : Byt q) : newest p q = (0, []) := by
  have h1 := rootOf_bd hb
  rcases newest_cases p q with ⟨_, h2, h3⟩ | ⟨_, h2, h3⟩ | h2
  · rw [h2] at h
    have := h3 h1.1
    omega
  · rw [h3] at h; omega
  · exact h2
theorem newest_even {p q : List Int} (h : (newest p q).1 ≠ 0) (he : (newest p q).1 % 2 = 0) : newest p q = rootOf p := by
  rcases newest_cases p q with ⟨h1, h2, _⟩ | ⟨_, _, h3⟩ | h2
  · rw [h2] at he; omega
  · exact h3
  · rw [h2] at h; exact absurd rfl h
theorem newest_odd {p q : List Int} (h : (newest p q).1 ≠ 0) (he : (newest p q).1 % 2 = 1) : newest p q = rootOf q := by
  rcases newest_cases p q with ⟨_, h2, _⟩ | ⟨h1, _, h3⟩ | h2
  · exact h2
  · rw [h3] at he; omega
  · rw [h2] at h; exact absurd rfl h
theorem newest_top {p q : List Int} (hb : Byt p) (hc : Byt q) : (newest p q).1 ≤ top p q := by
  by_cases h : (newest p q).1 = 0
  · rw [h]; exact top_nn p q
  · have : (newest p q).1 % 2 = 0 ∨ (newest p q).1 % 2 = 1 := by omega
    rcases this with h2 | h2
    · have h3 := newest_even h h2
      rw [h3] at h ⊢
      rw [← rootOf_gen hb h 0 (by decide)]
      exact top_p p q 0 (by decide)
    · have h3 := newest_odd h h2
      rw [h3] at h ⊢
      rw [← rootOf_gen hc h 0 (by decide)]
      exact top_q p q 0 (by decide)
end Go.Proofs.Ythpcfijefcicpaa
/- A disk of two pages, plain: what a Write makes of it, cut off or not; what is read behind a crash. -/
namespace Go.Proofs.Ythpcfijefcicpaa
open Go.RowKit Go.Proofs.U
set_option linter.unusedSimpArgs false
set_option linter.unusedVariables false

/-- Both slots, nothing pending, nothing bad. -/
structure Two (X : DSt) (p q : List Int) : Prop where
  pages : X.pages = [p, q]
  pend : X.pend = []
  bad : ∀ i, X.bad i = false
  lp : p.length = 256
  lq : q.length = 256
  bp : Byt p
  bq : Byt q
section
variable {X : DSt} {p q : List Int}
theorem Two.read0 (h : Two X p q) : readP X 0 = (p, 0) := by
  unfold readP
  rw [h.pages, h.pend, h.bad]
  rfl
theorem Two.read1 (h : Two X p q) : readP X 1 = (q, 0) := by
  unfold readP
  rw [h.pages, h.pend, h.bad]
  rfl
theorem Two.re (h : Two X p q) : rdE X = 0 := by unfold rdE; rw [h.read0, h.read1]; rfl
theorem Two.nw (h : Two X p q) : nwst X = newest p q := by unfold nwst; rw [h.read0, h.read1]
theorem Two.tpp (h : Two X p q) : tp X = top p q := by unfold tp; rw [h.read0, h.read1]
theorem Two.byt (h : Two X p q) : X.byt := by
  refine ⟨?_, by rw [h.pend]; simp⟩
  rw [h.pages]
  intro r hr
  simp at hr
  rcases hr with rfl | rfl
  · exact h.bp
  · exact h.bq
theorem Two.rd (h : Two X p q) : rRead X = ((newest p q).2, (newest p q).1, if (newest p q).1 = 0 then 51 else 0) := by
  unfold rRead
  rw [h.re, h.nw, if_pos rfl]
  by_cases h0 : (newest p q).1 = 0
  · have := newest_zero h0 h.bp h.bq
    rw [this]; rfl
  · rw [if_neg h0, if_neg h0]
theorem Two.nx (h : Two X p q) (ht : top p q ≤ 18446744073709551612) : rNext X = (nextG X, 0) := by
  unfold rNext
  rw [h.re, h.tpp, if_pos rfl, if_neg (by omega)]
theorem Two.nxG (h : Two X p q) : top p q < nextG X ∧ nextG X ≤ top p q + 2 ∧ ((newest p q).1 ≠ 0 → nextG X % 2 ≠ (newest p q).1 % 2) ∧ ((newest p q).1 = 0 → nextG X = top p q + 1) ∧ ((top p q + 1) % 2 ≠ (newest p q).1 % 2 → nextG X = top p q + 1) := by
  unfold nextG
  rw [h.tpp, h.nw]
  split <;> omega
end

/-- The page r in the slot of generation G. -/
def putS0 (G : Int) (r p : List Int) : List Int := if G % 2 = 0 then r else p
def putS1 (G : Int) (r q : List Int) : List Int := if G % 2 = 0 then q else r
theorem newest_new {p q : List Int} (hp : Byt p) (hq : Byt q) {G : Int} (hG : top p q < G) (hGb : G < 18446744073709551616) (c : List Int) (hc : c.length ≤ 186) : newest (putS0 G (rootP G c) p) (putS1 G (rootP G c) q) = (G, c) := by
  have ht := top_nn p q
  have hr := rootOf_root G ⟨by omega, hGb⟩ c hc
  have gp : (rootOf p).1 ≤ top p q := by
    by_cases h : (rootOf p).1 = 0
    · omega
    · rw [← rootOf_gen hp h 0 (by decide)]; exact top_p p q 0 (by decide)
  have gq : (rootOf q).1 ≤ top p q := by
    by_cases h : (rootOf q).1 = 0
    · omega
    · rw [← rootOf_gen hq h 0 (by decide)]; exact top_q p q 0 (by decide)
  unfold putS0 putS1 newest
  by_cases h : G % 2 = 0
  · simp only [if_pos h, hr]
    have h1 : G % 2 = 0 ∧ 0 < G := ⟨h, by omega⟩
    have h2 : ¬ ((rootOf q).1 % 2 = 1 ∧ G < (rootOf q).1) := by omega
    simp only [if_pos h1, if_neg h2]
  · simp only [if_neg h, hr]
    rw [if_pos]
    refine ⟨by omega, ?_⟩
    split
    · omega
    · simp only; omega
theorem newest_torn {p q : List Int} (hp : Byt p) (hq : Byt q) {G : Int} (par : (newest p q).1 ≠ 0 → G % 2 ≠ (newest p q).1 % 2) {r : List Int} (hr : (rootOf r).1 = 0) : newest (putS0 G r p) (putS1 G r q) = newest p q := by
  have gp := (rootOf_bd hp).1
  have gq := (rootOf_bd hq).1
  unfold putS0 putS1
  by_cases h : G % 2 = 0
  · simp only [if_pos h]
    have e1 : newest r q = if (rootOf q).1 % 2 = 1 ∧ 0 < (rootOf q).1 then rootOf q else (0, []) := by
      unfold newest; simp [hr]
    rw [e1]
    by_cases h0 : (newest p q).1 = 0
    · rw [newest_zero h0 hp hq, if_neg]
      rintro ⟨h2, h3⟩
      unfold newest at h0
      simp only at h0
      split at h0
      · split at h0 <;> omega
      · rename_i c1
        rw [if_pos ⟨h2, h3⟩] at h0; omega
    · have h1 := par h0
      have h2 := newest_odd h0 (by omega)
      rw [h2] at h0 h1 ⊢
      rw [if_pos ⟨by omega, by omega⟩]
  · simp only [if_neg h]
    have e1 : newest p r = if (rootOf p).1 % 2 = 0 ∧ 0 < (rootOf p).1 then rootOf p else (0, []) := by
      unfold newest; simp [hr]
    rw [e1]
    by_cases h0 : (newest p q).1 = 0
    · rw [newest_zero h0 hp hq, if_neg]
      rintro h2
      unfold newest at h0
      simp only [if_pos h2] at h0
      split at h0 <;> omega
    · have h1 := par h0
      have h2 := newest_even h0 (by omega)
      rw [h2] at h0 h1 ⊢
      rw [if_pos ⟨by omega, by omega⟩]
/-- Of a torn page all sectors are kept, or none, or it is no root. -/
theorem mix_cases (old new : List Int) (st : Nat → Bool) (ho : old.length = 256) (hn : new.length = 256) (bo : Byt old) (bn : Byt new) {G : Int} (hG : ∀ s, s < 8 → genAt new s = G) (hO : ∀ s, s < 8 → genAt old s < G) :
    mixS old new st 8 = new ∨ mixS old new st 8 = old ∨ (rootOf (mixS old new st 8)).1 = 0 := by
  by_cases h1 : ∀ s, s < 8 → st s = true
  · exact Or.inl (mixS_full _ _ _ hn h1)
  · by_cases h2 : ∀ s, s < 8 → st s = false
    · exact Or.inr (Or.inl (mixS_old _ _ _ ho h2))
    · obtain ⟨t, ht, ht2⟩ : ∃ t, t < 8 ∧ st t = false := by
        apply Decidable.byContradiction; intro h
        exact h1 fun s hs => by
          cases hh : st s with
          | true => rfl
          | false => exact absurd ⟨s, hs, hh⟩ h
      obtain ⟨s, hs, hs2⟩ : ∃ s, s < 8 ∧ st s = true := by
        apply Decidable.byContradiction; intro h
        exact h2 fun s hs => by
          cases hh : st s with
          | false => rfl
          | true => exact absurd ⟨s, hs, hh⟩ h
      refine Or.inr (Or.inr (rootOf_unlike (mixS_byt bo bn st) hs ht ?_))
      rw [genAt_mix _ _ _ ho hn s hs, genAt_mix _ _ _ ho hn t ht, hs2, ht2]
      simp only [if_true, Bool.false_eq_true, if_false]
      have := hG s hs
      have := hO t ht
      omega
theorem top_put {p q : List Int} {G B : Int} {r : List Int} (h0 : 0 ≤ B) (hB : top p q ≤ B) (hr : ∀ s, s < 8 → genAt r s ≤ B) : top (putS0 G r p) (putS1 G r q) ≤ B := by
  refine top_up h0 (fun s hs => ?_) (fun s hs => ?_)
  · unfold putS0; split
    · exact hr s hs
    · have := top_p p q s hs; omega
  · unfold putS1; split
    · have := top_q p q s hs; omega
    · exact hr s hs

section
variable {X : DSt} {p q : List Int}
theorem Two.crash (h : Two X p q) (keep : List Int) : Two (X.crash keep) p q := by
  have e : (X.crash keep).pages = X.pages := by
    show setS X.pages X.pend (stayK keep) X.pend.length = X.pages
    rw [h.pend]; rfl
  exact ⟨by rw [e, h.pages], rfl, h.bad, h.lp, h.lq, h.bp, h.bq⟩
theorem setS_one (p q : List Int) (G : Int) (r : List Int) (st : Nat → Nat → Bool) : setS [p, q] [(G % 2, r)] st 1 = [putS0 G (mixS p r (st 0) 8) p, putS1 G (mixS q r (st 0) 8) q] := by
  unfold setS putS0 putS1
  have : G % 2 = 0 ∨ G % 2 = 1 := by omega
  rcases this with h | h
  · rw [h]; rfl
  · rw [h]; rfl
theorem inR_slot (G : Int) : inR 2 (G % 2) = true := by unfold inR; simp; omega
/-- A Write that is cut off ahead of its page. -/
theorem Two.cut0 (h : Two X p q) (ht : top p q ≤ 18446744073709551612) (hd : X.down = false) (hl : X.left = 0) (c : List Int) (hc : c.length ≤ 186) : rWrite X c = ({ X with left := 0, down := true }, 0, 42) := by
  unfold rWrite
  rw [if_neg (by omega), h.nx ht]
  have e1 : X.actE = 42 := by unfold DSt.actE actP; rw [hl]; simp
  have e2 : X.act = { X with left := 0, down := true } := by unfold DSt.act actP; rw [hl]; simp
  have e3 : X.writeE (nextG X % 2) = 42 := by unfold DSt.writeE; rw [h.pages]; show (if inR 2 _ = true then _ else _) = _; rw [inR_slot, e1]; rfl
  have e4 : ∀ r, X.write (nextG X % 2) r = X.act := by
    intro r; unfold DSt.write; rw [h.pages]; show (if inR 2 _ = true then _ else _) = _; rw [inR_slot, e1]; rfl
  simp only [e3, e4, e2]
  rfl
/-- A Write that goes on behind its page: cut off, or not. -/
theorem Two.goes (h : Two X p q) (ht : top p q ≤ 18446744073709551612) (hd : X.down = false) (hl : X.left ≠ 0) (c : List Int) (hc : c.length ≤ 186) :
    rWrite X c = if X.left = 1 then ({ X with left := 0, down := true, pend := [(nextG X % 2, rootP (nextG X) c)] }, 0, 42)
      else ({ X with left := (if 0 < X.left then X.left - 2 else X.left), pages := [putS0 (nextG X) (rootP (nextG X) c) p, putS1 (nextG X) (rootP (nextG X) c) q] }, nextG X, 0) := by
  have hR := rootP_len (nextG X) c
  have hnx := h.nx ht
  obtain ⟨pages, bad, pend, down, left⟩ := X
  obtain rfl : pages = [p, q] := h.pages
  obtain rfl : pend = [] := h.pend
  obtain rfl : down = false := hd
  have hl : left ≠ 0 := hl
  unfold rWrite
  rw [if_neg (by omega), hnx]
  dsimp only
  generalize nextG _ = G at *
  generalize rootP G c = R at *
  have a1 : actP left false = (if 0 < left then left - 1 else left, false, 0) := by
    unfold actP
    rw [if_neg (by simpa using hl)]
  have e3 : (⟨[p, q], bad, [], false, left⟩ : DSt).writeE (G % 2) = 0 := by
    show (if inR 2 _ = true then (actP left false).2.2 else _) = _
    rw [inR_slot, a1]; rfl
  have e4 : (⟨[p, q], bad, [], false, left⟩ : DSt).write (G % 2) R = ⟨[p, q], bad, [(G % 2, R)], false, if 0 < left then left - 1 else left⟩ := by
    show (if inR 2 _ = true then (if (actP left false).2.2 = 0 then DSt.mk [p, q] bad ([] ++ [(G % 2, R)]) (actP left false).2.1 (actP left false).1 else _) else _) = _
    rw [inR_slot, a1]; rfl
  simp only [e3, e4]
  by_cases h1 : left = 1
  · subst h1
    have e5 : (⟨[p, q], bad, [(G % 2, R)], false, if (0 : Int) < 1 then 1 - 1 else 1⟩ : DSt).actE = 42 := rfl
    simp only [e5]
    rfl
  · rw [if_neg h1]
    have hz : (if 0 < left then left - 1 else left) ≠ 0 := by split <;> omega
    have e7 : (if 0 < left then left - 2 else left) = (if 0 < (if 0 < left then left - 1 else left) then (if 0 < left then left - 1 else left) - 1 else (if 0 < left then left - 1 else left)) := by
      by_cases h2 : 0 < left
      · rw [if_pos h2, if_pos h2, if_pos (by omega)]; omega
      · rw [if_neg h2, if_neg h2, if_neg (by omega)]
    rw [e7]
    generalize (if 0 < left then left - 1 else left) = L at *
    have a2 : actP L false = (if 0 < L then L - 1 else L, false, 0) := by
      unfold actP
      rw [if_neg (by simpa using hz)]
    have e5 : (⟨[p, q], bad, [(G % 2, R)], false, L⟩ : DSt).actE = 0 := by show (actP L false).2.2 = 0; rw [a2]
    have e6 : setS [p, q] [(G % 2, R)] (fun _ _ => true) 1 = [putS0 G R p, putS1 G R q] := by
      rw [setS_one, mixS_all _ _ hR, mixS_all _ _ hR]
    have e8 : (⟨[p, q], bad, [(G % 2, R)], false, L⟩ : DSt).sync = ⟨[putS0 G R p, putS1 G R q], bad, [], false, if 0 < L then L - 1 else L⟩ := by
      unfold DSt.sync
      rw [e5]
      show DSt.mk (setS [p, q] [(G % 2, R)] (fun _ _ => true) 1) bad [] (actP L false).2.1 (actP L false).1 = _
      rw [e6, a2]
    simp only [e5, e8]
    rfl
end
end Go.Proofs.Ythpcfijefcicpaa
/- Rows of the call's own making: one element read, one stored; no condition. -/
namespace Go.Proofs.U
open Go.RowKit

theorem OwnI.some {k : IntKind} {e : TypeId} {w : World} {base : Nat} {v : Value} {l : List Int} (h : OwnI k e w base v l) (hl : 0 < l.length) :
    ∃ g cap cur, v = .slice (Option.some ⟨g, 0, none⟩) l.length cap ∧ base ≤ g ∧ w.heap[g]? = Option.some (.cells cur e (0, 0)) ∧ l.length ≤ cap ∧ cap ≤ maxLen ∧ cur.size = cap ∧ cur.toList.take l.length = l.map (Value.int k) := by
  rcases h.2 with ⟨_, hn⟩ | ⟨g, cap, cur, hv, h1, h2, h3, h4, h5, h6⟩
  · omega
  · exact ⟨g, cap, cur, hv, h1, h2, h3, h4, by simpa using h5, by simpa using h6⟩

/-- Its cells, one by one. -/
theorem OwnI.cellK {k : IntKind} {e : TypeId} {w : World} {base g n cap : Nat} {l : List Int} (h : OwnI k e w base (.slice (Option.some ⟨g, 0, none⟩) n cap) l) (j : Nat) (hj : j < l.length) :
    w.cell? ⟨g, j, none⟩ = Option.some (.int k (l.getD j 0)) ∧ w.frozen? ⟨g, j, none⟩ = false := by
  obtain ⟨g', cap', cur, hv, h1, h2, h3, h4, h5, h6⟩ := h.some (by omega)
  cases hv
  have hc : cur[j]? = Option.some (.int k (l.getD j 0)) := by
    have h7 : (cur.toList.take l.length)[j]? = Option.some (.int k (l.getD j 0)) := by rw [h6]; simp [List.getD, hj]
    rw [List.getElem?_take, if_pos hj] at h7
    simpa using h7
  simp [World.cell?, World.frozen?, h2, hc]

/-- One element stored. -/
theorem OwnI.setK {k : IntKind} {e : TypeId} {w : World} {base g n cap : Nat} {l : List Int} (h : OwnI k e w base (.slice (Option.some ⟨g, 0, none⟩) n cap) l) (j : Nat) (hj : j < l.length) (y : Int) :
    OwnI k e (w.setCell ⟨g, j, none⟩ (.int k y)) base (.slice (Option.some ⟨g, 0, none⟩) n cap) (l.set j y) := by
  obtain ⟨g', cap', cur, hv, h1, h2, h3, h4, h5, h6⟩ := h.some (by omega)
  cases hv
  have hlt : g < w.heap.size := (Array.getElem?_eq_some_iff.1 h2).1
  have hv2 : w.heap[g] = .cells cur e (0, 0) := (Array.getElem?_eq_some_iff.1 h2).2
  refine ⟨by simp, Or.inr ⟨g, cap, cur.setIfInBounds j (.int k y), by simp, h1, ?_, by simpa using h3, h4, by simpa using h5, ?_⟩⟩
  · simp [World.setCell, Array.getElem?_modify, h2]
  · simp only [List.length_set, Nat.mul_one, Array.toList_setIfInBounds, List.map_set]
    rw [List.take_set, h6]
end Go.Proofs.U
/- Contracts of Open and Turn of package crc, and of crcAlive. -/
namespace Go.Proofs.Ythpcfijefcicpaa
open Go.RowKit Go.Proofs.U

def okI (l : List Int) : Bool := decide (4 ≤ l.length) && decide (sealI (l.take (l.length - 4)) = l)
def opnI (l : List Int) : List Int := if okI l then l.take (l.length - 4) else []

end Go.Proofs.Ythpcfijefcicpaa
/- Contracts of Turn of package crc, and of crcAlive. -/
namespace Go.Proofs.Ythpcfijefcicpaa
open Go.RowKit Go.Proofs.U

def xI (a b : Int) : Int := ((a.toNat ^^^ b.toNat : Nat) : Int)
def turnI (l : List Int) (at' m : Int) : List Int := if 0 ≤ at' ∧ at' < (l.length : Int) then l.set at'.toNat (xI (l.getD at'.toNat 0) m) else l
theorem xI_bd {a b : Int} (ha : 0 ≤ a ∧ a < 256) (hb : 0 ≤ b ∧ b < 256) : 0 ≤ xI a b ∧ xI a b < 256 := by
  have : a.toNat ^^^ b.toNat < 2 ^ 8 := Nat.xor_lt_two_pow (by omega) (by omega)
  unfold xI; omega
theorem turnI_wf (l : List Int) (at' m : Int) (hl : ∀ n ∈ l, (Lit.int .u8 n).wf = true) (hm : 0 ≤ m ∧ m < 256) : ∀ n ∈ turnI l at' m, (Lit.int .u8 n).wf = true := by
  unfold turnI
  split
  · rename_i h
    intro n hn
    rcases List.mem_or_eq_of_mem_set hn with h1 | h1
    · exact hl n h1
    · subst h1
      have hj : at'.toNat < l.length := by omega
      have hd : l.getD at'.toNat 0 = l[at'.toNat] := by simp [List.getD, hj]
      have := xI_bd (u8_bd (hl l[at'.toNat] (by simp))) hm
      rw [hd]; exact wf_byte this.1 this.2
  · exact hl
theorem turnI_length (l : List Int) (at' m : Int) : (turnI l at' m).length = l.length := by unfold turnI; split <;> simp
theorem made_ints (n : Nat) : (madeCells (Value.int IntKind.u8 0).cells (n * 1)).toList = (List.replicate n 0).map (Value.int .u8) := by
  rw [Nat.mul_one]; show (madeCells #[Value.int IntKind.u8 0] n).toList = _; rw [toList_madeCells_one, List.map_replicate]

theorem cpy_all (l : List Int) : (l.map (Value.int .u8)).take l.length ++ ((madeCells (Value.int IntKind.u8 0).cells (l.length * 1)).toList).drop l.length = l.map (Value.int .u8) := by
  rw [made_ints, List.take_of_length_le (by simp), List.drop_of_length_le (by simp), List.append_nil]

theorem sum9 : crcI [49, 50, 51, 52, 53, 54, 55, 56, 57] = 58124007 := by decide +kernel
theorem seal0 : sealI [] = [255, 255, 255, 255] := by decide +kernel
theorem str255 : ((strOfNums [255, 255, 255, 255]).toList == [255, 255, 255, 255]) = true := by decide +kernel

theorem SlB3 (w : World) (t : TypeId) (v1 v2 v3 : Value) (l1 l2 l3 : List Int) (b : Nat) (hb : w.heap.size = b) (h1 : SlI .u8 w v1 l1) (h2 : SlI .u8 w v2 l2) (h3 : SlI .u8 w v3 l3) : SlB (w.alloc (.cells #[v1, v2, v3] t)) (.slice (some ⟨b, 0, none⟩) 3 3) [l1, l2, l3] := by
  refine ⟨[v1, v2, v3], Sl_made w t #[v1, v2, v3] 3 b rfl hb, fun j hj u hu => ?_⟩
  have hf : Fr noB w (w.alloc (.cells #[v1, v2, v3] t)) := (Fr.refl _ _).alloc _
  have hj' : j = 0 ∨ j = 1 ∨ j = 2 := by simp at hj; omega
  rcases hj' with rfl | rfl | rfl <;> simp at hu <;> subst hu
  · exact h1.fr0 hf
  · exact h2.fr0 hf
  · exact h3.fr0 hf
theorem SlI_made (w : World) (t : TypeId) (l : List Int) (cs : Array Value) (n b : Nat) (hn : cs.size = n) (hb : w.heap.size = b) (hc : cs.toList = l.map (Value.int .u8)) (hl : ∀ n ∈ l, (Lit.int .u8 n).wf = true) : SlI .u8 (w.alloc (.cells cs t)) (.slice (some ⟨b, 0, none⟩) n n) l := by
  have hnl : n = l.length := by rw [← hn, ← Array.length_toList, hc]; simp
  subst hnl
  refine ⟨?_, hl⟩
  rw [← hc]; exact Sl_made w t cs _ b hn hb

theorem SlI_marked (w : World) (t : TypeId) (l : List Int) (cs : Array Value) (n b : Nat) (fz : Nat × Nat) (hn : cs.size = n) (hb : w.heap.size = b) (hc : cs.toList = l.map (Value.int .u8)) (hl : ∀ n ∈ l, (Lit.int .u8 n).wf = true) : SlI .u8 (w.alloc (.cells cs t fz)) (.slice (some ⟨b, 0, none⟩) n n) l := by
  subst hb
  have hnl : n = l.length := by rw [← hn, ← Array.length_toList, hc]; simp
  subst hnl
  refine ⟨?_, hl⟩
  rw [← hc]
  refine ⟨_, _, rfl, Nat.le_refl _, by simp [hn], (fun h => by cases h), fun x hx => ?_⟩
  cases hx
  intro j u hj
  rw [Addr.plain, Nat.zero_add]
  have h1 : cs[j]? = some u := by simpa using hj
  have h2 : (w.alloc (.cells cs t fz)).heap[w.heap.size]? = some (.cells cs t fz) := by
    show (w.heap.push _)[w.heap.size]? = _
    simp
  unfold World.cell?
  rw [h2]
  exact h1

section
variable {w0 : World} {ops : Array Oper} {rest : List Oper} {o : Oper} {a : Act} {Q : Exit → Act → World → Prop}
/-- []byte of a constant. -/
theorem wpList_const (hgd : Region.wanted o (yielded ops a.tmps) = true) (x : Operand) (ho : o.op = .convert 45 45 x) (w : World) (cs : Array Value) (n b : Nat) (l : List Int) (hx : a.eval x = .slice (some ⟨b, 0, none⟩) n n) (hn : cs.size = n) (hb : w.heap.size = b)
    (hc : cs.toList = l.map (Value.int .u8)) (hl : ∀ n ∈ l, (Lit.int .u8 n).wf = true) (hw0 : w0 = w.alloc (.cells cs 5))
    (h : ∀ w', Fr noB w w' → SlI .u8 w' (.slice (some ⟨b, 0, none⟩) n n) l → wpList Try.prog ops Q rest (a.put o.dst (.slice (some ⟨b, 0, none⟩) n n)) w') : wpList Try.prog ops Q (o :: rest) a w0 := by
  subst hw0 hb
  refine wpList_wanted hgd fun K hK => ?_
  have hrun := Go.Lib.run_convert_bytes_const (P := Try.prog) w 45 5 cs n n Try.underlying45 Try.underlying5
  unfold Oper.wp
  simp [execOp, ho, hx, hrun, Result.andThen]
  exact hK _ _ (h _ ((Fr.refl _ _).alloc _) (SlI_marked w _ l cs n _ _ hn rfl hc hl))
end

end Go.Proofs.Ythpcfijefcicpaa
/- The example that layer 5's statements ask first; RootNames. -/
namespace Go.Proofs.Ythpcfijefcicpaa
open Go.RowKit Go.Proofs.U
set_option linter.unusedSimpArgs false
set_option linter.unusedVariables false
theorem newD_byt (n : Int) : (newD n).byt := by
  refine ⟨?_, by intro x hx; simp [newD] at hx⟩
  intro p hp
  have : p = zeroP := List.eq_of_mem_replicate hp
  rw [this]; exact zeroP_byt
def XA : DSt := (rWrite (newD 4) [97, 98]).1
theorem aliveW : (rWrite (newD 4) [97, 98]).2 = (1, 0) := by kernel_rfl
theorem aliveR : rRead XA = ([97, 98], 1, 0) := by kernel_rfl
theorem aliveN : XA.pend.length = 0 := by kernel_rfl
theorem write_byt {X : DSt} (h : X.byt) (i : Int) {p : List Int} (hp : Byt p) : (X.write i p).byt := by
  unfold DSt.write
  split
  · split
    · refine ⟨h.1, ?_⟩
      intro x hx
      have hx : x ∈ X.pend ++ [(i, p)] := hx
      rcases List.mem_append.1 hx with hx | hx
      · exact h.2 x hx
      · simp at hx; subst hx; exact hp
    · exact h
  · exact h
theorem getD_byt {L : List (List Int)} (h : ∀ p ∈ L, Byt p) (i : Nat) : Byt (L.getD i []) := by
  by_cases hj : i < L.length
  · have : L.getD i [] = L[i] := by simp [List.getD, hj]
    rw [this]; exact h _ (by simp)
  · have : L.getD i [] = [] := by simp [List.getD, hj]
    rw [this]; intro n hn; simp at hn
theorem setS_byt {pages : List (List Int)} {pend : List (Int × List Int)} (h1 : ∀ p ∈ pages, Byt p) (h2 : ∀ x ∈ pend, Byt x.2) (st : Nat → Nat → Bool) (k : Nat) : ∀ p ∈ setS pages pend st k, Byt p := by
  have nb : Byt [] := by intro n hn; simp at hn
  induction k with
  | zero => exact h1
  | succ k ih =>
    rw [setS_succ]
    unfold setS1
    intro p hp
    rcases List.mem_or_eq_of_mem_set hp with hp | rfl
    · exact ih p hp
    · refine mixS_byt ?_ ?_ _
      · exact getD_byt ih _
      · by_cases hj : k < pend.length
        · have : pend.getD k (0, []) = pend[k] := by simp [List.getD, hj]
          rw [this]; exact h2 _ (by simp)
        · have : pend.getD k (0, []) = (0, []) := by simp [List.getD, hj]
          rw [this]; exact nb
theorem act_byt {X : DSt} (h : X.byt) : X.act.byt := h
theorem sync_byt {X : DSt} (h : X.byt) : X.sync.byt := by
  unfold DSt.sync
  split
  · exact ⟨setS_byt h.1 h.2 _ _, by intro x hx; simp [DSt.settle] at hx⟩
  · exact h
theorem crash_byt {X : DSt} (h : X.byt) (keep : List Int) : (X.crash keep).byt := ⟨setS_byt h.1 h.2 _ _, by intro x hx; simp [DSt.crash] at hx⟩
theorem rWrite_byt {X : DSt} (h : X.byt) {c : List Int} (hc : Byt c) : (rWrite X c).1.byt := by
  unfold rWrite
  split
  · exact h
  · split
    · exact h
    · have h1 : (X.write ((rNext X).1 % 2) (rootP (rNext X).1 c)).byt := write_byt h _ (rootP_byt _ hc)
      dsimp only
      split
      · exact h1
      · split
        · exact sync_byt h1
        · exact sync_byt h1
theorem str97 : ((strOfNums [97, 98]).toList == [97, 98]) = true := by decide +kernel

theorem nmR : rRead (newD 4) = ([], 0, 51) := by kernel_rfl
theorem nmW : rWrite (newD 4) (List.replicate 187 0) = (newD 4, 0, 51) := by kernel_rfl
theorem nmR1 : rRead (newD 1) = ([], 0, 41) := by kernel_rfl
theorem nmX : rNext (newD 4) = (1, 0) := by kernel_rfl

end Go.Proofs.Ythpcfijefcicpaa
