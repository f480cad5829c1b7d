/- The walk of CrcJoin: it answers true for any three byte lists. -/
import Derived.Test.YtaaiockknpeglaaD5
import Derived.Test.YtaaiockknpeglaaC5
import Derived.Test.YtaaiockknpeglaaRI2
import Derived.Deep.RegionHeld3
namespace Go.Proofs.Ytaaiockknpeglaa
open Go.RowKit Go.Proofs.U
set_option linter.unusedSimpArgs false
set_option linter.unusedVariables false

section
variable {P : Program} {w : World} {ops : Array Oper} {rest : List Oper} {o : Oper} {a : Act} {Q : Exit → Act → World → Prop}
theorem wpList_min3 (hgd : Region.wanted o (yielded ops a.tmps) = true) (x y z : Operand) (ts : Array TypeId) (ho : o.op = .call { callee := .builtin .min, args := #[x, y, z], argTypes := ts }) (p q r : Int) (n : Int)
    (hx : a.eval x = .int .i64 p) (hy : a.eval y = .int .i64 q) (hz : a.eval z = .int .i64 r) (hn : n = min (min p q) r) (h : wpList P ops Q rest (a.put o.dst (.int .i64 n)) w) : wpList P ops Q (o :: rest) a w := by
  refine wpList_wanted hgd fun K hK => ?_
  have hrun : (Builtin.min_ ts o.type #[.int .i64 p, .int .i64 q, .int .i64 r]).run P w = .ok (.int .i64 n) w := by
    simp [Builtin.min_, Builtin.min2, List.foldlM, go_sem]
    subst hn
    split <;> split <;> omega
  unfold Oper.wp
  simp [execOp, ho, resolve, invoke, builtin, hx, hy, hz, hrun, Result.andThen]
  exact hK _ _ h
end

set_option maxHeartbeats 2000000 in
theorem join_walk (v1 : Value) (l1 : List Int) (v2 : Value) (l2 : List Int) (v3 : Value) (l3 : List Int) (w : World) (h1 : SlI .u8 w v1 l1) (h2 : SlI .u8 w v2 l2) (h3 : SlI .u8 w v3 l3) :
    Calls Try.prog 7 #[v1, v2, v3] w fun e w' => e = .returned (.bool true) ∧ Below w.heap.size w w' := by
  obtain ⟨a1, c1, rfl, hc1⟩ := h1.opn
  obtain ⟨a2, c2, rfl, hc2⟩ := h2.opn
  obtain ⟨a3, c3, rfl, hc3⟩ := h3.opn
  by_cases hA : (300 : Int) < (l1.length : Int)
  · go_enter Try.func7, Try.ntmps7
    go_wp2_with (go_at_call 9; go_must (refine (alive_any _).mono ?_; rintro e w1 ⟨rfl, hf1⟩))
    go_ret
    exact ⟨rfl, hf1.below⟩
  by_cases hB : (300 : Int) < (l2.length : Int)
  · go_enter Try.func7, Try.ntmps7
    go_wp2_with (go_at_call 9; go_must (refine (alive_any _).mono ?_; rintro e w1 ⟨rfl, hf1⟩))
    go_ret
    exact ⟨rfl, hf1.below⟩
  by_cases hC : (300 : Int) < (l3.length : Int)
  · go_enter Try.func7, Try.ntmps7
    go_wp2_with (go_at_call 9; go_must (refine (alive_any _).mono ?_; rintro e w1 ⟨rfl, hf1⟩))
    go_ret
    exact ⟨rfl, hf1.below⟩
  obtain ⟨i5, hi5, hz5, hs5, hy5⟩ := info_parts info5
  have HML := Hid.mk (mix_length l1 l2 l3)
  have HMG := Hid.mk (mix_get l1 l2 l3)
  have hMw := zip_wf _ _ (zip_wf l1 l2 h1.2 h2.2) h3.2
  obtain ⟨M, HM⟩ : ∃ M, Hid (mix l1 l2 l3 = M) := ⟨_, rfl⟩
  rw [show List.zipWith xI (List.zipWith xI l1 l2) l3 = M from HM.out] at hMw
  rw [HM.out] at HML HMG
  have hn1 : M.length ≤ l1.length := by have := HML.out; omega
  have hn2 : M.length ≤ l2.length := by have := HML.out; omega
  have hn3 : M.length ≤ l3.length := by have := HML.out; omega
  have Hmin : Hid ((M.length : Int) = min (min (l1.length : Int) (l2.length : Int)) (l3.length : Int)) := by
    show _ = _
    have := HML.out; omega
  have Hsum : Hid (crcI M = bits .xor .u32 (bits .xor .u32 (crcI (l1.take M.length)) (crcI (l2.take M.length))) (crcI (l3.take M.length))) := by
    show _ = _
    rw [← crc_mix _ _ _ (by simp; omega) (by simp; omega) (fun n hn => h1.2 n (List.mem_of_mem_take hn)) (fun n hn => h2.2 n (List.mem_of_mem_take hn)) (fun n hn => h3.2 n (List.mem_of_mem_take hn)), mix_take _ _ _ _ HML.out, HM.out]
  go_enter Try.func7, Try.ntmps7
  go_wp2_with (first
    | (go_at_call 9; go_must (refine (alive_any _).mono ?_; rintro e w1 ⟨rfl, hf1⟩))
    | (refine wpList_min3 rfl _ _ _ _ rfl _ _ _ (M.length : Int) rfl rfl rfl Hmin.out ?_)
    | (refine at_make 24 _ _ rfl ?_; go_must (refine wpList_make_full _ rfl _ _ 24 rfl w1.heap.size 5 i5 _ 1 Try.underlying24 hi5 hz5 hs5 .i64 .i64 _ _ M.length rfl rfl rfl rfl ?hb2 ?hb3 (Nat.le_refl _) ?_; rotate_left 2; intro w2 hown hgr; have hf2 := Fr.of_grown hgr)))
  case hb2 => rw [hy5]; omega
  case hb3 => unfold maxLen; omega
  have ho2 : OwnI .u8 5 w2 w1.heap.size _ (part M 0) := OwnI.mk _ hown (by rw [part_zero, made_ints])
  clear hown hgr
  have g2 := hf1.thenN hf2
  go_loopw [36] (fun i wr => ∃ k : Nat, k ≤ M.length ∧ i = .int .i64 k ∧ OwnI .u8 5 wr w1.heap.size (.slice (some ⟨w1.heap.size, 0, none⟩) M.length M.length) (part M k) ∧ Fr noB w wr) (fun i _ => M.length - (intOf i).toNat)
  case atStart => exact ⟨0, Nat.zero_le _, rfl, ho2, g2⟩
  case round =>
    obtain ⟨k, hk, rfl, ho, hf⟩ := hrel
    by_cases hlt : k < M.length
    · have hk1 : k < l1.length := by omega
      have hk2 : k < l2.length := by omega
      have hk3 : k < l3.length := by omega
      have q1 := h1.fr0 hf
      have q2 := h2.fr0 hf
      have q3 := h3.fr0 hf
      obtain ⟨b1, o1, rfl⟩ := some_of q1 (by omega)
      obtain ⟨b2, o2, rfl⟩ := some_of q2 (by omega)
      obtain ⟨b3, o3, rfl⟩ := some_of q3 (by omega)
      have z1 := cell_of q1 k hk1
      have z2 := cell_of q2 k hk2
      have z3 := cell_of q3 k hk3
      obtain ⟨z4, z5⟩ := ho.cellK k (by rw [part_length _ _ hk]; exact hlt)
      have i0 : (0 : Int) ≤ (k : Int) := by omega
      have i1 : (k : Int) < (l1.length : Int) := by omega
      have i2 : (k : Int) < (l2.length : Int) := by omega
      have i3 : (k : Int) < (l3.length : Int) := by omega
      have i4 : (k : Int) < (M.length : Int) := by omega
      have e1 : w1.heap.size ≠ b1 := by have h9 := World.block_lt_of_cell? w _ (cell_of h1 k hk1); have := hf1.size; simp only at h9; omega
      have e2 : w1.heap.size ≠ b2 := by have h9 := World.block_lt_of_cell? w _ (cell_of h2 k hk2); have := hf1.size; simp only at h9; omega
      have e3 : w1.heap.size ≠ b3 := by have h9 := World.block_lt_of_cell? w _ (cell_of h3 k hk3); have := hf1.size; simp only at h9; omega
      go_wp2_with fail
      go_region_held3 (fun w' => w'.cell? ⟨b1, o1 + k, none⟩ = some (.int .u8 l1[k]) ∧ w'.cell? ⟨b2, o2 + k, none⟩ = some (.int .u8 l2[k]) ∧ w'.cell? ⟨b3, o3 + k, none⟩ = some (.int .u8 l3[k])) (go_keep) (fail)
      go_wp2_with fail
      go_roundw
      case rel =>
        have x1 := u8_bd (h1.2 l1[k] (by simp))
        have x2 := u8_bd (h2.2 l2[k] (by simp))
        have x3 := u8_bd (h3.2 l3[k] (by simp))
        have x12 := xI_bd x1 x2
        have ey : bits .xor .u8 (bits .xor .u8 l1[k] l2[k]) l3[k] = M[k] := by
          rw [u8_xor _ _ x1.1 x1.2 x2.1 x2.2, HMG.out k hlt hk1 hk2 hk3]
          exact u8_xor _ _ x12.1 x12.2 x3.1 x3.2
        refine ⟨k + 1, by omega, by go_num, ?_, ((hf.setCell _ _ (fun q => by have := hf1.size; simp only at q; omega))).drew⟩
        rw [ey, ← part_set M k hlt]
        exact (ho.setK k (by rw [part_length _ _ hk]; exact hlt) M[k]).fr (Fr.refl noB _).drew (fun _ _ q => q)
      case measure => simp [intOf]; omega
    · obtain rfl : k = M.length := by omega
      rw [part_end] at ho
      have s0 := ho.sl hMw
      have s1 := (h1.fr0 hf).takeN M.length hn1
      have s2 := (h2.fr0 hf).takeN M.length hn2
      have s3 := (h3.fr0 hf).takeN M.length hn3
      have y1 : (l1.take M.length).length = M.length := by simp; omega
      have y2 : (l2.take M.length).length = M.length := by simp; omega
      have y3 : (l3.take M.length).length = M.length := by simp; omega
      obtain ⟨L1, HL1⟩ : ∃ L, Hid (l1.take M.length = L) := ⟨_, rfl⟩
      obtain ⟨L2, HL2⟩ : ∃ L, Hid (l2.take M.length = L) := ⟨_, rfl⟩
      obtain ⟨L3, HL3⟩ : ∃ L, Hid (l3.take M.length = L) := ⟨_, rfl⟩
      rw [HL1.out, HL2.out, HL3.out] at Hsum
      rw [HL1.out] at s1 y1
      rw [HL2.out] at s2 y2
      rw [HL3.out] at s3 y3
      obtain ⟨n1, Hn1⟩ : ∃ n, Hid (crcI L1 = n) := ⟨_, rfl⟩
      obtain ⟨n2, Hn2⟩ : ∃ n, Hid (crcI L2 = n) := ⟨_, rfl⟩
      obtain ⟨n3, Hn3⟩ : ∃ n, Hid (crcI L3 = n) := ⟨_, rfl⟩
      obtain ⟨n0, Hn0⟩ : ∃ n, Hid (crcI M = n) := ⟨_, rfl⟩
      rw [Hn0.out, Hn1.out, Hn2.out, Hn3.out] at Hsum
      have hsum : (n0 == bits .xor .u32 (bits .xor .u32 n1 n2) n3) = true := by rw [Hsum.out]; simp
      have b0 : M.length ≤ 1000000000000 := by omega
      go_wp2_with fail
      have dr : Fr noB wr wr.drew := (Fr.refl _ _).drew
      refine wp_region_lay (by kernel_rfl) [MFact.is (.slice (some ⟨w1.heap.size, 0, none⟩) M.length M.length), MFact.one (.slice (some ⟨w1.heap.size, 0, none⟩) M.length M.length), MFact.is (.int .u32 n0), MFact.is (.slice a1 l1.length c1), MFact.is (.int .i64 (M.length : Int)), MFact.is (.slice a1 M.length c1), MFact.one (.slice a1 M.length c1), MFact.is (.int .u32 n1), MFact.is (.slice a2 l2.length c2), MFact.is (.int .i64 (M.length : Int)), MFact.is (.slice a2 M.length c2), MFact.one (.slice a2 M.length c2), MFact.is (.int .u32 n2), MFact.is (.int .u32 (bits .xor .u32 n1 n2)), MFact.is (.slice a3 l3.length c3), MFact.is (.int .i64 (M.length : Int)), MFact.is (.slice a3 M.length c3), MFact.one (.slice a3 M.length c3), MFact.is (.int .u32 n3), MFact.is (.int .u32 (bits .xor .u32 (bits .xor .u32 n1 n2) n3)), MFact.is (.bool true), MFact.is (.bool true)] (by kernel_rfl) ⟨?o0, ?o1, ?o2, ?o3, ?o4, ?o5, ?o6, ?o7, ?o8, ?o9, ?o10, ?o11, ?o12, ?o13, ?o14, ?o15, ?o16, ?o17, ?o18, ?o19, ?o20, ?o21, trivial⟩ ?oe
      case o0 =>
        intro A W hfr hbase hdep
        have e8 : A.eval (.tmp 8) = .slice (some ⟨w1.heap.size, 0, none⟩) M.length M.length := hbase 8 (by kernel_rfl)
        have f8 : A.tmps[8]?.getD undef = .slice (some ⟨w1.heap.size, 0, none⟩) M.length M.length := by simpa [Act.eval] using e8
        exact hands_val rfl (v := .slice (some ⟨w1.heap.size, 0, none⟩) M.length M.length) (w' := W) (by simp [execOp, e8, f8]) (Fr.refl _ _) rfl
      case o1 =>
        intro A W hfr hbase hdep
        have e57 : A.eval (.tmp 57) = .slice (some ⟨w1.heap.size, 0, none⟩) M.length M.length := hdep 0 57 (by kernel_rfl) (by kernel_rfl)
        have f57 : A.tmps[57]?.getD undef = .slice (some ⟨w1.heap.size, 0, none⟩) M.length M.length := by simpa [Act.eval] using e57
        refine hands_val rfl (v := .slice (some ⟨W.heap.size, 0, none⟩) 1 1) (w' := W.alloc (.cells #[.slice (some ⟨w1.heap.size, 0, none⟩) M.length M.length] 24)) ?_ ((Fr.refl _ _).alloc _) ⟨W.heap.size, rfl, by simp⟩
        simp [execOp, go_sem, e57, f57]
      case o2 =>
        intro A W hfr hbase hdep
        obtain ⟨g58, e58, c58⟩ := hdep 1 58 (by kernel_rfl) (by kernel_rfl)
        have f58 : A.tmps[58]?.getD undef = .slice (some ⟨g58, 0, none⟩) 1 1 := by simpa [Act.eval] using e58
        refine hands_call rfl (args := #[.slice (some ⟨g58, 0, none⟩) 1 1]) (f := 11) (by simp [execOp, resolve, invoke, go_sem, f58, e58]) ?_
        refine (of_one' M n0 Hn0.out _ g58 _ c58 (s0.fr0 (dr.thenN hfr)) (by omega)).mono ?_
        rintro e w6 ⟨rfl, rfl⟩
        exact ⟨_, rfl, Fr.refl _ _, rfl⟩
      case o3 =>
        intro A W hfr hbase hdep
        have e0 : A.eval (.tmp 0) = .slice a1 l1.length c1 := hbase 0 (by kernel_rfl)
        have f0 : A.tmps[0]?.getD undef = .slice a1 l1.length c1 := by simpa [Act.eval] using e0
        exact hands_val rfl (v := .slice a1 l1.length c1) (w' := W) (by simp [execOp, e0, f0]) (Fr.refl _ _) rfl
      case o4 =>
        intro A W hfr hbase hdep
        have e7 : A.eval (.tmp 7) = .int .i64 (M.length : Int) := hbase 7 (by kernel_rfl)
        have f7 : A.tmps[7]?.getD undef = .int .i64 (M.length : Int) := by simpa [Act.eval] using e7
        exact hands_val rfl (v := .int .i64 (M.length : Int)) (w' := W) (by simp [execOp, e7, f7]) (Fr.refl _ _) rfl
      case o5 =>
        intro A W hfr hbase hdep
        have e60 : A.eval (.tmp 60) = .slice a1 l1.length c1 := hdep 3 60 (by kernel_rfl) (by kernel_rfl)
        have f60 : A.tmps[60]?.getD undef = .slice a1 l1.length c1 := by simpa [Act.eval] using e60
        have e61 : A.eval (.tmp 61) = .int .i64 (M.length : Int) := hdep 4 61 (by kernel_rfl) (by kernel_rfl)
        have f61 : A.tmps[61]?.getD undef = .int .i64 (M.length : Int) := by simpa [Act.eval] using e61
        exact hands_val rfl (v := .slice a1 M.length c1) (w' := W) (by simp [execOp, e60, e61, run_cuth 24 5 Try.underlying24 1 size5 a1 l1.length c1 .i64 M.length (by omega), Result.andThen]) (Fr.refl _ _) rfl
      case o6 =>
        intro A W hfr hbase hdep
        have e62 : A.eval (.tmp 62) = .slice a1 M.length c1 := hdep 5 62 (by kernel_rfl) (by kernel_rfl)
        have f62 : A.tmps[62]?.getD undef = .slice a1 M.length c1 := by simpa [Act.eval] using e62
        refine hands_val rfl (v := .slice (some ⟨W.heap.size, 0, none⟩) 1 1) (w' := W.alloc (.cells #[.slice a1 M.length c1] 24)) ?_ ((Fr.refl _ _).alloc _) ⟨W.heap.size, rfl, by simp⟩
        simp [execOp, go_sem, e62, f62]
      case o7 =>
        intro A W hfr hbase hdep
        obtain ⟨g63, e63, c63⟩ := hdep 6 63 (by kernel_rfl) (by kernel_rfl)
        have f63 : A.tmps[63]?.getD undef = .slice (some ⟨g63, 0, none⟩) 1 1 := by simpa [Act.eval] using e63
        refine hands_call rfl (args := #[.slice (some ⟨g63, 0, none⟩) 1 1]) (f := 11) (by simp [execOp, resolve, invoke, go_sem, f63, e63]) ?_
        refine (of_one' L1 n1 Hn1.out _ g63 _ c63 (s1.fr0 (dr.thenN hfr)) (by omega)).mono ?_
        rintro e w6 ⟨rfl, rfl⟩
        exact ⟨_, rfl, Fr.refl _ _, rfl⟩
      case o8 =>
        intro A W hfr hbase hdep
        have e1 : A.eval (.tmp 1) = .slice a2 l2.length c2 := hbase 1 (by kernel_rfl)
        have f1 : A.tmps[1]?.getD undef = .slice a2 l2.length c2 := by simpa [Act.eval] using e1
        exact hands_val rfl (v := .slice a2 l2.length c2) (w' := W) (by simp [execOp, e1, f1]) (Fr.refl _ _) rfl
      case o9 =>
        intro A W hfr hbase hdep
        have e7 : A.eval (.tmp 7) = .int .i64 (M.length : Int) := hbase 7 (by kernel_rfl)
        have f7 : A.tmps[7]?.getD undef = .int .i64 (M.length : Int) := by simpa [Act.eval] using e7
        exact hands_val rfl (v := .int .i64 (M.length : Int)) (w' := W) (by simp [execOp, e7, f7]) (Fr.refl _ _) rfl
      case o10 =>
        intro A W hfr hbase hdep
        have e65 : A.eval (.tmp 65) = .slice a2 l2.length c2 := hdep 8 65 (by kernel_rfl) (by kernel_rfl)
        have f65 : A.tmps[65]?.getD undef = .slice a2 l2.length c2 := by simpa [Act.eval] using e65
        have e66 : A.eval (.tmp 66) = .int .i64 (M.length : Int) := hdep 9 66 (by kernel_rfl) (by kernel_rfl)
        have f66 : A.tmps[66]?.getD undef = .int .i64 (M.length : Int) := by simpa [Act.eval] using e66
        exact hands_val rfl (v := .slice a2 M.length c2) (w' := W) (by simp [execOp, e65, e66, run_cuth 24 5 Try.underlying24 1 size5 a2 l2.length c2 .i64 M.length (by omega), Result.andThen]) (Fr.refl _ _) rfl
      case o11 =>
        intro A W hfr hbase hdep
        have e67 : A.eval (.tmp 67) = .slice a2 M.length c2 := hdep 10 67 (by kernel_rfl) (by kernel_rfl)
        have f67 : A.tmps[67]?.getD undef = .slice a2 M.length c2 := by simpa [Act.eval] using e67
        refine hands_val rfl (v := .slice (some ⟨W.heap.size, 0, none⟩) 1 1) (w' := W.alloc (.cells #[.slice a2 M.length c2] 24)) ?_ ((Fr.refl _ _).alloc _) ⟨W.heap.size, rfl, by simp⟩
        simp [execOp, go_sem, e67, f67]
      case o12 =>
        intro A W hfr hbase hdep
        obtain ⟨g68, e68, c68⟩ := hdep 11 68 (by kernel_rfl) (by kernel_rfl)
        have f68 : A.tmps[68]?.getD undef = .slice (some ⟨g68, 0, none⟩) 1 1 := by simpa [Act.eval] using e68
        refine hands_call rfl (args := #[.slice (some ⟨g68, 0, none⟩) 1 1]) (f := 11) (by simp [execOp, resolve, invoke, go_sem, f68, e68]) ?_
        refine (of_one' L2 n2 Hn2.out _ g68 _ c68 (s2.fr0 (dr.thenN hfr)) (by omega)).mono ?_
        rintro e w6 ⟨rfl, rfl⟩
        exact ⟨_, rfl, Fr.refl _ _, rfl⟩
      case o13 =>
        intro A W hfr hbase hdep
        have e64 : A.eval (.tmp 64) = .int .u32 n1 := hdep 7 64 (by kernel_rfl) (by kernel_rfl)
        have f64 : A.tmps[64]?.getD undef = .int .u32 n1 := by simpa [Act.eval] using e64
        have e69 : A.eval (.tmp 69) = .int .u32 n2 := hdep 12 69 (by kernel_rfl) (by kernel_rfl)
        have f69 : A.tmps[69]?.getD undef = .int .u32 n2 := by simpa [Act.eval] using e69
        exact hands_val rfl (v := .int .u32 (bits .xor .u32 n1 n2)) (w' := W) (by simp [execOp, go_sem, e64, f64, e69, f69]) (Fr.refl _ _) rfl
      case o14 =>
        intro A W hfr hbase hdep
        have e2 : A.eval (.tmp 2) = .slice a3 l3.length c3 := hbase 2 (by kernel_rfl)
        have f2 : A.tmps[2]?.getD undef = .slice a3 l3.length c3 := by simpa [Act.eval] using e2
        exact hands_val rfl (v := .slice a3 l3.length c3) (w' := W) (by simp [execOp, e2, f2]) (Fr.refl _ _) rfl
      case o15 =>
        intro A W hfr hbase hdep
        have e7 : A.eval (.tmp 7) = .int .i64 (M.length : Int) := hbase 7 (by kernel_rfl)
        have f7 : A.tmps[7]?.getD undef = .int .i64 (M.length : Int) := by simpa [Act.eval] using e7
        exact hands_val rfl (v := .int .i64 (M.length : Int)) (w' := W) (by simp [execOp, e7, f7]) (Fr.refl _ _) rfl
      case o16 =>
        intro A W hfr hbase hdep
        have e71 : A.eval (.tmp 71) = .slice a3 l3.length c3 := hdep 14 71 (by kernel_rfl) (by kernel_rfl)
        have f71 : A.tmps[71]?.getD undef = .slice a3 l3.length c3 := by simpa [Act.eval] using e71
        have e72 : A.eval (.tmp 72) = .int .i64 (M.length : Int) := hdep 15 72 (by kernel_rfl) (by kernel_rfl)
        have f72 : A.tmps[72]?.getD undef = .int .i64 (M.length : Int) := by simpa [Act.eval] using e72
        exact hands_val rfl (v := .slice a3 M.length c3) (w' := W) (by simp [execOp, e71, e72, run_cuth 24 5 Try.underlying24 1 size5 a3 l3.length c3 .i64 M.length (by omega), Result.andThen]) (Fr.refl _ _) rfl
      case o17 =>
        intro A W hfr hbase hdep
        have e73 : A.eval (.tmp 73) = .slice a3 M.length c3 := hdep 16 73 (by kernel_rfl) (by kernel_rfl)
        have f73 : A.tmps[73]?.getD undef = .slice a3 M.length c3 := by simpa [Act.eval] using e73
        refine hands_val rfl (v := .slice (some ⟨W.heap.size, 0, none⟩) 1 1) (w' := W.alloc (.cells #[.slice a3 M.length c3] 24)) ?_ ((Fr.refl _ _).alloc _) ⟨W.heap.size, rfl, by simp⟩
        simp [execOp, go_sem, e73, f73]
      case o18 =>
        intro A W hfr hbase hdep
        obtain ⟨g74, e74, c74⟩ := hdep 17 74 (by kernel_rfl) (by kernel_rfl)
        have f74 : A.tmps[74]?.getD undef = .slice (some ⟨g74, 0, none⟩) 1 1 := by simpa [Act.eval] using e74
        refine hands_call rfl (args := #[.slice (some ⟨g74, 0, none⟩) 1 1]) (f := 11) (by simp [execOp, resolve, invoke, go_sem, f74, e74]) ?_
        refine (of_one' L3 n3 Hn3.out _ g74 _ c74 (s3.fr0 (dr.thenN hfr)) (by omega)).mono ?_
        rintro e w6 ⟨rfl, rfl⟩
        exact ⟨_, rfl, Fr.refl _ _, rfl⟩
      case o19 =>
        intro A W hfr hbase hdep
        have e70 : A.eval (.tmp 70) = .int .u32 (bits .xor .u32 n1 n2) := hdep 13 70 (by kernel_rfl) (by kernel_rfl)
        have f70 : A.tmps[70]?.getD undef = .int .u32 (bits .xor .u32 n1 n2) := by simpa [Act.eval] using e70
        have e75 : A.eval (.tmp 75) = .int .u32 n3 := hdep 18 75 (by kernel_rfl) (by kernel_rfl)
        have f75 : A.tmps[75]?.getD undef = .int .u32 n3 := by simpa [Act.eval] using e75
        exact hands_val rfl (v := .int .u32 (bits .xor .u32 (bits .xor .u32 n1 n2) n3)) (w' := W) (by simp [execOp, go_sem, e70, f70, e75, f75]) (Fr.refl _ _) rfl
      case o20 =>
        intro A W hfr hbase hdep
        have e59 : A.eval (.tmp 59) = .int .u32 n0 := hdep 2 59 (by kernel_rfl) (by kernel_rfl)
        have f59 : A.tmps[59]?.getD undef = .int .u32 n0 := by simpa [Act.eval] using e59
        have e76 : A.eval (.tmp 76) = .int .u32 (bits .xor .u32 (bits .xor .u32 n1 n2) n3) := hdep 19 76 (by kernel_rfl) (by kernel_rfl)
        have f76 : A.tmps[76]?.getD undef = .int .u32 (bits .xor .u32 (bits .xor .u32 n1 n2) n3) := by simpa [Act.eval] using e76
        exact hands_val rfl (v := .bool true) (w' := W) (by simp [execOp, go_sem, f59, f76, Hsum.out]) (Fr.refl _ _) rfl
      case o21 =>
        intro A W hfr hbase hdep
        have e77 : A.eval (.tmp 77) = .bool true := hdep 20 77 (by kernel_rfl) (by kernel_rfl)
        have f77 : A.tmps[77]?.getD undef = .bool true := by simpa [Act.eval] using e77
        exact hands_val rfl (v := .bool true) (w' := W) (by simp [execOp, e77, f77]) (Fr.refl _ _) rfl
      case oe =>
        intro vs W' hfW hall
        have x0 : vs 0 = .slice (some ⟨w1.heap.size, 0, none⟩) M.length M.length := hall 0 (by rfl)
        have x1 := hall 1 (by rfl)
        have x2 : vs 2 = .int .u32 n0 := hall 2 (by rfl)
        have x3 : vs 3 = .slice a1 l1.length c1 := hall 3 (by rfl)
        have x4 : vs 4 = .int .i64 (M.length : Int) := hall 4 (by rfl)
        have x5 : vs 5 = .slice a1 M.length c1 := hall 5 (by rfl)
        have x6 := hall 6 (by rfl)
        have x7 : vs 7 = .int .u32 n1 := hall 7 (by rfl)
        have x8 : vs 8 = .slice a2 l2.length c2 := hall 8 (by rfl)
        have x9 : vs 9 = .int .i64 (M.length : Int) := hall 9 (by rfl)
        have x10 : vs 10 = .slice a2 M.length c2 := hall 10 (by rfl)
        have x11 := hall 11 (by rfl)
        have x12 : vs 12 = .int .u32 n2 := hall 12 (by rfl)
        have x13 : vs 13 = .int .u32 (bits .xor .u32 n1 n2) := hall 13 (by rfl)
        have x14 : vs 14 = .slice a3 l3.length c3 := hall 14 (by rfl)
        have x15 : vs 15 = .int .i64 (M.length : Int) := hall 15 (by rfl)
        have x16 : vs 16 = .slice a3 M.length c3 := hall 16 (by rfl)
        have x17 := hall 17 (by rfl)
        have x18 : vs 18 = .int .u32 n3 := hall 18 (by rfl)
        have x19 : vs 19 = .int .u32 (bits .xor .u32 (bits .xor .u32 n1 n2) n3) := hall 19 (by rfl)
        have x20 : vs 20 = .bool true := hall 20 (by rfl)
        have x21 : vs 21 = .bool true := hall 21 (by rfl)
        simp only [layL, Nat.reduceAdd, x0, x2, x3, x4, x5, x7, x8, x9, x10, x12, x13, x14, x15, x16, x18, x19, x20, x21, Act.put, List.setIfInBounds_toArray, List.set_cons_zero, List.set_cons_succ]
        clear x0 x2 x3 x4 x5 x7 x8 x9 x10 x12 x13 x14 x15 x16 x18 x19 x20 x21 hall
        generalize vs 1 = y1 at *
        generalize vs 6 = y6 at *
        generalize vs 11 = y11 at *
        generalize vs 17 = y17 at *
        go_wp2_with fail
        go_ret
        exact ⟨rfl, ((hf.thenN dr).thenN hfW).below⟩
end Go.Proofs.Ytaaiockknpeglaa
