/- LabelTells: the walk. -/
import Derived.Test.YtcpkkdffedndiaaDoorOpenL
import Derived.Test.YtcpkkdffedndiaaDoorL9
import Derived.Test.YtcpkkdffedndiaaDoorL5
import Derived.Laws.StructEq
namespace Go.Proofs.YtcpkkdffedndiaaDoor
open Go.RowKit Go.Proofs.U
set_option linter.unusedSimpArgs false
set_option linter.unusedVariables false

theorem ac2 {w w1 w2 : World} {g : Nat} (F : Fr noB w w1) (o : Obj) (f : Fr (onL w1.heap.size) (w1.alloc o) w2) : Fr noB w w2 :=
  (F.alloc o).thenT f (fun i hi q => by unfold onL at q; have := F.size; omega)

set_option maxRecDepth 100000 in
set_option maxHeartbeats 4000000 in
theorem tells_walk (va : Value) (a : Int × Int) (vb : Value) (b : Int × Int) (vl : Value) (l : List (Int × Int)) (w : World)
    (ha : va = lab a.1 a.2 ∧ U2 a.1 a.2) (hb : vb = lab b.1 b.2 ∧ U2 b.1 b.2) (hl : SlL w vl l ∧ ∀ x ∈ l, U2 x.1 x.2) (ht : Tab w) :
    Calls Tryd.prog 4 #[va, vb, vl] w fun r w' => r = .returned (.bool true) ∧ Below w.heap.size w w' := by
  obtain ⟨a1, a2⟩ := a
  obtain ⟨b1, b2⟩ := b
  obtain ⟨rfl, ha⟩ := ha
  obtain ⟨rfl, hb⟩ := hb
  obtain ⟨hl, _⟩ := hl
  obtain ⟨sa, cap, rfl, hcap⟩ := hl.opn
  simp only at ha hb ⊢
  obtain ⟨N, HN⟩ : ∃ N, Hid (nxt a1 a2 = N) := ⟨_, rfl⟩
  obtain ⟨R, HR⟩ : ∃ R, Hid (ris a1 a2 = R) := ⟨_, rfl⟩
  have cN := fun w => next_any a1 a2 w ha
  have dN := fun w => rnext_any a1 a2 w ha
  have cR := fun w => rise_any a1 a2 w ha
  have dR := fun w => rrise_any a1 a2 w ha
  rw [HN.out] at cN dN
  rw [HR.out] at cR dR
  have B0 : Bx ((w.alloc (.cells #[.int .u32 a1, .int .u32 a2] 24)).alloc (.cells #[.int .u32 b1, .int .u32 b2] 24)) w.heap.size a1 a2 := (Bx.made w a1 a2).alloc _
  have B1 : Bx ((w.alloc (.cells #[.int .u32 a1, .int .u32 a2] 24)).alloc (.cells #[.int .u32 b1, .int .u32 b2] 24)) (w.heap.size + 1) b1 b2 := by
    have := Bx.made (w.alloc (.cells #[.int .u32 a1, .int .u32 a2] 24)) b1 b2
    simpa using this
  have F0 : Fr noB w ((w.alloc (.cells #[.int .u32 a1, .int .u32 a2] 24)).alloc (.cells #[.int .u32 b1, .int .u32 b2] 24)) := ((Fr.refl _ _).alloc _).alloc _
  by_cases hlen : (100 : Int) < (l.length : Int)
  · go_enter Tryd.func4, Tryd.ntmps4
    go_wp2_with (go_at_call 12; go_must (refine (alive_any _ (ht.fr0 F0)).mono ?_; rintro e w1 ⟨rfl, f1⟩))
    go_ret
    exact ⟨rfl, (F0.thenN f1).below⟩
  · go_enter Tryd.func4, Tryd.ntmps4
    go_wp2_with (first
      | (go_at_call 12; go_must (refine (alive_any _ (ht.fr0 F0)).mono ?_; rintro e w1 ⟨rfl, f1⟩; have F1 := F0.thenN f1; have C0 := B0.fr0 f1; have C1 := B1.fr0 f1; have s1 := C1.lt; obtain ⟨k1, k2, k3, k4⟩ := C0.all))
      | (go_at_call 10; go_must (refine (cN _).mono ?_; rintro e w2 ⟨rfl, f2⟩; have F2 := F1.thenN f2; have s2 := F2.size; have C2 := C0.fr0 f2; have D2 := C1.fr0 f2; have t2 := D2.lt))
      | (refine wpList_stL rfl _ _ rfl w2.heap.size rfl _ _ _ _ rfl (Bx.made w2 0 0) ?_; intro w3 E3 f3 z3; have F3 := ac2 (g := 0) F2 _ f3; have C3 := (C2.alloc _).fr f3 (fun q => by unfold onL at q; omega); have D3 := (D2.alloc _).fr f3 (fun q => by unfold onL at q; omega); obtain ⟨k1, k2, k3, k4⟩ := C3.all)
      | (go_at_call 14; go_must (refine (dN _).mono ?_; rintro e w4 ⟨rfl, f4⟩; have F4 := F3.thenN f4; have s4 := F4.size; have C4 := C3.fr0 f4; have D4 := D3.fr0 f4; have E4 := E3.fr0 f4; have t4 := D4.lt; have u4 := E4.lt))
      | (refine wpList_stL rfl _ _ rfl w4.heap.size rfl _ _ _ _ rfl (Bx.made w4 0 0) ?_; intro w5 G5 f5 z5; have F5 := ac2 (g := 0) F4 _ f5; have C5 := (C4.alloc _).fr f5 (fun q => by unfold onL at q; omega); have D5 := (D4.alloc _).fr f5 (fun q => by unfold onL at q; omega); have E5 := (E4.alloc _).fr f5 (fun q => by unfold onL at q; omega); obtain ⟨k1, k2, k3, k4⟩ := C5.all)
      | (go_at_call 11; go_must (refine (cR _).mono ?_; rintro e w6 ⟨rfl, f6⟩; have F6 := F5.thenN f6; have s6 := F6.size; have C6 := C5.fr0 f6; have D6 := D5.fr0 f6; have E6 := E5.fr0 f6; have G6 := G5.fr0 f6; have t6 := D6.lt; have u6 := E6.lt; have v6 := G6.lt))
      | (refine wpList_stL rfl _ _ rfl w6.heap.size rfl _ _ _ _ rfl (Bx.made w6 0 0) ?_; intro w7 H7 f7 z7; have F7 := ac2 (g := 0) F6 _ f7; have C7 := (C6.alloc _).fr f7 (fun q => by unfold onL at q; omega); have D7 := (D6.alloc _).fr f7 (fun q => by unfold onL at q; omega); have E7 := (E6.alloc _).fr f7 (fun q => by unfold onL at q; omega); have G7 := (G6.alloc _).fr f7 (fun q => by unfold onL at q; omega); obtain ⟨k1, k2, k3, k4⟩ := C7.all)
      | (go_at_call 15; go_must (refine (dR _).mono ?_; rintro e w8 ⟨rfl, f8⟩; have F8 := F7.thenN f8; have s8 := F8.size; have C8 := C7.fr0 f8; have D8 := D7.fr0 f8; have E8 := E7.fr0 f8; have G8 := G7.fr0 f8; have H8 := H7.fr0 f8; have t8 := D8.lt; have u8 := E8.lt; have v8 := G8.lt; have x8 := H8.lt))
      | (refine wpList_stL rfl _ _ rfl w8.heap.size rfl _ _ _ _ rfl (Bx.made w8 0 0) ?_; intro w9 h13 f9 z9; have F9 := ac2 (g := 0) F8 _ f9; have h3 := (C8.alloc _).fr f9 (fun q => by unfold onL at q; omega); have h4 := (D8.alloc _).fr f9 (fun q => by unfold onL at q; omega); have h7 := (E8.alloc _).fr f9 (fun q => by unfold onL at q; omega); have h9 := (G8.alloc _).fr f9 (fun q => by unfold onL at q; omega); have h11 := (H8.alloc _).fr f9 (fun q => by unfold onL at q; omega)))
    --REG M2
    refine wp_region_lay (by kernel_rfl) [MFact.is (.agg #[.int .u32 (a1), .int .u32 (a2)]), MFact.is (.bool (okL a1 a2)), MFact.is (.agg #[.int .u32 (a1), .int .u32 (a2)]), MFact.is (.bool (okL a1 a2)), MFact.is (.bool true), MFact.is (.bool true), MFact.is (.agg #[.int .u32 (a1), .int .u32 (a2)]), MFact.is (.agg #[.int .u32 (b1), .int .u32 (b2)]), MFact.is (.int .i64 (cmpL a1 a2 b1 b2)), MFact.is (.agg #[.int .u32 (a1), .int .u32 (a2)]), MFact.is (.agg #[.int .u32 (b1), .int .u32 (b2)]), MFact.is (.int .i64 (cmpL a1 a2 b1 b2)), MFact.is (.bool true), MFact.is (.bool true), MFact.is (.bool true), MFact.is (.agg #[.int .u32 (N.1), .int .u32 (N.2.1)]), MFact.is (.agg #[.int .u32 (N.1), .int .u32 (N.2.1)]), MFact.is (.bool true), MFact.is (.bool true), MFact.is (.bool true), MFact.is (.int .i64 N.2.2), MFact.is (.int .i64 N.2.2), MFact.is (.bool true), MFact.is (.bool true), MFact.is (.bool true), MFact.is (.agg #[.int .u32 (R.1), .int .u32 (R.2.1)]), MFact.is (.agg #[.int .u32 (R.1), .int .u32 (R.2.1)]), MFact.is (.bool true), MFact.is (.bool true), MFact.is (.bool true), MFact.is (.int .i64 R.2.2), MFact.is (.int .i64 R.2.2), MFact.is (.bool true), MFact.is (.bool true), MFact.is (.bool true), MFact.is (.slice sa l.length cap), MFact.is (.agg #[.int .u32 (lastL l).1, .int .u32 (lastL l).2]), MFact.is (.slice sa l.length cap), MFact.is (.agg #[.int .u32 (lastL l).1, .int .u32 (lastL l).2]), MFact.is (.bool true), MFact.is (.bool true), MFact.is (.bool true)] (by kernel_rfl) ⟨?o0, ?o1, ?o2, ?o3, ?o4, ?o5, ?o6, ?o7, ?o8, ?o9, ?o10, ?o11, ?o12, ?o13, ?o14, ?o15, ?o16, ?o17, ?o18, ?o19, ?o20, ?o21, ?o22, ?o23, ?o24, ?o25, ?o26, ?o27, ?o28, ?o29, ?o30, ?o31, ?o32, ?o33, ?o34, ?o35, ?o36, ?o37, ?o38, ?o39, ?o40, ?o41, trivial⟩ ?oe
    case o0 =>
      intro A W hfr hbase hdep
      have e3 : A.eval (.tmp 3) = .pointer (some ⟨w.heap.size, 0, none⟩) := hbase 3 (by kernel_rfl)
      have f3 : A.tmps[3]?.getD undef = .pointer (some ⟨w.heap.size, 0, none⟩) := by simpa [Act.eval] using e3
      have hc0 := hfr.cell ((h3.fr0 ((Fr.refl _ _).drew)).all.1) (fun q => q)
      have hc1 := hfr.cell ((h3.fr0 ((Fr.refl _ _).drew)).all.2.1) (fun q => q)
      exact hands_val rfl (v := .agg #[.int .u32 (a1), .int .u32 (a2)]) (w' := W) (by simp [execOp, go_sem, e3, f3, hc0, hc1]) (Fr.refl _ _) rfl
    case o1 =>
      intro A W hfr hbase hdep
      have e40 : A.eval (.tmp 40) = .agg #[.int .u32 (a1), .int .u32 (a2)] := hdep 0 40 (by kernel_rfl) (by kernel_rfl)
      have f40 : A.tmps[40]?.getD undef = .agg #[.int .u32 (a1), .int .u32 (a2)] := by simpa [Act.eval] using e40
      refine hands_call rfl (args := #[.agg #[.int .u32 (a1), .int .u32 (a2)]]) (f := 16) (by simp [execOp, resolve, invoke, go_sem, e40, f40]) ?_
      refine (right_any _ _ _).mono ?_
      rintro e w' ⟨rfl, f'⟩
      exact ⟨_, rfl, f', rfl⟩
    case o2 =>
      intro A W hfr hbase hdep
      have e3 : A.eval (.tmp 3) = .pointer (some ⟨w.heap.size, 0, none⟩) := hbase 3 (by kernel_rfl)
      have f3 : A.tmps[3]?.getD undef = .pointer (some ⟨w.heap.size, 0, none⟩) := by simpa [Act.eval] using e3
      have hc0 := hfr.cell ((h3.fr0 ((Fr.refl _ _).drew)).all.1) (fun q => q)
      have hc1 := hfr.cell ((h3.fr0 ((Fr.refl _ _).drew)).all.2.1) (fun q => q)
      exact hands_val rfl (v := .agg #[.int .u32 (a1), .int .u32 (a2)]) (w' := W) (by simp [execOp, go_sem, e3, f3, hc0, hc1]) (Fr.refl _ _) rfl
    case o3 =>
      intro A W hfr hbase hdep
      have e42 : A.eval (.tmp 42) = .agg #[.int .u32 (a1), .int .u32 (a2)] := hdep 2 42 (by kernel_rfl) (by kernel_rfl)
      have f42 : A.tmps[42]?.getD undef = .agg #[.int .u32 (a1), .int .u32 (a2)] := by simpa [Act.eval] using e42
      refine hands_call rfl (args := #[.agg #[.int .u32 (a1), .int .u32 (a2)]]) (f := 17) (by simp [execOp, resolve, invoke, go_sem, e42, f42]) ?_
      refine (rright_any _ _ _).mono ?_
      rintro e w' ⟨rfl, f'⟩
      exact ⟨_, rfl, f', rfl⟩
    case o4 =>
      intro A W hfr hbase hdep
      have e41 : A.eval (.tmp 41) = .bool (okL a1 a2) := hdep 1 41 (by kernel_rfl) (by kernel_rfl)
      have f41 : A.tmps[41]?.getD undef = .bool (okL a1 a2) := by simpa [Act.eval] using e41
      have e43 : A.eval (.tmp 43) = .bool (okL a1 a2) := hdep 3 43 (by kernel_rfl) (by kernel_rfl)
      have f43 : A.tmps[43]?.getD undef = .bool (okL a1 a2) := by simpa [Act.eval] using e43
      exact hands_val rfl (v := .bool true) (w' := W) (by simp [execOp, go_sem, e41, f41, e43, f43]) (Fr.refl _ _) rfl
    case o5 =>
      intro A W hfr hbase hdep
      have e44 : A.eval (.tmp 44) = .bool true := hdep 4 44 (by kernel_rfl) (by kernel_rfl)
      have f44 : A.tmps[44]?.getD undef = .bool true := by simpa [Act.eval] using e44
      exact hands_val rfl (v := .bool true) (w' := W) (by simp [execOp, e44, f44]) (Fr.refl _ _) rfl
    case o6 =>
      intro A W hfr hbase hdep
      have e3 : A.eval (.tmp 3) = .pointer (some ⟨w.heap.size, 0, none⟩) := hbase 3 (by kernel_rfl)
      have f3 : A.tmps[3]?.getD undef = .pointer (some ⟨w.heap.size, 0, none⟩) := by simpa [Act.eval] using e3
      have eg : A.eval (.tmp 45) = .bool true := hdep 5 45 (by kernel_rfl) (by kernel_rfl)
      have hc0 := hfr.cell ((h3.fr0 ((Fr.refl _ _).drew)).all.1) (fun q => q)
      have hc1 := hfr.cell ((h3.fr0 ((Fr.refl _ _).drew)).all.2.1) (fun q => q)
      exact hands_val (wanted_of rfl (by kernel_rfl) eg) (v := .agg #[.int .u32 (a1), .int .u32 (a2)]) (w' := W) (by simp [execOp, go_sem, e3, f3, hc0, hc1]) (Fr.refl _ _) rfl
    case o7 =>
      intro A W hfr hbase hdep
      have e4 : A.eval (.tmp 4) = .pointer (some ⟨w.heap.size + 1, 0, none⟩) := hbase 4 (by kernel_rfl)
      have f4 : A.tmps[4]?.getD undef = .pointer (some ⟨w.heap.size + 1, 0, none⟩) := by simpa [Act.eval] using e4
      have eg : A.eval (.tmp 45) = .bool true := hdep 5 45 (by kernel_rfl) (by kernel_rfl)
      have hc0 := hfr.cell ((h4.fr0 ((Fr.refl _ _).drew)).all.1) (fun q => q)
      have hc1 := hfr.cell ((h4.fr0 ((Fr.refl _ _).drew)).all.2.1) (fun q => q)
      exact hands_val (wanted_of rfl (by kernel_rfl) eg) (v := .agg #[.int .u32 (b1), .int .u32 (b2)]) (w' := W) (by simp [execOp, go_sem, e4, f4, hc0, hc1]) (Fr.refl _ _) rfl
    case o8 =>
      intro A W hfr hbase hdep
      have e46 : A.eval (.tmp 46) = .agg #[.int .u32 (a1), .int .u32 (a2)] := hdep 6 46 (by kernel_rfl) (by kernel_rfl)
      have f46 : A.tmps[46]?.getD undef = .agg #[.int .u32 (a1), .int .u32 (a2)] := by simpa [Act.eval] using e46
      have e47 : A.eval (.tmp 47) = .agg #[.int .u32 (b1), .int .u32 (b2)] := hdep 7 47 (by kernel_rfl) (by kernel_rfl)
      have f47 : A.tmps[47]?.getD undef = .agg #[.int .u32 (b1), .int .u32 (b2)] := by simpa [Act.eval] using e47
      have eg : A.eval (.tmp 45) = .bool true := hdep 5 45 (by kernel_rfl) (by kernel_rfl)
      refine hands_call (wanted_of rfl (by kernel_rfl) eg) (args := #[.agg #[.int .u32 (a1), .int .u32 (a2)], .agg #[.int .u32 (b1), .int .u32 (b2)]]) (f := 18) (by simp [execOp, resolve, invoke, go_sem, e46, f46, e47, f47]) ?_
      refine (cmp_any _ _ _ _ _).mono ?_
      rintro e w' ⟨rfl, f'⟩
      exact ⟨_, rfl, f', rfl⟩
    case o9 =>
      intro A W hfr hbase hdep
      have e3 : A.eval (.tmp 3) = .pointer (some ⟨w.heap.size, 0, none⟩) := hbase 3 (by kernel_rfl)
      have f3 : A.tmps[3]?.getD undef = .pointer (some ⟨w.heap.size, 0, none⟩) := by simpa [Act.eval] using e3
      have eg : A.eval (.tmp 45) = .bool true := hdep 5 45 (by kernel_rfl) (by kernel_rfl)
      have hc0 := hfr.cell ((h3.fr0 ((Fr.refl _ _).drew)).all.1) (fun q => q)
      have hc1 := hfr.cell ((h3.fr0 ((Fr.refl _ _).drew)).all.2.1) (fun q => q)
      exact hands_val (wanted_of rfl (by kernel_rfl) eg) (v := .agg #[.int .u32 (a1), .int .u32 (a2)]) (w' := W) (by simp [execOp, go_sem, e3, f3, hc0, hc1]) (Fr.refl _ _) rfl
    case o10 =>
      intro A W hfr hbase hdep
      have e4 : A.eval (.tmp 4) = .pointer (some ⟨w.heap.size + 1, 0, none⟩) := hbase 4 (by kernel_rfl)
      have f4 : A.tmps[4]?.getD undef = .pointer (some ⟨w.heap.size + 1, 0, none⟩) := by simpa [Act.eval] using e4
      have eg : A.eval (.tmp 45) = .bool true := hdep 5 45 (by kernel_rfl) (by kernel_rfl)
      have hc0 := hfr.cell ((h4.fr0 ((Fr.refl _ _).drew)).all.1) (fun q => q)
      have hc1 := hfr.cell ((h4.fr0 ((Fr.refl _ _).drew)).all.2.1) (fun q => q)
      exact hands_val (wanted_of rfl (by kernel_rfl) eg) (v := .agg #[.int .u32 (b1), .int .u32 (b2)]) (w' := W) (by simp [execOp, go_sem, e4, f4, hc0, hc1]) (Fr.refl _ _) rfl
    case o11 =>
      intro A W hfr hbase hdep
      have e49 : A.eval (.tmp 49) = .agg #[.int .u32 (a1), .int .u32 (a2)] := hdep 9 49 (by kernel_rfl) (by kernel_rfl)
      have f49 : A.tmps[49]?.getD undef = .agg #[.int .u32 (a1), .int .u32 (a2)] := by simpa [Act.eval] using e49
      have e50 : A.eval (.tmp 50) = .agg #[.int .u32 (b1), .int .u32 (b2)] := hdep 10 50 (by kernel_rfl) (by kernel_rfl)
      have f50 : A.tmps[50]?.getD undef = .agg #[.int .u32 (b1), .int .u32 (b2)] := by simpa [Act.eval] using e50
      have eg : A.eval (.tmp 45) = .bool true := hdep 5 45 (by kernel_rfl) (by kernel_rfl)
      refine hands_call (wanted_of rfl (by kernel_rfl) eg) (args := #[.agg #[.int .u32 (a1), .int .u32 (a2)], .agg #[.int .u32 (b1), .int .u32 (b2)]]) (f := 19) (by simp [execOp, resolve, invoke, go_sem, e49, f49, e50, f50]) ?_
      refine (rcmp_any _ _ _ _ _).mono ?_
      rintro e w' ⟨rfl, f'⟩
      exact ⟨_, rfl, f', rfl⟩
    case o12 =>
      intro A W hfr hbase hdep
      have e48 : A.eval (.tmp 48) = .int .i64 (cmpL a1 a2 b1 b2) := hdep 8 48 (by kernel_rfl) (by kernel_rfl)
      have f48 : A.tmps[48]?.getD undef = .int .i64 (cmpL a1 a2 b1 b2) := by simpa [Act.eval] using e48
      have e51 : A.eval (.tmp 51) = .int .i64 (cmpL a1 a2 b1 b2) := hdep 11 51 (by kernel_rfl) (by kernel_rfl)
      have f51 : A.tmps[51]?.getD undef = .int .i64 (cmpL a1 a2 b1 b2) := by simpa [Act.eval] using e51
      have eg : A.eval (.tmp 45) = .bool true := hdep 5 45 (by kernel_rfl) (by kernel_rfl)
      exact hands_val (wanted_of rfl (by kernel_rfl) eg) (v := .bool true) (w' := W) (by simp [execOp, go_sem, e48, f48, e51, f51]) (Fr.refl _ _) rfl
    case o13 =>
      intro A W hfr hbase hdep
      have e45 : A.eval (.tmp 45) = .bool true := hdep 5 45 (by kernel_rfl) (by kernel_rfl)
      have f45 : A.tmps[45]?.getD undef = .bool true := by simpa [Act.eval] using e45
      have e52 : A.eval (.tmp 52) = .bool true := hdep 12 52 (by kernel_rfl) (by kernel_rfl)
      have f52 : A.tmps[52]?.getD undef = .bool true := by simpa [Act.eval] using e52
      exact hands_val rfl (v := .bool true) (w' := W) (by simp [execOp, go_sem, e45, f45, e52, f52]) (Fr.refl _ _) rfl
    case o14 =>
      intro A W hfr hbase hdep
      have e53 : A.eval (.tmp 53) = .bool true := hdep 13 53 (by kernel_rfl) (by kernel_rfl)
      have f53 : A.tmps[53]?.getD undef = .bool true := by simpa [Act.eval] using e53
      exact hands_val rfl (v := .bool true) (w' := W) (by simp [execOp, e53, f53]) (Fr.refl _ _) rfl
    case o15 =>
      intro A W hfr hbase hdep
      have e7 : A.eval (.tmp 7) = .pointer (some ⟨w2.heap.size, 0, none⟩) := hbase 7 (by kernel_rfl)
      have f7 : A.tmps[7]?.getD undef = .pointer (some ⟨w2.heap.size, 0, none⟩) := by simpa [Act.eval] using e7
      have eg : A.eval (.tmp 54) = .bool true := hdep 14 54 (by kernel_rfl) (by kernel_rfl)
      have hc0 := hfr.cell ((h7.fr0 ((Fr.refl _ _).drew)).all.1) (fun q => q)
      have hc1 := hfr.cell ((h7.fr0 ((Fr.refl _ _).drew)).all.2.1) (fun q => q)
      exact hands_val (wanted_of rfl (by kernel_rfl) eg) (v := .agg #[.int .u32 (N.1), .int .u32 (N.2.1)]) (w' := W) (by simp [execOp, go_sem, e7, f7, hc0, hc1]) (Fr.refl _ _) rfl
    case o16 =>
      intro A W hfr hbase hdep
      have e9 : A.eval (.tmp 9) = .pointer (some ⟨w4.heap.size, 0, none⟩) := hbase 9 (by kernel_rfl)
      have f9 : A.tmps[9]?.getD undef = .pointer (some ⟨w4.heap.size, 0, none⟩) := by simpa [Act.eval] using e9
      have eg : A.eval (.tmp 54) = .bool true := hdep 14 54 (by kernel_rfl) (by kernel_rfl)
      have hc0 := hfr.cell ((h9.fr0 ((Fr.refl _ _).drew)).all.1) (fun q => q)
      have hc1 := hfr.cell ((h9.fr0 ((Fr.refl _ _).drew)).all.2.1) (fun q => q)
      exact hands_val (wanted_of rfl (by kernel_rfl) eg) (v := .agg #[.int .u32 (N.1), .int .u32 (N.2.1)]) (w' := W) (by simp [execOp, go_sem, e9, f9, hc0, hc1]) (Fr.refl _ _) rfl
    case o17 =>
      intro A W hfr hbase hdep
      have e55 : A.eval (.tmp 55) = .agg #[.int .u32 (N.1), .int .u32 (N.2.1)] := hdep 15 55 (by kernel_rfl) (by kernel_rfl)
      have f55 : A.tmps[55]?.getD undef = .agg #[.int .u32 (N.1), .int .u32 (N.2.1)] := by simpa [Act.eval] using e55
      have e56 : A.eval (.tmp 56) = .agg #[.int .u32 (N.1), .int .u32 (N.2.1)] := hdep 16 56 (by kernel_rfl) (by kernel_rfl)
      have f56 : A.tmps[56]?.getD undef = .agg #[.int .u32 (N.1), .int .u32 (N.2.1)] := by simpa [Act.eval] using e56
      have eg : A.eval (.tmp 54) = .bool true := hdep 14 54 (by kernel_rfl) (by kernel_rfl)
      exact hands_val (wanted_of rfl (by kernel_rfl) eg) (v := .bool true) (w' := W) (by simp [execOp, go_sem, e55, f55, e56, f56]) (Fr.refl _ _) rfl
    case o18 =>
      intro A W hfr hbase hdep
      have e54 : A.eval (.tmp 54) = .bool true := hdep 14 54 (by kernel_rfl) (by kernel_rfl)
      have f54 : A.tmps[54]?.getD undef = .bool true := by simpa [Act.eval] using e54
      have e57 : A.eval (.tmp 57) = .bool true := hdep 17 57 (by kernel_rfl) (by kernel_rfl)
      have f57 : A.tmps[57]?.getD undef = .bool true := by simpa [Act.eval] using e57
      exact hands_val rfl (v := .bool true) (w' := W) (by simp [execOp, go_sem, e54, f54, e57, f57]) (Fr.refl _ _) rfl
    case o19 =>
      intro A W hfr hbase hdep
      have e58 : A.eval (.tmp 58) = .bool true := hdep 18 58 (by kernel_rfl) (by kernel_rfl)
      have f58 : A.tmps[58]?.getD undef = .bool true := by simpa [Act.eval] using e58
      exact hands_val rfl (v := .bool true) (w' := W) (by simp [execOp, e58, f58]) (Fr.refl _ _) rfl
    case o20 =>
      intro A W hfr hbase hdep
      have e8 : A.eval (.tmp 8) = .int .i64 N.2.2 := hbase 8 (by kernel_rfl)
      have f8 : A.tmps[8]?.getD undef = .int .i64 N.2.2 := by simpa [Act.eval] using e8
      have eg : A.eval (.tmp 59) = .bool true := hdep 19 59 (by kernel_rfl) (by kernel_rfl)
      exact hands_val (wanted_of rfl (by kernel_rfl) eg) (v := .int .i64 N.2.2) (w' := W) (by simp [execOp, e8, f8]) (Fr.refl _ _) rfl
    case o21 =>
      intro A W hfr hbase hdep
      have e10 : A.eval (.tmp 10) = .int .i64 N.2.2 := hbase 10 (by kernel_rfl)
      have f10 : A.tmps[10]?.getD undef = .int .i64 N.2.2 := by simpa [Act.eval] using e10
      have eg : A.eval (.tmp 59) = .bool true := hdep 19 59 (by kernel_rfl) (by kernel_rfl)
      exact hands_val (wanted_of rfl (by kernel_rfl) eg) (v := .int .i64 N.2.2) (w' := W) (by simp [execOp, e10, f10]) (Fr.refl _ _) rfl
    case o22 =>
      intro A W hfr hbase hdep
      have e60 : A.eval (.tmp 60) = .int .i64 N.2.2 := hdep 20 60 (by kernel_rfl) (by kernel_rfl)
      have f60 : A.tmps[60]?.getD undef = .int .i64 N.2.2 := by simpa [Act.eval] using e60
      have e61 : A.eval (.tmp 61) = .int .i64 N.2.2 := hdep 21 61 (by kernel_rfl) (by kernel_rfl)
      have f61 : A.tmps[61]?.getD undef = .int .i64 N.2.2 := by simpa [Act.eval] using e61
      have eg : A.eval (.tmp 59) = .bool true := hdep 19 59 (by kernel_rfl) (by kernel_rfl)
      exact hands_val (wanted_of rfl (by kernel_rfl) eg) (v := .bool true) (w' := W) (by simp [execOp, go_sem, e60, f60, e61, f61]) (Fr.refl _ _) rfl
    case o23 =>
      intro A W hfr hbase hdep
      have e59 : A.eval (.tmp 59) = .bool true := hdep 19 59 (by kernel_rfl) (by kernel_rfl)
      have f59 : A.tmps[59]?.getD undef = .bool true := by simpa [Act.eval] using e59
      have e62 : A.eval (.tmp 62) = .bool true := hdep 22 62 (by kernel_rfl) (by kernel_rfl)
      have f62 : A.tmps[62]?.getD undef = .bool true := by simpa [Act.eval] using e62
      exact hands_val rfl (v := .bool true) (w' := W) (by simp [execOp, go_sem, e59, f59, e62, f62]) (Fr.refl _ _) rfl
    case o24 =>
      intro A W hfr hbase hdep
      have e63 : A.eval (.tmp 63) = .bool true := hdep 23 63 (by kernel_rfl) (by kernel_rfl)
      have f63 : A.tmps[63]?.getD undef = .bool true := by simpa [Act.eval] using e63
      exact hands_val rfl (v := .bool true) (w' := W) (by simp [execOp, e63, f63]) (Fr.refl _ _) rfl
    case o25 =>
      intro A W hfr hbase hdep
      have e11 : A.eval (.tmp 11) = .pointer (some ⟨w6.heap.size, 0, none⟩) := hbase 11 (by kernel_rfl)
      have f11 : A.tmps[11]?.getD undef = .pointer (some ⟨w6.heap.size, 0, none⟩) := by simpa [Act.eval] using e11
      have eg : A.eval (.tmp 64) = .bool true := hdep 24 64 (by kernel_rfl) (by kernel_rfl)
      have hc0 := hfr.cell ((h11.fr0 ((Fr.refl _ _).drew)).all.1) (fun q => q)
      have hc1 := hfr.cell ((h11.fr0 ((Fr.refl _ _).drew)).all.2.1) (fun q => q)
      exact hands_val (wanted_of rfl (by kernel_rfl) eg) (v := .agg #[.int .u32 (R.1), .int .u32 (R.2.1)]) (w' := W) (by simp [execOp, go_sem, e11, f11, hc0, hc1]) (Fr.refl _ _) rfl
    case o26 =>
      intro A W hfr hbase hdep
      have e13 : A.eval (.tmp 13) = .pointer (some ⟨w8.heap.size, 0, none⟩) := hbase 13 (by kernel_rfl)
      have f13 : A.tmps[13]?.getD undef = .pointer (some ⟨w8.heap.size, 0, none⟩) := by simpa [Act.eval] using e13
      have eg : A.eval (.tmp 64) = .bool true := hdep 24 64 (by kernel_rfl) (by kernel_rfl)
      have hc0 := hfr.cell ((h13.fr0 ((Fr.refl _ _).drew)).all.1) (fun q => q)
      have hc1 := hfr.cell ((h13.fr0 ((Fr.refl _ _).drew)).all.2.1) (fun q => q)
      exact hands_val (wanted_of rfl (by kernel_rfl) eg) (v := .agg #[.int .u32 (R.1), .int .u32 (R.2.1)]) (w' := W) (by simp [execOp, go_sem, e13, f13, hc0, hc1]) (Fr.refl _ _) rfl
    case o27 =>
      intro A W hfr hbase hdep
      have e65 : A.eval (.tmp 65) = .agg #[.int .u32 (R.1), .int .u32 (R.2.1)] := hdep 25 65 (by kernel_rfl) (by kernel_rfl)
      have f65 : A.tmps[65]?.getD undef = .agg #[.int .u32 (R.1), .int .u32 (R.2.1)] := by simpa [Act.eval] using e65
      have e66 : A.eval (.tmp 66) = .agg #[.int .u32 (R.1), .int .u32 (R.2.1)] := hdep 26 66 (by kernel_rfl) (by kernel_rfl)
      have f66 : A.tmps[66]?.getD undef = .agg #[.int .u32 (R.1), .int .u32 (R.2.1)] := by simpa [Act.eval] using e66
      have eg : A.eval (.tmp 64) = .bool true := hdep 24 64 (by kernel_rfl) (by kernel_rfl)
      exact hands_val (wanted_of rfl (by kernel_rfl) eg) (v := .bool true) (w' := W) (by simp [execOp, go_sem, e65, f65, e66, f66]) (Fr.refl _ _) rfl
    case o28 =>
      intro A W hfr hbase hdep
      have e64 : A.eval (.tmp 64) = .bool true := hdep 24 64 (by kernel_rfl) (by kernel_rfl)
      have f64 : A.tmps[64]?.getD undef = .bool true := by simpa [Act.eval] using e64
      have e67 : A.eval (.tmp 67) = .bool true := hdep 27 67 (by kernel_rfl) (by kernel_rfl)
      have f67 : A.tmps[67]?.getD undef = .bool true := by simpa [Act.eval] using e67
      exact hands_val rfl (v := .bool true) (w' := W) (by simp [execOp, go_sem, e64, f64, e67, f67]) (Fr.refl _ _) rfl
    case o29 =>
      intro A W hfr hbase hdep
      have e68 : A.eval (.tmp 68) = .bool true := hdep 28 68 (by kernel_rfl) (by kernel_rfl)
      have f68 : A.tmps[68]?.getD undef = .bool true := by simpa [Act.eval] using e68
      exact hands_val rfl (v := .bool true) (w' := W) (by simp [execOp, e68, f68]) (Fr.refl _ _) rfl
    case o30 =>
      intro A W hfr hbase hdep
      have e12 : A.eval (.tmp 12) = .int .i64 R.2.2 := hbase 12 (by kernel_rfl)
      have f12 : A.tmps[12]?.getD undef = .int .i64 R.2.2 := by simpa [Act.eval] using e12
      have eg : A.eval (.tmp 69) = .bool true := hdep 29 69 (by kernel_rfl) (by kernel_rfl)
      exact hands_val (wanted_of rfl (by kernel_rfl) eg) (v := .int .i64 R.2.2) (w' := W) (by simp [execOp, e12, f12]) (Fr.refl _ _) rfl
    case o31 =>
      intro A W hfr hbase hdep
      have e14 : A.eval (.tmp 14) = .int .i64 R.2.2 := hbase 14 (by kernel_rfl)
      have f14 : A.tmps[14]?.getD undef = .int .i64 R.2.2 := by simpa [Act.eval] using e14
      have eg : A.eval (.tmp 69) = .bool true := hdep 29 69 (by kernel_rfl) (by kernel_rfl)
      exact hands_val (wanted_of rfl (by kernel_rfl) eg) (v := .int .i64 R.2.2) (w' := W) (by simp [execOp, e14, f14]) (Fr.refl _ _) rfl
    case o32 =>
      intro A W hfr hbase hdep
      have e70 : A.eval (.tmp 70) = .int .i64 R.2.2 := hdep 30 70 (by kernel_rfl) (by kernel_rfl)
      have f70 : A.tmps[70]?.getD undef = .int .i64 R.2.2 := by simpa [Act.eval] using e70
      have e71 : A.eval (.tmp 71) = .int .i64 R.2.2 := hdep 31 71 (by kernel_rfl) (by kernel_rfl)
      have f71 : A.tmps[71]?.getD undef = .int .i64 R.2.2 := by simpa [Act.eval] using e71
      have eg : A.eval (.tmp 69) = .bool true := hdep 29 69 (by kernel_rfl) (by kernel_rfl)
      exact hands_val (wanted_of rfl (by kernel_rfl) eg) (v := .bool true) (w' := W) (by simp [execOp, go_sem, e70, f70, e71, f71]) (Fr.refl _ _) rfl
    case o33 =>
      intro A W hfr hbase hdep
      have e69 : A.eval (.tmp 69) = .bool true := hdep 29 69 (by kernel_rfl) (by kernel_rfl)
      have f69 : A.tmps[69]?.getD undef = .bool true := by simpa [Act.eval] using e69
      have e72 : A.eval (.tmp 72) = .bool true := hdep 32 72 (by kernel_rfl) (by kernel_rfl)
      have f72 : A.tmps[72]?.getD undef = .bool true := by simpa [Act.eval] using e72
      exact hands_val rfl (v := .bool true) (w' := W) (by simp [execOp, go_sem, e69, f69, e72, f72]) (Fr.refl _ _) rfl
    case o34 =>
      intro A W hfr hbase hdep
      have e73 : A.eval (.tmp 73) = .bool true := hdep 33 73 (by kernel_rfl) (by kernel_rfl)
      have f73 : A.tmps[73]?.getD undef = .bool true := by simpa [Act.eval] using e73
      exact hands_val rfl (v := .bool true) (w' := W) (by simp [execOp, e73, f73]) (Fr.refl _ _) rfl
    case o35 =>
      intro A W hfr hbase hdep
      have e2 : A.eval (.tmp 2) = .slice sa l.length cap := hbase 2 (by kernel_rfl)
      have f2 : A.tmps[2]?.getD undef = .slice sa l.length cap := by simpa [Act.eval] using e2
      have eg : A.eval (.tmp 74) = .bool true := hdep 34 74 (by kernel_rfl) (by kernel_rfl)
      exact hands_val (wanted_of rfl (by kernel_rfl) eg) (v := .slice sa l.length cap) (w' := W) (by simp [execOp, e2, f2]) (Fr.refl _ _) rfl
    case o36 =>
      intro A W hfr hbase hdep
      have e75 : A.eval (.tmp 75) = .slice sa l.length cap := hdep 35 75 (by kernel_rfl) (by kernel_rfl)
      have f75 : A.tmps[75]?.getD undef = .slice sa l.length cap := by simpa [Act.eval] using e75
      have eg : A.eval (.tmp 74) = .bool true := hdep 34 74 (by kernel_rfl) (by kernel_rfl)
      refine hands_call (wanted_of rfl (by kernel_rfl) eg) (args := #[.slice sa l.length cap]) (f := 13) (by simp [execOp, resolve, invoke, go_sem, e75, f75]) ?_
      refine (last_any _ l _ (((hl.fr0 F9).fr0 ((Fr.refl _ _).drew)).fr0 hfr) (by omega)).mono ?_
      rintro e w' ⟨rfl, f'⟩
      exact ⟨_, rfl, f', rfl⟩
    case o37 =>
      intro A W hfr hbase hdep
      have e2 : A.eval (.tmp 2) = .slice sa l.length cap := hbase 2 (by kernel_rfl)
      have f2 : A.tmps[2]?.getD undef = .slice sa l.length cap := by simpa [Act.eval] using e2
      have eg : A.eval (.tmp 74) = .bool true := hdep 34 74 (by kernel_rfl) (by kernel_rfl)
      exact hands_val (wanted_of rfl (by kernel_rfl) eg) (v := .slice sa l.length cap) (w' := W) (by simp [execOp, e2, f2]) (Fr.refl _ _) rfl
    case o38 =>
      intro A W hfr hbase hdep
      have e77 : A.eval (.tmp 77) = .slice sa l.length cap := hdep 37 77 (by kernel_rfl) (by kernel_rfl)
      have f77 : A.tmps[77]?.getD undef = .slice sa l.length cap := by simpa [Act.eval] using e77
      have eg : A.eval (.tmp 74) = .bool true := hdep 34 74 (by kernel_rfl) (by kernel_rfl)
      refine hands_call (wanted_of rfl (by kernel_rfl) eg) (args := #[.slice sa l.length cap]) (f := 20) (by simp [execOp, resolve, invoke, go_sem, e77, f77]) ?_
      refine (rlast_any _ l _ (((hl.fr0 F9).fr0 ((Fr.refl _ _).drew)).fr0 hfr) (by omega)).mono ?_
      rintro e w' ⟨rfl, f'⟩
      exact ⟨_, rfl, f', rfl⟩
    case o39 =>
      intro A W hfr hbase hdep
      have e76 : A.eval (.tmp 76) = .agg #[.int .u32 (lastL l).1, .int .u32 (lastL l).2] := hdep 36 76 (by kernel_rfl) (by kernel_rfl)
      have f76 : A.tmps[76]?.getD undef = .agg #[.int .u32 (lastL l).1, .int .u32 (lastL l).2] := by simpa [Act.eval] using e76
      have e78 : A.eval (.tmp 78) = .agg #[.int .u32 (lastL l).1, .int .u32 (lastL l).2] := hdep 38 78 (by kernel_rfl) (by kernel_rfl)
      have f78 : A.tmps[78]?.getD undef = .agg #[.int .u32 (lastL l).1, .int .u32 (lastL l).2] := by simpa [Act.eval] using e78
      have eg : A.eval (.tmp 74) = .bool true := hdep 34 74 (by kernel_rfl) (by kernel_rfl)
      exact hands_val (wanted_of rfl (by kernel_rfl) eg) (v := .bool true) (w' := W) (by simp [execOp, go_sem, e76, f76, e78, f78]) (Fr.refl _ _) rfl
    case o40 =>
      intro A W hfr hbase hdep
      have e74 : A.eval (.tmp 74) = .bool true := hdep 34 74 (by kernel_rfl) (by kernel_rfl)
      have f74 : A.tmps[74]?.getD undef = .bool true := by simpa [Act.eval] using e74
      have e79 : A.eval (.tmp 79) = .bool true := hdep 39 79 (by kernel_rfl) (by kernel_rfl)
      have f79 : A.tmps[79]?.getD undef = .bool true := by simpa [Act.eval] using e79
      exact hands_val rfl (v := .bool true) (w' := W) (by simp [execOp, go_sem, e74, f74, e79, f79]) (Fr.refl _ _) rfl
    case o41 =>
      intro A W hfr hbase hdep
      have e80 : A.eval (.tmp 80) = .bool true := hdep 40 80 (by kernel_rfl) (by kernel_rfl)
      have f80 : A.tmps[80]?.getD undef = .bool true := by simpa [Act.eval] using e80
      exact hands_val rfl (v := .bool true) (w' := W) (by simp [execOp, e80, f80]) (Fr.refl _ _) rfl
    case oe =>
      intro vs W' hfW hall
      have x0 : vs 0 = .agg #[.int .u32 (a1), .int .u32 (a2)] := hall 0 (by rfl)
      have x1 : vs 1 = .bool (okL a1 a2) := hall 1 (by rfl)
      have x2 : vs 2 = .agg #[.int .u32 (a1), .int .u32 (a2)] := hall 2 (by rfl)
      have x3 : vs 3 = .bool (okL a1 a2) := hall 3 (by rfl)
      have x4 : vs 4 = .bool true := hall 4 (by rfl)
      have x5 : vs 5 = .bool true := hall 5 (by rfl)
      have x6 : vs 6 = .agg #[.int .u32 (a1), .int .u32 (a2)] := hall 6 (by rfl)
      have x7 : vs 7 = .agg #[.int .u32 (b1), .int .u32 (b2)] := hall 7 (by rfl)
      have x8 : vs 8 = .int .i64 (cmpL a1 a2 b1 b2) := hall 8 (by rfl)
      have x9 : vs 9 = .agg #[.int .u32 (a1), .int .u32 (a2)] := hall 9 (by rfl)
      have x10 : vs 10 = .agg #[.int .u32 (b1), .int .u32 (b2)] := hall 10 (by rfl)
      have x11 : vs 11 = .int .i64 (cmpL a1 a2 b1 b2) := hall 11 (by rfl)
      have x12 : vs 12 = .bool true := hall 12 (by rfl)
      have x13 : vs 13 = .bool true := hall 13 (by rfl)
      have x14 : vs 14 = .bool true := hall 14 (by rfl)
      have x15 : vs 15 = .agg #[.int .u32 (N.1), .int .u32 (N.2.1)] := hall 15 (by rfl)
      have x16 : vs 16 = .agg #[.int .u32 (N.1), .int .u32 (N.2.1)] := hall 16 (by rfl)
      have x17 : vs 17 = .bool true := hall 17 (by rfl)
      have x18 : vs 18 = .bool true := hall 18 (by rfl)
      have x19 : vs 19 = .bool true := hall 19 (by rfl)
      have x20 : vs 20 = .int .i64 N.2.2 := hall 20 (by rfl)
      have x21 : vs 21 = .int .i64 N.2.2 := hall 21 (by rfl)
      have x22 : vs 22 = .bool true := hall 22 (by rfl)
      have x23 : vs 23 = .bool true := hall 23 (by rfl)
      have x24 : vs 24 = .bool true := hall 24 (by rfl)
      have x25 : vs 25 = .agg #[.int .u32 (R.1), .int .u32 (R.2.1)] := hall 25 (by rfl)
      have x26 : vs 26 = .agg #[.int .u32 (R.1), .int .u32 (R.2.1)] := hall 26 (by rfl)
      have x27 : vs 27 = .bool true := hall 27 (by rfl)
      have x28 : vs 28 = .bool true := hall 28 (by rfl)
      have x29 : vs 29 = .bool true := hall 29 (by rfl)
      have x30 : vs 30 = .int .i64 R.2.2 := hall 30 (by rfl)
      have x31 : vs 31 = .int .i64 R.2.2 := hall 31 (by rfl)
      have x32 : vs 32 = .bool true := hall 32 (by rfl)
      have x33 : vs 33 = .bool true := hall 33 (by rfl)
      have x34 : vs 34 = .bool true := hall 34 (by rfl)
      have x35 : vs 35 = .slice sa l.length cap := hall 35 (by rfl)
      have x36 : vs 36 = .agg #[.int .u32 (lastL l).1, .int .u32 (lastL l).2] := hall 36 (by rfl)
      have x37 : vs 37 = .slice sa l.length cap := hall 37 (by rfl)
      have x38 : vs 38 = .agg #[.int .u32 (lastL l).1, .int .u32 (lastL l).2] := hall 38 (by rfl)
      have x39 : vs 39 = .bool true := hall 39 (by rfl)
      have x40 : vs 40 = .bool true := hall 40 (by rfl)
      have x41 : vs 41 = .bool true := hall 41 (by rfl)
      simp only [layL, Nat.reduceAdd, x0, x1, x2, x3, x4, x5, x6, x7, x8, x9, x10, x11, x12, x13, x14, x15, x16, x17, x18, x19, x20, x21, x22, x23, x24, x25, x26, x27, x28, x29, x30, x31, x32, x33, x34, x35, x36, x37, x38, x39, x40, x41, Act.put, List.setIfInBounds_toArray, List.set_cons_zero, List.set_cons_succ]
      clear x0 x1 x2 x3 x4 x5 x6 x7 x8 x9 x10 x11 x12 x13 x14 x15 x16 x17 x18 x19 x20 x21 x22 x23 x24 x25 x26 x27 x28 x29 x30 x31 x32 x33 x34 x35 x36 x37 x38 x39 x40 x41 hall
    --END M2
      go_wp2
      go_ret
      exact ⟨rfl, ((F9.drew).thenN hfW).below⟩
end Go.Proofs.YtcpkkdffedndiaaDoor
