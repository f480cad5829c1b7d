/- DiskFaults. (Written by s2_gen.py.) -/
import Derived.Test.YtejjfpdcmaefiaaK11
import Derived.Test.YtejjfpdcmaefiaaRI2
namespace Go.Proofs.Ytejjfpdcmaefiaa
open Go.RowKit Go.Proofs.U
set_option linter.unusedSimpArgs false
set_option linter.unusedVariables false

def noBad : Int → Bool := fun _ => false
def oneBad (j : Nat) : Int → Bool := fun x => x == (j : Int)
theorem fl_write (pages : List (List Int)) (bad : Int → Bool) (j : Nat) (hj : j < pages.length) (p : List Int) : (DSt.mk pages bad [] false (-1)).write j p = ⟨pages, bad, [((j : Int), p)], false, -1⟩ ∧ (DSt.mk pages bad [] false (-1)).writeE j = 0 := by
  have hin : inR pages.length (j : Int) = true := by simp [inR]; omega
  constructor
  · simp [DSt.write, DSt.act, DSt.actE, actP, hin]
  · simp [DSt.writeE, DSt.actE, actP, hin]
theorem fl_sync (pages : List (List Int)) (bad : Int → Bool) (j : Nat) (p : List Int) (hp : p.length = 256) : (DSt.mk pages bad [((j : Int), p)] false (-1)).sync = ⟨pages.set j p, bad, [], false, -1⟩ ∧ (DSt.mk pages bad [((j : Int), p)] false (-1)).actE = 0 := by
  constructor
  · simp [DSt.sync, DSt.act, DSt.actE, actP, DSt.settle, setS, setS1, mixS_all _ _ hp, List.range_succ]
  · simp [DSt.actE, actP]
theorem fl_spoil (pages : List (List Int)) (bad : Int → Bool) (pend : List (Int × List Int)) (j : Nat) (hj : j < pages.length) (c : Bool) : (DSt.mk pages bad pend false (-1)).spoil j c = ⟨pages, fun x => if x == (j : Int) then c else bad x, pend, false, -1⟩ ∧ (if inR pages.length (j : Int) then (0 : Int) else 41) = 0 := by
  have hin : inR pages.length (j : Int) = true := by simp [inR]; omega
  constructor
  · simp [DSt.spoil, hin]
  · simp [hin]
theorem bad_twice (j : Nat) : (fun x => if x == (j : Int) then true else (fun x => if x == (j : Int) then true else noBad x) x) = (fun x => if x == (j : Int) then true else noBad x) := by
  funext x; simp only; split <;> rfl
theorem fl_read (pages : List (List Int)) (bad : Int → Bool) (pend : List (Int × List Int)) (j : Nat) (hj : j < pages.length) (hb : bad j = true) : readP ⟨pages, bad, pend, false, -1⟩ j = (zeroP, 43) := by
  have hin : inR pages.length (j : Int) = true := by simp [inR]; omega
  simp [readP, hin, hb]
theorem fl_stab (pages : List (List Int)) (bad : Int → Bool) (pend : List (Int × List Int)) (j : Nat) (hj : j < pages.length) (p : List Int) : stabR ⟨pages.set j p, bad, pend, false, -1⟩ j = (p, 0) := by
  have hin : inR (pages.set j p).length (j : Int) = true := by simp [inR]; omega
  simp only [stabR, hin, if_true, Int.toNat_natCast]
  simp [List.getD, hj]
theorem fl_last (pages : List (List Int)) (bad : Int → Bool) (j : Nat) (hj : j < pages.length) (p : List Int) (hb : bad j = false) : readP ⟨pages, bad, [((j : Int), p)], false, -1⟩ j = (p, 0) := by
  have hin : inR pages.length (j : Int) = true := by simp [inR]; omega
  simp [readP, hin, hb, lastW]

set_option maxRecDepth 100000 in
set_option maxHeartbeats 4000000 in
theorem faults_walk (at' a b : Int) (w : World) (hat : (Lit.int .i64 at').wf = true) (ha : (Lit.int .u8 a).wf = true) (hb : (Lit.int .u8 b).wf = true) :
    Calls Try.prog 7 #[.int .i64 at', .int .u8 a, .int .u8 b] w fun r w' => r = .returned (.bool true) ∧ Below w.heap.size w w' := by
  by_cases hr : 0 ≤ at' ∧ at' ≤ 9
  · obtain ⟨j, rfl⟩ := Int.eq_ofNat_of_zero_le hr.1
    have hj10 : j < 10 := by omega
    have t1 : ¬ (j : Int) < 0 := by omega
    have t2 : ¬ 9 < (j : Int) := by omega
    obtain ⟨PA, HPA⟩ : ∃ p, Hid (List.replicate 256 a = p) := ⟨_, rfl⟩
    obtain ⟨PB, HPB⟩ : ∃ p, Hid (List.replicate 256 b = p) := ⟨_, rfl⟩
    have hPA : Hid (PA.length = 256) := by show _ = _; rw [← HPA.out]; simp
    have hPB : Hid (PB.length = 256) := by show _ = _; rw [← HPB.out]; simp
    obtain ⟨Z, HZ⟩ : ∃ p, Hid (zeroP = p) := ⟨_, rfl⟩
    have hZl : Hid (Z.length = 256) := by show _ = _; rw [← HZ.out]; exact zeroP_len
    obtain ⟨pg, Hpg⟩ : ∃ p, Hid (List.replicate 10 zeroP = p) := ⟨_, rfl⟩
    have hpgl : pg.length = 10 := by rw [← Hpg.out]; simp
    have hj : j < pg.length := by omega
    have hjs : j < (pg.set j PA).length := by simpa using hj
    obtain ⟨bd, Hbd⟩ : ∃ p, Hid ((fun x => if x == (j : Int) then true else noBad x) = p) := ⟨_, rfl⟩
    have hbj : bd j = true := by rw [← Hbd.out]; simp
    have hbb : (fun x => if x == (j : Int) then true else bd x) = bd := by rw [← Hbd.out]; exact bad_twice j
    obtain ⟨X0, HX0⟩ : ∃ X, Hid (DSt.mk pg noBad [] false (-1) = X) := ⟨_, rfl⟩
    obtain ⟨X1, HX1⟩ : ∃ X, Hid (DSt.mk pg noBad [((j : Int), PA)] false (-1) = X) := ⟨_, rfl⟩
    obtain ⟨X2, HX2⟩ : ∃ X, Hid (DSt.mk (pg.set j PA) noBad [] false (-1) = X) := ⟨_, rfl⟩
    obtain ⟨X3, HX3⟩ : ∃ X, Hid (DSt.mk (pg.set j PA) bd [] false (-1) = X) := ⟨_, rfl⟩
    obtain ⟨X5, HX5⟩ : ∃ X, Hid (DSt.mk (pg.set j PA) bd [((j : Int), PB)] false (-1) = X) := ⟨_, rfl⟩
    obtain ⟨X6, HX6⟩ : ∃ X, Hid (DSt.mk (pg.set j PA) (fun x => if x == (j : Int) then false else bd x) [((j : Int), PB)] false (-1) = X) := ⟨_, rfl⟩
    have hn : Hid (newD 10 = X0) := by show _ = _; rw [← HX0.out, ← Hpg.out]; rfl
    have h01 : Hid (X0.write j PA = X1 ∧ X0.writeE j = 0) := by show _ ∧ _; rw [← HX0.out, ← HX1.out]; exact fl_write pg noBad j hj PA
    have h12 : Hid (X1.sync = X2 ∧ X1.actE = 0) := by show _ ∧ _; rw [← HX1.out, ← HX2.out]; exact fl_sync pg noBad j PA hPA.out
    have h23 : Hid (X2.spoil j true = X3 ∧ (if inR X2.pages.length (j : Int) then (0 : Int) else 41) = 0) := by
      show _ ∧ _; rw [← HX2.out, ← HX3.out]; have := fl_spoil (pg.set j PA) noBad [] j hjs true; rw [Hbd.out] at this; exact this
    have h33 : Hid (X3.spoil j true = X3 ∧ (if inR X3.pages.length (j : Int) then (0 : Int) else 41) = 0) := by
      show _ ∧ _; rw [← HX3.out]; have := fl_spoil (pg.set j PA) bd [] j hjs true; rw [hbb] at this; exact this
    have h35 : Hid (X3.write j PB = X5 ∧ X3.writeE j = 0) := by show _ ∧ _; rw [← HX3.out, ← HX5.out]; exact fl_write (pg.set j PA) bd j hjs PB
    have h56 : Hid (X5.spoil j false = X6 ∧ (if inR X5.pages.length (j : Int) then (0 : Int) else 41) = 0) := by show _ ∧ _; rw [← HX5.out, ← HX6.out]; exact fl_spoil (pg.set j PA) bd _ j hjs false
    have r3 : Hid (readP X3 j = (Z, 43)) := by show _ = _; rw [← HX3.out, ← HZ.out]; exact fl_read _ _ _ j hjs hbj
    have r5 : Hid (readP X5 j = (Z, 43)) := by show _ = _; rw [← HX5.out, ← HZ.out]; exact fl_read _ _ _ j hjs hbj
    have s3 : Hid (stabR X3 j = (PA, 0)) := by show _ = _; rw [← HX3.out]; exact fl_stab pg bd [] j hj PA
    have r6 : Hid (readP X6 j = (PB, 0)) := by show _ = _; rw [← HX6.out]; exact fl_last _ _ j hjs PB (by simp)
    have p0 : X0.pend.length ≤ 100000 := by rw [← HX0.out]; simp
    have p1 : X1.pend.length ≤ 100000 := by rw [← HX1.out]; simp
    have p3 : X3.pend.length ≤ 100000 := by rw [← HX3.out]; simp
    have p5 : X5.pend.length ≤ 100000 := by rw [← HX5.out]; simp
    have p6 : X6.pend.length ≤ 100000 := by rw [← HX6.out]; simp
    have hjr : -9223372036854775808 ≤ (j : Int) ∧ (j : Int) ≤ 9223372036854775807 := by omega
    clear hj hjs hbj hbb hpgl hr
    go_enter Try.func7, Try.ntmps7
    go_wp2_with (first
      | (go_at_call 13; go_must (refine (alive_any _).mono ?_; rintro e w0 ⟨rfl, f0⟩; have z0 := f0.size))
      | (go_at_call 9; go_must (refine (new_any 10 (by omega) _).mono ?_; rw [hn.out]; rintro e w1 ⟨g, rfl, d1, f1⟩; have z1 := f1.size))
      | (go_at_call 19; have d6' := d6; go_must (refine (full_any b _).mono ?_; rw [HPB.out]; rintro e w14 ⟨rfl, f14⟩; have z14 := f14.size))
      | (go_at_call 19; go_must (refine (full_any a _).mono ?_; rw [HPA.out]; rintro e w2 ⟨rfl, f2⟩; have z2 := f2.size))
      | (go_at_call 18; have f14' := f14; go_must (refine (write_any g j PB hPB.out _ ((d6.fr0 F13).fr0 f14) p3).mono ?_; rw [h35.out.1, h35.out.2]; rintro e w15 ⟨rfl, d15, f15⟩; have z15 := f15.size))
      | (go_at_call 18; go_must (refine (write_any g j PA hPA.out _ (d1.fr0 f2) p0).mono ?_; rw [h01.out.1, h01.out.2]; rintro e w3 ⟨rfl, d3, f3⟩; have z3 := f3.size; have d3 := d3.mono (G := fun k => w0.heap.size ≤ k) (fun k _ q => by unfold orNew at q; omega)))
      | (go_at_call 14; go_must (refine (sync_any g _ d3 p1).mono ?_; rw [h12.out.1, h12.out.2]; rintro e w4 ⟨rfl, d4, f4⟩; have z4 := f4.size))
      | (go_at_call 11; have F18' := F18; go_must (refine (spoil_any g j hjr false _ (d15.fr0 F18)).mono ?_; rw [h56.out.1, h56.out.2]; rintro e w19 ⟨rfl, d19, f19⟩; have z19 := f19.size))
      | (go_at_call 11; have d5' := d5; go_must (refine (spoil_any g j hjr true _ d5).mono ?_; rw [h33.out.1, h33.out.2]; rintro e w6 ⟨rfl, d6, f6⟩; have z6 := f6.size; have d6 := d6.tight))
      | (go_at_call 11; go_must (refine (spoil_any g j hjr true _ d4).mono ?_; rw [h23.out.1, h23.out.2]; rintro e w5 ⟨rfl, d5, f5⟩; have z5 := f5.size))
      | (go_at_call 10; have d19' := d19; go_must (refine (read_any g j hjr _ d19 p6).mono ?_; rw [r6.out]; rintro e w20 ⟨rfl, f20⟩; have z20 := f20.size))
      | (go_at_call 10; have d15' := d15; go_must (refine (read_any g j hjr _ d15 p5).mono ?_; rw [r5.out]; rintro e w16 ⟨rfl, f16⟩; have z16 := f16.size))
      | (go_at_call 10; go_must (refine (read_any g j hjr _ d6 p3).mono ?_; rw [r3.out]; rintro e w7 ⟨rfl, f7⟩; have z7 := f7.size))
      | (go_at_call 29; go_must (refine (stable_any g j _ (d6.fr0 F9)).mono ?_; rw [s3.out]; rintro e w10 ⟨rfl, f10⟩; have z10 := f10.size))
      | (with_reducible refine at_wpP ?_; have f20' := f20; refine wpList_allocP rfl rfl ?_; intro gq w21 hgq b21 f21 s21; have l21 := b21.lt; have z21 := f21.size)
      | (with_reducible refine at_wpP ?_; have f16' := f16; refine wpList_allocP rfl rfl ?_; intro g17 w17 hg17 b17 f17 s17; have l17 := b17.lt; have z17 := f17.size)
      | (with_reducible refine at_wpP ?_; have f10' := f10; refine wpList_allocP rfl rfl ?_; intro gp w11 hgp b11 f11 s11; have l11 := b11.lt; have z11 := f11.size)
      | (with_reducible refine at_wpP ?_; refine wpList_allocP rfl rfl ?_; intro g8 w8 hg8 b8 f8 s8; have l8 := b8.lt; have z8 := f8.size)
      | (with_reducible refine at_wpP ?_; refine at_st 25 _ _ rfl ?_; have b21' := b21; go_must (refine wpList_storeP rfl _ _ rfl gq rfl PB rfl _ b21 hPB.out zeroP_len ?_; intro w22 bq f22; have F22 : Fr noB w19 w22 := (f20.thenN f21).thenT f22 (fun k hk q => by unfold onB1 at q; omega)))
      | (with_reducible refine at_wpP ?_; refine at_st 25 _ _ rfl ?_; have b17' := b17; go_must (refine wpList_storeP rfl _ _ rfl g17 rfl Z rfl _ b17 hZl.out zeroP_len ?_; intro w18 b18 f18; have F18 : Fr noB w15 w18 := (f16.thenN f17).thenT f18 (fun k hk q => by unfold onB1 at q; omega)))
      | (with_reducible refine at_wpP ?_; refine at_st 25 _ _ rfl ?_; have b11' := b11; go_must (refine wpList_storeP rfl _ _ rfl gp rfl PA rfl _ b11 hPA.out zeroP_len ?_; intro w13 b13 f13; have F13 : Fr noB w6 w13 := ((F9.thenN f10).thenN f11).thenT f13 (fun k hk q => by have z9 := F9.size; unfold onB1 at q; omega)))
      | (with_reducible refine at_wpP ?_; refine at_st 25 _ _ rfl ?_; go_must (refine wpList_storeP rfl _ _ rfl g8 rfl Z rfl _ b8 hZl.out zeroP_len ?_; intro w9 b9 f9; have F9 : Fr noB w6 w9 := (f7.thenN f8).thenT f9 (fun k hk q => by unfold onB1 at q; omega))))
    have z13 := F13.size
    have z18 := F18.size
    have z9 := F9.size
    have z22 := F22.size
    have hgpd : gp < w13.heap.size := b13.lt
    have bp15 := (b13.fr0 f14).fr f15 (fun q => by omega)
    have bp19 := (bp15.fr0 F18).fr f19 (fun q => by unfold orNew at q; omega)
    have bp : BxV w22.drew gp 25 (pgv PA) := bp19.fr0 F22.drew
    have bq : BxV w22.drew gq 25 (pgv PB) := bq
    have G3 := ((f0.thenN f1).thenN f2).thenT (S := noB) f3 (fun k hk q => by omega)
    have G4 := G3.thenT (S := noB) f4 (fun k hk q => by omega)
    have G5 := G4.thenT (S := noB) f5 (fun k hk q => by omega)
    have G6 := G5.thenT (S := noB) f6 (fun k hk q => by omega)
    have G15 := ((G6.thenN F13).thenN f14).thenT (S := noB) f15 (fun k hk q => by omega)
    have G19 := (G15.thenN F18).thenT (S := noB) f19 (fun k hk q => by unfold orNew at q; omega)
    have G22 := (G19.thenN F22).drew
    refine wp_region_lay (by kernel_rfl) [MFact.is (.int .i64 43), MFact.is (.bool true), MFact.is (.bool true), MFact.is (.int .i64 0), MFact.is (.bool true), MFact.is (.bool true), MFact.is (.bool true), MFact.is (pgV PA), MFact.is (.int .u8 a), MFact.is (pgV PA), MFact.is (.bool true), MFact.is (.bool true), MFact.is (.bool true), MFact.is (.int .i64 0), MFact.is (.bool true), MFact.is (.bool true), MFact.is (.bool true), MFact.is (.int .i64 43), MFact.is (.bool true), MFact.is (.bool true), MFact.is (.bool true), MFact.is (.int .i64 0), MFact.is (.bool true), MFact.is (.bool true), MFact.is (.bool true), MFact.is (.int .i64 0), MFact.is (.bool true), MFact.is (.bool true), MFact.is (.bool true), MFact.is (pgV PB), MFact.is (.int .u8 b), MFact.is (pgV PB), MFact.is (.bool true), MFact.is (.bool true), MFact.is (.bool true)] (by kernel_rfl) ⟨?o0, ?o1, ?o2, ?o3, ?o4, ?o5, ?o6, ?o7, ?o8, ?o9, ?o10, ?o11, ?o12, ?o13, ?o14, ?o15, ?o16, ?o17, ?o18, ?o19, ?o20, ?o21, ?o22, ?o23, ?o24, ?o25, ?o26, ?o27, ?o28, ?o29, ?o30, ?o31, ?o32, ?o33, ?o34, trivial⟩ ?oe
    case o0 =>
      intro A W hfr hbase hdep
      have e9 : A.eval (.tmp 9) = .int .i64 43 := hbase 9 (by kernel_rfl)
      have f9 : A.tmps[9]?.getD undef = .int .i64 43 := by simpa [Act.eval] using e9
      exact hands_val rfl (v := .int .i64 43) (w' := W) (by simp [execOp, e9, f9]) (Fr.refl _ _) rfl
    case o1 =>
      intro A W hfr hbase hdep
      have e82 : A.eval (.tmp 82) = .int .i64 43 := hdep 0 82 (by kernel_rfl) (by kernel_rfl)
      have f82 : A.tmps[82]?.getD undef = .int .i64 43 := by simpa [Act.eval] using e82
      exact hands_val rfl (v := .bool true) (w' := W) (by simp [execOp, go_sem, e82, f82]) (Fr.refl _ _) rfl
    case o2 =>
      intro A W hfr hbase hdep
      have e83 : A.eval (.tmp 83) = .bool true := hdep 1 83 (by kernel_rfl) (by kernel_rfl)
      have f83 : A.tmps[83]?.getD undef = .bool true := by simpa [Act.eval] using e83
      exact hands_val rfl (v := .bool true) (w' := W) (by simp [execOp, e83, f83]) (Fr.refl _ _) rfl
    case o3 =>
      intro A W hfr hbase hdep
      have e11 : A.eval (.tmp 11) = .int .i64 0 := hbase 11 (by kernel_rfl)
      have f11 : A.tmps[11]?.getD undef = .int .i64 0 := by simpa [Act.eval] using e11
      have eg : A.eval (.tmp 84) = .bool true := hdep 2 84 (by kernel_rfl) (by kernel_rfl)
      exact hands_val (wanted_of rfl (by kernel_rfl) eg) (v := .int .i64 0) (w' := W) (by simp [execOp, e11, f11]) (Fr.refl _ _) rfl
    case o4 =>
      intro A W hfr hbase hdep
      have e85 : A.eval (.tmp 85) = .int .i64 0 := hdep 3 85 (by kernel_rfl) (by kernel_rfl)
      have f85 : A.tmps[85]?.getD undef = .int .i64 0 := by simpa [Act.eval] using e85
      have eg : A.eval (.tmp 84) = .bool true := hdep 2 84 (by kernel_rfl) (by kernel_rfl)
      exact hands_val (wanted_of rfl (by kernel_rfl) eg) (v := .bool true) (w' := W) (by simp [execOp, go_sem, e85, f85]) (Fr.refl _ _) rfl
    case o5 =>
      intro A W hfr hbase hdep
      have e84 : A.eval (.tmp 84) = .bool true := hdep 2 84 (by kernel_rfl) (by kernel_rfl)
      have f84 : A.tmps[84]?.getD undef = .bool true := by simpa [Act.eval] using e84
      have e86 : A.eval (.tmp 86) = .bool true := hdep 4 86 (by kernel_rfl) (by kernel_rfl)
      have f86 : A.tmps[86]?.getD undef = .bool true := by simpa [Act.eval] using e86
      exact hands_val rfl (v := .bool true) (w' := W) (by simp [execOp, go_sem, e84, f84, e86, f86]) (Fr.refl _ _) rfl
    case o6 =>
      intro A W hfr hbase hdep
      have e87 : A.eval (.tmp 87) = .bool true := hdep 5 87 (by kernel_rfl) (by kernel_rfl)
      have f87 : A.tmps[87]?.getD undef = .bool true := by simpa [Act.eval] using e87
      exact hands_val rfl (v := .bool true) (w' := W) (by simp [execOp, e87, f87]) (Fr.refl _ _) rfl
    case o7 =>
      intro A W hfr hbase hdep
      have e10 : A.eval (.tmp 10) = .pointer (some ⟨gp, 0, none⟩) := hbase 10 (by kernel_rfl)
      have f10 : A.tmps[10]?.getD undef = .pointer (some ⟨gp, 0, none⟩) := by simpa [Act.eval] using e10
      have eg : A.eval (.tmp 88) = .bool true := hdep 6 88 (by kernel_rfl) (by kernel_rfl)
      have hB := (bp).fr0 hfr
      have hr := run_loadP W gp 0 PA (hB.range 0 (pgv PA) (by show (pgv PA).take (pgv PA).length = _; exact List.take_length)) hPA.out
      exact hands_val (wanted_of rfl (by kernel_rfl) eg) (v := pgV PA) (w' := W) (by simp [execOp, e10, hr, Result.andThen]) (Fr.refl _ _) rfl
    case o8 =>
      intro A W hfr hbase hdep
      have e1 : A.eval (.tmp 1) = .int .u8 a := hbase 1 (by kernel_rfl)
      have f1 : A.tmps[1]?.getD undef = .int .u8 a := by simpa [Act.eval] using e1
      have eg : A.eval (.tmp 88) = .bool true := hdep 6 88 (by kernel_rfl) (by kernel_rfl)
      exact hands_val (wanted_of rfl (by kernel_rfl) eg) (v := .int .u8 a) (w' := W) (by simp [execOp, e1, f1]) (Fr.refl _ _) rfl
    case o9 =>
      intro A W hfr hbase hdep
      have e90 : A.eval (.tmp 90) = .int .u8 a := hdep 8 90 (by kernel_rfl) (by kernel_rfl)
      have f90 : A.tmps[90]?.getD undef = .int .u8 a := by simpa [Act.eval] using e90
      have eg : A.eval (.tmp 88) = .bool true := hdep 6 88 (by kernel_rfl) (by kernel_rfl)
      refine hands_call (wanted_of rfl (by kernel_rfl) eg) (args := #[.int .u8 a]) (f := 19) (by simp [execOp, resolve, invoke, go_sem, e90, f90]) ?_
      refine (full_any a W).mono ?_
      rw [HPA.out]
      rintro e w' ⟨rfl, hf'⟩
      exact ⟨_, rfl, hf', rfl⟩
    case o10 =>
      intro A W hfr hbase hdep
      have e89 : A.eval (.tmp 89) = pgV PA := hdep 7 89 (by kernel_rfl) (by kernel_rfl)
      have f89 : A.tmps[89]?.getD undef = pgV PA := by simpa [Act.eval] using e89
      have e91 : A.eval (.tmp 91) = pgV PA := hdep 9 91 (by kernel_rfl) (by kernel_rfl)
      have f91 : A.tmps[91]?.getD undef = pgV PA := by simpa [Act.eval] using e91
      have eg : A.eval (.tmp 88) = .bool true := hdep 6 88 (by kernel_rfl) (by kernel_rfl)
      have hr := run_eql_page W PA PA hPA.out hPA.out
      exact hands_val (wanted_of rfl (by kernel_rfl) eg) (v := .bool true) (w' := W) (by simp [execOp, e89, e91, hr, eqg_eql, Result.andThen]) (Fr.refl _ _) rfl
    case o11 =>
      intro A W hfr hbase hdep
      have e88 : A.eval (.tmp 88) = .bool true := hdep 6 88 (by kernel_rfl) (by kernel_rfl)
      have f88 : A.tmps[88]?.getD undef = .bool true := by simpa [Act.eval] using e88
      have e92 : A.eval (.tmp 92) = .bool true := hdep 10 92 (by kernel_rfl) (by kernel_rfl)
      have f92 : A.tmps[92]?.getD undef = .bool true := by simpa [Act.eval] using e92
      exact hands_val rfl (v := .bool true) (w' := W) (by simp [execOp, go_sem, e88, f88, e92, f92]) (Fr.refl _ _) rfl
    case o12 =>
      intro A W hfr hbase hdep
      have e93 : A.eval (.tmp 93) = .bool true := hdep 11 93 (by kernel_rfl) (by kernel_rfl)
      have f93 : A.tmps[93]?.getD undef = .bool true := by simpa [Act.eval] using e93
      exact hands_val rfl (v := .bool true) (w' := W) (by simp [execOp, e93, f93]) (Fr.refl _ _) rfl
    case o13 =>
      intro A W hfr hbase hdep
      have e12 : A.eval (.tmp 12) = .int .i64 0 := hbase 12 (by kernel_rfl)
      have f12 : A.tmps[12]?.getD undef = .int .i64 0 := by simpa [Act.eval] using e12
      have eg : A.eval (.tmp 94) = .bool true := hdep 12 94 (by kernel_rfl) (by kernel_rfl)
      exact hands_val (wanted_of rfl (by kernel_rfl) eg) (v := .int .i64 0) (w' := W) (by simp [execOp, e12, f12]) (Fr.refl _ _) rfl
    case o14 =>
      intro A W hfr hbase hdep
      have e95 : A.eval (.tmp 95) = .int .i64 0 := hdep 13 95 (by kernel_rfl) (by kernel_rfl)
      have f95 : A.tmps[95]?.getD undef = .int .i64 0 := by simpa [Act.eval] using e95
      have eg : A.eval (.tmp 94) = .bool true := hdep 12 94 (by kernel_rfl) (by kernel_rfl)
      exact hands_val (wanted_of rfl (by kernel_rfl) eg) (v := .bool true) (w' := W) (by simp [execOp, go_sem, e95, f95]) (Fr.refl _ _) rfl
    case o15 =>
      intro A W hfr hbase hdep
      have e94 : A.eval (.tmp 94) = .bool true := hdep 12 94 (by kernel_rfl) (by kernel_rfl)
      have f94 : A.tmps[94]?.getD undef = .bool true := by simpa [Act.eval] using e94
      have e96 : A.eval (.tmp 96) = .bool true := hdep 14 96 (by kernel_rfl) (by kernel_rfl)
      have f96 : A.tmps[96]?.getD undef = .bool true := by simpa [Act.eval] using e96
      exact hands_val rfl (v := .bool true) (w' := W) (by simp [execOp, go_sem, e94, f94, e96, f96]) (Fr.refl _ _) rfl
    case o16 =>
      intro A W hfr hbase hdep
      have e97 : A.eval (.tmp 97) = .bool true := hdep 15 97 (by kernel_rfl) (by kernel_rfl)
      have f97 : A.tmps[97]?.getD undef = .bool true := by simpa [Act.eval] using e97
      exact hands_val rfl (v := .bool true) (w' := W) (by simp [execOp, e97, f97]) (Fr.refl _ _) rfl
    case o17 =>
      intro A W hfr hbase hdep
      have e14 : A.eval (.tmp 14) = .int .i64 43 := hbase 14 (by kernel_rfl)
      have f14 : A.tmps[14]?.getD undef = .int .i64 43 := by simpa [Act.eval] using e14
      have eg : A.eval (.tmp 98) = .bool true := hdep 16 98 (by kernel_rfl) (by kernel_rfl)
      exact hands_val (wanted_of rfl (by kernel_rfl) eg) (v := .int .i64 43) (w' := W) (by simp [execOp, e14, f14]) (Fr.refl _ _) rfl
    case o18 =>
      intro A W hfr hbase hdep
      have e99 : A.eval (.tmp 99) = .int .i64 43 := hdep 17 99 (by kernel_rfl) (by kernel_rfl)
      have f99 : A.tmps[99]?.getD undef = .int .i64 43 := by simpa [Act.eval] using e99
      have eg : A.eval (.tmp 98) = .bool true := hdep 16 98 (by kernel_rfl) (by kernel_rfl)
      exact hands_val (wanted_of rfl (by kernel_rfl) eg) (v := .bool true) (w' := W) (by simp [execOp, go_sem, e99, f99]) (Fr.refl _ _) rfl
    case o19 =>
      intro A W hfr hbase hdep
      have e98 : A.eval (.tmp 98) = .bool true := hdep 16 98 (by kernel_rfl) (by kernel_rfl)
      have f98 : A.tmps[98]?.getD undef = .bool true := by simpa [Act.eval] using e98
      have e100 : A.eval (.tmp 100) = .bool true := hdep 18 100 (by kernel_rfl) (by kernel_rfl)
      have f100 : A.tmps[100]?.getD undef = .bool true := by simpa [Act.eval] using e100
      exact hands_val rfl (v := .bool true) (w' := W) (by simp [execOp, go_sem, e98, f98, e100, f100]) (Fr.refl _ _) rfl
    case o20 =>
      intro A W hfr hbase hdep
      have e101 : A.eval (.tmp 101) = .bool true := hdep 19 101 (by kernel_rfl) (by kernel_rfl)
      have f101 : A.tmps[101]?.getD undef = .bool true := by simpa [Act.eval] using e101
      exact hands_val rfl (v := .bool true) (w' := W) (by simp [execOp, e101, f101]) (Fr.refl _ _) rfl
    case o21 =>
      intro A W hfr hbase hdep
      have e15 : A.eval (.tmp 15) = .int .i64 0 := hbase 15 (by kernel_rfl)
      have f15 : A.tmps[15]?.getD undef = .int .i64 0 := by simpa [Act.eval] using e15
      have eg : A.eval (.tmp 102) = .bool true := hdep 20 102 (by kernel_rfl) (by kernel_rfl)
      exact hands_val (wanted_of rfl (by kernel_rfl) eg) (v := .int .i64 0) (w' := W) (by simp [execOp, e15, f15]) (Fr.refl _ _) rfl
    case o22 =>
      intro A W hfr hbase hdep
      have e103 : A.eval (.tmp 103) = .int .i64 0 := hdep 21 103 (by kernel_rfl) (by kernel_rfl)
      have f103 : A.tmps[103]?.getD undef = .int .i64 0 := by simpa [Act.eval] using e103
      have eg : A.eval (.tmp 102) = .bool true := hdep 20 102 (by kernel_rfl) (by kernel_rfl)
      exact hands_val (wanted_of rfl (by kernel_rfl) eg) (v := .bool true) (w' := W) (by simp [execOp, go_sem, e103, f103]) (Fr.refl _ _) rfl
    case o23 =>
      intro A W hfr hbase hdep
      have e102 : A.eval (.tmp 102) = .bool true := hdep 20 102 (by kernel_rfl) (by kernel_rfl)
      have f102 : A.tmps[102]?.getD undef = .bool true := by simpa [Act.eval] using e102
      have e104 : A.eval (.tmp 104) = .bool true := hdep 22 104 (by kernel_rfl) (by kernel_rfl)
      have f104 : A.tmps[104]?.getD undef = .bool true := by simpa [Act.eval] using e104
      exact hands_val rfl (v := .bool true) (w' := W) (by simp [execOp, go_sem, e102, f102, e104, f104]) (Fr.refl _ _) rfl
    case o24 =>
      intro A W hfr hbase hdep
      have e105 : A.eval (.tmp 105) = .bool true := hdep 23 105 (by kernel_rfl) (by kernel_rfl)
      have f105 : A.tmps[105]?.getD undef = .bool true := by simpa [Act.eval] using e105
      exact hands_val rfl (v := .bool true) (w' := W) (by simp [execOp, e105, f105]) (Fr.refl _ _) rfl
    case o25 =>
      intro A W hfr hbase hdep
      have e17 : A.eval (.tmp 17) = .int .i64 0 := hbase 17 (by kernel_rfl)
      have f17 : A.tmps[17]?.getD undef = .int .i64 0 := by simpa [Act.eval] using e17
      have eg : A.eval (.tmp 106) = .bool true := hdep 24 106 (by kernel_rfl) (by kernel_rfl)
      exact hands_val (wanted_of rfl (by kernel_rfl) eg) (v := .int .i64 0) (w' := W) (by simp [execOp, e17, f17]) (Fr.refl _ _) rfl
    case o26 =>
      intro A W hfr hbase hdep
      have e107 : A.eval (.tmp 107) = .int .i64 0 := hdep 25 107 (by kernel_rfl) (by kernel_rfl)
      have f107 : A.tmps[107]?.getD undef = .int .i64 0 := by simpa [Act.eval] using e107
      have eg : A.eval (.tmp 106) = .bool true := hdep 24 106 (by kernel_rfl) (by kernel_rfl)
      exact hands_val (wanted_of rfl (by kernel_rfl) eg) (v := .bool true) (w' := W) (by simp [execOp, go_sem, e107, f107]) (Fr.refl _ _) rfl
    case o27 =>
      intro A W hfr hbase hdep
      have e106 : A.eval (.tmp 106) = .bool true := hdep 24 106 (by kernel_rfl) (by kernel_rfl)
      have f106 : A.tmps[106]?.getD undef = .bool true := by simpa [Act.eval] using e106
      have e108 : A.eval (.tmp 108) = .bool true := hdep 26 108 (by kernel_rfl) (by kernel_rfl)
      have f108 : A.tmps[108]?.getD undef = .bool true := by simpa [Act.eval] using e108
      exact hands_val rfl (v := .bool true) (w' := W) (by simp [execOp, go_sem, e106, f106, e108, f108]) (Fr.refl _ _) rfl
    case o28 =>
      intro A W hfr hbase hdep
      have e109 : A.eval (.tmp 109) = .bool true := hdep 27 109 (by kernel_rfl) (by kernel_rfl)
      have f109 : A.tmps[109]?.getD undef = .bool true := by simpa [Act.eval] using e109
      exact hands_val rfl (v := .bool true) (w' := W) (by simp [execOp, e109, f109]) (Fr.refl _ _) rfl
    case o29 =>
      intro A W hfr hbase hdep
      have e16 : A.eval (.tmp 16) = .pointer (some ⟨gq, 0, none⟩) := hbase 16 (by kernel_rfl)
      have f16 : A.tmps[16]?.getD undef = .pointer (some ⟨gq, 0, none⟩) := by simpa [Act.eval] using e16
      have eg : A.eval (.tmp 110) = .bool true := hdep 28 110 (by kernel_rfl) (by kernel_rfl)
      have hB := (bq).fr0 hfr
      have hr := run_loadP W gq 0 PB (hB.range 0 (pgv PB) (by show (pgv PB).take (pgv PB).length = _; exact List.take_length)) hPB.out
      exact hands_val (wanted_of rfl (by kernel_rfl) eg) (v := pgV PB) (w' := W) (by simp [execOp, e16, hr, Result.andThen]) (Fr.refl _ _) rfl
    case o30 =>
      intro A W hfr hbase hdep
      have e2 : A.eval (.tmp 2) = .int .u8 b := hbase 2 (by kernel_rfl)
      have f2 : A.tmps[2]?.getD undef = .int .u8 b := by simpa [Act.eval] using e2
      have eg : A.eval (.tmp 110) = .bool true := hdep 28 110 (by kernel_rfl) (by kernel_rfl)
      exact hands_val (wanted_of rfl (by kernel_rfl) eg) (v := .int .u8 b) (w' := W) (by simp [execOp, e2, f2]) (Fr.refl _ _) rfl
    case o31 =>
      intro A W hfr hbase hdep
      have e112 : A.eval (.tmp 112) = .int .u8 b := hdep 30 112 (by kernel_rfl) (by kernel_rfl)
      have f112 : A.tmps[112]?.getD undef = .int .u8 b := by simpa [Act.eval] using e112
      have eg : A.eval (.tmp 110) = .bool true := hdep 28 110 (by kernel_rfl) (by kernel_rfl)
      refine hands_call (wanted_of rfl (by kernel_rfl) eg) (args := #[.int .u8 b]) (f := 19) (by simp [execOp, resolve, invoke, go_sem, e112, f112]) ?_
      refine (full_any b W).mono ?_
      rw [HPB.out]
      rintro e w' ⟨rfl, hf'⟩
      exact ⟨_, rfl, hf', rfl⟩
    case o32 =>
      intro A W hfr hbase hdep
      have e111 : A.eval (.tmp 111) = pgV PB := hdep 29 111 (by kernel_rfl) (by kernel_rfl)
      have f111 : A.tmps[111]?.getD undef = pgV PB := by simpa [Act.eval] using e111
      have e113 : A.eval (.tmp 113) = pgV PB := hdep 31 113 (by kernel_rfl) (by kernel_rfl)
      have f113 : A.tmps[113]?.getD undef = pgV PB := by simpa [Act.eval] using e113
      have eg : A.eval (.tmp 110) = .bool true := hdep 28 110 (by kernel_rfl) (by kernel_rfl)
      have hr := run_eql_page W PB PB hPB.out hPB.out
      exact hands_val (wanted_of rfl (by kernel_rfl) eg) (v := .bool true) (w' := W) (by simp [execOp, e111, e113, hr, eqg_eql, Result.andThen]) (Fr.refl _ _) rfl
    case o33 =>
      intro A W hfr hbase hdep
      have e110 : A.eval (.tmp 110) = .bool true := hdep 28 110 (by kernel_rfl) (by kernel_rfl)
      have f110 : A.tmps[110]?.getD undef = .bool true := by simpa [Act.eval] using e110
      have e114 : A.eval (.tmp 114) = .bool true := hdep 32 114 (by kernel_rfl) (by kernel_rfl)
      have f114 : A.tmps[114]?.getD undef = .bool true := by simpa [Act.eval] using e114
      exact hands_val rfl (v := .bool true) (w' := W) (by simp [execOp, go_sem, e110, f110, e114, f114]) (Fr.refl _ _) rfl
    case o34 =>
      intro A W hfr hbase hdep
      have e115 : A.eval (.tmp 115) = .bool true := hdep 33 115 (by kernel_rfl) (by kernel_rfl)
      have f115 : A.tmps[115]?.getD undef = .bool true := by simpa [Act.eval] using e115
      exact hands_val rfl (v := .bool true) (w' := W) (by simp [execOp, e115, f115]) (Fr.refl _ _) rfl
    case oe =>
      intro vs W' hfW hall
      have x0 : vs 0 = .int .i64 43 := hall 0 (by rfl)
      have x1 : vs 1 = .bool true := hall 1 (by rfl)
      have x2 : vs 2 = .bool true := hall 2 (by rfl)
      have x3 : vs 3 = .int .i64 0 := hall 3 (by rfl)
      have x4 : vs 4 = .bool true := hall 4 (by rfl)
      have x5 : vs 5 = .bool true := hall 5 (by rfl)
      have x6 : vs 6 = .bool true := hall 6 (by rfl)
      have x7 : vs 7 = pgV PA := hall 7 (by rfl)
      have x8 : vs 8 = .int .u8 a := hall 8 (by rfl)
      have x9 : vs 9 = pgV PA := hall 9 (by rfl)
      have x10 : vs 10 = .bool true := hall 10 (by rfl)
      have x11 : vs 11 = .bool true := hall 11 (by rfl)
      have x12 : vs 12 = .bool true := hall 12 (by rfl)
      have x13 : vs 13 = .int .i64 0 := hall 13 (by rfl)
      have x14 : vs 14 = .bool true := hall 14 (by rfl)
      have x15 : vs 15 = .bool true := hall 15 (by rfl)
      have x16 : vs 16 = .bool true := hall 16 (by rfl)
      have x17 : vs 17 = .int .i64 43 := hall 17 (by rfl)
      have x18 : vs 18 = .bool true := hall 18 (by rfl)
      have x19 : vs 19 = .bool true := hall 19 (by rfl)
      have x20 : vs 20 = .bool true := hall 20 (by rfl)
      have x21 : vs 21 = .int .i64 0 := hall 21 (by rfl)
      have x22 : vs 22 = .bool true := hall 22 (by rfl)
      have x23 : vs 23 = .bool true := hall 23 (by rfl)
      have x24 : vs 24 = .bool true := hall 24 (by rfl)
      have x25 : vs 25 = .int .i64 0 := hall 25 (by rfl)
      have x26 : vs 26 = .bool true := hall 26 (by rfl)
      have x27 : vs 27 = .bool true := hall 27 (by rfl)
      have x28 : vs 28 = .bool true := hall 28 (by rfl)
      have x29 : vs 29 = pgV PB := hall 29 (by rfl)
      have x30 : vs 30 = .int .u8 b := hall 30 (by rfl)
      have x31 : vs 31 = pgV PB := hall 31 (by rfl)
      have x32 : vs 32 = .bool true := hall 32 (by rfl)
      have x33 : vs 33 = .bool true := hall 33 (by rfl)
      have x34 : vs 34 = .bool true := hall 34 (by rfl)
      simp only [layL, Nat.reduceAdd, x0, x1, x2, x3, x4, x5, x6, x7, x8, x9, x10, x11, x12, x13, x14, x15, x16, x17, x18, x19, x20, x21, x22, x23, x24, x25, x26, x27, x28, x29, x30, x31, x32, x33, x34, Act.put, List.setIfInBounds_toArray, List.set_cons_zero, List.set_cons_succ]
      clear x0 x1 x2 x3 x4 x5 x6 x7 x8 x9 x10 x11 x12 x13 x14 x15 x16 x17 x18 x19 x20 x21 x22 x23 x24 x25 x26 x27 x28 x29 x30 x31 x32 x33 x34 hall
      go_wp2
      go_ret
      exact ⟨rfl, (G22.thenN hfW).below⟩
  · have t : ¬ (at' < 0) → 9 < at' := by omega
    by_cases h0 : at' < 0
    · go_enter Try.func7, Try.ntmps7
      go_wp2_with (first
        | (go_at_call 13; go_must (refine (alive_any _).mono ?_; rintro e w0 ⟨rfl, f0⟩)))
      go_ret
      exact ⟨rfl, f0.below⟩
    · have h9 := t h0
      go_enter Try.func7, Try.ntmps7
      go_wp2_with (first
        | (go_at_call 13; go_must (refine (alive_any _).mono ?_; rintro e w0 ⟨rfl, f0⟩)))
      go_ret
      exact ⟨rfl, f0.below⟩
end Go.Proofs.Ytejjfpdcmaefiaa
