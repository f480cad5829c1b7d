/- The document's disk: Put. -/
import Derived.Test.YtejjfpdcmaefiaaP5
import Derived.Test.YtejjfpdcmaefiaaBD
namespace Go.Proofs.Ytejjfpdcmaefiaa
open Go.RowKit Go.Proofs.U
set_option linter.unusedSimpArgs false
set_option linter.unusedVariables false

theorem zero_write : (Try.prog.info? 79).map (·.zero) = some (some (.agg (encW (0, zeroP)).toArray)) := by kernel_rfl
theorem info_write : (Try.prog.info? 79).map (fun i => (i.zero, i.size, i.bytes)) = some (some (.agg (encW (0, zeroP)).toArray), 257, 264) := by kernel_rfl
theorem info_write2 : (Try.prog.info? 79).map (fun i => (i.zero, i.size)) = some (some (.agg (encW (0, zeroP)).toArray), 257) := by kernel_rfl
theorem size_swrite : (Try.prog.info? 37).map (·.size) = some 1 := by kernel_rfl
theorem places_write : (Try.prog.fieldsOf 79).toList.mapM (fun f => (Try.prog.info? f.type).map fun i => (f.offset, i.size)) = some [(0, 1), (1, 256)] := by kernel_rfl
theorem under_write : Try.prog.underlying 79 = some (.struct (Try.prog.fieldsOf 79)) := by kernel_rfl
theorem encW_len (x : Int × List Int) (h : x.2.length = 256) : (encW x).length = 257 := by simp [encW, pgv_len, h]
theorem encW_one (x : Int × List Int) : ∀ u ∈ encW x, u.oneCell' = true := by
  intro u hu
  rcases List.mem_cons.1 hu with rfl | hu
  · rfl
  · exact pgv_one _ u hu
theorem built_write (i : Int) (p : List Int) (hp : p.length = 256) : Try.prog.built 79 [(0, .int .i64 i), (1, pgV p)] = some (encW (i, p)).toArray := by
  have hz : (encW (0, zeroP)).length = 257 := encW_len _ zeroP_len
  rw [built_struct _ _ under_write _ zero_write _ places_write]
  rw [fill_put _ _ 0 0 1 (.int .i64 i) [.int .i64 i] rfl rfl rfl (by rw [hz]; decide)]
  rw [fill_put _ _ 1 1 256 (pgV p) (pgv p) rfl rfl (by rw [pgv_len, hp]) (by unfold putAt; simp [hz])]
  unfold Instr.fill
  congr 2
  unfold putAt encW
  simp [pgv_len, hp, zeroP_len]

section
variable {w : World} {ops : Array Oper} {rest : List Oper} {o : Oper} {a : Act} {Q : Exit → Act → World → Prop}
theorem wpList_buildW (hgd : Region.wanted o (yielded ops a.tmps) = true) (x y : Operand) (ho : o.op = .build 79 #[(0, x), (1, y)]) (i : Int) (p : List Int) (hx : a.eval x = .int .i64 i) (hy : a.eval y = pgV p) (hp : p.length = 256)
    (h : wpList Try.prog ops Q rest (a.put o.dst (.agg (encW (i, p)).toArray)) w) : wpList Try.prog ops Q (o :: rest) a w := by
  refine wpList_wanted hgd fun K hK => ?_
  have hrun := run_build (P := Try.prog) w 79 #[(0, .int .i64 i), (1, pgV p)] _ (built_write i p hp)
  unfold Oper.wp
  simp [execOp, ho, hx, hy, hrun, Result.andThen]
  exact hK _ _ h
end

set_option maxRecDepth 100000 in
set_option maxHeartbeats 2000000 in
theorem rput4_any (v1 v2 v3 : Value) (n : Nat) (a1 : Option Addr) (c1 : Nat) (hv1 : v1 = .slice a1 n c1) (hsl2 : isSl v2) (pend : List (Int × List Int)) (c : Bool) (l : Int) (hl : c = true → -9223372036854775808 < l ∧ l ≤ 9223372036854775807) (d : Bool) (i : Int) (p : List Int) (hp : p.length = 256) (w : World)
    (h3 : SlWr w v3 pend) (hm : pend.length ≤ 100000) :
    Calls Try.prog 20 #[dkV v1 v2 v3 c l d, .int .i64 i, pgV p] w fun r w' => ∃ v3',
      r = .returned (.tuple #[dkV v1 v2 v3' c (if inR n i then (actR c l d).1 else l) (if inR n i then (actR c l d).2.1 else d), .int .i64 (if inR n i then (actR c l d).2.2 else 41)]) ∧
      SlWr w' v3' (if inR n i && (actR c l d).2.2 == 0 then pend ++ [(i, p)] else pend) ∧ Fr noB w w' ∧ nwB w w' v3 v3' := by
  subst hv1
  have hsl1 := isSl_mk a1 n c1
  have hsl3 := SlR.isSl h3
  obtain ⟨a3, c3', rfl, hc3⟩ := h3.opn
  have Hp := show Hid _ from hp
  clear hp
  cases hin : inR n i with
  | false =>
    have ht : (decide (0 ≤ i) && decide (i < (n : Int))) = false := hin
    simp only [Bool.false_eq_true, if_false, Bool.false_and]
    go_enter Try.func20, Try.ntmps20
    go_wp2_with (first
      | (with_reducible refine at_wpP ?_; refine wpList_boxV rfl 39 _ rfl (dkL (.slice a1 n c1) v2 (.slice a3 pend.length c3') c l d) rfl ?_; intro g1 w1 hg1 b1 f1 s1; have z1 := f1.size)
      | (with_reducible refine at_wpP ?_; refine wpList_boxV rfl 25 _ rfl (pgv p) rfl ?_; intro g5 w5 hg5 p5 f5 s5; have b5 := b1.fr0 f5; have l1 := b1.lt; have l5 := p5.lt)
      | (with_reducible refine at_wpP ?_; refine wpList_allocD rfl rfl ?_; intro g2 w2 hg2 b2 f2 s2; have e2 := b5.fr0 f2; have p2 := p5.fr0 f2; have l2 := b2.lt; have F2 := (f1.thenN f5).thenN f2)
      | (go_at_call 35; go_must (refine (there_any _ _ _ _ _ _ _ _ _ _).mono ?_; rintro e w3 ⟨rfl, f3⟩; have b3 := b2.fr0 f3; have e3 := e2.fr0 f3; have p3 := p2.fr0 f3; have F3 := F2.thenN f3))
      | (with_reducible refine at_wpP ?_; refine wpList_ldD rfl _ rfl g1 rfl _ _ _ c l d e3 ?_)
      | (with_reducible refine at_wpP ?_; refine wpList_ldD rfl _ rfl g1 rfl _ _ _ c l d e2 ?_)
      | (with_reducible refine at_wpP ?_; refine at_st 39 _ _ rfl ?_; refine wpList_stD rfl _ _ rfl g2 rfl _ _ _ c l d rfl _ b3 rfl hsl1 hsl2 hsl3 ?_; intro w8 b8 f8))
    have F8 := F3.thenT (S := noB) f8 (fun i hi q => by unfold onB1 at q; omega)
    exact bodyPost_ret (v := .tuple #[dkV (.slice a1 n c1) v2 (.slice a3 pend.length c3') c l d, .int .i64 41]) (results_disk2 Try.results20 _ w8 g2 _ _ _ c l d rfl b8) rfl ⟨_, rfl, h3.fr0 F8, F8, fun q h => Or.inl h⟩
  | true =>
    have ht : (decide (0 ≤ i) && decide (i < (n : Int))) = true := hin
    simp only [if_true, Bool.true_and]
    obtain ⟨⟨L', D', E'⟩, Hact⟩ : ∃ t, Hid (actR c l d = t) := ⟨_, rfl⟩
    rw [Hact.out]
    simp only
    by_cases he : E' = 0
    · subst he
      simp only [BEq.rfl, if_true]
      go_enter Try.func20, Try.ntmps20
      go_wp2_with (first
      | (with_reducible refine at_wpP ?_; refine wpList_boxV rfl 39 _ rfl (dkL (.slice a1 n c1) v2 (.slice a3 pend.length c3') c l d) rfl ?_; intro g1 w1 hg1 b1 f1 s1; have z1 := f1.size)
      | (with_reducible refine at_wpP ?_; refine wpList_boxV rfl 25 _ rfl (pgv p) rfl ?_; intro g5 w5 hg5 p5 f5 s5; have b5 := b1.fr0 f5; have l1 := b1.lt; have l5 := p5.lt)
      | (with_reducible refine at_wpP ?_; refine wpList_allocD rfl rfl ?_; intro g2 w2 hg2 b2 f2 s2; have e2 := b5.fr0 f2; have p2 := p5.fr0 f2; have l2 := b2.lt; have F2 := (f1.thenN f5).thenN f2)
      | (go_at_call 35; go_must (refine (there_any _ _ _ _ _ _ _ _ _ _).mono ?_; rintro e w3 ⟨rfl, f3⟩; have b3 := b2.fr0 f3; have e3 := e2.fr0 f3; have p3 := p2.fr0 f3; have F3 := F2.thenN f3))
      | (with_reducible refine at_wpP ?_; refine wpList_ldD rfl _ rfl g1 rfl _ _ _ c l d e3 ?_)
      | (with_reducible refine at_wpP ?_; refine wpList_ldD rfl _ rfl g1 rfl _ _ _ c l d e2 ?_)
      | (go_at_call 36; go_must (refine (ract_any _ _ _ hsl1 hsl2 hsl3 c l hl d _).mono ?_; rw [Hact.out]; rintro e w4 ⟨rfl, f4⟩; have b4 := b3.fr0 f4; have e4 := e3.fr0 f4; have p4 := p3.fr0 f4; have F4 := F3.thenN f4))
      | (with_reducible refine at_wpP ?_; refine at_st 39 _ _ rfl ?_; refine wpList_stD rfl _ _ rfl g1 rfl _ _ _ c L' D' rfl _ e4 rfl hsl1 hsl2 hsl3 ?_; intro w6 e6 f6; have b6 := b4.ne f6 (by omega); have p6 := p4.ne f6 (by omega); have F6 := F4.thenT (S := noB) f6 (fun i hi q => by unfold onB1 at q; omega))
      | (with_reducible refine at_wpP ?_; refine wpList_mk0 encW 257 rfl 37 rfl 79 Try.underlying37 write_size ?_; intro g7 w7 o7 f7 s7 t7; have b7 := b6.fr0 f7; have e7 := e6.fr0 f7; have p7 := p6.fr0 f7; have F7 := F6.thenN f7; have z6 := F6.size; have m1 := e6.lt; have m2 := b6.lt; have m3 := p6.lt; obtain ⟨k0, k1, k2, k3, k4, k5⟩ := e7.six)
      | (at_builtin; have o9' := o9; go_must (refine wpList_appR (ec := encW) (sz := 257) rfl _ _ 37 rfl w6.heap.size 79 _ 264 Try.underlying37 info_write (by simp [Value.cells, encW, pgv_len, zeroP_len]) (by decide) _ pend rfl o10 _ [(i, p)] rfl s10 (by intro y hy u hu; exact encW_one y u hu) ?hr1 ?hr2 ?hr3 ?_; rotate_left 3; intro v11 w11 o11 hg11; have hg11 : w10.grownBy w11 v9.ownBlock := hg11; have f11 : Fr (fun k => v9.ownBlock = some k) w10 w11 := (Fr.refl _ _).grown hg11 (fun k hk _ => hk); have b11 := b10.fr f11 (fun q => by have := (o10.newB g2 q).1; omega); have e11 := e10.fr f11 (fun q => by have := (o10.newB g1 q).1; omega); have F11 := F10.thenT (S := noB) f11 (fun k hk q => by have := (o10.newB k q).1; omega); obtain ⟨X, HX⟩ : ∃ X, Hid (pend ++ [(i, p)] = X) := ⟨_, rfl⟩; rw [HX.out] at o11; obtain ⟨a11, c11, rfl⟩ := o11.opn; have nb11 := o11.newB))
      | (at_builtin; go_must (refine wpList_appR (ec := encW) (sz := 257) rfl _ _ 37 rfl w6.heap.size 79 _ 264 Try.underlying37 info_write (by simp [Value.cells, encW, pgv_len, zeroP_len]) (by decide) _ [] rfl o7 _ pend rfl (h3.fr0 F7) (by intro y hy u hu; exact encW_one y u hu) ?hq1 ?hq2 ?hq3 ?_; rotate_left 3; intro v9 w9 o9 hg9; rw [List.nil_append] at o9; have hg9 : w7.grownBy w9 (some g7) := hg9; have f9 : Fr (onB1 g7) w7 w9 := (Fr.refl _ _).grown hg9 (fun k hk _ => (Option.some.inj hk).symm); have F9 := F7.thenT (S := noB) f9 (fun i hi q => by unfold onB1 at q; omega); have b9 := b7.ne f9 (by omega); have e9 := e7.ne f9 (by omega); have p9 := p7.ne f9 (by omega); have hnb9 := o9.newB))
      | (with_reducible refine at_wpP ?_; refine wpList_loadP rfl _ rfl g5 rfl _ p9 Hp.out ?_)
      | (with_reducible refine at_wpP ?_; refine wpList_buildW rfl _ _ rfl i p rfl rfl Hp.out ?_)
      | (with_reducible refine at_wpP ?_; refine wpList_mk1 (ec := encW) (sz := 257) rfl 37 _ rfl 79 Try.underlying37 _ info_write2 (by decide) (by decide) (i, p) _ rfl rfl (encW_len _ Hp.out) ?_; intro g10 w10 s10 f10 r10 t10; have b10 := b9.fr0 f10; have e10 := e9.fr0 f10; have o10 := o9.fr0 f10; have F10 := F9.thenN f10)
      | (with_reducible refine at_wpP ?_; refine at_st 37 _ _ rfl ?_; go_must (refine wpList_store1 rfl 37 _ _ rfl g1 2 rfl (.slice a11 X.length c11) rfl rfl _ _ e11 size_swrite (by simp) ?_; intro w12 e12 f12; have e12 : BxV w12 g1 39 (dkL (.slice a1 n c1) v2 (.slice a11 X.length c11) c L' D') := (by simpa using e12); have b12 := b11.ne f12 (by omega); have F12 := F11.thenT (S := noB) f12 (fun i hi q => by unfold onB1 at q; omega)))
      | (with_reducible refine at_wpP ?_; refine wpList_ldD rfl _ rfl g1 rfl _ _ _ c L' D' e12 ?_)
      | (with_reducible refine at_wpP ?_; refine at_st 39 _ _ rfl ?_; have b12' := b12; go_must (refine wpList_stD rfl _ _ rfl g2 rfl _ _ _ c L' D' rfl _ b12 rfl hsl1 hsl2 (isSl_mk _ _ _) ?_; intro w13 b13 f13)))
      case hq1 => unfold maxLen; simp; omega
      case hq2 => simp; omega
      case hq3 => exact f7.size
      case hr1 => unfold maxLen; simp; omega
      case hr2 => simp; omega
      case hr3 => have := F10.size; have := f7.size; have := f9.size; have := f10.size; omega
      have F13 := F12.thenT (S := noB) f13 (fun i hi q => by unfold onB1 at q; omega)
      have o13 := (o11.ne f12 (fun k hk => by have := (nb11 k hk).1; omega)).ne f13 (fun k hk => by have := (nb11 k hk).1; omega)
      refine bodyPost_ret (v := .tuple #[dkV (.slice a1 n c1) v2 (.slice a11 X.length c11) c L' D', .int .i64 0]) (results_disk2 Try.results20 _ w13 g2 _ _ _ c L' D' rfl b13) rfl ⟨_, rfl, ?_, F13, fun q h => Or.inr ⟨by have := (o13.newB q h).1; have := F6.size; omega, (o13.newB q h).2⟩⟩
      rw [HX.out]
      exact o13.sl
    · have heb : (E' == 0) = false := by simpa using he
      rw [heb]
      simp only [Bool.false_eq_true, if_false]
      go_enter Try.func20, Try.ntmps20
      go_wp2_with (first
      | (with_reducible refine at_wpP ?_; refine wpList_boxV rfl 39 _ rfl (dkL (.slice a1 n c1) v2 (.slice a3 pend.length c3') c l d) rfl ?_; intro g1 w1 hg1 b1 f1 s1; have z1 := f1.size)
      | (with_reducible refine at_wpP ?_; refine wpList_boxV rfl 25 _ rfl (pgv p) rfl ?_; intro g5 w5 hg5 p5 f5 s5; have b5 := b1.fr0 f5; have l1 := b1.lt; have l5 := p5.lt)
      | (with_reducible refine at_wpP ?_; refine wpList_allocD rfl rfl ?_; intro g2 w2 hg2 b2 f2 s2; have e2 := b5.fr0 f2; have p2 := p5.fr0 f2; have l2 := b2.lt; have F2 := (f1.thenN f5).thenN f2)
      | (go_at_call 35; go_must (refine (there_any _ _ _ _ _ _ _ _ _ _).mono ?_; rintro e w3 ⟨rfl, f3⟩; have b3 := b2.fr0 f3; have e3 := e2.fr0 f3; have p3 := p2.fr0 f3; have F3 := F2.thenN f3))
      | (with_reducible refine at_wpP ?_; refine wpList_ldD rfl _ rfl g1 rfl _ _ _ c l d e3 ?_)
      | (with_reducible refine at_wpP ?_; refine wpList_ldD rfl _ rfl g1 rfl _ _ _ c l d e2 ?_)
      | (go_at_call 36; go_must (refine (ract_any _ _ _ hsl1 hsl2 hsl3 c l hl d _).mono ?_; rw [Hact.out]; rintro e w4 ⟨rfl, f4⟩; have b4 := b3.fr0 f4; have e4 := e3.fr0 f4; have p4 := p3.fr0 f4; have F4 := F3.thenN f4))
      | (with_reducible refine at_wpP ?_; refine at_st 39 _ _ rfl ?_; refine wpList_stD rfl _ _ rfl g1 rfl _ _ _ c L' D' rfl _ e4 rfl hsl1 hsl2 hsl3 ?_; intro w6 e6 f6; have b6 := b4.ne f6 (by omega); have p6 := p4.ne f6 (by omega); have F6 := F4.thenT (S := noB) f6 (fun i hi q => by unfold onB1 at q; omega))
      | (with_reducible refine at_wpP ?_; refine wpList_ldD rfl _ rfl g1 rfl _ _ _ c L' D' e6 ?_)
      | (with_reducible refine at_wpP ?_; refine at_st 39 _ _ rfl ?_; refine wpList_stD rfl _ _ rfl g2 rfl _ _ _ c L' D' rfl _ b6 rfl hsl1 hsl2 hsl3 ?_; intro w8 b8 f8))
      have F8 := F6.thenT (S := noB) f8 (fun i hi q => by unfold onB1 at q; omega)
      exact bodyPost_ret (v := .tuple #[dkV (.slice a1 n c1) v2 (.slice a3 pend.length c3') c L' D', .int .i64 E']) (results_disk2 Try.results20 _ w8 g2 _ _ _ c L' D' rfl b8) rfl ⟨_, rfl, h3.fr0 F8, F8, fun q h => Or.inl h⟩
end Go.Proofs.Ytejjfpdcmaefiaa
