/- Texts H16, H17 of the proof of NodesExact, one behind the other. -/
import Derived.Test.YtamfnjliikiifaaBundleNodesExact1
import Derived.Test.YtamfnjliikiifaaBundleNodesExact2
import Derived.Test.YtamfnjliikiifaaBundleNodesExact3
import Derived.Test.YtamfnjliikiifaaBundleNodesExact4
import Derived.Test.YtamfnjliikiifaaBundleNodesExact5
import Derived.Test.YtamfnjliikiifaaBundleNodesExact6
import Derived.Test.YtamfnjliikiifaaBundleNodesExact7
import Derived.Test.YtamfnjliikiifaaBundleNodesExact8
import Derived.Test.YtamfnjliikiifaaBundleNodesExact9
import Derived.Test.YtamfnjliikiifaaBundleNodesExact10
import Derived.Test.YtamfnjliikiifaaBundleNodesExact11
import Derived.Test.YtamfnjliikiifaaBundleNodesExact12
import Derived.Test.YtamfnjliikiifaaBundleNodesExact13
import Derived.Test.YtamfnjliikiifaaBundleNodesExact14
import Derived.Test.YtamfnjliikiifaaBundleNodesExact15
import Derived.Test.YtamfnjliikiifaaBundleNodesExact16
import Derived.Test.YtamfnjliikiifaaBundleNodesExact17
import Derived.Test.YtamfnjliikiifaaBundleNodesExact18
import Derived.Test.YtamfnjliikiifaaBundleNodesExact19
import Derived.Test.YtamfnjliikiifaaBundleNodesExact20
/- A world: make. (Written by h16_gen.py.) -/
namespace Go.Proofs.Ytamfnjliikiifaa
open Go.RowKit Go.Proofs.U Go.Shelf Go.Maps
set_option linter.unusedSimpArgs false
set_option linter.unusedVariables false
theorem Wd.lay {w w' : World} {F F' : Nat → Prop} {gs gp gw base : Nat} {rv : Value} {X X' : DSt} {L L' : List Pg} {m m' : Nat} {R : List Int} (h : Wd w F gs gp gw base rv X L m R) (f : Fr (stB F gp) w w') (s : Sto w' F' gs gp X' L' m') (hF : ∀ k, F' k → F k ∨ w.heap.size ≤ k) : Wd w' F' gs gp gw base rv X' L' m' R :=
  { h with
    st := s
    bx := h.bx.fr f (fun q => by rcases q with q | q; exact h.fw q; exact h.np q)
    row := h.row.fr f (fun k hk q => by rcases q with q | q; exact (h.ap k hk).1 q; exact (h.ap k hk).2.1 q)
    fw := fun q => by rcases hF _ q with q | q; exact h.fw q; have := h.bx.lt; omega
    ap := fun k hk => ⟨fun q => by rcases hF _ q with q | q; exact (h.ap k hk).1 q; have := (h.row.newB k hk).2; omega, (h.ap k hk).2⟩ }
theorem Wd.app {w w' : World} {F : Nat → Prop} {gs gp gw base : Nat} {rv rv' : Value} {X : DSt} {L : List Pg} {m : Nat} {R R' : List Int} (h : Wd w F gs gp gw base rv X L m R) (f : Fr (fun k => rv.ownBlock = some k ∨ k = gw) w w') (b : BxV w' gw 41 [ptr gs, rv']) (o : OwnR en64 1 3 w' base rv' R')
    (n : ∀ k, rv'.ownBlock = some k → (rv.ownBlock = some k ∨ w.heap.size ≤ k)) (hwf : ∀ x ∈ R', (Lit.int .i64 x).wf = true) : Wd w' F gs gp gw base rv' X L m R' :=
  { h with
    st := h.st.fr f (fun k hk q p => by
      rcases p with p | p
      · rcases q with q | q | q
        · exact (h.ap k p).1 q
        · exact (h.ap k p).2.1 q
        · exact (h.ap k p).2.2.1 q
      · subst p
        rcases q with q | q | q
        · exact h.fw q
        · exact h.np q
        · exact h.ns q)
    bx := b
    row := o
    wf := hwf
    ap := fun k hk => by
      rcases n k hk with q | q
      · exact h.ap k q
      · have h1 := h.st.ft k
        have h2 := h.st.ltp
        have h3 := h.st.lts
        have h4 := h.bx.lt
        exact ⟨fun p => by have := h1 p; omega, by omega, by omega, by omega⟩ }
def WMk (w w' : World) (F : Nat → Prop) (gs gp gw base : Nat) (rv : Value) (S : (DSt × List Pg × List Int) × Int) (m : Nat) (r : Ending) : Prop :=
  ∃ F' rv', r = .returned (.int .i64 S.2) ∧ Wd w' F' gs gp gw base rv' S.1.1 S.1.2.1 (m + 2) S.1.2.2 ∧ (∀ k, F' k → F k ∨ w.heap.size ≤ k) ∧ (∀ k, rv'.ownBlock = some k → (rv.ownBlock = some k ∨ w.heap.size ≤ k)) ∧ Fr (wdB F gp gw rv) w w'
theorem size_sE : (Try.prog.info? 26).map (·.size) = some 1 := by kernel_rfl
theorem size_sI : (Try.prog.info? 39).map (·.size) = some 1 := by kernel_rfl
theorem stB_wdB {F : Nat → Prop} {gp gw : Nat} {rv : Value} : ∀ k, stB F gp k → wdB F gp gw rv k := fun k q => by
  rcases q with q | q
  · exact Or.inl q
  · exact Or.inr (Or.inl q)
set_option maxRecDepth 100000 in
set_option maxHeartbeats 8000000 in
theorem wmake_any {F : Nat → Prop} {gs gp gw base : Nat} {rv : Value} {X : DSt} {L : List Pg} {m : Nat} {R : List Int} (x : ActH) (w : World) (h : Wd w F gs gp gw base rv X L m R) (hm : m ≤ 90000) (hRl : R.length ≤ 1000) (hbs : base ≤ w.heap.size) (hbl : x.blk.length = 16) (hby : Byt x.blk) (hkl : x.keys.length ≤ maxLen)
    (hK : ∀ w', Fr (wdB F gp gw rv) w w' → SlI .i64 w' x.kv x.keys) :
    Calls Try.prog 14 #[ptr gw, .agg (encH x).toArray] w fun r w' => WMk w w' F gs gp gw base rv (wmk X L R x.keys x.blk) m r := by
  obtain ⟨kind, at', kv, keys, blk⟩ := x
  simp only at hK hbl hby hkl ⊢
  have hkl : keys.length ≤ 9223372036854775807 := by unfold maxLen at hkl; omega
  obtain ⟨ak, ck, rfl, hck⟩ := (hK w (Fr.refl _ _)).opn
  have hrow := h.row
  obtain ⟨ar, cr, rfl⟩ := hrow.opn
  have Hb := show Hid _ from hbl
  have hnA : ∀ W, NdS W nilS (ndA blk) := fun W => ⟨⟨⟨by simp [ndA], Sl.nil W 2⟩, by simp [ndA]⟩, ⟨hbl, hby⟩, by simp [ndA], rfl⟩
  have hr3 : Hid (((encH ⟨kind, at', .slice ak keys.length ck, keys, blk⟩).drop 3).take (pgv blk).length = pgv blk) := by
    show (pgv blk).take (pgv blk).length = pgv blk
    exact List.take_length
  clear hbl
  have hs := h.st
  have lts := hs.lts
  have ltp := hs.ltp
  have lgw := h.bx.lt
  have hft := hs.ft
  have hnp := h.np
  have hns := h.ns
  have hwf := h.wf
  have hokM := mark_ok hs.ok
  have hlM := show Hid _ from mark_len L
  obtain ⟨k0, k1⟩ := wd_cells h
  have nsw : ¬ stB F gp gw := fun q => by rcases q with q | q; exact h.fw q; exact h.np q
  have hmark := fun W (s : Sto W F gs gp X L m) => nmark_any W s
  have hbd := show Hid _ from built_ndB 1 blk Hb.out
  obtain ⟨M, HM⟩ : ∃ M, Hid (plMark L = M) := ⟨_, rfl⟩
  obtain ⟨X1, L1, pg, e1, hmk1⟩ : ∃ X1 L1 pg e1, makeF X M (ndA blk) = ((X1, L1), pg, e1) := ⟨_, _, _, _, rfl⟩
  have hW1 : ¬ e1 = 0 → wmk X L R keys blk = ((X1, M, R), e1) := fun q => by rw [← HM.out] at hmk1 ⊢; exact wmk_1 hmk1 q
  have hW2 : ∀ {X2 L2 rt e2}, e1 = 0 → makeF X1 L1 (ndW R keys pg) = ((X2, L2), rt, e2) → ¬ e2 = 0 → wmk X L R keys blk = ((X2, M, R), e2) := fun q a b => by subst q; rw [← HM.out] at hmk1 ⊢; exact wmk_2 hmk1 a b
  have hW3 : ∀ {X2 L2 rt L3 e3}, e1 = 0 → makeF X1 L1 (ndW R keys pg) = ((X2, L2), rt, 0) → plHold L2 rt = (L3, e3) → ¬ e3 = 0 → wmk X L R keys blk = ((X2, M, R), e3) := fun q a b c => by subst q; rw [← HM.out] at hmk1 ⊢; exact wmk_3 hmk1 a b c
  have hW4 : ∀ {X2 L2 rt L3}, e1 = 0 → makeF X1 L1 (ndW R keys pg) = ((X2, L2), rt, 0) → plHold L2 rt = (L3, 0) → wmk X L R keys blk = ((X2, L3, R ++ [rt]), 0) := fun q a b => by subst q; rw [← HM.out] at hmk1; exact wmk_4 hmk1 a b
  rw [HM.out] at hmark hokM hlM
  have hpg := makeF_pg (X := X) hokM (ndA blk)
  rw [hmk1] at hpg
  simp only at hpg
  obtain ⟨S, HS⟩ : ∃ S, Hid (wmk X L R keys blk = S) := ⟨_, rfl⟩
  rw [HS.out] at hW1 hW2 hW3 hW4 ⊢
  obtain ⟨Z, HZ⟩ : ∃ Z, Hid (zerB 16 = Z) := ⟨_, rfl⟩
  have hZl : Hid (Z.length = 16) := by show _ = _; rw [← HZ.out]; exact zerB_len 16
  have hbe := fun v h => built_ndE 3 v h
  rw [HZ.out] at hbe
  go_enter Try.func14, Try.ntmps14
  go_wp2_with (first
    | (with_reducible refine at_wpP ?_; refine wpList_boxV rfl 43 _ rfl (encH ⟨kind, at', .slice ak keys.length ck, keys, blk⟩) rfl ?_; intro g3 w1 hg3 b3 f1 s1; have l3 := b3.lt; have z1 := f1.size; have k01 := f1.cell k0 (fun q => q))
    | (go_at_call 20; go_must (refine (hmark _ (hs.fr0 f1)).mono ?_; rintro e w2 ⟨gm, rfl, sgm, pm, s2, f2⟩; have lgm := pm.lt; have z2 := f2.size)))
  have E2 : Fr (stB F gp) w w2 := (f1.mono (fun _ _ q => q.elim)).thenT f2 (fun i hi q => Or.inr q)
  obtain ⟨w0, HW⟩ : ∃ w0, Hid (w2.drew = w0) := ⟨_, rfl⟩
  have f0 : Fr noB w2 w0 := by rw [← HW.out]; exact (Fr.refl _ _).drew
  have z0 := f0.size
  have k00 := f0.cell (f2.cell k01 (fun q => hnp q)) (fun q => q)
  have B0 := (b3.ne f2 (by omega)).fr0 f0
  have S0 := s2.fr0 f0
  have ns3 : ¬ stB F gp g3 := fun q => by rcases q with q | q; (have := hft _ q; omega); omega
  refine wp_region_chain_layT (by kernel_rfl) [7] [none, none, none, none, none, none, none, some 0, none, none, none, none, none]
    [fun v => v = ptr gw, fun v => v = ptr gw, fun v => v = .pointer (some ⟨gw, 0, none⟩), fun v => v = ptr gs, fun v => v = .pointer (some ⟨g3, 3, none⟩), fun v => v = pgV blk, fun v => v = ndV 1 blk nilS, fun _ => True, fun v => v = .tuple #[.int .i64 pg, .int .i64 e1], fun v => v = .int .i64 pg, fun v => v = .int .i64 e1, fun v => v = .int .i64 pg, fun v => v = .int .i64 e1]
    (JSW w0 (stB F gp) (.tuple #[.int .i64 pg, .int .i64 e1]) (fun W => LayIs w0 W F gs gp (X1, L1) (m + 1))) (HW.out) (by kernel_rfl) (by kernel_rfl) (by decide) ⟨?o0, ?o1, ?o2, ?o3, ?o4, ?o5, ?o6, ?o7, ?o8, ?o9, ?o10, ?o11, ?o12, trivial⟩ ?oe
  case o0 =>
    intro A W hv hlen hJ hbase hdL hdH
    have e0 : A.eval (.tmp 0) = ptr gw := hbase 0 (by kernel_rfl)
    have f0 : A.tmps[0]?.getD undef = ptr gw := by simpa [Act.eval] using e0
    exact light_val rfl (v := ptr gw) (by simp [execOp, e0, f0]) hJ rfl
  case o1 =>
    intro A W hv hlen hJ hbase hdL hdH
    have e19 : A.eval (.tmp 19) = ptr gw := hdL 0 19 (by kernel_rfl) (by kernel_rfl) (by kernel_rfl)
    have f19 : A.tmps[19]?.getD undef = ptr gw := by simpa [Act.eval] using e19
    exact light_val rfl (v := ptr gw) (by simp [execOp, go_sem, e19, f19]) hJ rfl
  case o2 =>
    intro A W hv hlen hJ hbase hdL hdH
    have e20 : A.eval (.tmp 20) = ptr gw := hdL 1 20 (by kernel_rfl) (by kernel_rfl) (by kernel_rfl)
    have f20 : A.tmps[20]?.getD undef = ptr gw := by simpa [Act.eval] using e20
    exact light_val rfl (v := .pointer (some ⟨gw, 0, none⟩)) (by simp [execOp, go_sem, e20, f20]) hJ rfl
  case o3 =>
    intro A W hv hlen hJ hbase hdL hdH
    have e21 : A.eval (.tmp 21) = .pointer (some ⟨gw, 0, none⟩) := hdL 2 21 (by kernel_rfl) (by kernel_rfl) (by kernel_rfl)
    have f21 : A.tmps[21]?.getD undef = .pointer (some ⟨gw, 0, none⟩) := by simpa [Act.eval] using e21
    have hc := (JSW.fr hJ).cell k00 (nsw)
    exact light_val rfl (v := ptr gs) (by simp [execOp, go_sem, e21, f21, hc]) hJ rfl
  case o4 =>
    intro A W hv hlen hJ hbase hdL hdH
    have e3 : A.eval (.tmp 3) = ptr g3 := hbase 3 (by kernel_rfl)
    have f3 : A.tmps[3]?.getD undef = ptr g3 := by simpa [Act.eval] using e3
    exact light_val rfl (v := .pointer (some ⟨g3, 3, none⟩)) (by simp [execOp, go_sem, e3, f3]) hJ rfl
  case o5 =>
    intro A W hv hlen hJ hbase hdL hdH
    have e23 : A.eval (.tmp 23) = .pointer (some ⟨g3, 3, none⟩) := hdL 4 23 (by kernel_rfl) (by kernel_rfl) (by kernel_rfl)
    have f23 : A.tmps[23]?.getD undef = .pointer (some ⟨g3, 3, none⟩) := by simpa [Act.eval] using e23
    have hr := run_loadA arr_block W g3 3 blk ((B0.fr (JSW.fr hJ) ns3).range 3 (pgv blk) hr3.out) Hb.out
    exact light_val rfl (v := pgV blk) (by simp [execOp, e23, hr, Result.andThen]) hJ rfl
  case o6 =>
    intro A W hv hlen hJ hbase hdL hdH
    have e24 : A.eval (.tmp 24) = pgV blk := hdL 5 24 (by kernel_rfl) (by kernel_rfl) (by kernel_rfl)
    have f24 : A.tmps[24]?.getD undef = pgV blk := by simpa [Act.eval] using e24
    have hr := run_build (P := Try.prog) W 28 #[(0, .int .i64 1), (1, pgV blk)] _ hbd.out
    exact light_val rfl (v := ndV 1 blk nilS) (by simp [execOp, Act.eval, f24, hr, Result.andThen, ndV]) hJ rfl
  case o7 =>
    intro A W hv hlen hJ hbase hdL hdH
    have e22 : A.eval (.tmp 22) = ptr gs := hdL 3 22 (by kernel_rfl) (by kernel_rfl) (by kernel_rfl)
    have f22 : A.tmps[22]?.getD undef = ptr gs := by simpa [Act.eval] using e22
    have e25 : A.eval (.tmp 25) = ndV 1 blk nilS := hdL 6 25 (by kernel_rfl) (by kernel_rfl) (by kernel_rfl)
    have f25 : A.tmps[25]?.getD undef = ndV 1 blk nilS := by simpa [Act.eval] using e25
    obtain rfl : hv = [] := List.eq_nil_of_length_eq_zero hlen
    obtain rfl := (show W = _ from hJ)
    refine heavy_call rfl (args := #[ptr gs, ndV 1 blk nilS]) (f := 9) (by simp [execOp, resolve, invoke, go_sem, e22, f22, e25, f25]) ?_
    refine (make_F (ndA blk) nilS S0 (by omega) (hnA _) hmk1).mono ?_
    rintro e w' ⟨rfl, hq⟩
    exact ⟨_, rfl, rfl, hq, (by obtain ⟨_, _, _, f'⟩ := hq; exact f')⟩
  case o8 =>
    intro A W hv hlen hJ hbase hdL hdH
    have ev := JSW.val hJ (hdH 7 26 0 (by kernel_rfl) rfl (by kernel_rfl))
    have fv : A.tmps[26]?.getD undef = .tuple #[.int .i64 pg, .int .i64 e1] := by simpa [Act.eval] using ev
    exact light_val rfl (v := .tuple #[.int .i64 pg, .int .i64 e1]) (by simp [execOp, go_sem, ev, fv]) hJ rfl
  case o9 =>
    intro A W hv hlen hJ hbase hdL hdH
    have e18 : A.eval (.tmp 18) = .tuple #[.int .i64 pg, .int .i64 e1] := hdL 8 18 (by kernel_rfl) (by kernel_rfl) (by kernel_rfl)
    have f18 : A.tmps[18]?.getD undef = .tuple #[.int .i64 pg, .int .i64 e1] := by simpa [Act.eval] using e18
    exact light_val rfl (v := .int .i64 pg) (by simp [execOp, go_sem, e18, f18]) hJ rfl
  case o10 =>
    intro A W hv hlen hJ hbase hdL hdH
    have e18 : A.eval (.tmp 18) = .tuple #[.int .i64 pg, .int .i64 e1] := hdL 8 18 (by kernel_rfl) (by kernel_rfl) (by kernel_rfl)
    have f18 : A.tmps[18]?.getD undef = .tuple #[.int .i64 pg, .int .i64 e1] := by simpa [Act.eval] using e18
    exact light_val rfl (v := .int .i64 e1) (by simp [execOp, go_sem, e18, f18]) hJ rfl
  case o11 =>
    intro A W hv hlen hJ hbase hdL hdH
    have e27 : A.eval (.tmp 27) = .int .i64 pg := hdL 9 27 (by kernel_rfl) (by kernel_rfl) (by kernel_rfl)
    have f27 : A.tmps[27]?.getD undef = .int .i64 pg := by simpa [Act.eval] using e27
    exact light_val rfl (v := .int .i64 pg) (by simp [execOp, e27, f27]) hJ rfl
  case o12 =>
    intro A W hv hlen hJ hbase hdL hdH
    have e28 : A.eval (.tmp 28) = .int .i64 e1 := hdL 10 28 (by kernel_rfl) (by kernel_rfl) (by kernel_rfl)
    have f28 : A.tmps[28]?.getD undef = .int .i64 e1 := by simpa [Act.eval] using e28
    exact light_val rfl (v := .int .i64 e1) (by simp [execOp, e28, f28]) hJ rfl
  case oe =>
    intro vs W' hv hlen hJ hL hH
    have x0 : vs 0 = ptr gw := hL 0 (by kernel_rfl) (by kernel_rfl)
    have x1 : vs 1 = ptr gw := hL 1 (by kernel_rfl) (by kernel_rfl)
    have x2 : vs 2 = .pointer (some ⟨gw, 0, none⟩) := hL 2 (by kernel_rfl) (by kernel_rfl)
    have x3 : vs 3 = ptr gs := hL 3 (by kernel_rfl) (by kernel_rfl)
    have x4 : vs 4 = .pointer (some ⟨g3, 3, none⟩) := hL 4 (by kernel_rfl) (by kernel_rfl)
    have x5 : vs 5 = pgV blk := hL 5 (by kernel_rfl) (by kernel_rfl)
    have x6 : vs 6 = ndV 1 blk nilS := hL 6 (by kernel_rfl) (by kernel_rfl)
    have x7 : vs 7 = .tuple #[.int .i64 pg, .int .i64 e1] := JSW.val hJ (hH 0 7 rfl (by kernel_rfl))
    have x8 : vs 8 = .tuple #[.int .i64 pg, .int .i64 e1] := hL 8 (by kernel_rfl) (by kernel_rfl)
    have x9 : vs 9 = .int .i64 pg := hL 9 (by kernel_rfl) (by kernel_rfl)
    have x10 : vs 10 = .int .i64 e1 := hL 10 (by kernel_rfl) (by kernel_rfl)
    have x11 : vs 11 = .int .i64 pg := hL 11 (by kernel_rfl) (by kernel_rfl)
    have x12 : vs 12 = .int .i64 e1 := hL 12 (by kernel_rfl) (by kernel_rfl)
    simp only [layL, Nat.reduceAdd, Act.put, List.setIfInBounds_toArray, List.set_cons_zero, List.set_cons_succ, x0, x1, x2, x3, x4, x5, x6, x7, x8, x9, x10, x11, x12]
    clear x0 x1 x2 x3 x4 x5 x6 x7 x8 x9 x10 x11 x12 hL hH
    obtain ⟨hQ, fQ⟩ := JSW.end hJ hlen
    clear hJ hlen
    obtain ⟨F1, s3, hF1, f3⟩ := hQ
    have z3 := f3.size
    have E3 : Fr (stB F gp) w W' := (E2.thenN f0).thenT f3 (fun i hi q => q)
    have ng3 : ¬ stB F gp g3 := fun q => by rcases q with q | q; (have := hft _ q; omega); omega
    have ngm : ¬ stB F gp gm := fun q => by rcases q with q | q; (have := hft _ q; omega); omega
    have k03 := f3.cell k00 nsw
    have B3 := B0.fr f3 ng3
    have pm3 := (pm.fr0 f0).fr f3 ngm
    have hl13 : Hid (M.length = L1.length) := by
      have := makeF_len X M (ndA blk)
      rw [hmk1] at this
      exact this.symm
    have hF1' : ∀ k, F1 k → F k ∨ w.heap.size ≤ k := fun k hk => by rcases (hF1 k hk).1 with q | q; exact Or.inl q; exact Or.inr (by omega)
    by_cases he1 : e1 = 0
    · subst he1
      have k13 := E3.cell k1 nsw
      have k23 := (B3.cell 2 (.slice ak keys.length ck) rfl).1
      have hwp : (Lit.int .i64 pg).wf = true := pg_wf hpg.1 hpg.2
      go_wp2_with (first
        | (with_reducible refine at_wpP ?_; refine wpList_bldE rfl _ _ rfl 0 pg rfl rfl ?_)
        | (with_reducible refine at_wpP ?_; refine wpList_mkE rfl _ rfl (0, pg) rfl ?_; intro g5 w5 o5 f5 r5 t5; have z5 := f5.size)
        | (with_reducible refine at_wpP ?_; have qm := f5; refine wpList_bldN rfl _ rfl 3 Z (.slice (some ⟨g5, 0, none⟩) 1 1) [(0, .int .i64 3), (2, .slice (some ⟨g5, 0, none⟩) 1 1)] rfl (hbe _ ⟨_, _, _, rfl⟩) ?_)
        | (with_reducible refine at_wpP ?_; have qm := f5; refine wpList_allocN rfl rfl ?_; rw [HZ.out]; intro g8 w8 hg8 b8 f8 r8; have l8 := b8.lt; have z8 := f8.size)
        | (with_reducible refine at_wpP ?_; refine at_st 28 _ _ rfl ?_; go_must (refine wpList_stN rfl _ _ rfl g8 rfl 3 Z (.slice (some ⟨g5, 0, none⟩) 1 1) rfl hZl.out ⟨_, _, _, rfl⟩ 0 Z nilS b8 hZl.out ?_; intro w9 b9 f9; have z9 := f9.size; have F9 : Fr noB W' w9 := f5.thenN (Fr.ownX f8 r8 f9); have k29 := F9.cell k23 (fun q => q))))
      have o9 := (o5.fr0 f8).ne f9 (by intro k hk; cases hk; show g5 ≠ g8; omega)
      go_loopw [45] (fun i wr => ∃ (j : Nat) (ve : Value), j ≤ keys.length ∧ i = .int .i64 (j : Int) ∧ NdB wr g8 3 Z ve ∧ OwnR enC 2 51 wr W'.heap.size ve (entsW R keys pg j) ∧ (∀ k, ve.ownBlock = some k → k ≠ g8) ∧ Fr noB W' wr) (fun i _ => keys.length - (intOf i).toNat)
      case atStart => exact ⟨0, _, Nat.zero_le _, rfl, b9, o9, (by intro k hk; cases hk; show g5 ≠ g8; omega), F9⟩
      case round =>
        obtain ⟨j, ve, hj, rfl, hB, ho, hne, hf⟩ := hrel
        clear o9 b9 f9 b8 f8 o5 f5
        have zf := hf.size
        have l8r := hB.lt
        have k0r := hf.cell k03 (fun q => q)
        have k1r := hf.cell k13 (fun q => q)
        have hkS := (hK wr ((E3.thenN hf).mono (fun k _ q => stB_wdB k q)))
        have hk1 := hkS.1
        obtain ⟨E, HE⟩ : ∃ E, Hid (entsW R keys pg j = E) := ⟨_, rfl⟩
        have hEl : E.length ≤ 6 := by rw [← HE.out]; exact (entsW_len R keys pg j).1
        have hsuc : Hid (entsW R keys pg (j + 1) = E ++ (if 0 < R.length ∧ j < 5 then [((j : Int) + 1, pickW R (keys.getD j 0))] else [])) := by show _ = _; rw [entsW, HE.out]
        rw [HE.out] at ho
        obtain ⟨ae, ce, rfl⟩ := ho.opn
        by_cases hlt : j < keys.length
        · obtain ⟨kx, Hx⟩ : ∃ x, Hid (keys[j] = x) := ⟨keys[j], (rfl : keys[j] = keys[j])⟩
          have hgd : Hid (keys.getD j 0 = kx) := by show _ = _; rw [← Hx.out]; simp [List.getD, hlt]
          have hlt' : (j : Int) < (keys.length : Int) := by omega
          by_cases hR0 : 0 < R.length
          · have hdR : decide ((0 : Int) < (R.length : Int)) = true := by simpa using hR0
            have hdR' : (0 : Int) < (R.length : Int) := by omega
            by_cases hj5 : j < 5
            · have hd5 : decide ((j : Int) < 5) = true := by simp; omega
              have hd5' : (j : Int) < 5 := by omega
              obtain ⟨q, hq, hqR⟩ : ∃ q : Nat, max 0 (min kx ((R.length : Int) - 1)) = (q : Int) ∧ q < R.length := ⟨(max 0 (min kx ((R.length : Int) - 1))).toNat, by omega, by omega⟩
              have hwrp : IntKind.i64.wrap ((R.length : Int) - 1) = (R.length : Int) - 1 := wrap_sm (by omega)
              obtain ⟨y, Hy⟩ : ∃ y, Hid (R[q] = y) := ⟨R[q], (rfl : R[q] = R[q])⟩
              have hpk : Hid (pickW R (keys.getD j 0) = y) := by
                show _ = _
                rw [hgd.out]
                unfold pickW
                rw [hq, ← Hy.out]
                simp [List.getD, hqR]
              rw [if_pos ⟨hR0, hj5⟩, hpk.out] at hsuc
              go_wp2_with (first
                | (with_reducible refine at_wpP ?_; refine at_idx 39 _ _ rfl ?_; go_must (refine wpList_idx1 rfl 39 _ _ rfl 3 Try.underlying39 int_size1 (.slice ak keys.length ck) _ _ rfl hk1 .i64 (j : Int) j rfl rfl hlt ?_; intro pp u hu hcu; obtain rfl := getX hu hlt Hx.out)))
              have hroW : OwnR en64 1 3 wr base (.slice ar R.length cr) R := (hrow.fr E3 (fun k hk q => by rcases q with q | q; exact (h.ap k hk).1 q; exact (h.ap k hk).2.1 q)).fr0 hf
              obtain ⟨br, orr, cr', hve, hcel⟩ := hroW.sl.addr (by decide) hR0
              cases hve
              have hkq : wr.cell? ⟨br, orr + q, none⟩ = some (.int .i64 y) := by have := hcel q hqR 0 (.int .i64 y) (by rw [Hy.out]; rfl); rwa [Nat.mul_one] at this
              have hbr : br < w.heap.size := (hrow.newB br rfl).2
              have hbrw := h.ap br rfl
              have hj1 : IntKind.i64.wrap ((j : Int) + 1) = (j : Int) + 1 := wrap_sm (by omega)
              have hnE : ∀ k, (Value.slice ae E.length ce).ownBlock = some k → W'.heap.size ≤ k := fun k hk => (ho.newB k hk).1
              obtain ⟨w0q, HWq⟩ : ∃ w0, Hid (wr.drew = w0) := ⟨_, rfl⟩
              have f0q : Fr noB wr w0q := by rw [← HWq.out]; exact (Fr.refl _ _).drew
              have z0q := f0q.size
              have k17 := f0q.cell (NdB.ents hB hZl.out) (fun q => q)
              have k1q := f0q.cell k1r (fun q => q)
              have kqq := f0q.cell hkq (fun q => q)
              have hoq := ho.fr0 f0q
              have hBq := hB.fr0 f0q
              have nsg : ¬ ((Value.slice ae E.length ce).ownBlock = some gw ∨ gw = g8) := fun q => by rcases q with q | q; (have := hnE _ q; omega); omega
              have nsr : ¬ ((Value.slice ae E.length ce).ownBlock = some br ∨ br = g8) := fun q => by rcases q with q | q; (have := hnE _ q; omega); omega
              refine wp_region_chain_layT (by kernel_rfl) [12, 13, 15] [none, none, none, none, none, none, none, none, none, none, none, none, some 0, some 1, none, some 2]
                [fun v => v = .pointer (some ⟨g8, 17, none⟩), fun v => v = .slice ae E.length ce, fun v => v = .int .i64 (j : Int), fun v => v = .int .i64 ((j : Int) + 1), fun v => v = ptr gw, fun v => v = ptr gw, fun v => v = .pointer (some ⟨gw, 1, none⟩), fun v => v = .slice (some ⟨br, orr, none⟩) R.length cr, fun v => v = .int .i64 (q : Int), fun v => v = .pointer (some ⟨br, orr + q, none⟩), fun v => v = .int .i64 y, fun v => v = .agg (enC ((j : Int) + 1, y)).toArray, fun _ => True, fun _ => True, fun v => v = .pointer (some ⟨g8, 17, none⟩), fun _ => True]
                (JApp enC 2 51 28 w0q g8 17 (ndL 3 Z (.slice ae E.length ce)) W'.heap.size (.slice ae E.length ce) E ((j : Int) + 1, y)) (HWq.out) (by kernel_rfl) (by kernel_rfl) (by decide) ⟨?o0, ?o1, ?o2, ?o3, ?o4, ?o5, ?o6, ?o7, ?o8, ?o9, ?o10, ?o11, ?o12, ?o13, ?o14, ?o15, trivial⟩ ?oe
              case o0 =>
                intro A W hv hlen hJ hbase hdL hdH
                have e8 : A.eval (.tmp 8) = ptr g8 := hbase 8 (by kernel_rfl)
                have f8 : A.tmps[8]?.getD undef = ptr g8 := by simpa [Act.eval] using e8
                exact light_val rfl (v := .pointer (some ⟨g8, 17, none⟩)) (by simp [execOp, go_sem, e8, f8]) hJ rfl
              case o1 =>
                intro A W hv hlen hJ hbase hdL hdH
                have e69 : A.eval (.tmp 69) = .pointer (some ⟨g8, 17, none⟩) := hdL 0 69 (by kernel_rfl) (by kernel_rfl) (by kernel_rfl)
                have f69 : A.tmps[69]?.getD undef = .pointer (some ⟨g8, 17, none⟩) := by simpa [Act.eval] using e69
                have hb := hlen.2 0 1 13 rfl (by kernel_rfl)
                have hc := (JApp.fr1 hJ hb).cell k17 (fun q => q)
                exact light_val rfl (v := .slice ae E.length ce) (by simp [execOp, go_sem, e69, f69, hc]) hJ rfl
              case o2 =>
                intro A W hv hlen hJ hbase hdL hdH
                have e9 : A.eval (.tmp 9) = .int .i64 (j : Int) := hbase 9 (by kernel_rfl)
                have f9 : A.tmps[9]?.getD undef = .int .i64 (j : Int) := by simpa [Act.eval] using e9
                exact light_val rfl (v := .int .i64 (j : Int)) (by simp [execOp, e9, f9]) hJ rfl
              case o3 =>
                intro A W hv hlen hJ hbase hdL hdH
                have e71 : A.eval (.tmp 71) = .int .i64 (j : Int) := hdL 2 71 (by kernel_rfl) (by kernel_rfl) (by kernel_rfl)
                have f71 : A.tmps[71]?.getD undef = .int .i64 (j : Int) := by simpa [Act.eval] using e71
                exact light_val rfl (v := .int .i64 ((j : Int) + 1)) (by simp [execOp, go_sem, e71, f71, hj1]) hJ rfl
              case o4 =>
                intro A W hv hlen hJ hbase hdL hdH
                have e0 : A.eval (.tmp 0) = ptr gw := hbase 0 (by kernel_rfl)
                have f0 : A.tmps[0]?.getD undef = ptr gw := by simpa [Act.eval] using e0
                exact light_val rfl (v := ptr gw) (by simp [execOp, e0, f0]) hJ rfl
              case o5 =>
                intro A W hv hlen hJ hbase hdL hdH
                have e73 : A.eval (.tmp 73) = ptr gw := hdL 4 73 (by kernel_rfl) (by kernel_rfl) (by kernel_rfl)
                have f73 : A.tmps[73]?.getD undef = ptr gw := by simpa [Act.eval] using e73
                exact light_val rfl (v := ptr gw) (by simp [execOp, go_sem, e73, f73]) hJ rfl
              case o6 =>
                intro A W hv hlen hJ hbase hdL hdH
                have e74 : A.eval (.tmp 74) = ptr gw := hdL 5 74 (by kernel_rfl) (by kernel_rfl) (by kernel_rfl)
                have f74 : A.tmps[74]?.getD undef = ptr gw := by simpa [Act.eval] using e74
                exact light_val rfl (v := .pointer (some ⟨gw, 1, none⟩)) (by simp [execOp, go_sem, e74, f74]) hJ rfl
              case o7 =>
                intro A W hv hlen hJ hbase hdL hdH
                have e75 : A.eval (.tmp 75) = .pointer (some ⟨gw, 1, none⟩) := hdL 6 75 (by kernel_rfl) (by kernel_rfl) (by kernel_rfl)
                have f75 : A.tmps[75]?.getD undef = .pointer (some ⟨gw, 1, none⟩) := by simpa [Act.eval] using e75
                have hc := (JApp.fr hJ).cell k1q (nsg)
                exact light_val rfl (v := .slice (some ⟨br, orr, none⟩) R.length cr) (by simp [execOp, go_sem, e75, f75, hc]) hJ rfl
              case o8 =>
                intro A W hv hlen hJ hbase hdL hdH
                have e11 : A.eval (.tmp 11) = .int .i64 (q : Int) := hbase 11 (by kernel_rfl)
                have f11 : A.tmps[11]?.getD undef = .int .i64 (q : Int) := by simpa [Act.eval] using e11
                exact light_val rfl (v := .int .i64 (q : Int)) (by simp [execOp, e11, f11]) hJ rfl
              case o9 =>
                intro A W hv hlen hJ hbase hdL hdH
                have e76 : A.eval (.tmp 76) = .slice (some ⟨br, orr, none⟩) R.length cr := hdL 7 76 (by kernel_rfl) (by kernel_rfl) (by kernel_rfl)
                have f76 : A.tmps[76]?.getD undef = .slice (some ⟨br, orr, none⟩) R.length cr := by simpa [Act.eval] using e76
                have e77 : A.eval (.tmp 77) = .int .i64 (q : Int) := hdL 8 77 (by kernel_rfl) (by kernel_rfl) (by kernel_rfl)
                have f77 : A.tmps[77]?.getD undef = .int .i64 (q : Int) := by simpa [Act.eval] using e77
                have hr := (by have := run_idxS (P := Try.prog) (w := W) 39 3 Try.underlying39 int_size1 br orr R.length cr .i64 q hqR; rwa [Nat.mul_one] at this)
                exact light_val rfl (v := .pointer (some ⟨br, orr + q, none⟩)) (by simp [execOp, e76, e77, hr, Result.andThen]) hJ rfl
              case o10 =>
                intro A W hv hlen hJ hbase hdL hdH
                have e78 : A.eval (.tmp 78) = .pointer (some ⟨br, orr + q, none⟩) := hdL 9 78 (by kernel_rfl) (by kernel_rfl) (by kernel_rfl)
                have f78 : A.tmps[78]?.getD undef = .pointer (some ⟨br, orr + q, none⟩) := by simpa [Act.eval] using e78
                have hc := (JApp.fr hJ).cell kqq (nsr)
                exact light_val rfl (v := .int .i64 y) (by simp [execOp, go_sem, e78, f78, hc]) hJ rfl
              case o11 =>
                intro A W hv hlen hJ hbase hdL hdH
                have e72 : A.eval (.tmp 72) = .int .i64 ((j : Int) + 1) := hdL 3 72 (by kernel_rfl) (by kernel_rfl) (by kernel_rfl)
                have f72 : A.tmps[72]?.getD undef = .int .i64 ((j : Int) + 1) := by simpa [Act.eval] using e72
                have e79 : A.eval (.tmp 79) = .int .i64 y := hdL 10 79 (by kernel_rfl) (by kernel_rfl) (by kernel_rfl)
                have f79 : A.tmps[79]?.getD undef = .int .i64 y := by simpa [Act.eval] using e79
                have hr := run_build (P := Try.prog) W 51 #[(0, .int .i64 ((j : Int) + 1)), (1, .int .i64 y)] _ (built_en _ _)
                exact light_val rfl (v := .agg (enC ((j : Int) + 1, y)).toArray) (by simp [execOp, e72, e79, hr, Result.andThen]) hJ rfl
              case o12 =>
                intro A W hv hlen hJ hbase hdL hdH
                have e80 : A.eval (.tmp 80) = .agg (enC ((j : Int) + 1, y)).toArray := hdL 11 80 (by kernel_rfl) (by kernel_rfl) (by kernel_rfl)
                have f80 : A.tmps[80]?.getD undef = .agg (enC ((j : Int) + 1, y)).toArray := by simpa [Act.eval] using e80
                obtain rfl : hv = [] := List.eq_nil_of_length_eq_zero hlen
                obtain rfl := (show W = _ from hJ)
                have hr := run_mk1 (P := Try.prog) (ec := enC) (sz := 2) 26 Try.underlying26 _ en_info2 (by decide) (by decide) ((j : Int) + 1, y) (.agg (enC ((j : Int) + 1, y)).toArray) rfl rfl W
                exact heavy_val rfl (v := .slice (some ⟨W.heap.size, 0, none⟩) 1 1) (w' := W.alloc (.cells (enC ((j : Int) + 1, y)).toArray 51)) (by simp only [execOp]; simp [e80, hr, Result.andThen]) ⟨rfl, rfl⟩
              case o13 =>
                intro A W hv hlen hJ hbase hdL hdH
                have e70 : A.eval (.tmp 70) = .slice ae E.length ce := hdL 1 70 (by kernel_rfl) (by kernel_rfl) (by kernel_rfl)
                have f70 : A.tmps[70]?.getD undef = .slice ae E.length ce := by simpa [Act.eval] using e70
                obtain ⟨v81, rfl⟩ := List.length_eq_one_iff.1 hlen
                obtain ⟨rfl, rfl⟩ := hJ
                have e81 : A.eval (.tmp 81) = .slice (some ⟨w0q.heap.size, 0, none⟩) 1 1 := by have := hdH 12 81 0 (by kernel_rfl) rfl (by kernel_rfl); simpa using this.symm
                refine heavy_wp rfl ?_
                refine wp_appR1 (ec := enC) (sz := 2) (base := W'.heap.size) (.tmp 70) (.tmp 81) 26 rfl _ 16 Try.underlying26 en_info (by simp [Value.cells, pairC]) (by decide) _ e70 (hoq.fr0 ((Fr.refl _ _).alloc _)) w0q.heap.size e81 ((j : Int) + 1, y) rfl (cells_new w0q (enC ((j : Int) + 1, y)) 51) (en_one _) (by unfold maxLen; omega) (by omega) (by have := ((Fr.refl noB w0q).alloc (.cells (enC ((j : Int) + 1, y)).toArray 51)).size; omega) ?_
                intro v' w' hO' hg' hloc
                exact ⟨v', rfl, hO', ((Fr.refl _ _).alloc _).grown hg' (fun k hk _ => hk), by simpa using hloc⟩
              case o14 =>
                intro A W hv hlen hJ hbase hdL hdH
                have e8 : A.eval (.tmp 8) = ptr g8 := hbase 8 (by kernel_rfl)
                have f8 : A.tmps[8]?.getD undef = ptr g8 := by simpa [Act.eval] using e8
                exact light_val rfl (v := .pointer (some ⟨g8, 17, none⟩)) (by simp [execOp, go_sem, e8, f8]) hJ rfl
              case o15 =>
                intro A W hv hlen hJ hbase hdL hdH
                have e83 : A.eval (.tmp 83) = .pointer (some ⟨g8, 17, none⟩) := hdL 14 83 (by kernel_rfl) (by kernel_rfl) (by kernel_rfl)
                have f83 : A.tmps[83]?.getD undef = .pointer (some ⟨g8, 17, none⟩) := by simpa [Act.eval] using e83
                match hv, hlen with
                | [x81, v82], _ =>
                  obtain ⟨hO', hf', hloc⟩ := hJ
                  have e82 : A.eval (.tmp 82) = v82 := by have := hdH 13 82 1 (by kernel_rfl) rfl (by kernel_rfl); simpa using this.symm
                  have hB2 := hBq.fr hf' (fun q => hne g8 q rfl)
                  obtain ⟨a6, c6, hv6⟩ := hO'.opn
                  have hr := run_st1 (P := Try.prog) (off := 17) 26 size_sE v82 (by rw [hv6]; rfl) _ _ hB2 (by rw [ndL_len _ _ _ hZl.out]; decide)
                  have hb2 := hB2.set 17 v82
                  have hgw : ∀ k, v82.ownBlock = some k → k ≠ g8 := by
                    intro k hk
                    rcases hloc with q | q
                    · rw [q] at hk; exact hne k hk
                    · rw [q] at hk; cases hk; omega
                  refine heavy_wp rfl ?_
                  unfold Oper.wp execOp
                  simp only [e82, e83, Sem.run_bind, hr, Result.andThen_ok]
                  refine ⟨undef, rfl, ?_, ?_, ?_, hloc⟩
                  · exact hO'.ne ((Fr.refl (onB1 g8) _).setCell _ _ (fun _ => rfl)) hgw
                  · exact (hf'.mono (fun k _ q => Or.inl q)).setCell _ _ (fun _ => Or.inr rfl)
                  · exact hb2
              case oe =>
                intro vs W'q hv hlen hJ hL hH
                match hv, hlen with
                | [y1, v', y3], _ =>
                  obtain ⟨hO', hf', hb', hloc⟩ := hJ
                  simp only [layL, Nat.reduceAdd, Act.put, List.setIfInBounds_toArray, List.set_cons_zero, List.set_cons_succ]
                  clear hL hH
                  generalize vs 0 = y100 at *
                  generalize vs 1 = y101 at *
                  generalize vs 2 = y102 at *
                  generalize vs 3 = y103 at *
                  generalize vs 4 = y104 at *
                  generalize vs 5 = y105 at *
                  generalize vs 6 = y106 at *
                  generalize vs 7 = y107 at *
                  generalize vs 8 = y108 at *
                  generalize vs 9 = y109 at *
                  generalize vs 10 = y110 at *
                  generalize vs 11 = y111 at *
                  generalize vs 12 = y112 at *
                  generalize vs 13 = y113 at *
                  generalize vs 14 = y114 at *
                  generalize vs 15 = y115 at *
                  have zq := hf'.size
                  rw [ndL_set 3 Z _ v' hZl.out] at hb'
                  go_wp2
                  go_roundw
                  case rel =>
                    refine ⟨j + 1, v', by omega, by go_num, hb', by rw [hsuc.out]; exact hO', ?_, (hf.thenN f0q).thenT hf' (fun i hi q => ?_)⟩
                    · intro k hk
                      rcases hloc with e | e
                      · rw [e] at hk; exact hne k hk
                      · rw [e] at hk; cases hk; omega
                    · rcases q with q | q
                      · have := hnE i q; omega
                      · omega
                  case measure => simp [intOf]; omega
            · have hd5 : decide ((j : Int) < 5) = false := by simp; omega
              have hd5' : ¬ (j : Int) < 5 := by omega
              rw [if_neg (by omega), List.append_nil] at hsuc
              go_wp2_with (first
                | (with_reducible refine at_wpP ?_; refine at_idx 39 _ _ rfl ?_; go_must (refine wpList_idx1 rfl 39 _ _ rfl 3 Try.underlying39 int_size1 (.slice ak keys.length ck) _ _ rfl hk1 .i64 (j : Int) j rfl rfl hlt ?_; intro pp u hu hcu; obtain rfl := getX hu hlt Hx.out)))
              go_roundw
              case rel => exact ⟨j + 1, _, by omega, by go_num, hB, by rw [hsuc.out]; exact ho, hne, hf⟩
              case measure => simp [intOf]; omega
          · have hdR : decide ((0 : Int) < (R.length : Int)) = false := decide_eq_false (by omega)
            have hdR' : ¬ (0 : Int) < (R.length : Int) := by omega
            rw [if_neg (by omega), List.append_nil] at hsuc
            go_wp2_with (first
              | (with_reducible refine at_wpP ?_; refine at_idx 39 _ _ rfl ?_; go_must (refine wpList_idx1 rfl 39 _ _ rfl 3 Try.underlying39 int_size1 (.slice ak keys.length ck) _ _ rfl hk1 .i64 (j : Int) j rfl rfl hlt ?_; intro pp u hu hcu; obtain rfl := getX hu hlt Hx.out)))
            go_roundw
            case rel => exact ⟨j + 1, _, by omega, by go_num, hB, by rw [hsuc.out]; exact ho, hne, hf⟩
            case measure => simp [intOf]; omega
        · obtain rfl : j = keys.length := by omega
          have hlt' : ¬ (keys.length : Int) < (keys.length : Int) := by omega
          clear hsuc
          have hndw : NdS wr (.slice ae E.length ce) (ndW R keys pg) := nd_node (by rw [HE.out]; exact ho) (entsW_wf hwf hwp keys.length)
          obtain ⟨X2, L2, rt, e2, hmk2⟩ : ∃ X2 L2 rt e2, makeF X1 L1 (ndW R keys pg) = ((X2, L2), rt, e2) := ⟨_, _, _, _, rfl⟩
          have hrt := makeF_pg (X := X1) s3.ok (ndW R keys pg)
          rw [hmk2] at hrt
          simp only at hrt
          have hl24 : Hid (M.length = L2.length) := by
            have := makeF_len X1 L1 (ndW R keys pg)
            rw [hmk2] at this
            exact hl13.out.trans this.symm
          have hmk2W := fun W (s : Sto W F1 gs gp X1 L1 (m + 1)) (hn : NdS W (.slice ae E.length ce) (ndW R keys pg)) => (show Calls Try.prog _ #[ptr gs, ndV 3 (zerB 16) (.slice ae E.length ce)] W _ from make_F (ndW R keys pg) (.slice ae E.length ce) s (by omega) hn hmk2)
          rw [HZ.out] at hmk2W
          have s3r := s3.fr0 hf
          have nsw1 : ¬ stB F1 gp gw := fun q => by
            rcases q with q | q
            · rcases hF1' _ q with q | q; exact h.fw q; omega
            · exact h.np q
          have ng81 : ¬ stB F1 gp g8 := fun q => by
            rcases q with q | q
            · have := s3.ft _ q; omega
            · omega
          go_wp2_with fail
          obtain ⟨w0r, HWr⟩ : ∃ w0, Hid (wr.drew = w0) := ⟨_, rfl⟩
          have f0r : Fr noB wr w0r := by rw [← HWr.out]; exact (Fr.refl _ _).drew
          have z0r := f0r.size
          have k0q := f0r.cell k0r (fun q => q)
          refine wp_region_chain_layT (by kernel_rfl) [5] [none, none, none, none, none, some 0, none, none, none, none, none]
            [fun v => v = ptr gw, fun v => v = ptr gw, fun v => v = .pointer (some ⟨gw, 0, none⟩), fun v => v = ptr gs, fun v => v = ndV 3 Z (.slice ae E.length ce), fun _ => True, fun v => v = .tuple #[.int .i64 rt, .int .i64 e2], fun v => v = .int .i64 rt, fun v => v = .int .i64 e2, fun v => v = .int .i64 rt, fun v => v = .int .i64 e2]
            (JSW w0r (stB F1 gp) (.tuple #[.int .i64 rt, .int .i64 e2]) (fun W => LayIs w0r W F1 gs gp (X2, L2) (m + 1 + 1))) (HWr.out) (by kernel_rfl) (by kernel_rfl) (by decide) ⟨?o0, ?o1, ?o2, ?o3, ?o4, ?o5, ?o6, ?o7, ?o8, ?o9, ?o10, trivial⟩ ?oe
          case o0 =>
            intro A W hv hlen hJ hbase hdL hdH
            have e0 : A.eval (.tmp 0) = ptr gw := hbase 0 (by kernel_rfl)
            have f0 : A.tmps[0]?.getD undef = ptr gw := by simpa [Act.eval] using e0
            exact light_val rfl (v := ptr gw) (by simp [execOp, e0, f0]) hJ rfl
          case o1 =>
            intro A W hv hlen hJ hbase hdL hdH
            have e86 : A.eval (.tmp 86) = ptr gw := hdL 0 86 (by kernel_rfl) (by kernel_rfl) (by kernel_rfl)
            have f86 : A.tmps[86]?.getD undef = ptr gw := by simpa [Act.eval] using e86
            exact light_val rfl (v := ptr gw) (by simp [execOp, go_sem, e86, f86]) hJ rfl
          case o2 =>
            intro A W hv hlen hJ hbase hdL hdH
            have e87 : A.eval (.tmp 87) = ptr gw := hdL 1 87 (by kernel_rfl) (by kernel_rfl) (by kernel_rfl)
            have f87 : A.tmps[87]?.getD undef = ptr gw := by simpa [Act.eval] using e87
            exact light_val rfl (v := .pointer (some ⟨gw, 0, none⟩)) (by simp [execOp, go_sem, e87, f87]) hJ rfl
          case o3 =>
            intro A W hv hlen hJ hbase hdL hdH
            have e88 : A.eval (.tmp 88) = .pointer (some ⟨gw, 0, none⟩) := hdL 2 88 (by kernel_rfl) (by kernel_rfl) (by kernel_rfl)
            have f88 : A.tmps[88]?.getD undef = .pointer (some ⟨gw, 0, none⟩) := by simpa [Act.eval] using e88
            have hc := (JSW.fr hJ).cell k0q (nsw1)
            exact light_val rfl (v := ptr gs) (by simp [execOp, go_sem, e88, f88, hc]) hJ rfl
          case o4 =>
            intro A W hv hlen hJ hbase hdL hdH
            have e8 : A.eval (.tmp 8) = ptr g8 := hbase 8 (by kernel_rfl)
            have f8 : A.tmps[8]?.getD undef = ptr g8 := by simpa [Act.eval] using e8
            have hr := run_ldN ((hB.fr0 f0r).fr (JSW.fr hJ) ng81) hZl.out
            exact light_val rfl (v := ndV 3 Z (.slice ae E.length ce)) (by simp [execOp, e8, hr, Result.andThen]) hJ rfl
          case o5 =>
            intro A W hv hlen hJ hbase hdL hdH
            have e89 : A.eval (.tmp 89) = ptr gs := hdL 3 89 (by kernel_rfl) (by kernel_rfl) (by kernel_rfl)
            have f89 : A.tmps[89]?.getD undef = ptr gs := by simpa [Act.eval] using e89
            have e90 : A.eval (.tmp 90) = ndV 3 Z (.slice ae E.length ce) := hdL 4 90 (by kernel_rfl) (by kernel_rfl) (by kernel_rfl)
            have f90 : A.tmps[90]?.getD undef = ndV 3 Z (.slice ae E.length ce) := by simpa [Act.eval] using e90
            obtain rfl : hv = [] := List.eq_nil_of_length_eq_zero hlen
            obtain rfl := (show W = _ from hJ)
            refine heavy_call rfl (args := #[ptr gs, ndV 3 Z (.slice ae E.length ce)]) (f := 9) (by simp [execOp, resolve, invoke, go_sem, e89, f89, e90, f90]) ?_
            refine (hmk2W _ (s3r.fr0 f0r) (hndw.fr0 f0r)).mono ?_
            rintro e w' ⟨rfl, hq⟩
            exact ⟨_, rfl, rfl, hq, (by obtain ⟨_, _, _, f'⟩ := hq; exact f')⟩
          case o6 =>
            intro A W hv hlen hJ hbase hdL hdH
            have ev := JSW.val hJ (hdH 5 91 0 (by kernel_rfl) rfl (by kernel_rfl))
            have fv : A.tmps[91]?.getD undef = .tuple #[.int .i64 rt, .int .i64 e2] := by simpa [Act.eval] using ev
            exact light_val rfl (v := .tuple #[.int .i64 rt, .int .i64 e2]) (by simp [execOp, go_sem, ev, fv]) hJ rfl
          case o7 =>
            intro A W hv hlen hJ hbase hdL hdH
            have e85 : A.eval (.tmp 85) = .tuple #[.int .i64 rt, .int .i64 e2] := hdL 6 85 (by kernel_rfl) (by kernel_rfl) (by kernel_rfl)
            have f85 : A.tmps[85]?.getD undef = .tuple #[.int .i64 rt, .int .i64 e2] := by simpa [Act.eval] using e85
            exact light_val rfl (v := .int .i64 rt) (by simp [execOp, go_sem, e85, f85]) hJ rfl
          case o8 =>
            intro A W hv hlen hJ hbase hdL hdH
            have e85 : A.eval (.tmp 85) = .tuple #[.int .i64 rt, .int .i64 e2] := hdL 6 85 (by kernel_rfl) (by kernel_rfl) (by kernel_rfl)
            have f85 : A.tmps[85]?.getD undef = .tuple #[.int .i64 rt, .int .i64 e2] := by simpa [Act.eval] using e85
            exact light_val rfl (v := .int .i64 e2) (by simp [execOp, go_sem, e85, f85]) hJ rfl
          case o9 =>
            intro A W hv hlen hJ hbase hdL hdH
            have e92 : A.eval (.tmp 92) = .int .i64 rt := hdL 7 92 (by kernel_rfl) (by kernel_rfl) (by kernel_rfl)
            have f92 : A.tmps[92]?.getD undef = .int .i64 rt := by simpa [Act.eval] using e92
            exact light_val rfl (v := .int .i64 rt) (by simp [execOp, e92, f92]) hJ rfl
          case o10 =>
            intro A W hv hlen hJ hbase hdL hdH
            have e93 : A.eval (.tmp 93) = .int .i64 e2 := hdL 8 93 (by kernel_rfl) (by kernel_rfl) (by kernel_rfl)
            have f93 : A.tmps[93]?.getD undef = .int .i64 e2 := by simpa [Act.eval] using e93
            exact light_val rfl (v := .int .i64 e2) (by simp [execOp, e93, f93]) hJ rfl
          case oe =>
            intro vs W'r hv hlen hJ hL hH
            have x0 : vs 0 = ptr gw := hL 0 (by kernel_rfl) (by kernel_rfl)
            have x1 : vs 1 = ptr gw := hL 1 (by kernel_rfl) (by kernel_rfl)
            have x2 : vs 2 = .pointer (some ⟨gw, 0, none⟩) := hL 2 (by kernel_rfl) (by kernel_rfl)
            have x3 : vs 3 = ptr gs := hL 3 (by kernel_rfl) (by kernel_rfl)
            have x4 : vs 4 = ndV 3 Z (.slice ae E.length ce) := hL 4 (by kernel_rfl) (by kernel_rfl)
            have x5 : vs 5 = .tuple #[.int .i64 rt, .int .i64 e2] := JSW.val hJ (hH 0 5 rfl (by kernel_rfl))
            have x6 : vs 6 = .tuple #[.int .i64 rt, .int .i64 e2] := hL 6 (by kernel_rfl) (by kernel_rfl)
            have x7 : vs 7 = .int .i64 rt := hL 7 (by kernel_rfl) (by kernel_rfl)
            have x8 : vs 8 = .int .i64 e2 := hL 8 (by kernel_rfl) (by kernel_rfl)
            have x9 : vs 9 = .int .i64 rt := hL 9 (by kernel_rfl) (by kernel_rfl)
            have x10 : vs 10 = .int .i64 e2 := hL 10 (by kernel_rfl) (by kernel_rfl)
            simp only [layL, Nat.reduceAdd, Act.put, List.setIfInBounds_toArray, List.set_cons_zero, List.set_cons_succ, x0, x1, x2, x3, x4, x5, x6, x7, x8, x9, x10]
            clear x0 x1 x2 x3 x4 x5 x6 x7 x8 x9 x10 hL hH
            obtain ⟨hQr, fQr⟩ := JSW.end hJ hlen
            clear hJ hlen
            obtain ⟨F2, s4, hF2, f4⟩ := hQr
            have z4 := f4.size
            have E4 : Fr (stB F gp) w W'r := ((E3.thenN hf).thenN f0r).thenT f4 (fun i hi q => by
              rcases q with q | q
              · rcases hF1' _ q with q | q; exact Or.inl q; omega
              · exact Or.inr q)
            have ngm1 : ¬ stB F1 gp gm := fun q => by
              rcases q with q | q
              · rcases (hF1 _ q).1 with q | q; (have := hft _ q; omega); omega
              · omega
            have pm4 := ((pm3.fr0 hf).fr0 f0r).fr f4 ngm1
            have k04 := f4.cell k0q nsw1
            have k14 := E4.cell k1 nsw
            have hF2' : ∀ k, F2 k → F k ∨ w.heap.size ≤ k := fun k hk => by
              rcases (hF2 k hk).1 with q | q
              · exact hF1' k q
              · exact Or.inr (by omega)
            by_cases he2 : e2 = 0
            · subst he2
              obtain ⟨L3, e3, hho⟩ : ∃ L3 e3, plHold L2 rt = (L3, e3) := ⟨_, _, rfl⟩
              have hl35 : Hid (M.length = L3.length) := by
                have := hold_len L2 rt
                rw [hho] at this
                exact hl24.out.trans this.symm
              by_cases he3 : e3 = 0
              · subst he3
                obtain ⟨R', HR'⟩ : ∃ R', Hid (R ++ [rt] = R') := ⟨_, rfl⟩
                go_wp2_with (first
                  | (go_at_call 10; go_must (refine (hold_F rt s4 hho).mono ?_; rintro e w5 ⟨rfl, s5, f5⟩; have z5 := f5.size; have k05 := f5.cell k04 (fun q => hnp q); have k15 := f5.cell k14 (fun q => hnp q); have E5 := E4.thenT f5 (fun i hi q => Or.inr q); have W5 := h.lay E5 s5 hF2'))
                  | (with_reducible refine at_wpP ?_; refine wpList_mkC (ec := en64) (sz := 1) rfl 39 _ rfl Try.underlying39 _ info_int2 (by decide) (by decide) rt _ rfl rfl rfl ?_; intro g9 w9 c9 f9 r9; have z9 := f9.size; have W9 := W5.fr0 f9)
                  | (at_builtin; go_must (refine wpList_appL (ec := en64) (sz := 1) (base := base) rfl _ _ 39 rfl _ 8 Try.underlying39 info_int rfl (by decide) _ rfl W9.row g9 rfl rt rfl _ c9 (by intro u hu; simp at hu; subst hu; rfl) ?hr1 ?hr2 ?hr3 ?_; rotate_left 3; intro v10 w10 o10 f10 n10; rw [HR'.out] at o10; obtain ⟨a10, c10, rfl⟩ := o10.opn; have B10 := BxV.fr W9.bx f10 (fun q => (W9.ap _ q).2.2.2 rfl)))
                  | (with_reducible refine at_wpP ?_; refine at_st 39 _ _ rfl ?_; go_must (refine wpList_store1 rfl 39 _ _ rfl gw 1 rfl (.slice a10 R'.length c10) rfl rfl _ _ B10 size_sI (by simp) ?_; intro w11 b11 f11)))
                case hr1 => unfold maxLen; omega
                case hr2 => omega
                case hr3 => have := E5.size; omega
                go_ret
                have z10 := f10.size
                have o11 := o10.ne f11 (fun k hk q => by
                  subst q
                  rcases n10 _ hk with q | q
                  · exact (W9.ap _ q).2.2.2 rfl
                  · have := W9.bx.lt; omega)
                have F11 : Fr (fun k => (Value.slice ar R.length cr).ownBlock = some k ∨ k = gw) w9 w11 := (f10.mono (fun k _ q => Or.inl q)).thenT f11 (fun i hi q => Or.inr q)
                have hwf' : ∀ x ∈ R', (Lit.int .i64 x).wf = true := by
                  intro x hx
                  rw [← HR'.out] at hx
                  rcases List.mem_append.1 hx with hx | hx
                  · exact hwf x hx
                  · rw [List.mem_singleton.1 hx]; exact pg_wf hrt.1 hrt.2
                have W11 := W9.app F11 (by simpa using b11) o11 (fun k hk => by rcases n10 k hk with q | q; exact Or.inl q; exact Or.inr q) hwf'
                rw [hW4 (by trivial) hmk2 hho, HR'.out]
                have ze5 := E5.size
                refine ⟨F2, _, rfl, W11, hF2', fun k hk => ?_, ((E5.thenN f9).mono (fun k _ q => stB_wdB k q)).thenT F11 (fun i hi q => ?_)⟩
                · rcases n10 k hk with q | q
                  · exact Or.inl q
                  · exact Or.inr (by omega)
                · rcases q with q | q
                  · exact Or.inr (Or.inr (Or.inr q))
                  · exact Or.inr (Or.inr (Or.inl q))
              · have he3' : (e3 == 0) = false := by simpa using he3
                go_wp2_with (first
                  | (go_at_call 10; go_must (refine (hold_F rt s4 hho).mono ?_; rintro e w5 ⟨rfl, s5, f5⟩; have z5 := f5.size; have k05 := f5.cell k04 (fun q => hnp q); have pm5 := BxV.ne pm4 f5 (by omega); have E5 := E4.thenT f5 (fun i hi q => Or.inr q)))
                  | (go_at_call 23; go_must (refine (nundo_any _ s5 pm5 hokM hl35.out).mono ?_; rintro e w6 ⟨rfl, s6, f6⟩)))
                go_ret
                have E6 : Fr (stB F gp) w w6 := E5.thenT f6 (fun i hi q => Or.inr q)
                rw [hW3 (by trivial) hmk2 hho he3]
                exact ⟨F2, _, rfl, h.lay E6 s6 hF2', hF2', fun k hk => Or.inl hk, E6.mono (fun k _ q => stB_wdB k q)⟩
            · have he2' : (e2 == 0) = false := by simpa using he2
              go_wp2_with (first
                | (go_at_call 23; go_must (refine (nundo_any _ s4 pm4 hokM hl24.out).mono ?_; rintro e w6 ⟨rfl, s6, f6⟩)))
              go_ret
              have E6 : Fr (stB F gp) w w6 := E4.thenT f6 (fun i hi q => Or.inr q)
              rw [hW2 (by trivial) hmk2 he2]
              exact ⟨F2, _, rfl, h.lay E6 s6 hF2', hF2', fun k hk => Or.inl hk, E6.mono (fun k _ q => stB_wdB k q)⟩
    · go_wp2_with (first
        | (go_at_call 23; go_must (refine (nundo_any _ s3 pm3 hokM hl13.out).mono ?_; rintro e w4 ⟨rfl, s4, f4⟩)))
      go_ret
      have E4 : Fr (stB F gp) w w4 := E3.thenT f4 (fun i hi q => Or.inr q)
      rw [hW1 he1]
      exact ⟨F1, _, rfl, h.lay E4 (s4.mono (by omega)) hF1', hF1', fun k hk => Or.inl hk, E4.mono (fun k _ q => stB_wdB k q)⟩
end Go.Proofs.Ytamfnjliikiifaa
/- Acts with a store in memory; appends of whole rows; no condition. -/
namespace Go.Proofs.Ytamfnjliikiifaa
open Go.RowKit Go.Proofs.U Go.Shelf Go.Maps
set_option linter.unusedSimpArgs false
set_option linter.unusedVariables false
theorem act_size9 : (Try.prog.info? 43).map (·.size) = some 19 := by kernel_rfl
def act0 : ActH := ⟨0, 0, nilS, [], zerB 16⟩
theorem act0_len : act0.blk.length = 16 := zerB_len 16
theorem act_zero9 : (Try.prog.info? 43).map (·.zero) = some (some (.agg (encH act0).toArray)) := by kernel_rfl
theorem act_under9 : Try.prog.underlying 43 = some (.struct (Try.prog.fieldsOf 43)) := by kernel_rfl
abbrev AcH (w : World) (g : Nat) (x : ActH) : Prop := BxV w g 43 (encH x)
def acHV (x : ActH) : Value := .agg (encH x).toArray
theorem encH_l (x : ActH) (h : x.blk.length = 16) : (encH x).length = 19 := by simp [encH, pgv_len, h]
theorem AcH.all {w : World} {g : Nat} {x : ActH} (h : AcH w g x) : w.cell? ⟨g, 0, none⟩ = some (.int .i64 x.kind) ∧ w.cell? ⟨g, 1, none⟩ = some (.int .i64 x.at') := ⟨(h.cell 0 _ rfl).1, (h.cell 1 _ rfl).1⟩
section
variable {w : World} {ops : Array Oper} {rest : List Oper} {o : Oper} {a : Act} {Q : Exit → Act → World → Prop}
theorem wpList_alH (hgd : Region.wanted o (yielded ops a.tmps) = true) (ho : o.op = .alloc 43)
    (h : ∀ g w', Hid (g = w.heap.size) → AcH w' g act0 → Fr noB w w' → w.heap.size ≤ g → wpList Try.prog ops Q rest (a.put o.dst (.pointer (some ⟨g, 0, none⟩))) w') : wpList Try.prog ops Q (o :: rest) a w :=
  wpList_allocV hgd _ ho _ act_zero9 h
theorem wpList_ldH (hgd : o.guard = none) (y : Operand) (ho : o.op = .load 43 y) (b off : Nat) (hy : a.eval y = .pointer (some ⟨b, off, none⟩)) (x : ActH) (hl : x.blk.length = 16) (hc : ∀ q u, (encH x)[q]? = some u → w.cell? ⟨b, off + q, none⟩ = some u)
    (h : wpList Try.prog ops Q rest (a.put o.dst (acHV x)) w) : wpList Try.prog ops Q (o :: rest) a w :=
  wpList_load_mid hgd _ y ho b off hy (encH x) _ (range_of fun j v hj => hc j v hj) act_under9 rfl (by rw [encH_l x hl]; exact act_size9) h
theorem wpList_ldHb (hgd : o.guard = none) (y : Operand) (ho : o.op = .load 43 y) (g : Nat) (hy : a.eval y = .pointer (some ⟨g, 0, none⟩)) (x : ActH) (hl : x.blk.length = 16) (hB : AcH w g x)
    (h : wpList Try.prog ops Q rest (a.put o.dst (acHV x)) w) : wpList Try.prog ops Q (o :: rest) a w :=
  wpList_ldH hgd y ho g 0 hy x hl (fun q u hq => by rw [Nat.zero_add]; exact (hB.cell q u hq).1) h
theorem encH_one (x : ActH) (h : ∃ a n c, x.kv = .slice a n c) : ∀ u ∈ encH x, u.oneCell' = true := by
  intro u hu
  obtain ⟨a, n, c, hv⟩ := h
  simp only [encH, List.mem_cons] at hu
  rcases hu with rfl | rfl | rfl | hu
  · rfl
  · rfl
  · rw [hv]; rfl
  · exact pgv_one _ u hu
theorem wpList_stH (hgd : o.guard = none) (y z : Operand) (ho : o.op = .store 43 y z) (g : Nat) (hy : a.eval y = .pointer (some ⟨g, 0, none⟩)) (x x' : ActH) (hB : AcH w g x) (hl : x.blk.length = 16) (hl' : x'.blk.length = 16) (hk : ∃ a n c, x'.kv = .slice a n c) (hz : a.eval z = acHV x')
    (h : ∀ w', AcH w' g x' → Fr (onB1 g) w w' → wpList Try.prog ops Q rest (a.put o.dst undef) w') : wpList Try.prog ops Q (o :: rest) a w := by
  refine wpList_storeV hgd _ y z ho g 0 hy (encH x') hz _ (encH x) hB (by rw [encH_l x' hl']; exact act_size9) (by rw [encH_l x' hl', encH_l x hl]; exact Nat.le_refl _) (encH_one x' hk) ?_
  intro w' h1 h2
  rw [putAt_all (encH x) (encH x') (by rw [encH_l x' hl', encH_l x hl])] at h1
  exact h w' h1 h2
end
section
variable {α : Type} {ec : α → List Value} {sz : Nat} {e : TypeId} {w : World} {base : Nat} {l : List α} {P : Program} {o : Oper} {a : Act} {Q : Exit → Act → World → Prop} {K : Act → World → Prop}
/-- append(s, x...) of a whole row. -/
theorem wp_appN (s x : Operand) (t : TypeId) (ho : o.op = .call { callee := .builtin .append, args := #[s, x], argTypes := #[t, t] })
    (z : Value) (bytes : Nat) (ht : P.underlying t = some (.slice e)) (hinfo : (P.info? e).map (fun i => (i.zero, i.size, i.bytes)) = some (some z, sz, bytes)) (hzs : z.cells.size = sz) (hsz : 0 < sz)
    (v : Value) (hs : a.eval s = v) (hO : OwnR ec sz e w base v l) (vx : Value) (m : List α) (hx : a.eval x = vx) (hS : SlR ec sz w vx m) (h1 : ∀ y ∈ m, ∀ u ∈ ec y, u.oneCell' = true)
    (h63 : l.length + m.length ≤ maxLen) (hbytes : (l.length + m.length) * bytes ≤ 140737488355328) (hbase : base ≤ w.heap.size)
    (h : ∀ v' w', OwnR ec sz e w' base v' (l ++ m) → w.grownBy w' v.ownBlock → K (a.put o.dst v') w') : o.wp P a w K Q := by
  obtain ⟨i0, hi, hz0, hz1, hz2⟩ := info_parts hinfo
  obtain ⟨hall, ao, cap, rfl, hcap, hlen, hnone, hsome⟩ := hS
  have hm1 : ∀ u ∈ m.flatMap ec, u.oneCell' = true := by
    intro u hu
    obtain ⟨y, hy, hu⟩ := List.mem_flatMap.1 hu
    exact h1 y hy u hu
  cases ao with
  | some ad =>
    obtain ⟨v', w', hr, h2, h3, _⟩ := run_append_own (P := P) w base t o.type e i0 z sz bytes ht hi hz0 hz1 hz2 hzs hsz v l.length (l.flatMap ec) hO.2 ad m.length cap (m.flatMap ec) hlen (hsome ad rfl) hm1 h63 hbytes hbase
    unfold Oper.wp execOp
    simp only [ho, resolve, invoke, builtin, Sem.run_bind, Sem.run_pure, Result.andThen_ok, List.map_toArray, List.map_cons, List.map_nil, hs, hx, hr]
    refine h v' w' ⟨?_, ?_⟩ h3
    · intro u hu
      rcases List.mem_append.1 hu with hu | hu
      · exact hO.1 u hu
      · exact hall u hu
    · simpa using h2
  | none =>
    obtain rfl := hnone rfl
    obtain rfl : m = [] := List.eq_nil_of_length_eq_zero (by omega)
    have hr := run_append_owned_none (P := P) w base t o.type e i0 sz ht hi v l.length (l.flatMap ec) hO.2
    unfold Oper.wp execOp
    simp only [ho, resolve, invoke, builtin, Sem.run_bind, Sem.run_pure, Result.andThen_ok, List.map_toArray, List.map_cons, List.map_nil, hs, hx]
    simp only [List.length_nil] at hr ⊢
    rw [hr]
    exact h v w (by simpa using hO) (World.grownBy.refl _ _)
end
/-- While a world is made of a store and a copy of roots. -/
def JKW (w0 : World) (gs : Nat) (R : List Int) : List Value → World → Prop
  | [], W => W = w0
  | [v], W => W = w0.alloc (.cells #[] 3) ∧ v = .slice (some ⟨w0.heap.size, 0, none⟩) 0 0
  | [_, v], W => OwnR en64 1 3 W w0.heap.size v R ∧ Fr noB w0 W
  | [_, v, u], W => OwnR en64 1 3 W w0.heap.size v R ∧ Fr noB w0 W ∧ u = .agg #[ptr gs, v]
  | [_, v, _, p], W => ∃ g, p = ptr g ∧ w0.heap.size ≤ g ∧ BxV W g 41 [ptr gs, v] ∧ OwnR en64 1 3 W w0.heap.size v R ∧ Fr noB w0 W ∧ (∀ k, v.ownBlock = some k → k ≠ g)
  | [_, v, _, _, p], W => ∃ g, p = ptr g ∧ w0.heap.size ≤ g ∧ BxV W g 41 [ptr gs, v] ∧ OwnR en64 1 3 W w0.heap.size v R ∧ Fr noB w0 W ∧ (∀ k, v.ownBlock = some k → k ≠ g)
  | _, _ => False
theorem JKW.fr {w0 : World} {gs : Nat} {R : List Int} : ∀ {hv : List Value} {W : World}, JKW w0 gs R hv W → Fr noB w0 W
  | [], _, h => by cases h; exact Fr.refl _ _
  | [_], _, h => by obtain ⟨rfl, _⟩ := h; exact (Fr.refl _ _).alloc _
  | [_, _], _, h => h.2
  | [_, _, _], _, h => h.2.1
  | [_, _, _, _], _, h => h.elim fun _ q => q.2.2.2.2.1
  | [_, _, _, _, _], _, h => h.elim fun _ q => q.2.2.2.2.1
  | _ :: _ :: _ :: _ :: _ :: _ :: _, _, h => h.elim
theorem wmk_len (X : DSt) (L : List Pg) (R keys b : List Int) : (wmk X L R keys b).1.2.1.length = L.length ∧ (wmk X L R keys b).1.2.2.length ≤ R.length + 1 := by
  unfold wmk
  split
  · split
    · split
      · simp only; rw [hold_len, makeF_len, makeF_len, mark_len]; simp
      · simp only; rw [mark_len]; simp
    · simp only; rw [mark_len]; simp
  · simp only; rw [mark_len]; simp
theorem wd_old {w0 w : World} {F : Nat → Prop} {gs gp gw : Nat} {rv : Value} {X : DSt} {L : List Pg} {m : Nat} {R : List Int} (h : Wd w F gs gp gw w0.heap.size rv X L m R) (hF : ∀ k, F k → w0.heap.size ≤ k) (hp : w0.heap.size ≤ gp) (hw : w0.heap.size ≤ gw) : ∀ i, i < w0.heap.size → wdB F gp gw rv i → noB i := by
  intro i hi q
  rcases q with q | q | q | q
  · have := hF i q; omega
  · omega
  · omega
  · have := (h.row.newB i q).1; omega
theorem drop_F {F : Nat → Prop} {gs gp : Nat} {X : DSt} {L M : List Pg} {m : Nat} {e : Int} {w : World} (p : Int) (s : Sto w F gs gp X L m) (hm : m ≤ 100000) (he : dropF X (muL L + 1) L p = (M, e)) :
    Calls Try.prog 11 #[ptr gs, .int .i64 p] w fun r w' => r = .returned (.int .i64 e) ∧ Sto w' F gs gp X M m ∧ Fr (onB1 gp) w w' := by
  refine (ndrop_any hm (muL L + 1) L p w (by omega) s).mono ?_
  rw [he]
  exact fun r w' h => h
theorem counts_F {F : Nat → Prop} {gs gp : Nat} {X : DSt} {L : List Pg} {m : Nat} {C : List Int} {w : World} (s : Sto w F gs gp X L m) (hC : plCounts L = C) :
    Calls Try.prog 24 #[ptr gp] w fun r w' => r = .returned (pgV C) ∧ Fr noB w w' := by
  rw [← hC]
  exact pcounts_any gp w s.pl
theorem commit_F {F : Nat → Prop} {gs gp : Nat} {X : DSt} {L M : List Pg} {m : Nat} {w : World} (s : Sto w F gs gp X L m) (he : plCommit L = M) :
    Calls Try.prog 16 #[ptr gp] w fun r w' => r = .returned (.tuple #[]) ∧ Sto w' F gs gp X M m ∧ Fr (onB1 gp) w w' := by
  refine (pcommit_any gp w s.pl).mono ?_
  have ho := comm_ok s.ok
  have hl := comm_len L
  rw [he] at ho hl ⊢
  rintro e w' ⟨rfl, p, f⟩
  exact ⟨rfl, s.pool f p ho hl, f⟩
end Go.Proofs.Ytamfnjliikiifaa
