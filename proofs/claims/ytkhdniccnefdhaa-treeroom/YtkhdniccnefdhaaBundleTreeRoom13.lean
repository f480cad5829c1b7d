/- Texts H4, H5, H6, H7, H10, H13, V6, V7, V11, V12, B5a, D5, E3 of the proof of TreeRoom, one behind the other. -/
import Derived.Shelf.SlIterI.Nil
import Derived.Shelf.SortM.Plain
import Derived.Shelf.SortM.SortNone
import Derived.Lib.SlBytesConst
import Derived.Test.YtkhdniccnefdhaaRows
import Derived.Deep.MidRow
import Derived.Deep.RegionHeld3
import Derived.Test.YtkhdniccnefdhaaBundleTreeRoom1
import Derived.Test.YtkhdniccnefdhaaBundleTreeRoom2
import Derived.Test.YtkhdniccnefdhaaBundleTreeRoom3
import Derived.Test.YtkhdniccnefdhaaBundleTreeRoom4
import Derived.Test.YtkhdniccnefdhaaBundleTreeRoom5
import Derived.Test.YtkhdniccnefdhaaBundleTreeRoom6
import Derived.Test.YtkhdniccnefdhaaBundleTreeRoom7
import Derived.Test.YtkhdniccnefdhaaBundleTreeRoom8
import Derived.Test.YtkhdniccnefdhaaBundleTreeRoom9
import Derived.Test.YtkhdniccnefdhaaBundleTreeRoom10
import Derived.Test.YtkhdniccnefdhaaBundleTreeRoom11
import Derived.Test.YtkhdniccnefdhaaBundleTreeRoom12
/- A store: lay, Undo. -/
namespace Go.Proofs.Ytkhdniccnefdhaa
open Go.RowKit Go.Proofs.U Go.Shelf
set_option linter.unusedSimpArgs false
set_option linter.unusedVariables false
/-- One operation turns memory; all others read. -/
def JH (w0 : World) (V : Value) (Q : World → Prop) : List Value → World → Prop
  | [], W => W = w0
  | [v], W => v = V ∧ Q W
  | _, _ => False
theorem JH.val {w0 : World} {V x : Value} {Q : World → Prop} {hv : List Value} {W : World} (h : JH w0 V Q hv W) (hx : hv[0]? = some x) : x = V := by
  match hv, h with
  | [], _ => cases hx
  | [v], h => cases hx; exact h.1
theorem JH.end {w0 : World} {V : Value} {Q : World → Prop} {hv : List Value} {W : World} (h : JH w0 V Q hv W) (hl : hv.length = 1) : Q W := by
  match hv, hl, h with
  | [v], _, h => exact h.2
/-- What a write to a store may turn. -/
def stB (F : Nat → Prop) (gp : Nat) : Nat → Prop := fun k => F k ∨ k = gp
def LayIs (w w' : World) (F : Nat → Prop) (gs gp : Nat) (S : DSt × List Pg) (m : Nat) : Prop := ∃ F' : Nat → Prop, Sto w' F' gs gp S.1 S.2 m ∧ (∀ k, F' k → (F k ∨ w.heap.size ≤ k) ∧ k < w'.heap.size) ∧ Fr (stB F gp) w w'
set_option maxRecDepth 100000 in
set_option maxHeartbeats 1000000 in
theorem lay_no {F : Nat → Prop} {gs gp : Nat} {X : DSt} {L : List Pg} {m : Nat} (q : List Int) (hq : q.length = 256) (w : World) (h : Sto w F gs gp X L m) (hT : ¬ (plTake L).2.2 = 0) :
    Calls Try.prog 42 #[ptr gs, pgV q] w fun r w' => r = .returned (.tuple #[.int .i64 (-1), .int .i64 (plTake L).2.2]) ∧ LayIs w w' F gs gp (X, (plTake L).1) m := by
  have Hq := show Hid _ from hq
  have hH := fun W (f : Fr noB w W) => ptake_any h.ok gp W (h.fr0 f).pl
  have ho := take_ok h.ok
  have hn := show Hid _ from take_len L
  obtain ⟨gd, k0, k1, hd⟩ := h.cells
  obtain ⟨R, HR⟩ : ∃ R, Hid (plTake L = R) := ⟨_, rfl⟩
  rw [HR.out] at hH ho hn hT ⊢
  go_enter Try.func42, Try.ntmps42
  go_wp2_with (first
    | (with_reducible refine at_wpP ?_; refine wpList_boxV rfl 82 _ rfl (pgv q) rfl ?_; intro g1 w1 hg1 b1 f1 s1; have z1 := f1.size; have k1 := f1.cell k1 (fun q => q))
    | (go_at_call 59; go_must (refine (hH _ f1).mono ?_; rintro e w2 ⟨rfl, b2, f2⟩)))
  go_ret2
  have S2 := (h.fr0 f1).pool f2 b2 ho hn.out
  exact ⟨rfl, _, S2.tight, fun k hk => ⟨Or.inl hk.1, hk.2⟩, (f1.mono (fun k hk q => q.elim)).thenT f2 (fun i hi q => Or.inr q)⟩
set_option maxRecDepth 100000 in
set_option maxHeartbeats 2000000 in
theorem lay_yes {F : Nat → Prop} {gs gp : Nat} {X : DSt} {L : List Pg} {m : Nat} (q : List Int) (hq : q.length = 256) (hb : Byt q) (w : World) (h : Sto w F gs gp X L m) (hm : m ≤ 100000) (hT : (plTake L).2.2 = 0) :
    Calls Try.prog 42 #[ptr gs, pgV q] w fun r w' => r = .returned (.tuple #[.int .i64 (plTake L).2.1, .int .i64 0]) ∧ LayIs w w' F gs gp (X.write ((plTake L).2.1 + 4) q, (plTake L).1) (m + 1) := by
  have Hq := show Hid _ from hq
  have hH := fun W (f : Fr noB w W) => ptake_any h.ok gp W (h.fr0 f).pl
  have ho := take_ok h.ok
  have hn := show Hid _ from take_len L
  have hlen := h.ok.1
  have hrng : 0 ≤ (plTake L).2.1 ∧ (plTake L).2.1 < (L.length : Int) := by
    rcases plTake_cases L with ⟨k, hk, _, _, e⟩ | ⟨_, e⟩
    · rw [e]; simp; omega
    · rw [e] at hT; cases hT
  obtain ⟨gd, k0, k1, hd⟩ := h.cells
  obtain ⟨R, HR⟩ : ∃ R, Hid (plTake L = R) := ⟨_, rfl⟩
  rw [HR.out] at hH ho hn hT hrng ⊢
  obtain ⟨R1, i, e⟩ := R
  simp only at hH ho hn hT hrng ⊢
  subst hT
  obtain ⟨hE, hU, hct⟩ := h.up.write hrng.1 hrng.2 hq hb
  have hW := fun W (d : Disk W F gd X) => write_any gd (i + 4) q hq W d (Nat.le_trans h.up.pm hm)
  rw [hE] at hW
  have hi4 : IntKind.i64.wrap (i + 4) = i + 4 := wrap_sm (by omega)
  obtain ⟨Y, HY⟩ : ∃ Y, Hid (X.write (i + 4) q = Y) := ⟨_, rfl⟩
  rw [HY.out] at hW hU ⊢
  clear hct hE
  go_enter Try.func42, Try.ntmps42
  go_wp2_with (first
    | (with_reducible refine at_wpP ?_; refine wpList_boxV rfl 82 _ rfl (pgv q) rfl ?_; intro g1 w1 hg1 b1 f1 s1; have l1 := b1.lt; have z1 := f1.size; have k1 := f1.cell k1 (fun q => q))
    | (go_at_call 59; go_must (refine (hH _ f1).mono ?_; rintro e w2 ⟨rfl, b2, f2⟩; have z2 := f2.size)))
  have S2 := (h.fr0 f1).pool f2 b2 ho hn.out
  have k0' : w2.cell? ⟨gs, 0, none⟩ = some (ptr gd) := f2.cell (f1.cell k0 (fun q => q)) (fun q => by unfold onB1 at q; exact h.ne q)
  have d2 : Disk w2 F gd X := (hd.fr0 f1).fr f2 (fun k hk hF q => by unfold onB1 at q; subst q; exact h.fp hF)
  have B2 : BxV w2 g1 82 (pgv q) := b1.fr f2 (fun q => by have := h.ltp; unfold onB1 at q; omega)
  obtain ⟨w0, HW⟩ : ∃ w0, Hid (w2.drew = w0) := ⟨_, rfl⟩
  have f0 : Fr noB w2 w0 := by rw [← HW.out]; exact (Fr.refl _ _).drew
  have z0 := f0.size
  have k00 := f0.cell k0' (fun q => q)
  have d20 := d2.fr0 f0
  have B20 := B2.fr0 f0
  refine wp_region_chain_lay (by kernel_rfl) [8] [none, none, none, none, none, none, none, none, some 0, none, none]
    [fun v => v = .int .i64 i, fun v => v = ptr gs, fun v => v = ptr gs, fun v => v = .pointer (some ⟨gs, 0, none⟩), fun v => v = ptr gd, fun v => v = .int .i64 i, fun v => v = .int .i64 (i + 4), fun v => v = pgV q, fun _ => True, fun v => v = .int .i64 i, fun v => v = .int .i64 0]
    (JH w0 (.int .i64 0) (fun W => Disk W (orNew F w0) gd Y ∧ Fr F w0 W)) (HW.out) (by kernel_rfl) (by kernel_rfl) (by decide) ⟨?o0, ?o1, ?o2, ?o3, ?o4, ?o5, ?o6, ?o7, ?o8, ?o9, ?o10, trivial⟩ ?oe
  case o0 =>
    intro A W hv hlen hJ hbase hdL hdH
    have e6 : A.eval (.tmp 6) = .int .i64 i := hbase 6 (by kernel_rfl)
    have f6 : A.tmps[6]?.getD undef = .int .i64 i := by simpa [Act.eval] using e6
    exact light_val rfl (v := .int .i64 i) (by simp [execOp, e6, f6]) hJ rfl
  case o1 =>
    intro A W hv hlen hJ hbase hdL hdH
    have e0 : A.eval (.tmp 0) = ptr gs := hbase 0 (by kernel_rfl)
    have f0 : A.tmps[0]?.getD undef = ptr gs := by simpa [Act.eval] using e0
    exact light_val rfl (v := ptr gs) (by simp [execOp, e0, f0]) hJ rfl
  case o2 =>
    intro A W hv hlen hJ hbase hdL hdH
    have e20 : A.eval (.tmp 20) = ptr gs := hdL 1 20 (by kernel_rfl) (by kernel_rfl) (by kernel_rfl)
    have f20 : A.tmps[20]?.getD undef = ptr gs := by simpa [Act.eval] using e20
    exact light_val rfl (v := ptr gs) (by simp [execOp, go_sem, e20, f20]) hJ rfl
  case o3 =>
    intro A W hv hlen hJ hbase hdL hdH
    have e21 : A.eval (.tmp 21) = ptr gs := hdL 2 21 (by kernel_rfl) (by kernel_rfl) (by kernel_rfl)
    have f21 : A.tmps[21]?.getD undef = ptr gs := by simpa [Act.eval] using e21
    exact light_val rfl (v := .pointer (some ⟨gs, 0, none⟩)) (by simp [execOp, go_sem, e21, f21]) hJ rfl
  case o4 =>
    intro A W hv hlen hJ hbase hdL hdH
    have e22 : A.eval (.tmp 22) = .pointer (some ⟨gs, 0, none⟩) := hdL 3 22 (by kernel_rfl) (by kernel_rfl) (by kernel_rfl)
    have f22 : A.tmps[22]?.getD undef = .pointer (some ⟨gs, 0, none⟩) := by simpa [Act.eval] using e22
    obtain rfl : hv = [] := List.eq_nil_of_length_eq_zero (Nat.le_zero.1 (hlen.2 0 8 rfl (by kernel_rfl)))
    obtain rfl := (show W = _ from hJ)
    exact light_val rfl (v := ptr gd) (by simp [execOp, go_sem, e22, f22, k00]) rfl rfl
  case o5 =>
    intro A W hv hlen hJ hbase hdL hdH
    have e6 : A.eval (.tmp 6) = .int .i64 i := hbase 6 (by kernel_rfl)
    have f6 : A.tmps[6]?.getD undef = .int .i64 i := by simpa [Act.eval] using e6
    exact light_val rfl (v := .int .i64 i) (by simp [execOp, e6, f6]) hJ rfl
  case o6 =>
    intro A W hv hlen hJ hbase hdL hdH
    have e24 : A.eval (.tmp 24) = .int .i64 i := hdL 5 24 (by kernel_rfl) (by kernel_rfl) (by kernel_rfl)
    have f24 : A.tmps[24]?.getD undef = .int .i64 i := by simpa [Act.eval] using e24
    exact light_val rfl (v := .int .i64 (i + 4)) (by simp [execOp, go_sem, e24, f24, hi4]) hJ rfl
  case o7 =>
    intro A W hv hlen hJ hbase hdL hdH
    have e3 : A.eval (.tmp 3) = ptr g1 := hbase 3 (by kernel_rfl)
    have f3 : A.tmps[3]?.getD undef = ptr g1 := by simpa [Act.eval] using e3
    obtain rfl : hv = [] := List.eq_nil_of_length_eq_zero (Nat.le_zero.1 (hlen.2 0 8 rfl (by kernel_rfl)))
    obtain rfl := (show W = _ from hJ)
    have hr := run_loadA arr_page _ g1 0 q (bxAll B20) Hq.out
    exact light_val rfl (v := pgV q) (by simp [execOp, e3, hr, Result.andThen]) rfl rfl
  case o8 =>
    intro A W hv hlen hJ hbase hdL hdH
    have e23 : A.eval (.tmp 23) = ptr gd := hdL 4 23 (by kernel_rfl) (by kernel_rfl) (by kernel_rfl)
    have f23 : A.tmps[23]?.getD undef = ptr gd := by simpa [Act.eval] using e23
    have e25 : A.eval (.tmp 25) = .int .i64 (i + 4) := hdL 6 25 (by kernel_rfl) (by kernel_rfl) (by kernel_rfl)
    have f25 : A.tmps[25]?.getD undef = .int .i64 (i + 4) := by simpa [Act.eval] using e25
    have e26 : A.eval (.tmp 26) = pgV q := hdL 7 26 (by kernel_rfl) (by kernel_rfl) (by kernel_rfl)
    have f26 : A.tmps[26]?.getD undef = pgV q := by simpa [Act.eval] using e26
    obtain rfl : hv = [] := List.eq_nil_of_length_eq_zero hlen
    obtain rfl := (show W = _ from hJ)
    refine heavy_call rfl (args := #[ptr gd, .int .i64 (i + 4), pgV q]) (f := 60) (by simp [execOp, resolve, invoke, go_sem, e23, f23, e25, f25, e26, f26]) ?_
    refine (hW _ d20).mono ?_
    rintro e w' ⟨rfl, d3, f3⟩
    exact ⟨_, rfl, rfl, ⟨d3, f3⟩⟩
  case o9 =>
    intro A W hv hlen hJ hbase hdL hdH
    have e19 : A.eval (.tmp 19) = .int .i64 i := hdL 0 19 (by kernel_rfl) (by kernel_rfl) (by kernel_rfl)
    have f19 : A.tmps[19]?.getD undef = .int .i64 i := by simpa [Act.eval] using e19
    exact light_val rfl (v := .int .i64 i) (by simp [execOp, e19, f19]) hJ rfl
  case o10 =>
    intro A W hv hlen hJ hbase hdL hdH
    have ev : A.eval (.tmp 27) = .int .i64 0 := JH.val hJ (hdH 8 27 0 (by kernel_rfl) rfl (by kernel_rfl))
    exact light_val rfl (v := .int .i64 0) (by simp [execOp, ev]) hJ rfl
  case oe =>
    intro vs W' hv hlen hJ hL hH
    have x0 : vs 0 = .int .i64 i := hL 0 (by kernel_rfl) (by kernel_rfl)
    have x1 : vs 1 = ptr gs := hL 1 (by kernel_rfl) (by kernel_rfl)
    have x2 : vs 2 = ptr gs := hL 2 (by kernel_rfl) (by kernel_rfl)
    have x3 : vs 3 = .pointer (some ⟨gs, 0, none⟩) := hL 3 (by kernel_rfl) (by kernel_rfl)
    have x4 : vs 4 = ptr gd := hL 4 (by kernel_rfl) (by kernel_rfl)
    have x5 : vs 5 = .int .i64 i := hL 5 (by kernel_rfl) (by kernel_rfl)
    have x6 : vs 6 = .int .i64 (i + 4) := hL 6 (by kernel_rfl) (by kernel_rfl)
    have x7 : vs 7 = pgV q := hL 7 (by kernel_rfl) (by kernel_rfl)
    have x8 : vs 8 = .int .i64 0 := JH.val hJ (hH 0 8 rfl (by kernel_rfl))
    have x9 : vs 9 = .int .i64 i := hL 9 (by kernel_rfl) (by kernel_rfl)
    have x10 : vs 10 = .int .i64 0 := hL 10 (by kernel_rfl) (by kernel_rfl)
    have hQ := JH.end hJ hlen
    simp only [layL, Nat.reduceAdd, Act.put, List.setIfInBounds_toArray, List.set_cons_zero, List.set_cons_succ, x0, x1, x2, x3, x4, x5, x6, x7, x8, x9, x10]
    clear x0 x1 x2 x3 x4 x5 x6 x7 x8 x9 x10 hL hH hJ hlen
    obtain ⟨d3, f3⟩ := hQ
    have z3 := f3.size
    go_wp2
    go_ret2
    have d3' := d3.tight
    have F3 : Fr F w2 W' := (f0.mono (fun _ _ q => q.elim)).trans f3
    refine ⟨rfl, _, ⟨⟨gd, ?_, d3'⟩, S2.pl.fr F3 h.fp, ho, ?_, ?_, ?_, h.ne, fun k hk => hk.2⟩, ?_, ?_⟩
    · obtain ⟨gd', hb', hd'⟩ := S2.dk
      have e : gd' = gd := by have := hb'.two.1; rw [k0'] at this; simpa using this.symm
      subst e
      exact hb'.fr F3 h.fs
    · simp only; rw [hn.out]; exact hU
    · intro q
      have := h.lts
      unfold orNew at q
      rcases q.1 with q1 | q1
      · exact h.fs q1
      · omega
    · intro q
      have := h.ltp
      unfold orNew at q
      rcases q.1 with q1 | q1
      · exact h.fp q1
      · omega
    · intro k hk
      unfold orNew at hk
      refine ⟨?_, hk.2⟩
      rcases hk.1 with q1 | q1
      · exact Or.inl q1
      · exact Or.inr (by omega)
    · exact ((f1.mono (fun k hk q => q.elim)).thenT f2 (fun i hi q => Or.inr q)).thenT F3 (fun i hi q => Or.inl q)
theorem run_ldPool {w : World} {g : Nat} {M : List Pg} (h : PoolB w g M) : (Instr.loadAt 72 (ptr g)).run Try.prog w = .ok (.agg (poolL M).toArray) w := by
  obtain ⟨d, hu, hd⟩ := pool_under
  have := run_loadVar_mid (P := Try.prog) w g 0 72 (poolL M) d (h.range 0 (poolL M) (by show (poolL M).take (poolL M).length = poolL M; exact List.take_length)) hu hd (by rw [pool_size, poolL_len])
  simpa [Instr.loadAt, Instr.sureAddr, Result.andThen] using this
theorem wp_stPool {op : Oper} {a : Act} {w : World} {K : Act → World → Prop} {Q : Exit → Act → World → Prop} {x y : Operand} {g : Nat} {L M : List Pg} (ho : op.op = .store 72 x y) (hx : a.eval x = ptr g) (hy : a.eval y = .agg (poolL M).toArray) (hB : PoolB w g L)
    (h : ∀ w', PoolB w' g M → Fr (onB1 g) w w' → K (a.put op.dst undef) w') : op.wp Try.prog a w K Q := by
  refine wp_store_mid 72 x y ho g 0 (poolL M).toArray hx hy (by simpa using hB.thereR 0 (poolL M).length (by rw [poolL_len, poolL_len]; decide)) (by rw [pool_size]; simp [poolL_len]) (all_oneCell_toArray (poolL_one M)) (h _ ?_ ?_)
  · have := setCells_bx (poolL M) 0 w (poolL L) hB (by rw [poolL_len, poolL_len]; decide)
    rw [putAt_all _ _ (by rw [poolL_len, poolL_len])] at this
    exact this
  · exact setCells_fr1 w g _ 0
/-- While a pool is made as a clone of another one is. -/
def JHU (w0 : World) (gp : Nat) (M : List Pg) : List Value → World → Prop
  | [], W => W = w0
  | [v], W => ∃ g', v = ptr g' ∧ PoolB W g' M ∧ Fr noB w0 W
  | [_, v], W => ∃ g', v = ptr g' ∧ PoolB W g' M ∧ Fr noB w0 W
  | [_, _, v], W => v = .agg (poolL M).toArray ∧ Fr noB w0 W
  | [_, _, _, _], W => PoolB W gp M ∧ Fr (onB1 gp) w0 W
  | _, _ => False
theorem JHU.fr {w0 : World} {gp : Nat} {M : List Pg} : ∀ {hv : List Value} {W : World}, JHU w0 gp M hv W → hv.length ≤ 3 → Fr noB w0 W
  | [], _, h, _ => by obtain rfl := (show _ = _ from h); exact Fr.refl _ _
  | [_], _, ⟨_, _, _, f⟩, _ => f
  | [_, _], _, ⟨_, _, _, f⟩, _ => f
  | [_, _, _], _, ⟨_, f⟩, _ => f
  | _ :: _ :: _ :: _ :: _, _, _, hl => absurd hl (by simp)
set_option maxRecDepth 100000 in
set_option maxHeartbeats 2000000 in
theorem nundo_any {F : Nat → Prop} {gs gp gm : Nat} {X : DSt} {L M : List Pg} {m : Nat} (w : World) (h : Sto w F gs gp X L m) (hM : PoolB w gm M) (ho : plOk M) (hl : M.length = L.length) :
    Calls Try.prog 17 #[ptr gs, ptr gm] w fun r w' => r = .returned (.tuple #[]) ∧ Sto w' F gs gp X M m ∧ Fr (onB1 gp) w w' := by
  have Hl := show Hid _ from hl
  clear hl
  obtain ⟨gd, k0, k1, hd⟩ := h.cells
  go_enter Try.func17, Try.ntmps17
  go_wp2_with fail
  obtain ⟨w0, HW⟩ : ∃ w0, Hid (w.drew = w0) := ⟨_, rfl⟩
  have f0 : Fr noB w w0 := by rw [← HW.out]; exact (Fr.refl _ _).drew
  have k10 := f0.cell k1 (fun q => q)
  have M0 := hM.fr0 f0
  have P0 := h.pl.fr0 f0
  refine wp_region_chain_lay (by kernel_rfl) [5, 6, 7, 9] [none, none, none, none, none, some 0, some 1, some 2, none, some 3]
    [fun v => v = ptr gs, fun v => v = ptr gs, fun v => v = .pointer (some ⟨gs, 1, none⟩), fun v => v = ptr gp, fun v => v = ptr gm, fun _ => True, fun _ => True, fun _ => True, fun v => v = ptr gp, fun _ => True]
    (JHU w0 gp M) (HW.out) (by kernel_rfl) (by kernel_rfl) (by decide) ⟨?o0, ?o1, ?o2, ?o3, ?o4, ?o5, ?o6, ?o7, ?o8, ?o9, trivial⟩ ?oe
  case o0 =>
    intro A W hv hlen hJ hbase hdL hdH
    have e0 : A.eval (.tmp 0) = ptr gs := hbase 0 (by kernel_rfl)
    have f0 : A.tmps[0]?.getD undef = ptr gs := by simpa [Act.eval] using e0
    exact light_val rfl (v := ptr gs) (by simp [execOp, e0, f0]) hJ rfl
  case o1 =>
    intro A W hv hlen hJ hbase hdL hdH
    have e4 : A.eval (.tmp 4) = ptr gs := hdL 0 4 (by kernel_rfl) (by kernel_rfl) (by kernel_rfl)
    have f4 : A.tmps[4]?.getD undef = ptr gs := by simpa [Act.eval] using e4
    exact light_val rfl (v := ptr gs) (by simp [execOp, go_sem, e4, f4]) hJ rfl
  case o2 =>
    intro A W hv hlen hJ hbase hdL hdH
    have e5 : A.eval (.tmp 5) = ptr gs := hdL 1 5 (by kernel_rfl) (by kernel_rfl) (by kernel_rfl)
    have f5 : A.tmps[5]?.getD undef = ptr gs := by simpa [Act.eval] using e5
    exact light_val rfl (v := .pointer (some ⟨gs, 1, none⟩)) (by simp [execOp, go_sem, e5, f5]) hJ rfl
  case o3 =>
    intro A W hv hlen hJ hbase hdL hdH
    have e6 : A.eval (.tmp 6) = .pointer (some ⟨gs, 1, none⟩) := hdL 2 6 (by kernel_rfl) (by kernel_rfl) (by kernel_rfl)
    have f6 : A.tmps[6]?.getD undef = .pointer (some ⟨gs, 1, none⟩) := by simpa [Act.eval] using e6
    have hb1 : hv.length ≤ 3 := hlen.2 3 9 rfl (by kernel_rfl)
    have kc := (JHU.fr hJ hb1).cell k10 (fun q => q)
    exact light_val rfl (v := ptr gp) (by simp [execOp, go_sem, e6, f6, kc]) hJ rfl
  case o4 =>
    intro A W hv hlen hJ hbase hdL hdH
    have e1 : A.eval (.tmp 1) = ptr gm := hbase 1 (by kernel_rfl)
    have f1 : A.tmps[1]?.getD undef = ptr gm := by simpa [Act.eval] using e1
    exact light_val rfl (v := ptr gm) (by simp [execOp, e1, f1]) hJ rfl
  case o5 =>
    intro A W hv hlen hJ hbase hdL hdH
    have e8 : A.eval (.tmp 8) = ptr gm := hdL 4 8 (by kernel_rfl) (by kernel_rfl) (by kernel_rfl)
    have f8 : A.tmps[8]?.getD undef = ptr gm := by simpa [Act.eval] using e8
    obtain rfl : hv = [] := List.eq_nil_of_length_eq_zero hlen
    obtain rfl := (show W = _ from hJ)
    refine heavy_call rfl (args := #[ptr gm]) (f := 35) (by simp [execOp, resolve, invoke, go_sem, e8, f8]) ?_
    refine (pclone_any gm _ M0).mono ?_
    rintro e w' ⟨g2, rfl, s2, b2, f2⟩
    exact ⟨_, rfl, g2, rfl, b2, f2⟩
  case o6 =>
    intro A W hv hlen hJ hbase hdL hdH
    obtain ⟨v0, rfl⟩ := List.length_eq_one_iff.1 hlen
    obtain ⟨g2, rfl, b2, f2⟩ := hJ
    have e9 : A.eval (.tmp 9) = ptr g2 := by have := hdH 5 9 0 (by kernel_rfl) rfl (by kernel_rfl); simpa using this.symm
    have f9 : A.tmps[9]?.getD undef = ptr g2 := by simpa [Act.eval] using e9
    exact heavy_val rfl (v := ptr g2) (by simp [execOp, go_sem, e9, f9]) ⟨g2, rfl, b2, f2⟩
  case o7 =>
    intro A W hv hlen hJ hbase hdL hdH
    match hv, hlen with
    | [v0, v1], _ =>
      obtain ⟨g2, rfl, b2, f2⟩ := hJ
      have e10 : A.eval (.tmp 10) = ptr g2 := by have := hdH 6 10 1 (by kernel_rfl) rfl (by kernel_rfl); simpa using this.symm
      have hr := run_ldPool b2
      exact heavy_val rfl (v := .agg (poolL M).toArray) (by simp [execOp, e10, hr, Result.andThen]) ⟨rfl, f2⟩
  case o8 =>
    intro A W hv hlen hJ hbase hdL hdH
    have e7 : A.eval (.tmp 7) = ptr gp := hdL 3 7 (by kernel_rfl) (by kernel_rfl) (by kernel_rfl)
    have f7 : A.tmps[7]?.getD undef = ptr gp := by simpa [Act.eval] using e7
    exact light_val rfl (v := ptr gp) (by simp [execOp, go_sem, e7, f7]) hJ rfl
  case o9 =>
    intro A W hv hlen hJ hbase hdL hdH
    have e12 : A.eval (.tmp 12) = ptr gp := hdL 8 12 (by kernel_rfl) (by kernel_rfl) (by kernel_rfl)
    have f12 : A.tmps[12]?.getD undef = ptr gp := by simpa [Act.eval] using e12
    match hv, hlen with
    | [v0, v1, v2], _ =>
      obtain ⟨rfl, f2⟩ := hJ
      have e11 : A.eval (.tmp 11) = .agg (poolL M).toArray := by have := hdH 7 11 2 (by kernel_rfl) rfl (by kernel_rfl); simpa using this.symm
      refine heavy_wp rfl (wp_stPool rfl e12 e11 (P0.fr0 f2) ?_)
      intro w' b3 f3
      exact ⟨_, rfl, b3, (f2.mono (fun _ _ q => q.elim)).trans f3⟩
  case oe =>
    intro vs W' hv hlen hJ hL hH
    match hv, hlen with
    | [z0, z1, z2, z3], _ =>
      obtain ⟨b2, f2⟩ := hJ
      simp only [layL, Nat.reduceAdd, Act.put, List.setIfInBounds_toArray, List.set_cons_zero, List.set_cons_succ]
      clear hL hH
      generalize vs 0 = y100 at *
      generalize vs 1 = y101 at *
      generalize vs 2 = y102 at *
      generalize vs 3 = y103 at *
      generalize vs 4 = y104 at *
      generalize vs 5 = y105 at *
      generalize vs 6 = y106 at *
      generalize vs 7 = y107 at *
      generalize vs 8 = y108 at *
      generalize vs 9 = y109 at *
      have F2 : Fr (onB1 gp) w W' := (f0.mono (fun _ _ q => q.elim)).trans f2
      go_wp2
      go_end0
      exact ⟨rfl, h.pool F2 b2 ho Hl.out, F2⟩
end Go.Proofs.Ytkhdniccnefdhaa
/- A store: Make, Drop. -/
namespace Go.Proofs.Ytkhdniccnefdhaa
open Go.RowKit Go.Proofs.U Go.Shelf
set_option linter.unusedSimpArgs false
set_option linter.unusedVariables false
theorem eg_lacks : ∀ args w, (callFunc 37 args).run Try.prog w = .ok (.enter 37 args) w := enters_of Try.func37 (by kernel_rfl) rfl
theorem eg_hold : ∀ args w, (callFunc 44 args).run Try.prog w = .ok (.enter 44 args) w := enters_of Try.func44 (by kernel_rfl) rfl
theorem eg_drop : ∀ args w, (callFunc 34 args).run Try.prog w = .ok (.enter 34 args) w := enters_of Try.func34 (by kernel_rfl) rfl
theorem contains_lacks {F : Nat → Prop} {gs gp : Nat} {X : DSt} {L : List Pg} {m : Nat} (u : Value) (l : List Int) (hl : l.length ≤ 1000000) (w : World) (h : Sto w F gs gp X L m) (hu : SlI .i64 w u l) :
    Calls Try.prog 41 #[u, .func (.func 37) #[ptr gs] #[]] w fun r w' => r = .returned (.bool (l.any fun p => !plHeld L p)) ∧ w = w' :=
  containsFunc_any (fun p => !plHeld L p) 37 #[ptr gs] #[] eg_lacks u l w hu hl (fun x hx => lacks_any x w h)
theorem each_hold {gp : Nat} {L : List Pg} (u : Value) (l : List Int) (hl : l.length ≤ 1000000) (w : World) (h : PoolB w gp L) (ho : plOk L) (hu : SlI .i64 w u l) (hg : ∀ k, u.ownBlock = some k → k ≠ gp) :
    Calls Try.prog 43 #[u, .func (.func 44) #[ptr gp] #[]] w fun r w' => r = .returned (.int .i64 (eachF plHold L l).2) ∧ PoolB w' gp (eachF plHold L l).1 ∧ Fr (onB1 gp) w w' := by
  refine (each_any plHold (fun M W => PoolB W gp M ∧ plOk M ∧ SlI .i64 W u l ∧ Fr (onB1 gp) w W) 44 #[ptr gp] #[] eg_hold u l hl (fun _ _ h => h.2.2.1) (fun M W x hx hI => ?_) L w ⟨h, ho, hu, Fr.refl _ _⟩).mono ?_
  · refine (phold_any hI.2.1 gp x W hI.1).mono ?_
    rintro e w1 ⟨rfl, b1, f1⟩
    exact ⟨rfl, b1, hold_ok hI.2.1 x, hI.2.2.1.fr f1 (fun k hk q => hg k hk q), hI.2.2.2.trans f1⟩
  · rintro e w1 ⟨rfl, b1, _, _, f1⟩
    exact ⟨rfl, b1, f1⟩
theorem kids_len {w : World} {v : Value} {n : Nd} (h : NdS w v n) : (kids n).length ≤ 1000 := by unfold kids; rw [List.length_map]; exact h.2.2.1
theorem eachHold_len (l : List Int) (L : List Pg) : (eachF plHold L l).1.length = L.length := eachF_inv (I := fun M => M.length = L.length) (fun M p h => by rw [hold_len]; exact h) l L rfl
theorem eachHold_ok (l : List Int) {L : List Pg} (h : plOk L) : plOk (eachF plHold L l).1 := eachF_inv (I := plOk) (fun M p h => hold_ok h p) l L h
set_option maxRecDepth 100000 in
set_option maxHeartbeats 1000000 in
theorem make_no {F : Nat → Prop} {gs gp : Nat} {X : DSt} {L : List Pg} {m : Nat} (n : Nd) (vs : Value) (w : World) (h : Sto w F gs gp X L m) (hn : NdS w vs n) (hr : n.right = false) :
    Calls Try.prog 26 #[ptr gs, ndV n.k n.b vs] w fun r w' => r = .returned (.tuple #[.int .i64 (-1), .int .i64 81]) ∧ Sto w' F gs gp X L m ∧ Fr noB w w' := by
  have hP := fun W (f : Fr noB w W) => page_no n vs W (hn.fr0 f) hr
  have hbl := NdS.bl hn
  obtain ⟨Z, HZ⟩ : ∃ Z, Hid (zerB 256 = Z) := ⟨_, rfl⟩
  have hZl : Hid (Z.length = 256) := by show _ = _; rw [← HZ.out]; exact zerB_len 256
  rw [HZ.out] at hP
  go_enter Try.func26, Try.ntmps26
  go_wp2_with (first
    | (with_reducible refine at_wpP ?_; refine wpList_boxN rfl _ rfl n.k n.b vs rfl ?_; intro g1 w1 hg1 b1 f1 s1; have l1 := b1.lt; have z1 := f1.size)
    | (with_reducible refine at_wpP ?_; refine at_ld 47 _ rfl ?_; go_must (refine wpList_ldN rfl _ rfl g1 rfl n.k n.b vs b1 hbl.out ?_))
    | (go_at_call 39; go_must (refine (hP _ f1).mono ?_; rintro e w2 ⟨rfl, f2⟩; have z2 := f2.size))
    | (with_reducible refine at_wpP ?_; refine wpList_allocA arr_page rfl rfl ?_; rw [HZ.out]; intro g3 w3 hg3 b3 f3 s3; have l3 := b3.lt; have z3 := f3.size)
    | (with_reducible refine at_wpP ?_; refine at_st 82 _ _ rfl ?_; go_must (refine wpList_storeA arr_page rfl _ _ rfl g3 rfl Z rfl _ b3 hZl.out hZl.out ?_; intro w4 b4 f4; have z4 := f4.size; have F4 : Fr noB w2 w4 := Fr.ownX f3 s3 f4)))
  go_ret2
  have F := (f1.thenN f2).thenN F4
  exact ⟨rfl, h.fr0 F, F⟩
set_option maxRecDepth 100000 in
set_option maxHeartbeats 1000000 in
theorem make_lack {F : Nat → Prop} {gs gp : Nat} {X : DSt} {L : List Pg} {m : Nat} (n : Nd) (vs : Value) (w : World) (h : Sto w F gs gp X L m) (hn : NdS w vs n) (hr : n.right = true) (ha : (kids n).any (fun p => !plHeld L p) = true) :
    Calls Try.prog 26 #[ptr gs, ndV n.k n.b vs] w fun r w' => r = .returned (.tuple #[.int .i64 (-1), .int .i64 73]) ∧ Sto w' F gs gp X L m ∧ Fr noB w w' := by
  have hP := fun W (f : Fr noB w W) => page_ok n vs W (hn.fr0 f) hr
  have hC := fun W (f : Fr noB w W) => children_any n vs W (hn.fr0 f)
  have hkl := kids_len hn
  have hL := fun (u : Value) W (f : Fr noB w W) (hu : SlI .i64 W u (kids n)) => contains_lacks u (kids n) (by omega) W (h.fr0 f) hu
  rw [ha] at hL
  have hbl := NdS.bl hn
  have hpl := show Hid _ from page_len hr hbl.out
  obtain ⟨K, HK⟩ : ∃ K, Hid (kids n = K) := ⟨_, rfl⟩
  rw [HK.out] at hC hL
  obtain ⟨P, HP⟩ : ∃ P, Hid (n.page = P) := ⟨_, rfl⟩
  rw [HP.out] at hP hpl
  obtain ⟨Z, HZ⟩ : ∃ Z, Hid (zerB 256 = Z) := ⟨_, rfl⟩
  have hZl : Hid (Z.length = 256) := by show _ = _; rw [← HZ.out]; exact zerB_len 256
  go_enter Try.func26, Try.ntmps26
  go_wp2_with (first
    | (with_reducible refine at_wpP ?_; refine wpList_boxN rfl _ rfl n.k n.b vs rfl ?_; intro g1 w1 hg1 b1 f1 s1; have l1 := b1.lt; have z1 := f1.size)
    | (with_reducible refine at_wpP ?_; refine at_ld 47 _ rfl ?_; have q := b4; go_must (refine wpList_ldN rfl _ rfl g1 rfl n.k n.b vs ((b1.fr0 f2).fr0 F4) hbl.out ?_))
    | (with_reducible refine at_wpP ?_; refine at_ld 47 _ rfl ?_; refine wpList_ldN rfl _ rfl g1 rfl n.k n.b vs b1 hbl.out ?_)
    | (go_at_call 39; go_must (refine (hP _ f1).mono ?_; rintro e w2 ⟨rfl, f2⟩; have z2 := f2.size))
    | (with_reducible refine at_wpP ?_; refine wpList_allocA arr_page rfl rfl ?_; rw [HZ.out]; intro g3 w3 hg3 b3 f3 s3; have l3 := b3.lt; have z3 := f3.size)
    | (with_reducible refine at_wpP ?_; refine at_st 82 _ _ rfl ?_; go_must (refine wpList_storeA arr_page rfl _ _ rfl g3 rfl P rfl _ b3 hpl.out hZl.out ?_; intro w4 b4 f4; have z4 := f4.size; have F4 : Fr noB w2 w4 := Fr.ownX f3 s3 f4; have G4 : Fr noB w w4 := (f1.thenN f2).thenN F4))
    | (go_at_call 40; go_must (refine (hC _ G4).mono ?_; rintro e w5 ⟨u, rfl, o5, u5, f5⟩; have z5 := f5.size; have G5 := G4.thenN f5))
    | (go_at_call 41; go_must (refine (hL _ _ G5 u5).mono ?_; rintro e w6 ⟨rfl, rfl⟩)))
  go_ret2
  exact ⟨rfl, h.fr0 G5, G5⟩
end Go.Proofs.Ytkhdniccnefdhaa
/- A store: Make; Drop. (Written by h6_gen.py.) -/
namespace Go.Proofs.Ytkhdniccnefdhaa
open Go.RowKit Go.Proofs.U Go.Shelf
set_option linter.unusedSimpArgs false
set_option linter.unusedVariables false
set_option maxRecDepth 100000 in
set_option maxHeartbeats 1000000 in
theorem make_full {F : Nat → Prop} {gs gp : Nat} {X : DSt} {L : List Pg} {m : Nat} (n : Nd) (vs : Value) (w : World) (h : Sto w F gs gp X L m) (hm : m ≤ 100000) (hn : NdS w vs n) (hr : n.right = true) (ha : (kids n).any (fun p => !plHeld L p) = false) (hT : ¬ (plTake L).2.2 = 0) :
    Calls Try.prog 26 #[ptr gs, ndV n.k n.b vs] w fun r w' => r = .returned (.tuple #[.int .i64 (-1), .int .i64 (plTake L).2.2]) ∧ LayIs w w' F gs gp (X, (plTake L).1) m := by
  have hP := fun W (f : Fr noB w W) => page_ok n vs W (hn.fr0 f) hr
  have hC := fun W (f : Fr noB w W) => children_any n vs W (hn.fr0 f)
  have hkl := kids_len hn
  have hL := fun (u : Value) W (f : Fr noB w W) (hu : SlI .i64 W u (kids n)) => contains_lacks u (kids n) (by omega) W (h.fr0 f) hu
  rw [ha] at hL
  have hbl := NdS.bl hn
  have hpl := show Hid _ from page_len hr hbl.out
  have hpb := page_byt hr hn.2.1
  have hY := fun W (f : Fr noB w W) => lay_no n.page hpl.out W (h.fr0 f) hT
  obtain ⟨R, HR⟩ : ∃ R, Hid (plTake L = R) := ⟨_, rfl⟩
  rw [HR.out] at hY hT ⊢
  obtain ⟨K, HK⟩ : ∃ K, Hid (kids n = K) := ⟨_, rfl⟩
  rw [HK.out] at hC hL hkl 
  obtain ⟨P, HP⟩ : ∃ P, Hid (n.page = P) := ⟨_, rfl⟩
  rw [HP.out] at hP hpl hY 
  obtain ⟨Z, HZ⟩ : ∃ Z, Hid (zerB 256 = Z) := ⟨_, rfl⟩
  have hZl : Hid (Z.length = 256) := by show _ = _; rw [← HZ.out]; exact zerB_len 256
  go_enter Try.func26, Try.ntmps26
  go_wp2_with (first
    | (with_reducible refine at_wpP ?_; refine wpList_boxN rfl _ rfl n.k n.b vs rfl ?_; intro g1 w1 hg1 b1 f1 s1; have l1 := b1.lt; have z1 := f1.size)
    | (with_reducible refine at_wpP ?_; refine at_ld 47 _ rfl ?_; have q := b4; go_must (refine wpList_ldN rfl _ rfl g1 rfl n.k n.b vs ((b1.fr0 f2).fr0 F4) hbl.out ?_))
    | (with_reducible refine at_wpP ?_; refine at_ld 47 _ rfl ?_; refine wpList_ldN rfl _ rfl g1 rfl n.k n.b vs b1 hbl.out ?_)
    | (go_at_call 39; go_must (refine (hP _ f1).mono ?_; rintro e w2 ⟨rfl, f2⟩; have z2 := f2.size))
    | (with_reducible refine at_wpP ?_; refine wpList_allocA arr_page rfl rfl ?_; rw [HZ.out]; intro g3 w3 hg3 b3 f3 s3; have l3 := b3.lt; have z3 := f3.size)
    | (with_reducible refine at_wpP ?_; refine at_st 82 _ _ rfl ?_; go_must (refine wpList_storeA arr_page rfl _ _ rfl g3 rfl P rfl _ b3 hpl.out hZl.out ?_; intro w4 b4 f4; have z4 := f4.size; have F4 : Fr noB w2 w4 := Fr.ownX f3 s3 f4; have G4 : Fr noB w w4 := (f1.thenN f2).thenN F4))
    | (go_at_call 40; go_must (refine (hC _ G4).mono ?_; rintro e w5 ⟨u, rfl, o5, u5, f5⟩; have z5 := f5.size; have G5 := G4.thenN f5; have nb5 := o5.newB; have lp5 := h.ltp; have zz5 := G4.size))
    | (go_at_call 41; go_must (refine (hL _ _ G5 u5).mono ?_; rintro e w6 ⟨rfl, rfl⟩))
    | (with_reducible refine at_wpP ?_; refine at_ld 82 _ rfl ?_; go_must (refine wpList_loadA arr_page rfl _ rfl g3 rfl P (b4.fr0 f5) hpl.out ?_))
    | (go_at_call 42; go_must (refine (hY _ G5).mono ?_; rintro e w7 ⟨rfl, F', S7, g7, f7⟩; have z7 := f7.size; obtain ⟨gd, q0, q1, _⟩ := S7.cells)))
  go_ret2
  exact ⟨rfl, F', S7, fun k hk => ⟨(g7 k hk).1.imp id (fun q => by have := G5.size; omega), (g7 k hk).2⟩, (G5.mono (fun _ _ q => q.elim)).thenT f7 (fun i hi q => q)⟩
set_option maxRecDepth 100000 in
set_option maxHeartbeats 1000000 in
theorem make_yes {F : Nat → Prop} {gs gp : Nat} {X : DSt} {L : List Pg} {m : Nat} (n : Nd) (vs : Value) (w : World) (h : Sto w F gs gp X L m) (hm : m ≤ 100000) (hn : NdS w vs n) (hr : n.right = true) (ha : (kids n).any (fun p => !plHeld L p) = false) (hT : (plTake L).2.2 = 0) (he : (eachF plHold (plTake L).1 (kids n)).2 = 0) :
    Calls Try.prog 26 #[ptr gs, ndV n.k n.b vs] w fun r w' => r = .returned (.tuple #[.int .i64 (plTake L).2.1, .int .i64 0]) ∧ LayIs w w' F gs gp (X.write ((plTake L).2.1 + 4) n.page, (eachF plHold (plTake L).1 (kids n)).1) (m + 1) := by
  have hP := fun W (f : Fr noB w W) => page_ok n vs W (hn.fr0 f) hr
  have hC := fun W (f : Fr noB w W) => children_any n vs W (hn.fr0 f)
  have hkl := kids_len hn
  have hL := fun (u : Value) W (f : Fr noB w W) (hu : SlI .i64 W u (kids n)) => contains_lacks u (kids n) (by omega) W (h.fr0 f) hu
  rw [ha] at hL
  have hbl := NdS.bl hn
  have hpl := show Hid _ from page_len hr hbl.out
  have hpb := page_byt hr hn.2.1
  have hY := fun W (f : Fr noB w W) => lay_yes n.page hpl.out hpb W (h.fr0 f) hm hT
  have ho := take_ok h.ok
  have hE := fun (u : Value) W (b : PoolB W gp (plTake L).1) (hu : SlI .i64 W u (kids n)) (hg : ∀ k, u.ownBlock = some k → k ≠ gp) => each_hold u (kids n) (by omega) W b ho hu hg
  have ho2 := eachHold_ok (kids n) ho
  have hn2 := show Hid _ from eachHold_len (kids n) (plTake L).1
  obtain ⟨R, HR⟩ : ∃ R, Hid (plTake L = R) := ⟨_, rfl⟩
  rw [HR.out] at hY hT hE ho he ho2 hn2 ⊢
  obtain ⟨K, HK⟩ : ∃ K, Hid (kids n = K) := ⟨_, rfl⟩
  rw [HK.out] at hC hL hkl hE he ho2 hn2 ⊢
  obtain ⟨P, HP⟩ : ∃ P, Hid (n.page = P) := ⟨_, rfl⟩
  rw [HP.out] at hP hpl hY ⊢
  obtain ⟨Z, HZ⟩ : ∃ Z, Hid (zerB 256 = Z) := ⟨_, rfl⟩
  have hZl : Hid (Z.length = 256) := by show _ = _; rw [← HZ.out]; exact zerB_len 256
  obtain ⟨R1, i, e0⟩ := R
  simp only at hY hT hE ho he ho2 hn2 ⊢
  subst hT
  obtain ⟨V, HV⟩ : ∃ V, Hid (eachF plHold R1 K = V) := ⟨_, rfl⟩
  rw [HV.out] at hE he ho2 hn2 ⊢
  obtain ⟨V1, e1⟩ := V
  simp only at hE he ho2 hn2 ⊢
  subst he
  obtain ⟨Y, HY⟩ : ∃ Y, Hid (X.write (i + 4) P = Y) := ⟨_, rfl⟩
  rw [HY.out] at hY ⊢
  go_enter Try.func26, Try.ntmps26
  go_wp2_with (first
    | (with_reducible refine at_wpP ?_; refine wpList_boxN rfl _ rfl n.k n.b vs rfl ?_; intro g1 w1 hg1 b1 f1 s1; have l1 := b1.lt; have z1 := f1.size)
    | (with_reducible refine at_wpP ?_; refine at_ld 47 _ rfl ?_; have q := b4; go_must (refine wpList_ldN rfl _ rfl g1 rfl n.k n.b vs ((b1.fr0 f2).fr0 F4) hbl.out ?_))
    | (with_reducible refine at_wpP ?_; refine at_ld 47 _ rfl ?_; refine wpList_ldN rfl _ rfl g1 rfl n.k n.b vs b1 hbl.out ?_)
    | (go_at_call 39; go_must (refine (hP _ f1).mono ?_; rintro e w2 ⟨rfl, f2⟩; have z2 := f2.size))
    | (with_reducible refine at_wpP ?_; refine wpList_allocA arr_page rfl rfl ?_; rw [HZ.out]; intro g3 w3 hg3 b3 f3 s3; have l3 := b3.lt; have z3 := f3.size)
    | (with_reducible refine at_wpP ?_; refine at_st 82 _ _ rfl ?_; go_must (refine wpList_storeA arr_page rfl _ _ rfl g3 rfl P rfl _ b3 hpl.out hZl.out ?_; intro w4 b4 f4; have z4 := f4.size; have F4 : Fr noB w2 w4 := Fr.ownX f3 s3 f4; have G4 : Fr noB w w4 := (f1.thenN f2).thenN F4))
    | (go_at_call 40; go_must (refine (hC _ G4).mono ?_; rintro e w5 ⟨u, rfl, o5, u5, f5⟩; have z5 := f5.size; have G5 := G4.thenN f5; have nb5 := o5.newB; have lp5 := h.ltp; have zz5 := G4.size))
    | (go_at_call 41; go_must (refine (hL _ _ G5 u5).mono ?_; rintro e w6 ⟨rfl, rfl⟩))
    | (with_reducible refine at_wpP ?_; refine at_ld 82 _ rfl ?_; go_must (refine wpList_loadA arr_page rfl _ rfl g3 rfl P (b4.fr0 f5) hpl.out ?_))
    | (go_at_call 42; go_must (refine (hY _ G5).mono ?_; rintro e w7 ⟨rfl, F', S7, g7, f7⟩; have z7 := f7.size; obtain ⟨gd, q0, q1, _⟩ := S7.cells))
    | (go_at_call 43; go_must (refine (hE u _ S7.pl ?hu7 ?hg7).mono ?_; rotate_left 2; rintro e w8 ⟨rfl, b8, f8⟩)))
  case hu7 =>
    refine u5.fr f7 (fun k hk q => ?_)
    have := nb5 k hk
    unfold stB at q
    rcases q with q | q
    · have := h.ft k q; omega
    · omega
  case hg7 =>
    intro k hk e
    have := nb5 k hk
    omega
  go_ret2
  have S8 := S7.pool f8 b8 ho2 hn2.out
  exact ⟨rfl, F', S8, fun k hk => ⟨(g7 k hk).1.imp id (fun q => by have := G5.size; omega), by have := (g7 k hk).2; have := f8.size; omega⟩, ((G5.mono (fun _ _ q => q.elim)).thenT f7 (fun i hi q => q)).thenT f8 (fun i hi q => Or.inr q)⟩
set_option maxRecDepth 100000 in
set_option maxHeartbeats 1000000 in
theorem make_cut {F : Nat → Prop} {gs gp : Nat} {X : DSt} {L : List Pg} {m : Nat} (n : Nd) (vs : Value) (w : World) (h : Sto w F gs gp X L m) (hm : m ≤ 100000) (hn : NdS w vs n) (hr : n.right = true) (ha : (kids n).any (fun p => !plHeld L p) = false) (hT : (plTake L).2.2 = 0) (he : ¬ (eachF plHold (plTake L).1 (kids n)).2 = 0) :
    Calls Try.prog 26 #[ptr gs, ndV n.k n.b vs] w fun r w' => r = .returned (.tuple #[.int .i64 (-1), .int .i64 (eachF plHold (plTake L).1 (kids n)).2]) ∧ LayIs w w' F gs gp (X.write ((plTake L).2.1 + 4) n.page, (eachF plHold (plTake L).1 (kids n)).1) (m + 1) := by
  have hP := fun W (f : Fr noB w W) => page_ok n vs W (hn.fr0 f) hr
  have hC := fun W (f : Fr noB w W) => children_any n vs W (hn.fr0 f)
  have hkl := kids_len hn
  have hL := fun (u : Value) W (f : Fr noB w W) (hu : SlI .i64 W u (kids n)) => contains_lacks u (kids n) (by omega) W (h.fr0 f) hu
  rw [ha] at hL
  have hbl := NdS.bl hn
  have hpl := show Hid _ from page_len hr hbl.out
  have hpb := page_byt hr hn.2.1
  have hY := fun W (f : Fr noB w W) => lay_yes n.page hpl.out hpb W (h.fr0 f) hm hT
  have ho := take_ok h.ok
  have hE := fun (u : Value) W (b : PoolB W gp (plTake L).1) (hu : SlI .i64 W u (kids n)) (hg : ∀ k, u.ownBlock = some k → k ≠ gp) => each_hold u (kids n) (by omega) W b ho hu hg
  have ho2 := eachHold_ok (kids n) ho
  have hn2 := show Hid _ from eachHold_len (kids n) (plTake L).1
  obtain ⟨R, HR⟩ : ∃ R, Hid (plTake L = R) := ⟨_, rfl⟩
  rw [HR.out] at hY hT hE ho he ho2 hn2 ⊢
  obtain ⟨K, HK⟩ : ∃ K, Hid (kids n = K) := ⟨_, rfl⟩
  rw [HK.out] at hC hL hkl hE he ho2 hn2 ⊢
  obtain ⟨P, HP⟩ : ∃ P, Hid (n.page = P) := ⟨_, rfl⟩
  rw [HP.out] at hP hpl hY ⊢
  obtain ⟨Z, HZ⟩ : ∃ Z, Hid (zerB 256 = Z) := ⟨_, rfl⟩
  have hZl : Hid (Z.length = 256) := by show _ = _; rw [← HZ.out]; exact zerB_len 256
  obtain ⟨R1, i, e0⟩ := R
  simp only at hY hT hE ho he ho2 hn2 ⊢
  subst hT
  obtain ⟨V, HV⟩ : ∃ V, Hid (eachF plHold R1 K = V) := ⟨_, rfl⟩
  rw [HV.out] at hE he ho2 hn2 ⊢
  obtain ⟨V1, e1⟩ := V
  simp only at hE he ho2 hn2 ⊢
  obtain ⟨Y, HY⟩ : ∃ Y, Hid (X.write (i + 4) P = Y) := ⟨_, rfl⟩
  rw [HY.out] at hY ⊢
  go_enter Try.func26, Try.ntmps26
  go_wp2_with (first
    | (with_reducible refine at_wpP ?_; refine wpList_boxN rfl _ rfl n.k n.b vs rfl ?_; intro g1 w1 hg1 b1 f1 s1; have l1 := b1.lt; have z1 := f1.size)
    | (with_reducible refine at_wpP ?_; refine at_ld 47 _ rfl ?_; have q := b4; go_must (refine wpList_ldN rfl _ rfl g1 rfl n.k n.b vs ((b1.fr0 f2).fr0 F4) hbl.out ?_))
    | (with_reducible refine at_wpP ?_; refine at_ld 47 _ rfl ?_; refine wpList_ldN rfl _ rfl g1 rfl n.k n.b vs b1 hbl.out ?_)
    | (go_at_call 39; go_must (refine (hP _ f1).mono ?_; rintro e w2 ⟨rfl, f2⟩; have z2 := f2.size))
    | (with_reducible refine at_wpP ?_; refine wpList_allocA arr_page rfl rfl ?_; rw [HZ.out]; intro g3 w3 hg3 b3 f3 s3; have l3 := b3.lt; have z3 := f3.size)
    | (with_reducible refine at_wpP ?_; refine at_st 82 _ _ rfl ?_; go_must (refine wpList_storeA arr_page rfl _ _ rfl g3 rfl P rfl _ b3 hpl.out hZl.out ?_; intro w4 b4 f4; have z4 := f4.size; have F4 : Fr noB w2 w4 := Fr.ownX f3 s3 f4; have G4 : Fr noB w w4 := (f1.thenN f2).thenN F4))
    | (go_at_call 40; go_must (refine (hC _ G4).mono ?_; rintro e w5 ⟨u, rfl, o5, u5, f5⟩; have z5 := f5.size; have G5 := G4.thenN f5; have nb5 := o5.newB; have lp5 := h.ltp; have zz5 := G4.size))
    | (go_at_call 41; go_must (refine (hL _ _ G5 u5).mono ?_; rintro e w6 ⟨rfl, rfl⟩))
    | (with_reducible refine at_wpP ?_; refine at_ld 82 _ rfl ?_; go_must (refine wpList_loadA arr_page rfl _ rfl g3 rfl P (b4.fr0 f5) hpl.out ?_))
    | (go_at_call 42; go_must (refine (hY _ G5).mono ?_; rintro e w7 ⟨rfl, F', S7, g7, f7⟩; have z7 := f7.size; obtain ⟨gd, q0, q1, _⟩ := S7.cells))
    | (go_at_call 43; go_must (refine (hE u _ S7.pl ?hu7 ?hg7).mono ?_; rotate_left 2; rintro e w8 ⟨rfl, b8, f8⟩)))
  case hu7 =>
    refine u5.fr f7 (fun k hk q => ?_)
    have := nb5 k hk
    unfold stB at q
    rcases q with q | q
    · have := h.ft k q; omega
    · omega
  case hg7 =>
    intro k hk e
    have := nb5 k hk
    omega
  go_ret2
  have S8 := S7.pool f8 b8 ho2 hn2.out
  exact ⟨rfl, F', S8, fun k hk => ⟨(g7 k hk).1.imp id (fun q => by have := G5.size; omega), by have := (g7 k hk).2; have := f8.size; omega⟩, ((G5.mono (fun _ _ q => q.elim)).thenT f7 (fun i hi q => q)).thenT f8 (fun i hi q => Or.inr q)⟩
theorem LayIs.of {w w' : World} {F : Nat → Prop} {gs gp : Nat} {X : DSt} {L : List Pg} {m m' : Nat} (h : Sto w' F gs gp X L m) (f : Fr noB w w') (hm : m ≤ m') : LayIs w w' F gs gp (X, L) m' :=
  ⟨F, h.mono hm, fun k hk => ⟨Or.inl hk, h.ft k hk⟩, f.mono (fun _ _ q => q.elim)⟩
theorem LayIs.mono {w w' : World} {F : Nat → Prop} {gs gp : Nat} {S : DSt × List Pg} {m m' : Nat} (h : LayIs w w' F gs gp S m) (hm : m ≤ m') : LayIs w w' F gs gp S m' := by
  obtain ⟨F', s, g, f⟩ := h
  exact ⟨F', s.mono hm, g, f⟩
theorem make_any {F : Nat → Prop} {gs gp : Nat} {X : DSt} {L : List Pg} {m : Nat} (n : Nd) (vs : Value) (w : World) (h : Sto w F gs gp X L m) (hm : m ≤ 100000) (hn : NdS w vs n) :
    Calls Try.prog 26 #[ptr gs, ndV n.k n.b vs] w fun r w' => r = .returned (.tuple #[.int .i64 (makeF X L n).2.1, .int .i64 (makeF X L n).2.2]) ∧ LayIs w w' F gs gp (makeF X L n).1 (m + 1) := by
  unfold makeF
  cases hr : n.right with
  | false =>
    refine (make_no n vs w h hn hr).mono ?_
    rintro e w' ⟨rfl, s, f⟩
    exact ⟨rfl, LayIs.of s f (by omega)⟩
  | true =>
    simp only [if_true]
    cases ha : (kids n).any (fun p => !plHeld L p) with
    | true =>
      refine (make_lack n vs w h hn hr ha).mono ?_
      rintro e w' ⟨rfl, s, f⟩
      exact ⟨rfl, LayIs.of s f (by omega)⟩
    | false =>
      simp only [Bool.false_eq_true, if_false]
      by_cases hT : (plTake L).2.2 = 0
      · rw [if_pos hT]
        by_cases he : (eachF plHold (plTake L).1 (kids n)).2 = 0
        · rw [if_pos he]; exact make_yes n vs w h hm hn hr ha hT he
        · rw [if_neg he]; exact make_cut n vs w h hm hn hr ha hT he
      · rw [if_neg hT]
        refine (make_full n vs w h hm hn hr ha hT).mono ?_
        rintro e w' ⟨rfl, s⟩
        exact ⟨rfl, s.mono (by omega)⟩
theorem dropF_succ {X : DSt} {n : Nat} {L L1 : List Pg} {p e : Int} {b : Bool} (hd : plDrop L p = (L1, b, e)) : dropF X (n + 1) L p = if b then (if (rdN X p).2 = 0 then eachF (dropF X n) L1 (kids (rdN X p).1) else (L1, (rdN X p).2)) else (L1, e) := by
  rw [dropF, hd]
set_option maxRecDepth 100000 in
set_option maxHeartbeats 1000000 in
theorem ndrop_any {F : Nat → Prop} {gs gp : Nat} {X : DSt} {m : Nat} (hm : m ≤ 100000) : ∀ (n : Nat) (L : List Pg) (p : Int) (w : World), muL L < n → Sto w F gs gp X L m →
    Calls Try.prog 34 #[ptr gs, .int .i64 p] w fun r w' => r = .returned (.int .i64 (dropF X n L p).2) ∧ Sto w' F gs gp X (dropF X n L p).1 m ∧ Fr (onB1 gp) w w' := by
  intro n
  induction n with
  | zero => intro L p w h; omega
  | succ n ih =>
    intro L p w hmu h
    obtain ⟨gd, k0, k1, hd⟩ := h.cells
    obtain ⟨L1, b, e, hdr⟩ : ∃ L1 b e, plDrop L p = (L1, b, e) := ⟨_, _, _, rfl⟩
    have hD := pdrop_any h.ok gp p w h.pl
    have ho := drop_ok h.ok p
    have hl := show Hid _ from drop_len L p
    have hM := drop_mu h.ok hdr
    rw [dropF_succ hdr]
    rw [hdr] at hD ho hl
    simp only at hD ho hl
    clear hdr
    cases b with
    | false =>
      simp only [Bool.false_eq_true, if_false]
      go_enter Try.func34, Try.ntmps34
      go_wp2_with (first
        | (go_at_call 50; go_must (refine hD.mono ?_; rintro e w1 ⟨rfl, b1, f1⟩)))
      go_ret
      exact ⟨rfl, h.pool f1 b1 ho hl.out, f1⟩
    | true =>
      obtain ⟨rfl, hlt, hp0, hp1⟩ := hM.2 rfl
      have hmu1 : muL L1 < n := by omega
      clear hM hlt hmu
      simp only [if_true]
      have hR := fun W (s : Sto W F gs gp X L1 m) => nread_any p hp0 (by rw [hl.out]; exact hp1) W s hm
      obtain ⟨R, HR⟩ : ∃ R, Hid (rdN X p = R) := ⟨_, rfl⟩
      rw [HR.out] at hR ⊢
      by_cases hr0 : R.2 = 0
      · rw [if_pos hr0]
        obtain ⟨N, e0⟩ := R
        simp only at hr0
        subst hr0
        simp only at hR ⊢
        have hC := fun v W (hn : NdS W v N) => children_any N v W hn
        have hE := fun (u : Value) (W : World) (hK : (kids N).length ≤ 1000) (s : Sto W F gs gp X L1 m) (hu : SlI .i64 W u (kids N)) (hg : ∀ k, u.ownBlock = some k → k ≠ gp) =>
          each_any (dropF X n) (fun M V => Sto V F gs gp X M m ∧ muL M < n ∧ SlI .i64 V u (kids N) ∧ Fr (onB1 gp) W V) 34 #[ptr gs] #[] eg_drop u (kids N) (by omega) (fun _ _ h => h.2.2.1) (fun M V x hx hI => by
            refine (ih M x V hI.2.1 hI.1).mono ?_
            rintro e w1 ⟨rfl, s1, f1⟩
            exact ⟨rfl, s1, Nat.lt_of_le_of_lt (dropF_mu n x hI.1.ok) hI.2.1, hI.2.2.1.fr f1 (fun k hk q => hg k hk q), hI.2.2.2.trans f1⟩) L1 W ⟨s, hmu1, hu, Fr.refl _ _⟩
        clear ih
        obtain ⟨K, HK⟩ : ∃ K, Hid (kids N = K) := ⟨_, rfl⟩
        have hkl := fun v W (hn : NdS W v N) => kids_len hn
        rw [HK.out] at hC hE hkl ⊢
        obtain ⟨V, HV⟩ : ∃ V, Hid (eachF (dropF X n) L1 K = V) := ⟨_, rfl⟩
        rw [HV.out] at hE ⊢
        go_enter Try.func34, Try.ntmps34
        go_wp2_with (first
          | (go_at_call 50; go_must (refine hD.mono ?_; rintro e w1 ⟨rfl, b1, f1⟩; have z1 := f1.size; have S1 := h.pool f1 b1 ho hl.out))
          | (go_at_call 38; go_must (refine (hR _ S1).mono ?_; rintro e w2 ⟨v, rfl, n2, o2, f2⟩; have z2 := f2.size; have hv := NdS.sl n2; have hbl := NdS.bl n2))
          | (with_reducible refine at_wpP ?_; refine wpList_allocN rfl rfl ?_; intro g3 w3 hg3 b3 f3 s3; have l3 := b3.lt; have z3 := f3.size)
          | (with_reducible refine at_wpP ?_; refine at_st 47 _ _ rfl ?_; have q := n2; go_must (refine wpList_stN rfl _ _ rfl g3 rfl N.k N.b v rfl hbl.out hv 0 (zerB 16) nilS b3 (zerB_len 16) ?_; intro w4 b4 f4; have z4 := f4.size; have F4 : Fr noB w2 w4 := Fr.ownX f3 s3 f4; have n4 := n2.fr0 F4; have hk := hkl _ _ n2))
          | (with_reducible refine at_wpP ?_; refine at_ld 47 _ rfl ?_; go_must (refine wpList_ldN rfl _ rfl g3 rfl N.k N.b v b4 hbl.out ?_))
          | (go_at_call 40; go_must (refine (hC _ _ n4).mono ?_; rintro e w5 ⟨u, rfl, o5, u5, f5⟩; have z5 := f5.size; have S5 := ((S1.fr0 f2).fr0 F4).fr0 f5; have nb5 := o5.newB; have lp := S1.ltp))
          | (go_at_call 43; go_must (refine (hE u _ hk S5 u5 ?hg5).mono ?_; rotate_left 1; rintro e w6 ⟨rfl, s6, _, _, f6⟩)))
        case hg5 =>
          intro k hk e
          have := nb5 k hk
          omega
        go_ret
        exact ⟨rfl, s6, (((f1.thenN f2).thenN F4).thenN f5).trans f6⟩
      · rw [if_neg hr0]
        go_enter Try.func34, Try.ntmps34
        go_wp2_with (first
          | (go_at_call 50; go_must (refine hD.mono ?_; rintro e w1 ⟨rfl, b1, f1⟩; have z1 := f1.size; have S1 := h.pool f1 b1 ho hl.out))
          | (go_at_call 38; go_must (refine (hR _ S1).mono ?_; rintro e w2 ⟨v, rfl, n2, o2, f2⟩; have z2 := f2.size; have hv := NdS.sl n2; have hbl := NdS.bl n2))
          | (with_reducible refine at_wpP ?_; refine wpList_allocN rfl rfl ?_; intro g3 w3 hg3 b3 f3 s3; have l3 := b3.lt; have z3 := f3.size)
          | (with_reducible refine at_wpP ?_; refine at_st 47 _ _ rfl ?_; have q := n2; go_must (refine wpList_stN rfl _ _ rfl g3 rfl R.1.k R.1.b v rfl hbl.out hv 0 (zerB 16) nilS b3 (zerB_len 16) ?_; intro w4 b4 f4; have z4 := f4.size; have F4 : Fr noB w2 w4 := Fr.ownX f3 s3 f4)))
        go_ret
        exact ⟨rfl, (S1.fr0 f2).fr0 F4, (f1.thenN f2).thenN F4⟩
end Go.Proofs.Ytkhdniccnefdhaa
/- The keys of a map of integers, sorted (maps.Keys, slices.Sorted, slices.Sort: by the library's contracts). -/
namespace Go.Proofs.Ytkhdniccnefdhaa
open Go.RowKit Go.Proofs.U Go.Shelf Go.Maps Go.Sort
set_option linter.unusedSimpArgs false
set_option linter.unusedVariables false
/-- A sorted list of just what was seen. -/
structure SeenL (S : Int → Bool) (l : List Int) : Prop where
  mem : ∀ x, x ∈ l ↔ S x = true
  nd : l.Nodup
  len : l.length ≤ 240
end Go.Proofs.Ytkhdniccnefdhaa
/- nodesAlive, NodesNames. -/
namespace Go.Proofs.Ytkhdniccnefdhaa
open Go.RowKit Go.Proofs.U Go.Shelf Go.Maps
set_option linter.unusedSimpArgs false
set_option linter.unusedVariables false
section
variable {w : World} {ops : Array Oper} {rest : List Oper} {o : Oper} {a : Act} {Q : Exit → Act → World → Prop}
theorem wpList_blkC {n : Int} (hgd : Region.wanted o (yielded ops a.tmps) = true) (ho : o.op = .build 45 #[(0, .const (.int .u8 n))]) (C : List Int) (hb : Try.prog.built 45 [(0, .int .u8 n)] = some (pgv C).toArray)
    (h : wpList Try.prog ops Q rest (a.put o.dst (pgV C)) w) : wpList Try.prog ops Q (o :: rest) a w := by
  refine wpList_wanted hgd fun K hK => ?_
  have hrun := run_build (P := Try.prog) w 45 #[(0, .int .u8 n)] _ hb
  unfold Oper.wp
  have hc : a.eval (.const (.int .u8 n)) = .int .u8 n := rfl
  simp [execOp, ho, hc, hrun, Result.andThen]
  exact hK _ _ h
end
theorem built_ndB (k : Int) (b : List Int) (hb : b.length = 16) : Try.prog.built 47 [(0, .int .i64 k), (1, pgV b)] = some (ndL k b nilS).toArray := by
  rw [built_struct _ _ nd_struct _ nd_zero _ nd_places]
  rw [fill_put _ _ 0 0 1 (.int .i64 k) [.int .i64 k] rfl rfl rfl (by decide)]
  rw [fill_put _ _ 1 1 16 (pgV b) (pgv b) rfl rfl (by rw [pgv_len, hb]) (by simp [putAt, ndL, pgv, zerB])]
  unfold Instr.fill
  congr 2
  unfold putAt ndL
  simp [pgv_len, hb, pgv, zerB]
end Go.Proofs.Ytkhdniccnefdhaa
/- What NodesBack may read of a store, plain. -/
namespace Go.Proofs.Ytkhdniccnefdhaa
open Go.RowKit Go.Proofs.U
set_option linter.unusedSimpArgs false
set_option linter.unusedVariables false
theorem rdN_write {X : DSt} {N m : Nat} (h : Up X N m) {p : Int} (h0 : 0 ≤ p) (h1 : p < (N : Int)) {n : Nd} (hr : n.right = true) (ho : n.ok) {r : Int} (r0 : 0 ≤ r) (r1 : r < (N : Int)) :
    rdN (X.write (p + 4) n.page) r = if r = p then (n, 0) else rdN X r := by
  unfold rdN
  rw [(h.write h0 h1 (page_len hr ho.1) (page_byt hr ho)).2.2 r r0 r1]
  split
  · exact opN_own hr ho
  · rfl
theorem hold_cases (L : List Pg) (p : Int) : (plHeld L p = false ∧ plHold L p = (L, 73)) ∨ (plHeld L p = true ∧ (plAt L p.toNat).c = 255 ∧ plHold L p = (L, 72)) ∨
    (plHeld L p = true ∧ ¬ (plAt L p.toNat).c = 255 ∧ plHold L p = (L.set p.toNat ⟨(plAt L p.toNat).c + 1, (plAt L p.toNat).s⟩, 0)) := by
  unfold plHeld plHold
  cases h : (plIn L p && (plAt L p.toNat).held) with
  | false => exact Or.inl ⟨rfl, by rw [if_neg (by simp)]⟩
  | true =>
    by_cases hc : (plAt L p.toNat).c = 255
    · exact Or.inr (Or.inl ⟨rfl, hc, by rw [if_pos rfl, if_pos hc]⟩)
    · exact Or.inr (Or.inr ⟨rfl, hc, by rw [if_pos rfl, if_neg hc]⟩)
theorem hold_keeps {L : List Pg} (hL : plOk L) (q p : Int) : plHeld (plHold L q).1 p = plHeld L p := by
  rcases hold_cases L q with ⟨_, e⟩ | ⟨_, _, e⟩ | ⟨hh, hc, e⟩
  · rw [e]
  · rw [e]
  · rw [e]
    obtain ⟨j, rfl, hj⟩ := plHeld_in hh
    simp only [Int.toNat_natCast] at *
    unfold plHeld plIn
    rw [List.length_set]
    congr 1
    rw [plAt_set _ _ _ _ hj]
    by_cases hp : p.toNat = j
    · rw [if_pos hp, hp]
      have h0 := (hL.2 j).1
      have h2 : plHeld L (j : Int) = true := hh
      unfold plHeld at h2
      simp only [Bool.and_eq_true, Int.toNat_natCast] at h2
      rw [h2.2]
      unfold Pg.held
      simp
      omega
    · rw [if_neg hp]
theorem eachHold_keeps (l : List Int) {L : List Pg} (hL : plOk L) (p : Int) : plHeld (eachF plHold L l).1 p = plHeld L p :=
  (eachF_inv (I := fun M => plOk M ∧ plHeld M p = plHeld L p) (fun M q h => ⟨hold_ok h.1 q, by rw [hold_keeps h.1]; exact h.2⟩) l L ⟨hL, rfl⟩).2
theorem eachHold_err : ∀ (l : List Int) {L : List Pg}, plOk L → (∀ q ∈ l, plHeld L q = true) → (eachF plHold L l).2 = 0 ∨ (eachF plHold L l).2 = 72
  | [], L, _, _ => Or.inl rfl
  | q :: l, L, hL, h => by
    by_cases h0 : (plHold L q).2 = 0
    · rw [eachF_cons0 h0]
      exact eachHold_err l (hold_ok hL q) (fun x hx => by rw [hold_keeps hL]; exact h x (by simp [hx]))
    · rw [eachF_cons1 h0]
      have hq := h q (by simp)
      rcases hold_cases L q with ⟨e, _⟩ | ⟨_, _, e⟩ | ⟨_, _, e⟩
      · rw [e] at hq; cases hq
      · rw [e]; exact Or.inr rfl
      · rw [e] at h0; exact absurd rfl h0
theorem held_set {L : List Pg} {k : Nat} (hk : k < L.length) (x : Pg) (p : Int) : plHeld (L.set k x) p = if p = (k : Int) then x.held else plHeld L p := by
  unfold plHeld plIn
  rw [List.length_set, plAt_set _ _ _ _ hk]
  by_cases hp : p = (k : Int)
  · subst hp
    simp [hk]
  · rw [if_neg hp]
    by_cases h0 : 0 ≤ p
    · rw [if_neg (by omega)]
    · have : decide (0 ≤ p) = false := by simpa using h0
      rw [this]; rfl
theorem free_not_held {L : List Pg} {k : Nat} (h : (plAt L k).free = true) : plHeld L (k : Int) = false := by
  unfold plHeld
  unfold Pg.free at h
  simp only [Bool.and_eq_true, beq_iff_eq] at h
  have : (plAt L k).held = false := by unfold Pg.held; simp [h.1, h.2]
  rw [Int.toNat_natCast, this]
  simp
theorem free_none {L : List Pg} (h : plFree L = 0) : plTake L = (L, 0, 71) := by
  rcases plTake_cases L with ⟨k, hk, hf, _, _⟩ | ⟨_, e⟩
  · unfold plFree at h
    rw [List.countP_eq_zero] at h
    exact absurd (by rw [← plAt_get L k hk]; exact hf) (h L[k] (by simp))
  · exact e
theorem free_some {L : List Pg} (h : ¬ plFree L = 0) : ∃ k, k < L.length ∧ (plAt L k).free = true ∧ plTake L = (L.set k ⟨0, 1⟩, (k : Int), 0) := by
  rcases plTake_cases L with ⟨k, hk, hf, _, e⟩ | ⟨hn, _⟩
  · exact ⟨k, hk, hf, e⟩
  · refine absurd ?_ h
    unfold plFree
    rw [List.countP_eq_zero]
    intro x hx
    obtain ⟨j, hj, rfl⟩ := List.mem_iff_getElem.1 hx
    have := hn j hj
    rw [plAt_get L j hj] at this
    simp [this]
theorem makeB_full (X : DSt) {L : List Pg} {n : Nd} (h : n.right = true) (ha : (kids n).any (fun p => !plHeld L p) = false) (hf : plFree L = 0) : makeF X L n = ((X, L), -1, 71) := by
  unfold makeF
  rw [h, ha, free_none hf]
  rfl
end Go.Proofs.Ytkhdniccnefdhaa
/- Both slots' pages as one value; newestOf and topOf of package root. -/
namespace Go.Proofs.Ytkhdniccnefdhaa
open Go.RowKit Go.Proofs.U
set_option linter.unusedSimpArgs false
set_option linter.unusedVariables false
def pp (p q : List Int) : List Value := pgv p ++ pgv q
section
variable {w : World} {ops : Array Oper} {rest : List Oper} {o : Oper} {a : Act} {Q : Exit → Act → World → Prop}
end

end Go.Proofs.Ytkhdniccnefdhaa
/- slots of package root. -/
namespace Go.Proofs.Ytkhdniccnefdhaa
open Go.RowKit Go.Proofs.U
set_option linter.unusedSimpArgs false
set_option linter.unusedVariables false
/-- All pages, and all that is pending, are bytes. -/
def DSt.byt (X : DSt) : Prop := (∀ p ∈ X.pages, Byt p) ∧ ∀ x ∈ X.pend, Byt x.2
section
variable {w : World} {ops : Array Oper} {rest : List Oper} {o : Oper} {a : Act} {Q : Exit → Act → World → Prop}
end
section
variable {w : World} {ops : Array Oper} {rest : List Oper} {o : Oper} {a : Act} {Q : Exit → Act → World → Prop}
end
end Go.Proofs.Ytkhdniccnefdhaa
/- Roots, plain: what is written is read; what is torn is no root; the greatest generation. -/
namespace Go.Proofs.Ytkhdniccnefdhaa
open Go.RowKit Go.Proofs.U
set_option linter.unusedSimpArgs false
set_option linter.unusedVariables false

/-- What newest tells. -/
theorem newest_cases (p q : List Int) :
    ((rootOf q).1 % 2 = 1 ∧ newest p q = rootOf q ∧ (0 ≤ (rootOf p).1 → 0 < (rootOf q).1)) ∨ ((rootOf p).1 % 2 = 0 ∧ 0 < (rootOf p).1 ∧ newest p q = rootOf p) ∨ newest p q = (0, []) := by
  unfold newest
  generalize rootOf p = a
  generalize rootOf q = b
  by_cases c1 : a.1 % 2 = 0 ∧ 0 < a.1
  · by_cases c2 : b.1 % 2 = 1 ∧ a.1 < b.1
    · simp only [c1, c2, and_self, if_true, true_and]
      exact Or.inl (fun h => by omega)
    · simp only [c1, and_self, if_true, if_neg c2, true_and]
      exact Or.inr (Or.inl trivial)
  · by_cases c2 : b.1 % 2 = 1 ∧ (0 : Int) < b.1
    · simp only [if_neg c1, c2, and_self, if_true, true_and]
      exact Or.inl (fun _ => trivial)
    · simp only [if_neg c1, if_neg c2]
      exact Or.inr (Or.inr trivial)
theorem newest_zero {p q : List Int} (h : (newest p q).1 = 0) (hb : Byt p) (hc : Byt q) : newest p q = (0, []) := by
  have h1 := rootOf_bd hb
  rcases newest_cases p q with ⟨_, h2, h3⟩ | ⟨_, h2, h3⟩ | h2
  · rw [h2] at h
    have := h3 h1.1
    omega
  · rw [h3] at h; omega
  · exact h2
end Go.Proofs.Ytkhdniccnefdhaa
/- A disk of two pages, plain: what a Write makes of it, cut off or not; what is read behind a crash. -/
namespace Go.Proofs.Ytkhdniccnefdhaa
open Go.RowKit Go.Proofs.U
set_option linter.unusedSimpArgs false
set_option linter.unusedVariables false

/-- Both slots, nothing pending, nothing bad. -/
structure Two (X : DSt) (p q : List Int) : Prop where
  pages : X.pages = [p, q]
  pend : X.pend = []
  bad : ∀ i, X.bad i = false
  lp : p.length = 256
  lq : q.length = 256
  bp : Byt p
  bq : Byt q
section
variable {X : DSt} {p q : List Int}
theorem Two.read0 (h : Two X p q) : readP X 0 = (p, 0) := by
  unfold readP
  rw [h.pages, h.pend, h.bad]
  rfl
theorem Two.read1 (h : Two X p q) : readP X 1 = (q, 0) := by
  unfold readP
  rw [h.pages, h.pend, h.bad]
  rfl
theorem Two.re (h : Two X p q) : rdE X = 0 := by unfold rdE; rw [h.read0, h.read1]; rfl
theorem Two.nw (h : Two X p q) : nwst X = newest p q := by unfold nwst; rw [h.read0, h.read1]
theorem Two.byt (h : Two X p q) : X.byt := by
  refine ⟨?_, by rw [h.pend]; simp⟩
  rw [h.pages]
  intro r hr
  simp at hr
  rcases hr with rfl | rfl
  · exact h.bp
  · exact h.bq
theorem Two.rd (h : Two X p q) : rRead X = ((newest p q).2, (newest p q).1, if (newest p q).1 = 0 then 51 else 0) := by
  unfold rRead
  rw [h.re, h.nw, if_pos rfl]
  by_cases h0 : (newest p q).1 = 0
  · have := newest_zero h0 h.bp h.bq
    rw [this]; rfl
  · rw [if_neg h0, if_neg h0]
end

section
variable {X : DSt} {p q : List Int}
end
end Go.Proofs.Ytkhdniccnefdhaa
/- Rows of the call's own making: one element read, one stored; no condition. -/
namespace Go.Proofs.U
open Go.RowKit

theorem OwnI.some {k : IntKind} {e : TypeId} {w : World} {base : Nat} {v : Value} {l : List Int} (h : OwnI k e w base v l) (hl : 0 < l.length) :
    ∃ g cap cur, v = .slice (Option.some ⟨g, 0, none⟩) l.length cap ∧ base ≤ g ∧ w.heap[g]? = Option.some (.cells cur e (0, 0)) ∧ l.length ≤ cap ∧ cap ≤ maxLen ∧ cur.size = cap ∧ cur.toList.take l.length = l.map (Value.int k) := by
  rcases h.2 with ⟨_, hn⟩ | ⟨g, cap, cur, hv, h1, h2, h3, h4, h5, h6⟩
  · omega
  · exact ⟨g, cap, cur, hv, h1, h2, h3, h4, by simpa using h5, by simpa using h6⟩

end Go.Proofs.U
/- The walk of CrcJoin: it answers true for any three byte lists. -/
namespace Go.Proofs.Ytkhdniccnefdhaa
open Go.RowKit Go.Proofs.U
set_option linter.unusedSimpArgs false
set_option linter.unusedVariables false

/-- the parts so far, zeros behind them. -/
def part (M : List Int) (k : Nat) : List Int := M.take k ++ List.replicate (M.length - k) 0
end Go.Proofs.Ytkhdniccnefdhaa
/- Contract of the document's own sum. -/
namespace Go.Proofs.Ytkhdniccnefdhaa
open Go.RowKit Go.Proofs.U
set_option linter.unusedSimpArgs false
set_option linter.unusedVariables false

def ones (k : Nat) : List Bool := List.replicate k true ++ List.replicate (32 - k) false
end Go.Proofs.Ytkhdniccnefdhaa
