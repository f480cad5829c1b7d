/- Texts H4, H5, H6, Shi, H7 of the proof of PruneTrims, one behind the other. -/
import Derived.Shelf.SlIterI.Nil
import Derived.Shelf.SortM.Plain
import Derived.Shelf.SortM.SortNone
import Derived.Test.YtmkinaijkgkgiaaGreatBundlePruneTrims1
import Derived.Test.YtmkinaijkgkgiaaGreatBundlePruneTrims2
import Derived.Test.YtmkinaijkgkgiaaGreatBundlePruneTrims3
import Derived.Test.YtmkinaijkgkgiaaGreatBundlePruneTrims4
import Derived.Test.YtmkinaijkgkgiaaGreatBundlePruneTrims5
import Derived.Test.YtmkinaijkgkgiaaGreatBundlePruneTrims6
import Derived.Test.YtmkinaijkgkgiaaGreatBundlePruneTrims7
import Derived.Test.YtmkinaijkgkgiaaGreatBundlePruneTrims8
import Derived.Test.YtmkinaijkgkgiaaGreatBundlePruneTrims9
import Derived.Test.YtmkinaijkgkgiaaGreatBundlePruneTrims10
import Derived.Test.YtmkinaijkgkgiaaGreatBundlePruneTrims11
import Derived.Test.YtmkinaijkgkgiaaGreatBundlePruneTrims12
/- A store: lay, Undo. -/
namespace Go.Proofs.YtmkinaijkgkgiaaGreat
open Go.RowKit Go.Proofs.U Go.Shelf
set_option linter.unusedSimpArgs false
set_option linter.unusedVariables false
/-- One operation turns memory; all others read. -/
def JH (w0 : World) (V : Value) (Q : World → Prop) : List Value → World → Prop
  | [], W => W = w0
  | [v], W => v = V ∧ Q W
  | _, _ => False
theorem JH.val {w0 : World} {V x : Value} {Q : World → Prop} {hv : List Value} {W : World} (h : JH w0 V Q hv W) (hx : hv[0]? = some x) : x = V := by
  match hv, h with
  | [], _ => cases hx
  | [v], h => cases hx; exact h.1
theorem JH.end {w0 : World} {V : Value} {Q : World → Prop} {hv : List Value} {W : World} (h : JH w0 V Q hv W) (hl : hv.length = 1) : Q W := by
  match hv, hl, h with
  | [v], _, h => exact h.2
/-- What a write to a store may turn. -/
def stB (F : Nat → Prop) (gp : Nat) : Nat → Prop := fun k => F k ∨ k = gp
def LayIs (w w' : World) (F : Nat → Prop) (gs gp : Nat) (S : DSt × List Pg) (m : Nat) : Prop := ∃ F' : Nat → Prop, Sto w' F' gs gp S.1 S.2 m ∧ (∀ k, F' k → (F k ∨ w.heap.size ≤ k) ∧ k < w'.heap.size) ∧ Fr (stB F gp) w w'
set_option maxRecDepth 100000 in
set_option maxHeartbeats 1000000 in
theorem lay_no {F : Nat → Prop} {gs gp : Nat} {X : DSt} {L : List Pg} {m : Nat} (q : List Int) (hq : q.length = 256) (w : World) (h : Sto w F gs gp X L m) (hT : ¬ (plTake L).2.2 = 0) :
    Calls Tryz.prog 49 #[ptr gs, pgV q] w fun r w' => r = .returned (.tuple #[.int .i64 (-1), .int .i64 (plTake L).2.2]) ∧ LayIs w w' F gs gp (X, (plTake L).1) m := by
  have Hq := show Hid _ from hq
  have hH := fun W (f : Fr noB w W) => ptake_any h.ok gp W (h.fr0 f).pl
  have ho := take_ok h.ok
  have hn := show Hid _ from take_len L
  obtain ⟨gd, k0, k1, hd⟩ := h.cells
  obtain ⟨R, HR⟩ : ∃ R, Hid (plTake L = R) := ⟨_, rfl⟩
  rw [HR.out] at hH ho hn hT ⊢
  go_enter Tryz.func49, Tryz.ntmps49
  go_wp2_with (first
    | (with_reducible refine at_wpP ?_; refine wpList_boxV rfl 96 _ rfl (pgv q) rfl ?_; intro g1 w1 hg1 b1 f1 s1; have z1 := f1.size; have k1 := f1.cell k1 (fun q => q))
    | (go_at_call 71; go_must (refine (hH _ f1).mono ?_; rintro e w2 ⟨rfl, b2, f2⟩)))
  go_ret2
  have S2 := (h.fr0 f1).pool f2 b2 ho hn.out
  exact ⟨rfl, _, S2.tight, fun k hk => ⟨Or.inl hk.1, hk.2⟩, (f1.mono (fun k hk q => q.elim)).thenT f2 (fun i hi q => Or.inr q)⟩
set_option maxRecDepth 100000 in
set_option maxHeartbeats 2000000 in
theorem lay_yes {F : Nat → Prop} {gs gp : Nat} {X : DSt} {L : List Pg} {m : Nat} (q : List Int) (hq : q.length = 256) (hb : Byt q) (w : World) (h : Sto w F gs gp X L m) (hm : m ≤ 100000) (hT : (plTake L).2.2 = 0) :
    Calls Tryz.prog 49 #[ptr gs, pgV q] w fun r w' => r = .returned (.tuple #[.int .i64 (plTake L).2.1, .int .i64 0]) ∧ LayIs w w' F gs gp (X.write ((plTake L).2.1 + 4) q, (plTake L).1) (m + 1) := by
  have Hq := show Hid _ from hq
  have hH := fun W (f : Fr noB w W) => ptake_any h.ok gp W (h.fr0 f).pl
  have ho := take_ok h.ok
  have hn := show Hid _ from take_len L
  have hlen := h.ok.1
  have hrng : 0 ≤ (plTake L).2.1 ∧ (plTake L).2.1 < (L.length : Int) := by
    rcases plTake_cases L with ⟨k, hk, _, _, e⟩ | ⟨_, e⟩
    · rw [e]; simp; omega
    · rw [e] at hT; cases hT
  obtain ⟨gd, k0, k1, hd⟩ := h.cells
  obtain ⟨R, HR⟩ : ∃ R, Hid (plTake L = R) := ⟨_, rfl⟩
  rw [HR.out] at hH ho hn hT hrng ⊢
  obtain ⟨R1, i, e⟩ := R
  simp only at hH ho hn hT hrng ⊢
  subst hT
  obtain ⟨hE, hU, hct⟩ := h.up.write hrng.1 hrng.2 hq hb
  have hW := fun W (d : Disk W F gd X) => write_any gd (i + 4) q hq W d (Nat.le_trans h.up.pm hm)
  rw [hE] at hW
  have hi4 : IntKind.i64.wrap (i + 4) = i + 4 := wrap_sm (by omega)
  obtain ⟨Y, HY⟩ : ∃ Y, Hid (X.write (i + 4) q = Y) := ⟨_, rfl⟩
  rw [HY.out] at hW hU ⊢
  clear hct hE
  go_enter Tryz.func49, Tryz.ntmps49
  go_wp2_with (first
    | (with_reducible refine at_wpP ?_; refine wpList_boxV rfl 96 _ rfl (pgv q) rfl ?_; intro g1 w1 hg1 b1 f1 s1; have l1 := b1.lt; have z1 := f1.size; have k1 := f1.cell k1 (fun q => q))
    | (go_at_call 71; go_must (refine (hH _ f1).mono ?_; rintro e w2 ⟨rfl, b2, f2⟩; have z2 := f2.size)))
  have S2 := (h.fr0 f1).pool f2 b2 ho hn.out
  have k0' : w2.cell? ⟨gs, 0, none⟩ = some (ptr gd) := f2.cell (f1.cell k0 (fun q => q)) (fun q => by unfold onB1 at q; exact h.ne q)
  have d2 : Disk w2 F gd X := (hd.fr0 f1).fr f2 (fun k hk hF q => by unfold onB1 at q; subst q; exact h.fp hF)
  have B2 : BxV w2 g1 96 (pgv q) := b1.fr f2 (fun q => by have := h.ltp; unfold onB1 at q; omega)
  obtain ⟨w0, HW⟩ : ∃ w0, Hid (w2.drew = w0) := ⟨_, rfl⟩
  have f0 : Fr noB w2 w0 := by rw [← HW.out]; exact (Fr.refl _ _).drew
  have z0 := f0.size
  have k00 := f0.cell k0' (fun q => q)
  have d20 := d2.fr0 f0
  have B20 := B2.fr0 f0
  refine wp_region_chain_lay (by kernel_rfl) [8] [none, none, none, none, none, none, none, none, some 0, none, none]
    [fun v => v = .int .i64 i, fun v => v = ptr gs, fun v => v = ptr gs, fun v => v = .pointer (some ⟨gs, 0, none⟩), fun v => v = ptr gd, fun v => v = .int .i64 i, fun v => v = .int .i64 (i + 4), fun v => v = pgV q, fun _ => True, fun v => v = .int .i64 i, fun v => v = .int .i64 0]
    (JH w0 (.int .i64 0) (fun W => Disk W (orNew F w0) gd Y ∧ Fr F w0 W)) (HW.out) (by kernel_rfl) (by kernel_rfl) (by decide) ⟨?o0, ?o1, ?o2, ?o3, ?o4, ?o5, ?o6, ?o7, ?o8, ?o9, ?o10, trivial⟩ ?oe
  case o0 =>
    intro A W hv hlen hJ hbase hdL hdH
    have e6 : A.eval (.tmp 6) = .int .i64 i := hbase 6 (by kernel_rfl)
    have f6 : A.tmps[6]?.getD undef = .int .i64 i := by simpa [Act.eval] using e6
    exact light_val rfl (v := .int .i64 i) (by simp [execOp, e6, f6]) hJ rfl
  case o1 =>
    intro A W hv hlen hJ hbase hdL hdH
    have e0 : A.eval (.tmp 0) = ptr gs := hbase 0 (by kernel_rfl)
    have f0 : A.tmps[0]?.getD undef = ptr gs := by simpa [Act.eval] using e0
    exact light_val rfl (v := ptr gs) (by simp [execOp, e0, f0]) hJ rfl
  case o2 =>
    intro A W hv hlen hJ hbase hdL hdH
    have e20 : A.eval (.tmp 20) = ptr gs := hdL 1 20 (by kernel_rfl) (by kernel_rfl) (by kernel_rfl)
    have f20 : A.tmps[20]?.getD undef = ptr gs := by simpa [Act.eval] using e20
    exact light_val rfl (v := ptr gs) (by simp [execOp, go_sem, e20, f20]) hJ rfl
  case o3 =>
    intro A W hv hlen hJ hbase hdL hdH
    have e21 : A.eval (.tmp 21) = ptr gs := hdL 2 21 (by kernel_rfl) (by kernel_rfl) (by kernel_rfl)
    have f21 : A.tmps[21]?.getD undef = ptr gs := by simpa [Act.eval] using e21
    exact light_val rfl (v := .pointer (some ⟨gs, 0, none⟩)) (by simp [execOp, go_sem, e21, f21]) hJ rfl
  case o4 =>
    intro A W hv hlen hJ hbase hdL hdH
    have e22 : A.eval (.tmp 22) = .pointer (some ⟨gs, 0, none⟩) := hdL 3 22 (by kernel_rfl) (by kernel_rfl) (by kernel_rfl)
    have f22 : A.tmps[22]?.getD undef = .pointer (some ⟨gs, 0, none⟩) := by simpa [Act.eval] using e22
    obtain rfl : hv = [] := List.eq_nil_of_length_eq_zero (Nat.le_zero.1 (hlen.2 0 8 rfl (by kernel_rfl)))
    obtain rfl := (show W = _ from hJ)
    exact light_val rfl (v := ptr gd) (by simp [execOp, go_sem, e22, f22, k00]) rfl rfl
  case o5 =>
    intro A W hv hlen hJ hbase hdL hdH
    have e6 : A.eval (.tmp 6) = .int .i64 i := hbase 6 (by kernel_rfl)
    have f6 : A.tmps[6]?.getD undef = .int .i64 i := by simpa [Act.eval] using e6
    exact light_val rfl (v := .int .i64 i) (by simp [execOp, e6, f6]) hJ rfl
  case o6 =>
    intro A W hv hlen hJ hbase hdL hdH
    have e24 : A.eval (.tmp 24) = .int .i64 i := hdL 5 24 (by kernel_rfl) (by kernel_rfl) (by kernel_rfl)
    have f24 : A.tmps[24]?.getD undef = .int .i64 i := by simpa [Act.eval] using e24
    exact light_val rfl (v := .int .i64 (i + 4)) (by simp [execOp, go_sem, e24, f24, hi4]) hJ rfl
  case o7 =>
    intro A W hv hlen hJ hbase hdL hdH
    have e3 : A.eval (.tmp 3) = ptr g1 := hbase 3 (by kernel_rfl)
    have f3 : A.tmps[3]?.getD undef = ptr g1 := by simpa [Act.eval] using e3
    obtain rfl : hv = [] := List.eq_nil_of_length_eq_zero (Nat.le_zero.1 (hlen.2 0 8 rfl (by kernel_rfl)))
    obtain rfl := (show W = _ from hJ)
    have hr := run_loadA arr_page _ g1 0 q (bxAll B20) Hq.out
    exact light_val rfl (v := pgV q) (by simp [execOp, e3, hr, Result.andThen]) rfl rfl
  case o8 =>
    intro A W hv hlen hJ hbase hdL hdH
    have e23 : A.eval (.tmp 23) = ptr gd := hdL 4 23 (by kernel_rfl) (by kernel_rfl) (by kernel_rfl)
    have f23 : A.tmps[23]?.getD undef = ptr gd := by simpa [Act.eval] using e23
    have e25 : A.eval (.tmp 25) = .int .i64 (i + 4) := hdL 6 25 (by kernel_rfl) (by kernel_rfl) (by kernel_rfl)
    have f25 : A.tmps[25]?.getD undef = .int .i64 (i + 4) := by simpa [Act.eval] using e25
    have e26 : A.eval (.tmp 26) = pgV q := hdL 7 26 (by kernel_rfl) (by kernel_rfl) (by kernel_rfl)
    have f26 : A.tmps[26]?.getD undef = pgV q := by simpa [Act.eval] using e26
    obtain rfl : hv = [] := List.eq_nil_of_length_eq_zero hlen
    obtain rfl := (show W = _ from hJ)
    refine heavy_call rfl (args := #[ptr gd, .int .i64 (i + 4), pgV q]) (f := 72) (by simp [execOp, resolve, invoke, go_sem, e23, f23, e25, f25, e26, f26]) ?_
    refine (hW _ d20).mono ?_
    rintro e w' ⟨rfl, d3, f3⟩
    exact ⟨_, rfl, rfl, ⟨d3, f3⟩⟩
  case o9 =>
    intro A W hv hlen hJ hbase hdL hdH
    have e19 : A.eval (.tmp 19) = .int .i64 i := hdL 0 19 (by kernel_rfl) (by kernel_rfl) (by kernel_rfl)
    have f19 : A.tmps[19]?.getD undef = .int .i64 i := by simpa [Act.eval] using e19
    exact light_val rfl (v := .int .i64 i) (by simp [execOp, e19, f19]) hJ rfl
  case o10 =>
    intro A W hv hlen hJ hbase hdL hdH
    have ev : A.eval (.tmp 27) = .int .i64 0 := JH.val hJ (hdH 8 27 0 (by kernel_rfl) rfl (by kernel_rfl))
    exact light_val rfl (v := .int .i64 0) (by simp [execOp, ev]) hJ rfl
  case oe =>
    intro vs W' hv hlen hJ hL hH
    have x0 : vs 0 = .int .i64 i := hL 0 (by kernel_rfl) (by kernel_rfl)
    have x1 : vs 1 = ptr gs := hL 1 (by kernel_rfl) (by kernel_rfl)
    have x2 : vs 2 = ptr gs := hL 2 (by kernel_rfl) (by kernel_rfl)
    have x3 : vs 3 = .pointer (some ⟨gs, 0, none⟩) := hL 3 (by kernel_rfl) (by kernel_rfl)
    have x4 : vs 4 = ptr gd := hL 4 (by kernel_rfl) (by kernel_rfl)
    have x5 : vs 5 = .int .i64 i := hL 5 (by kernel_rfl) (by kernel_rfl)
    have x6 : vs 6 = .int .i64 (i + 4) := hL 6 (by kernel_rfl) (by kernel_rfl)
    have x7 : vs 7 = pgV q := hL 7 (by kernel_rfl) (by kernel_rfl)
    have x8 : vs 8 = .int .i64 0 := JH.val hJ (hH 0 8 rfl (by kernel_rfl))
    have x9 : vs 9 = .int .i64 i := hL 9 (by kernel_rfl) (by kernel_rfl)
    have x10 : vs 10 = .int .i64 0 := hL 10 (by kernel_rfl) (by kernel_rfl)
    have hQ := JH.end hJ hlen
    simp only [layL, Nat.reduceAdd, Act.put, List.setIfInBounds_toArray, List.set_cons_zero, List.set_cons_succ, x0, x1, x2, x3, x4, x5, x6, x7, x8, x9, x10]
    clear x0 x1 x2 x3 x4 x5 x6 x7 x8 x9 x10 hL hH hJ hlen
    obtain ⟨d3, f3⟩ := hQ
    have z3 := f3.size
    go_wp2
    go_ret2
    have d3' := d3.tight
    have F3 : Fr F w2 W' := (f0.mono (fun _ _ q => q.elim)).trans f3
    refine ⟨rfl, _, ⟨⟨gd, ?_, d3'⟩, S2.pl.fr F3 h.fp, ho, ?_, ?_, ?_, h.ne, fun k hk => hk.2⟩, ?_, ?_⟩
    · obtain ⟨gd', hb', hd'⟩ := S2.dk
      have e : gd' = gd := by have := hb'.two.1; rw [k0'] at this; simpa using this.symm
      subst e
      exact hb'.fr F3 h.fs
    · simp only; rw [hn.out]; exact hU
    · intro q
      have := h.lts
      unfold orNew at q
      rcases q.1 with q1 | q1
      · exact h.fs q1
      · omega
    · intro q
      have := h.ltp
      unfold orNew at q
      rcases q.1 with q1 | q1
      · exact h.fp q1
      · omega
    · intro k hk
      unfold orNew at hk
      refine ⟨?_, hk.2⟩
      rcases hk.1 with q1 | q1
      · exact Or.inl q1
      · exact Or.inr (by omega)
    · exact ((f1.mono (fun k hk q => q.elim)).thenT f2 (fun i hi q => Or.inr q)).thenT F3 (fun i hi q => Or.inl q)
theorem run_ldPool {w : World} {g : Nat} {M : List Pg} (h : PoolB w g M) : (Instr.loadAt 88 (ptr g)).run Tryz.prog w = .ok (.agg (poolL M).toArray) w := by
  obtain ⟨d, hu, hd⟩ := pool_under
  have := run_loadVar_mid (P := Tryz.prog) w g 0 88 (poolL M) d (h.range 0 (poolL M) (by show (poolL M).take (poolL M).length = poolL M; exact List.take_length)) hu hd (by rw [pool_size, poolL_len])
  simpa [Instr.loadAt, Instr.sureAddr, Result.andThen] using this
theorem wp_stPool {op : Oper} {a : Act} {w : World} {K : Act → World → Prop} {Q : Exit → Act → World → Prop} {x y : Operand} {g : Nat} {L M : List Pg} (ho : op.op = .store 88 x y) (hx : a.eval x = ptr g) (hy : a.eval y = .agg (poolL M).toArray) (hB : PoolB w g L)
    (h : ∀ w', PoolB w' g M → Fr (onB1 g) w w' → K (a.put op.dst undef) w') : op.wp Tryz.prog a w K Q := by
  refine wp_store_mid 88 x y ho g 0 (poolL M).toArray hx hy (by simpa using hB.thereR 0 (poolL M).length (by rw [poolL_len, poolL_len]; decide)) (by rw [pool_size]; simp [poolL_len]) (all_oneCell_toArray (poolL_one M)) (h _ ?_ ?_)
  · have := setCells_bx (poolL M) 0 w (poolL L) hB (by rw [poolL_len, poolL_len]; decide)
    rw [putAt_all _ _ (by rw [poolL_len, poolL_len])] at this
    exact this
  · exact setCells_fr1 w g _ 0
/-- While a pool is made as a clone of another one is. -/
def JHU (w0 : World) (gp : Nat) (M : List Pg) : List Value → World → Prop
  | [], W => W = w0
  | [v], W => ∃ g', v = ptr g' ∧ PoolB W g' M ∧ Fr noB w0 W
  | [_, v], W => ∃ g', v = ptr g' ∧ PoolB W g' M ∧ Fr noB w0 W
  | [_, _, v], W => v = .agg (poolL M).toArray ∧ Fr noB w0 W
  | [_, _, _, _], W => PoolB W gp M ∧ Fr (onB1 gp) w0 W
  | _, _ => False
theorem JHU.fr {w0 : World} {gp : Nat} {M : List Pg} : ∀ {hv : List Value} {W : World}, JHU w0 gp M hv W → hv.length ≤ 3 → Fr noB w0 W
  | [], _, h, _ => by obtain rfl := (show _ = _ from h); exact Fr.refl _ _
  | [_], _, ⟨_, _, _, f⟩, _ => f
  | [_, _], _, ⟨_, _, _, f⟩, _ => f
  | [_, _, _], _, ⟨_, f⟩, _ => f
  | _ :: _ :: _ :: _ :: _, _, _, hl => absurd hl (by simp)
set_option maxRecDepth 100000 in
set_option maxHeartbeats 2000000 in
theorem nundo_any {F : Nat → Prop} {gs gp gm : Nat} {X : DSt} {L M : List Pg} {m : Nat} (w : World) (h : Sto w F gs gp X L m) (hM : PoolB w gm M) (ho : plOk M) (hl : M.length = L.length) :
    Calls Tryz.prog 23 #[ptr gs, ptr gm] w fun r w' => r = .returned (.tuple #[]) ∧ Sto w' F gs gp X M m ∧ Fr (onB1 gp) w w' := by
  have Hl := show Hid _ from hl
  clear hl
  obtain ⟨gd, k0, k1, hd⟩ := h.cells
  go_enter Tryz.func23, Tryz.ntmps23
  go_wp2_with fail
  obtain ⟨w0, HW⟩ : ∃ w0, Hid (w.drew = w0) := ⟨_, rfl⟩
  have f0 : Fr noB w w0 := by rw [← HW.out]; exact (Fr.refl _ _).drew
  have k10 := f0.cell k1 (fun q => q)
  have M0 := hM.fr0 f0
  have P0 := h.pl.fr0 f0
  refine wp_region_chain_lay (by kernel_rfl) [5, 6, 7, 9] [none, none, none, none, none, some 0, some 1, some 2, none, some 3]
    [fun v => v = ptr gs, fun v => v = ptr gs, fun v => v = .pointer (some ⟨gs, 1, none⟩), fun v => v = ptr gp, fun v => v = ptr gm, fun _ => True, fun _ => True, fun _ => True, fun v => v = ptr gp, fun _ => True]
    (JHU w0 gp M) (HW.out) (by kernel_rfl) (by kernel_rfl) (by decide) ⟨?o0, ?o1, ?o2, ?o3, ?o4, ?o5, ?o6, ?o7, ?o8, ?o9, trivial⟩ ?oe
  case o0 =>
    intro A W hv hlen hJ hbase hdL hdH
    have e0 : A.eval (.tmp 0) = ptr gs := hbase 0 (by kernel_rfl)
    have f0 : A.tmps[0]?.getD undef = ptr gs := by simpa [Act.eval] using e0
    exact light_val rfl (v := ptr gs) (by simp [execOp, e0, f0]) hJ rfl
  case o1 =>
    intro A W hv hlen hJ hbase hdL hdH
    have e4 : A.eval (.tmp 4) = ptr gs := hdL 0 4 (by kernel_rfl) (by kernel_rfl) (by kernel_rfl)
    have f4 : A.tmps[4]?.getD undef = ptr gs := by simpa [Act.eval] using e4
    exact light_val rfl (v := ptr gs) (by simp [execOp, go_sem, e4, f4]) hJ rfl
  case o2 =>
    intro A W hv hlen hJ hbase hdL hdH
    have e5 : A.eval (.tmp 5) = ptr gs := hdL 1 5 (by kernel_rfl) (by kernel_rfl) (by kernel_rfl)
    have f5 : A.tmps[5]?.getD undef = ptr gs := by simpa [Act.eval] using e5
    exact light_val rfl (v := .pointer (some ⟨gs, 1, none⟩)) (by simp [execOp, go_sem, e5, f5]) hJ rfl
  case o3 =>
    intro A W hv hlen hJ hbase hdL hdH
    have e6 : A.eval (.tmp 6) = .pointer (some ⟨gs, 1, none⟩) := hdL 2 6 (by kernel_rfl) (by kernel_rfl) (by kernel_rfl)
    have f6 : A.tmps[6]?.getD undef = .pointer (some ⟨gs, 1, none⟩) := by simpa [Act.eval] using e6
    have hb1 : hv.length ≤ 3 := hlen.2 3 9 rfl (by kernel_rfl)
    have kc := (JHU.fr hJ hb1).cell k10 (fun q => q)
    exact light_val rfl (v := ptr gp) (by simp [execOp, go_sem, e6, f6, kc]) hJ rfl
  case o4 =>
    intro A W hv hlen hJ hbase hdL hdH
    have e1 : A.eval (.tmp 1) = ptr gm := hbase 1 (by kernel_rfl)
    have f1 : A.tmps[1]?.getD undef = ptr gm := by simpa [Act.eval] using e1
    exact light_val rfl (v := ptr gm) (by simp [execOp, e1, f1]) hJ rfl
  case o5 =>
    intro A W hv hlen hJ hbase hdL hdH
    have e8 : A.eval (.tmp 8) = ptr gm := hdL 4 8 (by kernel_rfl) (by kernel_rfl) (by kernel_rfl)
    have f8 : A.tmps[8]?.getD undef = ptr gm := by simpa [Act.eval] using e8
    obtain rfl : hv = [] := List.eq_nil_of_length_eq_zero hlen
    obtain rfl := (show W = _ from hJ)
    refine heavy_call rfl (args := #[ptr gm]) (f := 33) (by simp [execOp, resolve, invoke, go_sem, e8, f8]) ?_
    refine (pclone_any gm _ M0).mono ?_
    rintro e w' ⟨g2, rfl, s2, b2, f2⟩
    exact ⟨_, rfl, g2, rfl, b2, f2⟩
  case o6 =>
    intro A W hv hlen hJ hbase hdL hdH
    obtain ⟨v0, rfl⟩ := List.length_eq_one_iff.1 hlen
    obtain ⟨g2, rfl, b2, f2⟩ := hJ
    have e9 : A.eval (.tmp 9) = ptr g2 := by have := hdH 5 9 0 (by kernel_rfl) rfl (by kernel_rfl); simpa using this.symm
    have f9 : A.tmps[9]?.getD undef = ptr g2 := by simpa [Act.eval] using e9
    exact heavy_val rfl (v := ptr g2) (by simp [execOp, go_sem, e9, f9]) ⟨g2, rfl, b2, f2⟩
  case o7 =>
    intro A W hv hlen hJ hbase hdL hdH
    match hv, hlen with
    | [v0, v1], _ =>
      obtain ⟨g2, rfl, b2, f2⟩ := hJ
      have e10 : A.eval (.tmp 10) = ptr g2 := by have := hdH 6 10 1 (by kernel_rfl) rfl (by kernel_rfl); simpa using this.symm
      have hr := run_ldPool b2
      exact heavy_val rfl (v := .agg (poolL M).toArray) (by simp [execOp, e10, hr, Result.andThen]) ⟨rfl, f2⟩
  case o8 =>
    intro A W hv hlen hJ hbase hdL hdH
    have e7 : A.eval (.tmp 7) = ptr gp := hdL 3 7 (by kernel_rfl) (by kernel_rfl) (by kernel_rfl)
    have f7 : A.tmps[7]?.getD undef = ptr gp := by simpa [Act.eval] using e7
    exact light_val rfl (v := ptr gp) (by simp [execOp, go_sem, e7, f7]) hJ rfl
  case o9 =>
    intro A W hv hlen hJ hbase hdL hdH
    have e12 : A.eval (.tmp 12) = ptr gp := hdL 8 12 (by kernel_rfl) (by kernel_rfl) (by kernel_rfl)
    have f12 : A.tmps[12]?.getD undef = ptr gp := by simpa [Act.eval] using e12
    match hv, hlen with
    | [v0, v1, v2], _ =>
      obtain ⟨rfl, f2⟩ := hJ
      have e11 : A.eval (.tmp 11) = .agg (poolL M).toArray := by have := hdH 7 11 2 (by kernel_rfl) rfl (by kernel_rfl); simpa using this.symm
      refine heavy_wp rfl (wp_stPool rfl e12 e11 (P0.fr0 f2) ?_)
      intro w' b3 f3
      exact ⟨_, rfl, b3, (f2.mono (fun _ _ q => q.elim)).trans f3⟩
  case oe =>
    intro vs W' hv hlen hJ hL hH
    match hv, hlen with
    | [z0, z1, z2, z3], _ =>
      obtain ⟨b2, f2⟩ := hJ
      simp only [layL, Nat.reduceAdd, Act.put, List.setIfInBounds_toArray, List.set_cons_zero, List.set_cons_succ]
      clear hL hH
      generalize vs 0 = y100 at *
      generalize vs 1 = y101 at *
      generalize vs 2 = y102 at *
      generalize vs 3 = y103 at *
      generalize vs 4 = y104 at *
      generalize vs 5 = y105 at *
      generalize vs 6 = y106 at *
      generalize vs 7 = y107 at *
      generalize vs 8 = y108 at *
      generalize vs 9 = y109 at *
      have F2 : Fr (onB1 gp) w W' := (f0.mono (fun _ _ q => q.elim)).trans f2
      go_wp2
      go_end0
      exact ⟨rfl, h.pool F2 b2 ho Hl.out, F2⟩
end Go.Proofs.YtmkinaijkgkgiaaGreat
/- A store: Make, Drop. -/
namespace Go.Proofs.YtmkinaijkgkgiaaGreat
open Go.RowKit Go.Proofs.U Go.Shelf
set_option linter.unusedSimpArgs false
set_option linter.unusedVariables false
theorem eg_lacks : ∀ args w, (callFunc 48 args).run Tryz.prog w = .ok (.enter 48 args) w := enters_of Tryz.func48 (by kernel_rfl) rfl
theorem eg_hold : ∀ args w, (callFunc 51 args).run Tryz.prog w = .ok (.enter 51 args) w := enters_of Tryz.func51 (by kernel_rfl) rfl
theorem eg_drop : ∀ args w, (callFunc 36 args).run Tryz.prog w = .ok (.enter 36 args) w := enters_of Tryz.func36 (by kernel_rfl) rfl
theorem contains_lacks {F : Nat → Prop} {gs gp : Nat} {X : DSt} {L : List Pg} {m : Nat} (u : Value) (l : List Int) (hl : l.length ≤ 1000000) (w : World) (h : Sto w F gs gp X L m) (hu : SlI .i64 w u l) :
    Calls Tryz.prog 47 #[u, .func (.func 48) #[ptr gs] #[]] w fun r w' => r = .returned (.bool (l.any fun p => !plHeld L p)) ∧ w = w' :=
  containsFunc_any (fun p => !plHeld L p) 48 #[ptr gs] #[] eg_lacks u l w hu hl (fun x hx => lacks_any x w h)
theorem each_hold {gp : Nat} {L : List Pg} (u : Value) (l : List Int) (hl : l.length ≤ 1000000) (w : World) (h : PoolB w gp L) (ho : plOk L) (hu : SlI .i64 w u l) (hg : ∀ k, u.ownBlock = some k → k ≠ gp) :
    Calls Tryz.prog 50 #[u, .func (.func 51) #[ptr gp] #[]] w fun r w' => r = .returned (.int .i64 (eachF plHold L l).2) ∧ PoolB w' gp (eachF plHold L l).1 ∧ Fr (onB1 gp) w w' := by
  refine (each_any plHold (fun M W => PoolB W gp M ∧ plOk M ∧ SlI .i64 W u l ∧ Fr (onB1 gp) w W) 51 #[ptr gp] #[] eg_hold u l hl (fun _ _ h => h.2.2.1) (fun M W x hx hI => ?_) L w ⟨h, ho, hu, Fr.refl _ _⟩).mono ?_
  · refine (phold_any hI.2.1 gp x W hI.1).mono ?_
    rintro e w1 ⟨rfl, b1, f1⟩
    exact ⟨rfl, b1, hold_ok hI.2.1 x, hI.2.2.1.fr f1 (fun k hk q => hg k hk q), hI.2.2.2.trans f1⟩
  · rintro e w1 ⟨rfl, b1, _, _, f1⟩
    exact ⟨rfl, b1, f1⟩
theorem kids_len {w : World} {v : Value} {n : Nd} (h : NdS w v n) : (kids n).length ≤ 1000 := by unfold kids; rw [List.length_map]; exact h.2.2.1
theorem eachHold_len (l : List Int) (L : List Pg) : (eachF plHold L l).1.length = L.length := eachF_inv (I := fun M => M.length = L.length) (fun M p h => by rw [hold_len]; exact h) l L rfl
theorem eachHold_ok (l : List Int) {L : List Pg} (h : plOk L) : plOk (eachF plHold L l).1 := eachF_inv (I := plOk) (fun M p h => hold_ok h p) l L h
set_option maxRecDepth 100000 in
set_option maxHeartbeats 1000000 in
theorem make_no {F : Nat → Prop} {gs gp : Nat} {X : DSt} {L : List Pg} {m : Nat} (n : Nd) (vs : Value) (w : World) (h : Sto w F gs gp X L m) (hn : NdS w vs n) (hr : n.right = false) :
    Calls Tryz.prog 29 #[ptr gs, ndV n.k n.b vs] w fun r w' => r = .returned (.tuple #[.int .i64 (-1), .int .i64 81]) ∧ Sto w' F gs gp X L m ∧ Fr noB w w' := by
  have hP := fun W (f : Fr noB w W) => page_no n vs W (hn.fr0 f) hr
  have hbl := NdS.bl hn
  obtain ⟨Z, HZ⟩ : ∃ Z, Hid (zerB 256 = Z) := ⟨_, rfl⟩
  have hZl : Hid (Z.length = 256) := by show _ = _; rw [← HZ.out]; exact zerB_len 256
  rw [HZ.out] at hP
  go_enter Tryz.func29, Tryz.ntmps29
  go_wp2_with (first
    | (with_reducible refine at_wpP ?_; refine wpList_boxN rfl _ rfl n.k n.b vs rfl ?_; intro g1 w1 hg1 b1 f1 s1; have l1 := b1.lt; have z1 := f1.size)
    | (with_reducible refine at_wpP ?_; refine at_ld 72 _ rfl ?_; go_must (refine wpList_ldN rfl _ rfl g1 rfl n.k n.b vs b1 hbl.out ?_))
    | (go_at_call 45; go_must (refine (hP _ f1).mono ?_; rintro e w2 ⟨rfl, f2⟩; have z2 := f2.size))
    | (with_reducible refine at_wpP ?_; refine wpList_allocA arr_page rfl rfl ?_; rw [HZ.out]; intro g3 w3 hg3 b3 f3 s3; have l3 := b3.lt; have z3 := f3.size)
    | (with_reducible refine at_wpP ?_; refine at_st 96 _ _ rfl ?_; go_must (refine wpList_storeA arr_page rfl _ _ rfl g3 rfl Z rfl _ b3 hZl.out hZl.out ?_; intro w4 b4 f4; have z4 := f4.size; have F4 : Fr noB w2 w4 := Fr.ownX f3 s3 f4)))
  go_ret2
  have F := (f1.thenN f2).thenN F4
  exact ⟨rfl, h.fr0 F, F⟩
set_option maxRecDepth 100000 in
set_option maxHeartbeats 1000000 in
theorem make_lack {F : Nat → Prop} {gs gp : Nat} {X : DSt} {L : List Pg} {m : Nat} (n : Nd) (vs : Value) (w : World) (h : Sto w F gs gp X L m) (hn : NdS w vs n) (hr : n.right = true) (ha : (kids n).any (fun p => !plHeld L p) = true) :
    Calls Tryz.prog 29 #[ptr gs, ndV n.k n.b vs] w fun r w' => r = .returned (.tuple #[.int .i64 (-1), .int .i64 73]) ∧ Sto w' F gs gp X L m ∧ Fr noB w w' := by
  have hP := fun W (f : Fr noB w W) => page_ok n vs W (hn.fr0 f) hr
  have hC := fun W (f : Fr noB w W) => children_any n vs W (hn.fr0 f)
  have hkl := kids_len hn
  have hL := fun (u : Value) W (f : Fr noB w W) (hu : SlI .i64 W u (kids n)) => contains_lacks u (kids n) (by omega) W (h.fr0 f) hu
  rw [ha] at hL
  have hbl := NdS.bl hn
  have hpl := show Hid _ from page_len hr hbl.out
  obtain ⟨K, HK⟩ : ∃ K, Hid (kids n = K) := ⟨_, rfl⟩
  rw [HK.out] at hC hL
  obtain ⟨P, HP⟩ : ∃ P, Hid (n.page = P) := ⟨_, rfl⟩
  rw [HP.out] at hP hpl
  obtain ⟨Z, HZ⟩ : ∃ Z, Hid (zerB 256 = Z) := ⟨_, rfl⟩
  have hZl : Hid (Z.length = 256) := by show _ = _; rw [← HZ.out]; exact zerB_len 256
  go_enter Tryz.func29, Tryz.ntmps29
  go_wp2_with (first
    | (with_reducible refine at_wpP ?_; refine wpList_boxN rfl _ rfl n.k n.b vs rfl ?_; intro g1 w1 hg1 b1 f1 s1; have l1 := b1.lt; have z1 := f1.size)
    | (with_reducible refine at_wpP ?_; refine at_ld 72 _ rfl ?_; have q := b4; go_must (refine wpList_ldN rfl _ rfl g1 rfl n.k n.b vs ((b1.fr0 f2).fr0 F4) hbl.out ?_))
    | (with_reducible refine at_wpP ?_; refine at_ld 72 _ rfl ?_; refine wpList_ldN rfl _ rfl g1 rfl n.k n.b vs b1 hbl.out ?_)
    | (go_at_call 45; go_must (refine (hP _ f1).mono ?_; rintro e w2 ⟨rfl, f2⟩; have z2 := f2.size))
    | (with_reducible refine at_wpP ?_; refine wpList_allocA arr_page rfl rfl ?_; rw [HZ.out]; intro g3 w3 hg3 b3 f3 s3; have l3 := b3.lt; have z3 := f3.size)
    | (with_reducible refine at_wpP ?_; refine at_st 96 _ _ rfl ?_; go_must (refine wpList_storeA arr_page rfl _ _ rfl g3 rfl P rfl _ b3 hpl.out hZl.out ?_; intro w4 b4 f4; have z4 := f4.size; have F4 : Fr noB w2 w4 := Fr.ownX f3 s3 f4; have G4 : Fr noB w w4 := (f1.thenN f2).thenN F4))
    | (go_at_call 46; go_must (refine (hC _ G4).mono ?_; rintro e w5 ⟨u, rfl, o5, u5, f5⟩; have z5 := f5.size; have G5 := G4.thenN f5))
    | (go_at_call 47; go_must (refine (hL _ _ G5 u5).mono ?_; rintro e w6 ⟨rfl, rfl⟩)))
  go_ret2
  exact ⟨rfl, h.fr0 G5, G5⟩
end Go.Proofs.YtmkinaijkgkgiaaGreat
/- A store: Make; Drop. (Written by h6_gen.py.) -/
namespace Go.Proofs.YtmkinaijkgkgiaaGreat
open Go.RowKit Go.Proofs.U Go.Shelf
set_option linter.unusedSimpArgs false
set_option linter.unusedVariables false
set_option maxRecDepth 100000 in
set_option maxHeartbeats 1000000 in
theorem make_full {F : Nat → Prop} {gs gp : Nat} {X : DSt} {L : List Pg} {m : Nat} (n : Nd) (vs : Value) (w : World) (h : Sto w F gs gp X L m) (hm : m ≤ 100000) (hn : NdS w vs n) (hr : n.right = true) (ha : (kids n).any (fun p => !plHeld L p) = false) (hT : ¬ (plTake L).2.2 = 0) :
    Calls Tryz.prog 29 #[ptr gs, ndV n.k n.b vs] w fun r w' => r = .returned (.tuple #[.int .i64 (-1), .int .i64 (plTake L).2.2]) ∧ LayIs w w' F gs gp (X, (plTake L).1) m := by
  have hP := fun W (f : Fr noB w W) => page_ok n vs W (hn.fr0 f) hr
  have hC := fun W (f : Fr noB w W) => children_any n vs W (hn.fr0 f)
  have hkl := kids_len hn
  have hL := fun (u : Value) W (f : Fr noB w W) (hu : SlI .i64 W u (kids n)) => contains_lacks u (kids n) (by omega) W (h.fr0 f) hu
  rw [ha] at hL
  have hbl := NdS.bl hn
  have hpl := show Hid _ from page_len hr hbl.out
  have hpb := page_byt hr hn.2.1
  have hY := fun W (f : Fr noB w W) => lay_no n.page hpl.out W (h.fr0 f) hT
  obtain ⟨R, HR⟩ : ∃ R, Hid (plTake L = R) := ⟨_, rfl⟩
  rw [HR.out] at hY hT ⊢
  obtain ⟨K, HK⟩ : ∃ K, Hid (kids n = K) := ⟨_, rfl⟩
  rw [HK.out] at hC hL hkl 
  obtain ⟨P, HP⟩ : ∃ P, Hid (n.page = P) := ⟨_, rfl⟩
  rw [HP.out] at hP hpl hY 
  obtain ⟨Z, HZ⟩ : ∃ Z, Hid (zerB 256 = Z) := ⟨_, rfl⟩
  have hZl : Hid (Z.length = 256) := by show _ = _; rw [← HZ.out]; exact zerB_len 256
  go_enter Tryz.func29, Tryz.ntmps29
  go_wp2_with (first
    | (with_reducible refine at_wpP ?_; refine wpList_boxN rfl _ rfl n.k n.b vs rfl ?_; intro g1 w1 hg1 b1 f1 s1; have l1 := b1.lt; have z1 := f1.size)
    | (with_reducible refine at_wpP ?_; refine at_ld 72 _ rfl ?_; have q := b4; go_must (refine wpList_ldN rfl _ rfl g1 rfl n.k n.b vs ((b1.fr0 f2).fr0 F4) hbl.out ?_))
    | (with_reducible refine at_wpP ?_; refine at_ld 72 _ rfl ?_; refine wpList_ldN rfl _ rfl g1 rfl n.k n.b vs b1 hbl.out ?_)
    | (go_at_call 45; go_must (refine (hP _ f1).mono ?_; rintro e w2 ⟨rfl, f2⟩; have z2 := f2.size))
    | (with_reducible refine at_wpP ?_; refine wpList_allocA arr_page rfl rfl ?_; rw [HZ.out]; intro g3 w3 hg3 b3 f3 s3; have l3 := b3.lt; have z3 := f3.size)
    | (with_reducible refine at_wpP ?_; refine at_st 96 _ _ rfl ?_; go_must (refine wpList_storeA arr_page rfl _ _ rfl g3 rfl P rfl _ b3 hpl.out hZl.out ?_; intro w4 b4 f4; have z4 := f4.size; have F4 : Fr noB w2 w4 := Fr.ownX f3 s3 f4; have G4 : Fr noB w w4 := (f1.thenN f2).thenN F4))
    | (go_at_call 46; go_must (refine (hC _ G4).mono ?_; rintro e w5 ⟨u, rfl, o5, u5, f5⟩; have z5 := f5.size; have G5 := G4.thenN f5; have nb5 := o5.newB; have lp5 := h.ltp; have zz5 := G4.size))
    | (go_at_call 47; go_must (refine (hL _ _ G5 u5).mono ?_; rintro e w6 ⟨rfl, rfl⟩))
    | (with_reducible refine at_wpP ?_; refine at_ld 96 _ rfl ?_; go_must (refine wpList_loadA arr_page rfl _ rfl g3 rfl P (b4.fr0 f5) hpl.out ?_))
    | (go_at_call 49; go_must (refine (hY _ G5).mono ?_; rintro e w7 ⟨rfl, F', S7, g7, f7⟩; have z7 := f7.size; obtain ⟨gd, q0, q1, _⟩ := S7.cells)))
  go_ret2
  exact ⟨rfl, F', S7, fun k hk => ⟨(g7 k hk).1.imp id (fun q => by have := G5.size; omega), (g7 k hk).2⟩, (G5.mono (fun _ _ q => q.elim)).thenT f7 (fun i hi q => q)⟩
set_option maxRecDepth 100000 in
set_option maxHeartbeats 1000000 in
theorem make_yes {F : Nat → Prop} {gs gp : Nat} {X : DSt} {L : List Pg} {m : Nat} (n : Nd) (vs : Value) (w : World) (h : Sto w F gs gp X L m) (hm : m ≤ 100000) (hn : NdS w vs n) (hr : n.right = true) (ha : (kids n).any (fun p => !plHeld L p) = false) (hT : (plTake L).2.2 = 0) (he : (eachF plHold (plTake L).1 (kids n)).2 = 0) :
    Calls Tryz.prog 29 #[ptr gs, ndV n.k n.b vs] w fun r w' => r = .returned (.tuple #[.int .i64 (plTake L).2.1, .int .i64 0]) ∧ LayIs w w' F gs gp (X.write ((plTake L).2.1 + 4) n.page, (eachF plHold (plTake L).1 (kids n)).1) (m + 1) := by
  have hP := fun W (f : Fr noB w W) => page_ok n vs W (hn.fr0 f) hr
  have hC := fun W (f : Fr noB w W) => children_any n vs W (hn.fr0 f)
  have hkl := kids_len hn
  have hL := fun (u : Value) W (f : Fr noB w W) (hu : SlI .i64 W u (kids n)) => contains_lacks u (kids n) (by omega) W (h.fr0 f) hu
  rw [ha] at hL
  have hbl := NdS.bl hn
  have hpl := show Hid _ from page_len hr hbl.out
  have hpb := page_byt hr hn.2.1
  have hY := fun W (f : Fr noB w W) => lay_yes n.page hpl.out hpb W (h.fr0 f) hm hT
  have ho := take_ok h.ok
  have hE := fun (u : Value) W (b : PoolB W gp (plTake L).1) (hu : SlI .i64 W u (kids n)) (hg : ∀ k, u.ownBlock = some k → k ≠ gp) => each_hold u (kids n) (by omega) W b ho hu hg
  have ho2 := eachHold_ok (kids n) ho
  have hn2 := show Hid _ from eachHold_len (kids n) (plTake L).1
  obtain ⟨R, HR⟩ : ∃ R, Hid (plTake L = R) := ⟨_, rfl⟩
  rw [HR.out] at hY hT hE ho he ho2 hn2 ⊢
  obtain ⟨K, HK⟩ : ∃ K, Hid (kids n = K) := ⟨_, rfl⟩
  rw [HK.out] at hC hL hkl hE he ho2 hn2 ⊢
  obtain ⟨P, HP⟩ : ∃ P, Hid (n.page = P) := ⟨_, rfl⟩
  rw [HP.out] at hP hpl hY ⊢
  obtain ⟨Z, HZ⟩ : ∃ Z, Hid (zerB 256 = Z) := ⟨_, rfl⟩
  have hZl : Hid (Z.length = 256) := by show _ = _; rw [← HZ.out]; exact zerB_len 256
  obtain ⟨R1, i, e0⟩ := R
  simp only at hY hT hE ho he ho2 hn2 ⊢
  subst hT
  obtain ⟨V, HV⟩ : ∃ V, Hid (eachF plHold R1 K = V) := ⟨_, rfl⟩
  rw [HV.out] at hE he ho2 hn2 ⊢
  obtain ⟨V1, e1⟩ := V
  simp only at hE he ho2 hn2 ⊢
  subst he
  obtain ⟨Y, HY⟩ : ∃ Y, Hid (X.write (i + 4) P = Y) := ⟨_, rfl⟩
  rw [HY.out] at hY ⊢
  go_enter Tryz.func29, Tryz.ntmps29
  go_wp2_with (first
    | (with_reducible refine at_wpP ?_; refine wpList_boxN rfl _ rfl n.k n.b vs rfl ?_; intro g1 w1 hg1 b1 f1 s1; have l1 := b1.lt; have z1 := f1.size)
    | (with_reducible refine at_wpP ?_; refine at_ld 72 _ rfl ?_; have q := b4; go_must (refine wpList_ldN rfl _ rfl g1 rfl n.k n.b vs ((b1.fr0 f2).fr0 F4) hbl.out ?_))
    | (with_reducible refine at_wpP ?_; refine at_ld 72 _ rfl ?_; refine wpList_ldN rfl _ rfl g1 rfl n.k n.b vs b1 hbl.out ?_)
    | (go_at_call 45; go_must (refine (hP _ f1).mono ?_; rintro e w2 ⟨rfl, f2⟩; have z2 := f2.size))
    | (with_reducible refine at_wpP ?_; refine wpList_allocA arr_page rfl rfl ?_; rw [HZ.out]; intro g3 w3 hg3 b3 f3 s3; have l3 := b3.lt; have z3 := f3.size)
    | (with_reducible refine at_wpP ?_; refine at_st 96 _ _ rfl ?_; go_must (refine wpList_storeA arr_page rfl _ _ rfl g3 rfl P rfl _ b3 hpl.out hZl.out ?_; intro w4 b4 f4; have z4 := f4.size; have F4 : Fr noB w2 w4 := Fr.ownX f3 s3 f4; have G4 : Fr noB w w4 := (f1.thenN f2).thenN F4))
    | (go_at_call 46; go_must (refine (hC _ G4).mono ?_; rintro e w5 ⟨u, rfl, o5, u5, f5⟩; have z5 := f5.size; have G5 := G4.thenN f5; have nb5 := o5.newB; have lp5 := h.ltp; have zz5 := G4.size))
    | (go_at_call 47; go_must (refine (hL _ _ G5 u5).mono ?_; rintro e w6 ⟨rfl, rfl⟩))
    | (with_reducible refine at_wpP ?_; refine at_ld 96 _ rfl ?_; go_must (refine wpList_loadA arr_page rfl _ rfl g3 rfl P (b4.fr0 f5) hpl.out ?_))
    | (go_at_call 49; go_must (refine (hY _ G5).mono ?_; rintro e w7 ⟨rfl, F', S7, g7, f7⟩; have z7 := f7.size; obtain ⟨gd, q0, q1, _⟩ := S7.cells))
    | (go_at_call 50; go_must (refine (hE u _ S7.pl ?hu7 ?hg7).mono ?_; rotate_left 2; rintro e w8 ⟨rfl, b8, f8⟩)))
  case hu7 =>
    refine u5.fr f7 (fun k hk q => ?_)
    have := nb5 k hk
    unfold stB at q
    rcases q with q | q
    · have := h.ft k q; omega
    · omega
  case hg7 =>
    intro k hk e
    have := nb5 k hk
    omega
  go_ret2
  have S8 := S7.pool f8 b8 ho2 hn2.out
  exact ⟨rfl, F', S8, fun k hk => ⟨(g7 k hk).1.imp id (fun q => by have := G5.size; omega), by have := (g7 k hk).2; have := f8.size; omega⟩, ((G5.mono (fun _ _ q => q.elim)).thenT f7 (fun i hi q => q)).thenT f8 (fun i hi q => Or.inr q)⟩
set_option maxRecDepth 100000 in
set_option maxHeartbeats 1000000 in
theorem make_cut {F : Nat → Prop} {gs gp : Nat} {X : DSt} {L : List Pg} {m : Nat} (n : Nd) (vs : Value) (w : World) (h : Sto w F gs gp X L m) (hm : m ≤ 100000) (hn : NdS w vs n) (hr : n.right = true) (ha : (kids n).any (fun p => !plHeld L p) = false) (hT : (plTake L).2.2 = 0) (he : ¬ (eachF plHold (plTake L).1 (kids n)).2 = 0) :
    Calls Tryz.prog 29 #[ptr gs, ndV n.k n.b vs] w fun r w' => r = .returned (.tuple #[.int .i64 (-1), .int .i64 (eachF plHold (plTake L).1 (kids n)).2]) ∧ LayIs w w' F gs gp (X.write ((plTake L).2.1 + 4) n.page, (eachF plHold (plTake L).1 (kids n)).1) (m + 1) := by
  have hP := fun W (f : Fr noB w W) => page_ok n vs W (hn.fr0 f) hr
  have hC := fun W (f : Fr noB w W) => children_any n vs W (hn.fr0 f)
  have hkl := kids_len hn
  have hL := fun (u : Value) W (f : Fr noB w W) (hu : SlI .i64 W u (kids n)) => contains_lacks u (kids n) (by omega) W (h.fr0 f) hu
  rw [ha] at hL
  have hbl := NdS.bl hn
  have hpl := show Hid _ from page_len hr hbl.out
  have hpb := page_byt hr hn.2.1
  have hY := fun W (f : Fr noB w W) => lay_yes n.page hpl.out hpb W (h.fr0 f) hm hT
  have ho := take_ok h.ok
  have hE := fun (u : Value) W (b : PoolB W gp (plTake L).1) (hu : SlI .i64 W u (kids n)) (hg : ∀ k, u.ownBlock = some k → k ≠ gp) => each_hold u (kids n) (by omega) W b ho hu hg
  have ho2 := eachHold_ok (kids n) ho
  have hn2 := show Hid _ from eachHold_len (kids n) (plTake L).1
  obtain ⟨R, HR⟩ : ∃ R, Hid (plTake L = R) := ⟨_, rfl⟩
  rw [HR.out] at hY hT hE ho he ho2 hn2 ⊢
  obtain ⟨K, HK⟩ : ∃ K, Hid (kids n = K) := ⟨_, rfl⟩
  rw [HK.out] at hC hL hkl hE he ho2 hn2 ⊢
  obtain ⟨P, HP⟩ : ∃ P, Hid (n.page = P) := ⟨_, rfl⟩
  rw [HP.out] at hP hpl hY ⊢
  obtain ⟨Z, HZ⟩ : ∃ Z, Hid (zerB 256 = Z) := ⟨_, rfl⟩
  have hZl : Hid (Z.length = 256) := by show _ = _; rw [← HZ.out]; exact zerB_len 256
  obtain ⟨R1, i, e0⟩ := R
  simp only at hY hT hE ho he ho2 hn2 ⊢
  subst hT
  obtain ⟨V, HV⟩ : ∃ V, Hid (eachF plHold R1 K = V) := ⟨_, rfl⟩
  rw [HV.out] at hE he ho2 hn2 ⊢
  obtain ⟨V1, e1⟩ := V
  simp only at hE he ho2 hn2 ⊢
  obtain ⟨Y, HY⟩ : ∃ Y, Hid (X.write (i + 4) P = Y) := ⟨_, rfl⟩
  rw [HY.out] at hY ⊢
  go_enter Tryz.func29, Tryz.ntmps29
  go_wp2_with (first
    | (with_reducible refine at_wpP ?_; refine wpList_boxN rfl _ rfl n.k n.b vs rfl ?_; intro g1 w1 hg1 b1 f1 s1; have l1 := b1.lt; have z1 := f1.size)
    | (with_reducible refine at_wpP ?_; refine at_ld 72 _ rfl ?_; have q := b4; go_must (refine wpList_ldN rfl _ rfl g1 rfl n.k n.b vs ((b1.fr0 f2).fr0 F4) hbl.out ?_))
    | (with_reducible refine at_wpP ?_; refine at_ld 72 _ rfl ?_; refine wpList_ldN rfl _ rfl g1 rfl n.k n.b vs b1 hbl.out ?_)
    | (go_at_call 45; go_must (refine (hP _ f1).mono ?_; rintro e w2 ⟨rfl, f2⟩; have z2 := f2.size))
    | (with_reducible refine at_wpP ?_; refine wpList_allocA arr_page rfl rfl ?_; rw [HZ.out]; intro g3 w3 hg3 b3 f3 s3; have l3 := b3.lt; have z3 := f3.size)
    | (with_reducible refine at_wpP ?_; refine at_st 96 _ _ rfl ?_; go_must (refine wpList_storeA arr_page rfl _ _ rfl g3 rfl P rfl _ b3 hpl.out hZl.out ?_; intro w4 b4 f4; have z4 := f4.size; have F4 : Fr noB w2 w4 := Fr.ownX f3 s3 f4; have G4 : Fr noB w w4 := (f1.thenN f2).thenN F4))
    | (go_at_call 46; go_must (refine (hC _ G4).mono ?_; rintro e w5 ⟨u, rfl, o5, u5, f5⟩; have z5 := f5.size; have G5 := G4.thenN f5; have nb5 := o5.newB; have lp5 := h.ltp; have zz5 := G4.size))
    | (go_at_call 47; go_must (refine (hL _ _ G5 u5).mono ?_; rintro e w6 ⟨rfl, rfl⟩))
    | (with_reducible refine at_wpP ?_; refine at_ld 96 _ rfl ?_; go_must (refine wpList_loadA arr_page rfl _ rfl g3 rfl P (b4.fr0 f5) hpl.out ?_))
    | (go_at_call 49; go_must (refine (hY _ G5).mono ?_; rintro e w7 ⟨rfl, F', S7, g7, f7⟩; have z7 := f7.size; obtain ⟨gd, q0, q1, _⟩ := S7.cells))
    | (go_at_call 50; go_must (refine (hE u _ S7.pl ?hu7 ?hg7).mono ?_; rotate_left 2; rintro e w8 ⟨rfl, b8, f8⟩)))
  case hu7 =>
    refine u5.fr f7 (fun k hk q => ?_)
    have := nb5 k hk
    unfold stB at q
    rcases q with q | q
    · have := h.ft k q; omega
    · omega
  case hg7 =>
    intro k hk e
    have := nb5 k hk
    omega
  go_ret2
  have S8 := S7.pool f8 b8 ho2 hn2.out
  exact ⟨rfl, F', S8, fun k hk => ⟨(g7 k hk).1.imp id (fun q => by have := G5.size; omega), by have := (g7 k hk).2; have := f8.size; omega⟩, ((G5.mono (fun _ _ q => q.elim)).thenT f7 (fun i hi q => q)).thenT f8 (fun i hi q => Or.inr q)⟩
theorem LayIs.of {w w' : World} {F : Nat → Prop} {gs gp : Nat} {X : DSt} {L : List Pg} {m m' : Nat} (h : Sto w' F gs gp X L m) (f : Fr noB w w') (hm : m ≤ m') : LayIs w w' F gs gp (X, L) m' :=
  ⟨F, h.mono hm, fun k hk => ⟨Or.inl hk, h.ft k hk⟩, f.mono (fun _ _ q => q.elim)⟩
theorem LayIs.mono {w w' : World} {F : Nat → Prop} {gs gp : Nat} {S : DSt × List Pg} {m m' : Nat} (h : LayIs w w' F gs gp S m) (hm : m ≤ m') : LayIs w w' F gs gp S m' := by
  obtain ⟨F', s, g, f⟩ := h
  exact ⟨F', s.mono hm, g, f⟩
theorem make_any {F : Nat → Prop} {gs gp : Nat} {X : DSt} {L : List Pg} {m : Nat} (n : Nd) (vs : Value) (w : World) (h : Sto w F gs gp X L m) (hm : m ≤ 100000) (hn : NdS w vs n) :
    Calls Tryz.prog 29 #[ptr gs, ndV n.k n.b vs] w fun r w' => r = .returned (.tuple #[.int .i64 (makeF X L n).2.1, .int .i64 (makeF X L n).2.2]) ∧ LayIs w w' F gs gp (makeF X L n).1 (m + 1) := by
  unfold makeF
  cases hr : n.right with
  | false =>
    refine (make_no n vs w h hn hr).mono ?_
    rintro e w' ⟨rfl, s, f⟩
    exact ⟨rfl, LayIs.of s f (by omega)⟩
  | true =>
    simp only [if_true]
    cases ha : (kids n).any (fun p => !plHeld L p) with
    | true =>
      refine (make_lack n vs w h hn hr ha).mono ?_
      rintro e w' ⟨rfl, s, f⟩
      exact ⟨rfl, LayIs.of s f (by omega)⟩
    | false =>
      simp only [Bool.false_eq_true, if_false]
      by_cases hT : (plTake L).2.2 = 0
      · rw [if_pos hT]
        by_cases he : (eachF plHold (plTake L).1 (kids n)).2 = 0
        · rw [if_pos he]; exact make_yes n vs w h hm hn hr ha hT he
        · rw [if_neg he]; exact make_cut n vs w h hm hn hr ha hT he
      · rw [if_neg hT]
        refine (make_full n vs w h hm hn hr ha hT).mono ?_
        rintro e w' ⟨rfl, s⟩
        exact ⟨rfl, s.mono (by omega)⟩
theorem dropF_succ {X : DSt} {n : Nat} {L L1 : List Pg} {p e : Int} {b : Bool} (hd : plDrop L p = (L1, b, e)) : dropF X (n + 1) L p = if b then (if (rdN X p).2 = 0 then eachF (dropF X n) L1 (kids (rdN X p).1) else (L1, (rdN X p).2)) else (L1, e) := by
  rw [dropF, hd]
set_option maxRecDepth 100000 in
set_option maxHeartbeats 1000000 in
theorem ndrop_any {F : Nat → Prop} {gs gp : Nat} {X : DSt} {m : Nat} (hm : m ≤ 100000) : ∀ (n : Nat) (L : List Pg) (p : Int) (w : World), muL L < n → Sto w F gs gp X L m →
    Calls Tryz.prog 36 #[ptr gs, .int .i64 p] w fun r w' => r = .returned (.int .i64 (dropF X n L p).2) ∧ Sto w' F gs gp X (dropF X n L p).1 m ∧ Fr (onB1 gp) w w' := by
  intro n
  induction n with
  | zero => intro L p w h; omega
  | succ n ih =>
    intro L p w hmu h
    obtain ⟨gd, k0, k1, hd⟩ := h.cells
    obtain ⟨L1, b, e, hdr⟩ : ∃ L1 b e, plDrop L p = (L1, b, e) := ⟨_, _, _, rfl⟩
    have hD := pdrop_any h.ok gp p w h.pl
    have ho := drop_ok h.ok p
    have hl := show Hid _ from drop_len L p
    have hM := drop_mu h.ok hdr
    rw [dropF_succ hdr]
    rw [hdr] at hD ho hl
    simp only at hD ho hl
    clear hdr
    cases b with
    | false =>
      simp only [Bool.false_eq_true, if_false]
      go_enter Tryz.func36, Tryz.ntmps36
      go_wp2_with (first
        | (go_at_call 59; go_must (refine hD.mono ?_; rintro e w1 ⟨rfl, b1, f1⟩)))
      go_ret
      exact ⟨rfl, h.pool f1 b1 ho hl.out, f1⟩
    | true =>
      obtain ⟨rfl, hlt, hp0, hp1⟩ := hM.2 rfl
      have hmu1 : muL L1 < n := by omega
      clear hM hlt hmu
      simp only [if_true]
      have hR := fun W (s : Sto W F gs gp X L1 m) => nread_any p hp0 (by rw [hl.out]; exact hp1) W s hm
      obtain ⟨R, HR⟩ : ∃ R, Hid (rdN X p = R) := ⟨_, rfl⟩
      rw [HR.out] at hR ⊢
      by_cases hr0 : R.2 = 0
      · rw [if_pos hr0]
        obtain ⟨N, e0⟩ := R
        simp only at hr0
        subst hr0
        simp only at hR ⊢
        have hC := fun v W (hn : NdS W v N) => children_any N v W hn
        have hE := fun (u : Value) (W : World) (hK : (kids N).length ≤ 1000) (s : Sto W F gs gp X L1 m) (hu : SlI .i64 W u (kids N)) (hg : ∀ k, u.ownBlock = some k → k ≠ gp) =>
          each_any (dropF X n) (fun M V => Sto V F gs gp X M m ∧ muL M < n ∧ SlI .i64 V u (kids N) ∧ Fr (onB1 gp) W V) 36 #[ptr gs] #[] eg_drop u (kids N) (by omega) (fun _ _ h => h.2.2.1) (fun M V x hx hI => by
            refine (ih M x V hI.2.1 hI.1).mono ?_
            rintro e w1 ⟨rfl, s1, f1⟩
            exact ⟨rfl, s1, Nat.lt_of_le_of_lt (dropF_mu n x hI.1.ok) hI.2.1, hI.2.2.1.fr f1 (fun k hk q => hg k hk q), hI.2.2.2.trans f1⟩) L1 W ⟨s, hmu1, hu, Fr.refl _ _⟩
        clear ih
        obtain ⟨K, HK⟩ : ∃ K, Hid (kids N = K) := ⟨_, rfl⟩
        have hkl := fun v W (hn : NdS W v N) => kids_len hn
        rw [HK.out] at hC hE hkl ⊢
        obtain ⟨V, HV⟩ : ∃ V, Hid (eachF (dropF X n) L1 K = V) := ⟨_, rfl⟩
        rw [HV.out] at hE ⊢
        go_enter Tryz.func36, Tryz.ntmps36
        go_wp2_with (first
          | (go_at_call 59; go_must (refine hD.mono ?_; rintro e w1 ⟨rfl, b1, f1⟩; have z1 := f1.size; have S1 := h.pool f1 b1 ho hl.out))
          | (go_at_call 60; go_must (refine (hR _ S1).mono ?_; rintro e w2 ⟨v, rfl, n2, o2, f2⟩; have z2 := f2.size; have hv := NdS.sl n2; have hbl := NdS.bl n2))
          | (with_reducible refine at_wpP ?_; refine wpList_allocN rfl rfl ?_; intro g3 w3 hg3 b3 f3 s3; have l3 := b3.lt; have z3 := f3.size)
          | (with_reducible refine at_wpP ?_; refine at_st 72 _ _ rfl ?_; have q := n2; go_must (refine wpList_stN rfl _ _ rfl g3 rfl N.k N.b v rfl hbl.out hv 0 (zerB 16) nilS b3 (zerB_len 16) ?_; intro w4 b4 f4; have z4 := f4.size; have F4 : Fr noB w2 w4 := Fr.ownX f3 s3 f4; have n4 := n2.fr0 F4; have hk := hkl _ _ n2))
          | (with_reducible refine at_wpP ?_; refine at_ld 72 _ rfl ?_; go_must (refine wpList_ldN rfl _ rfl g3 rfl N.k N.b v b4 hbl.out ?_))
          | (go_at_call 46; go_must (refine (hC _ _ n4).mono ?_; rintro e w5 ⟨u, rfl, o5, u5, f5⟩; have z5 := f5.size; have S5 := ((S1.fr0 f2).fr0 F4).fr0 f5; have nb5 := o5.newB; have lp := S1.ltp))
          | (go_at_call 50; go_must (refine (hE u _ hk S5 u5 ?hg5).mono ?_; rotate_left 1; rintro e w6 ⟨rfl, s6, _, _, f6⟩)))
        case hg5 =>
          intro k hk e
          have := nb5 k hk
          omega
        go_ret
        exact ⟨rfl, s6, (((f1.thenN f2).thenN F4).thenN f5).trans f6⟩
      · rw [if_neg hr0]
        go_enter Tryz.func36, Tryz.ntmps36
        go_wp2_with (first
          | (go_at_call 59; go_must (refine hD.mono ?_; rintro e w1 ⟨rfl, b1, f1⟩; have z1 := f1.size; have S1 := h.pool f1 b1 ho hl.out))
          | (go_at_call 60; go_must (refine (hR _ S1).mono ?_; rintro e w2 ⟨v, rfl, n2, o2, f2⟩; have z2 := f2.size; have hv := NdS.sl n2; have hbl := NdS.bl n2))
          | (with_reducible refine at_wpP ?_; refine wpList_allocN rfl rfl ?_; intro g3 w3 hg3 b3 f3 s3; have l3 := b3.lt; have z3 := f3.size)
          | (with_reducible refine at_wpP ?_; refine at_st 72 _ _ rfl ?_; have q := n2; go_must (refine wpList_stN rfl _ _ rfl g3 rfl R.1.k R.1.b v rfl hbl.out hv 0 (zerB 16) nilS b3 (zerB_len 16) ?_; intro w4 b4 f4; have z4 := f4.size; have F4 : Fr noB w2 w4 := Fr.ownX f3 s3 f4)))
        go_ret
        exact ⟨rfl, (S1.fr0 f2).fr0 F4, (f1.thenN f2).thenN F4⟩
end Go.Proofs.YtmkinaijkgkgiaaGreat
/- Contracts of functions of the Go library (maps.Keys, slices.Sorted, slices.Sort), laid at this program; no condition. -/
namespace Go.Proofs
open Go.Shelf
def Tryz.keysA_ren : Go.Shelf.Ren := ⟨fun | 7 => 64 | 10 => 87 | n => n, fun | 23 => 91 | 26 => 3 | 3 => 119 | 28 => 117 | 0 => 0 | 27 => 116 | 33 => 89 | 4 => 4 | n => n, fun | n => n⟩
theorem Tryz.keysA : Go.Proofs.SlLaysZI.n7 Tryz.prog Tryz.keysA_ren := {
  mixed := by kernel_rfl
  f7 := ⟨Tryz.f64.name, by decide, Tryz.func64.trans (congrArg some (by kernel_rfl))⟩
  f10 := ⟨Tryz.f87.name, by decide, Tryz.func87.trans (congrArg some (by kernel_rfl))⟩
  t0 := Tryz.underlying0
  a0 := Tryz.isAgg0
  z0 := Tryz.sizeOf0
  v0 := Tryz.zeroValue0
  t4 := Tryz.underlying4
  a4 := Tryz.isAgg4
  z4 := Tryz.sizeOf4
  v4 := Tryz.zeroValue4
  t23 := Tryz.underlying91
  a23 := Tryz.isAgg91
  z23 := Tryz.sizeOf91
  v23 := Tryz.zeroValue91
  t26 := Tryz.underlying3
  a26 := Tryz.isAgg3
  z26 := Tryz.sizeOf3
  v26 := Tryz.zeroValue3
  t27 := Tryz.underlying116
  a27 := Tryz.isAgg116
  z27 := Tryz.sizeOf116
  v27 := Tryz.zeroValue116
  t28 := Tryz.underlying117
  a28 := Tryz.isAgg117
  z28 := Tryz.sizeOf117
  v28 := Tryz.zeroValue117
  t33 := Tryz.underlying89
  a33 := Tryz.isAgg89
  z33 := Tryz.sizeOf89
  v33 := Tryz.zeroValue89 }
def Tryz.sortedA_ren : Go.Shelf.Ren := ⟨fun | 6 => 63 | 8 => 85 | 9 => 86 | 11 => 100 | 13 => 102 | 12 => 101 | 23 => 121 | 24 => 122 | 14 => 112 | 15 => 113 | 16 => 114 | 17 => 115 | 18 => 116 | 19 => 117 | 20 => 118 | 21 => 119 | 22 => 120 | 25 => 126 | 26 => 127 | 27 => 128 | 28 => 129 | 29 => 130 | 30 => 131 | 31 => 133 | n => n, fun | 26 => 3 | 28 => 117 | 24 => 52 | 0 => 0 | 3 => 3 | 37 => 143 | 48 => 141 | 50 => 144 | 4 => 4 | 40 => 174 | 39 => 173 | 45 => 179 | 5 => 5 | 9 => 9 | 51 => 187 | 55 => 191 | 57 => 196 | 58 => 197 | 33 => 89 | n => n, fun | n => n⟩
theorem Tryz.sortedA : Go.Proofs.SlLaysZI.n6 Tryz.prog Tryz.sortedA_ren := {
  mixed := by kernel_rfl
  f6 := ⟨Tryz.f63.name, by decide, Tryz.func63.trans (congrArg some (by kernel_rfl))⟩
  f8 := ⟨Tryz.f85.name, by decide, Tryz.func85.trans (congrArg some (by kernel_rfl))⟩
  f11 := ⟨Tryz.f100.name, by decide, Tryz.func100.trans (congrArg some (by kernel_rfl))⟩
  t0 := Tryz.underlying0
  a0 := Tryz.isAgg0
  z0 := Tryz.sizeOf0
  v0 := Tryz.zeroValue0
  t24 := Tryz.underlying52
  a24 := Tryz.isAgg52
  z24 := Tryz.sizeOf52
  v24 := Tryz.zeroValue52
  t26 := Tryz.underlying3
  a26 := Tryz.isAgg3
  z26 := Tryz.sizeOf3
  v26 := Tryz.zeroValue3
  t28 := Tryz.underlying117
  a28 := Tryz.isAgg117
  z28 := Tryz.sizeOf117
  v28 := Tryz.zeroValue117
  i26 := by kernel_rfl }
def Tryz.sortA_ren : Go.Shelf.Ren := ⟨fun | 5 => 86 | 8 => 102 | 7 => 101 | 19 => 121 | 20 => 122 | 10 => 112 | 11 => 113 | 12 => 114 | 13 => 115 | 14 => 116 | 15 => 117 | 16 => 118 | 17 => 119 | 18 => 120 | 30 => 126 | 31 => 127 | 32 => 128 | 33 => 129 | 34 => 130 | 35 => 131 | 40 => 133 | n => n, fun | 23 => 52 | 25 => 3 | 3 => 3 | 32 => 143 | 22 => 52 | 0 => 0 | 44 => 141 | 46 => 144 | 4 => 4 | 36 => 174 | 35 => 173 | 41 => 179 | 5 => 5 | 9 => 9 | 53 => 187 | 57 => 191 | 63 => 196 | 64 => 197 | n => n, fun | n => n⟩
theorem Tryz.sortA : Go.Proofs.SlLaysM.n5 Tryz.prog Tryz.sortA_ren := {
  mixed := by kernel_rfl
  f5 := ⟨Tryz.f86.name, by decide, Tryz.func86.trans (congrArg some (by kernel_rfl))⟩
  f7 := ⟨Tryz.f101.name, by decide, Tryz.func101.trans (congrArg some (by kernel_rfl))⟩
  f8 := Tryz.func102.trans (congrArg some (by kernel_rfl))
  f10 := ⟨Tryz.f112.name, by decide, Tryz.func112.trans (congrArg some (by kernel_rfl))⟩
  f11 := ⟨Tryz.f113.name, by decide, Tryz.func113.trans (congrArg some (by kernel_rfl))⟩
  f12 := ⟨Tryz.f114.name, by decide, Tryz.func114.trans (congrArg some (by kernel_rfl))⟩
  f13 := ⟨Tryz.f115.name, by decide, Tryz.func115.trans (congrArg some (by kernel_rfl))⟩
  f14 := ⟨Tryz.f116.name, by decide, Tryz.func116.trans (congrArg some (by kernel_rfl))⟩
  f15 := ⟨Tryz.f117.name, by decide, Tryz.func117.trans (congrArg some (by kernel_rfl))⟩
  f16 := ⟨Tryz.f118.name, by decide, Tryz.func118.trans (congrArg some (by kernel_rfl))⟩
  f17 := ⟨Tryz.f119.name, by decide, Tryz.func119.trans (congrArg some (by kernel_rfl))⟩
  f18 := ⟨Tryz.f120.name, by decide, Tryz.func120.trans (congrArg some (by kernel_rfl))⟩
  f19 := Tryz.func121.trans (congrArg some (by kernel_rfl))
  f20 := Tryz.func122.trans (congrArg some (by kernel_rfl))
  f30 := ⟨Tryz.f126.name, by decide, Tryz.func126.trans (congrArg some (by kernel_rfl))⟩
  f31 := Tryz.func127.trans (congrArg some (by kernel_rfl))
  f32 := Tryz.func128.trans (congrArg some (by kernel_rfl))
  f33 := ⟨Tryz.f129.name, by decide, Tryz.func129.trans (congrArg some (by kernel_rfl))⟩
  f34 := ⟨Tryz.f130.name, by decide, Tryz.func130.trans (congrArg some (by kernel_rfl))⟩
  f35 := ⟨Tryz.f131.name, by decide, Tryz.func131.trans (congrArg some (by kernel_rfl))⟩
  f40 := ⟨Tryz.f133.name, by decide, Tryz.func133.trans (congrArg some (by kernel_rfl))⟩
  t0 := Tryz.underlying0
  a0 := Tryz.isAgg0
  z0 := Tryz.sizeOf0
  v0 := Tryz.zeroValue0
  t3 := Tryz.underlying3
  a3 := Tryz.isAgg3
  z3 := Tryz.sizeOf3
  v3 := Tryz.zeroValue3
  t4 := Tryz.underlying4
  a4 := Tryz.isAgg4
  z4 := Tryz.sizeOf4
  v4 := Tryz.zeroValue4
  t5 := Tryz.underlying5
  a5 := Tryz.isAgg5
  z5 := Tryz.sizeOf5
  v5 := Tryz.zeroValue5
  t9 := Tryz.underlying9
  a9 := Tryz.isAgg9
  z9 := Tryz.sizeOf9
  v9 := Tryz.zeroValue9
  t22 := Tryz.underlying52
  a22 := Tryz.isAgg52
  z22 := Tryz.sizeOf52
  v22 := Tryz.zeroValue52
  t23 := Tryz.underlying52
  a23 := Tryz.isAgg52
  z23 := Tryz.sizeOf52
  v23 := Tryz.zeroValue52
  t25 := Tryz.underlying3
  a25 := Tryz.isAgg3
  z25 := Tryz.sizeOf3
  v25 := Tryz.zeroValue3
  t32 := Tryz.underlying143
  a32 := Tryz.isAgg143
  z32 := Tryz.sizeOf143
  v32 := Tryz.zeroValue143
  t35 := Tryz.underlying173
  a35 := Tryz.isAgg173
  z35 := Tryz.sizeOf173
  v35 := Tryz.zeroValue173
  t36 := Tryz.underlying174
  a36 := Tryz.isAgg174
  z36 := Tryz.sizeOf174
  v36 := Tryz.zeroValue174
  t41 := Tryz.underlying179
  a41 := Tryz.isAgg179
  z41 := Tryz.sizeOf179
  v41 := Tryz.zeroValue179
  t44 := Tryz.underlying141
  a44 := Tryz.isAgg141
  z44 := Tryz.sizeOf141
  v44 := Tryz.zeroValue141
  t46 := Tryz.underlying144
  a46 := Tryz.isAgg144
  z46 := Tryz.sizeOf144
  v46 := Tryz.zeroValue144
  t53 := Tryz.underlying187
  a53 := Tryz.isAgg187
  z53 := Tryz.sizeOf187
  v53 := Tryz.zeroValue187
  t57 := Tryz.underlying191
  a57 := Tryz.isAgg191
  z57 := Tryz.sizeOf191
  v57 := Tryz.zeroValue191
  t63 := Tryz.underlying196
  a63 := Tryz.isAgg196
  z63 := Tryz.sizeOf196
  v63 := Tryz.zeroValue196
  t64 := Tryz.underlying197
  a64 := Tryz.isAgg197
  z64 := Tryz.sizeOf197
  v64 := Tryz.zeroValue197 }
end Go.Proofs
/- The keys of a map of integers, sorted (maps.Keys, slices.Sorted, slices.Sort: by the library's contracts). -/
namespace Go.Proofs.YtmkinaijkgkgiaaGreat
open Go.RowKit Go.Proofs.U Go.Shelf Go.Maps Go.Sort
set_option linter.unusedSimpArgs false
set_option linter.unusedVariables false
theorem sortsI (m : Nat) : /- of 64 -/ AnyZI.SortsIn Tryz.prog Tryz.sortedA_ren Fence.wide m :=
  ⟨fun blk off cap ss W hH hblk hsz => callsIn_wide.2 (AnyM.slices_Sort_int Tryz.sortA blk off cap ss W hH hblk hsz),
   fun p cap W => callsIn_wide.2 (AnyM.slices_Sort_int_none Tryz.sortA p cap W)⟩
theorem keysI /- of 64 -/ {w : World} {m n : Nat} {D : DataW Unit} {S : Int → Bool} (ho : w.ownsMap Tryz.prog 3 unitElem m n D) (hh : ∀ kl, Maps.has D kl = badK S kl) : (Go.intKeys D).Nodup ∧ (∀ x, x ∈ Go.intKeys D ↔ S x = true) ∧ (Go.intKeys D).length = Maps.size D := by
  obtain ⟨es, hD, hpw, _⟩ := ho.entries keyI
  obtain ⟨es', hD', hko⟩ := ho.keysOf
  obtain rfl : es = es' := by rw [hD] at hD'; simpa using hD'
  have hk : ∀ p ∈ es, ∃ x, p.1 = .int .i64 x := fun p hp => by
    obtain ⟨v, hv⟩ := hko p hp
    obtain ⟨x, _, hx, _⟩ := Maps.keyOf_i64 Tryz.underlying3 hv
    exact ⟨x, hx⟩
  subst hD
  refine ⟨?_, fun x => ?_, ?_⟩
  · show (es.map fun p => Go.intOf p.1).Nodup
    refine List.pairwise_map.2 (hpw.imp_of_mem fun {p q} hp' hq' hne e => hne ?_)
    obtain ⟨a, ha⟩ := hk p hp'
    obtain ⟨b, hb⟩ := hk q hq'
    rw [ha, hb] at e ⊢
    exact congrArg _ e
  · have h1 := hh (.int .i64 x)
    show x ∈ (es.map fun p => Go.intOf p.1) ↔ _
    rw [show badK S (.int .i64 x) = S x from rfl] at h1
    rw [← h1, has_eq, List.any_eq_true, List.mem_map]
    constructor
    · rintro ⟨p, hp', rfl⟩
      obtain ⟨a, ha⟩ := hk p hp'
      exact ⟨p, hp', by rw [ha]; simp [Lit.sameKey, Go.intOf]⟩
    · rintro ⟨p, hp', hs⟩
      obtain ⟨a, ha⟩ := hk p hp'
      rw [ha] at hs
      exact ⟨p, hp', by rw [ha]; simpa [Lit.sameKey, Go.intOf] using hs⟩
  · show (es.map fun p => Go.intOf p.1).length = _
    rw [List.length_map]; rfl
/-- A sorted list of just what was seen. -/
structure SeenL (S : Int → Bool) (l : List Int) : Prop where
  mem : ∀ x, x ∈ l ↔ S x = true
  nd : l.Nodup
  len : l.length ≤ 240
theorem mkeys_any (b : Nat) (w : World) :
    Calls Tryz.prog 64 #[.map (some b)] w fun e w' => ∃ g, e = .returned (.func (.func 87) #[] #[ptr g]) ∧ w.heap.size ≤ g ∧ BxV w' g 91 [.map (some b)] ∧ Fr noB w w' := by
  have cK : CallsIn Fence.wide 5 Tryz.prog 64 #[.map (some b)] w fun e w' => e = .returned (.func (.func 87) #[] #[.pointer (some ⟨w.heap.size, 0, none⟩)]) ∧ w' = w.alloc (.cells #[.map (some b)] 91) := AnyZI.keys_in Tryz.keysA Fence.wide 5 trivial rfl (some b) w
  refine (callsIn_wide.1 cK).mono ?_
  rintro e w' ⟨rfl, rfl⟩
  refine ⟨w.heap.size, rfl, Nat.le_refl _, ?_, (Fr.refl _ _).alloc _⟩
  show (w.heap.push _)[w.heap.size]? = _
  rw [Array.getElem?_push, if_pos rfl]
theorem sorted_any (g b : Nat) (S : Int → Bool) (hS : ∀ x, S x = true → 0 ≤ x ∧ x < ((240 : Nat) : Int)) (w : World) (hB : BxV w g 91 [.map (some b)]) (hM : MapI w b S) :
    Calls Tryz.prog 63 #[.func (.func 87) #[] #[ptr g]] w fun e w' => ∃ v l, e = .returned v ∧ SeenL S l ∧ SlI .i64 w' v l ∧ (∀ k, v.ownBlock = some k → w.heap.size ≤ k) ∧ Fr noB w w' := by
  obtain ⟨D, ho, hh⟩ := hM.tight hS
  obtain ⟨hnd, hmem, hsz⟩ := keysI ho hh
  have hlen : (Go.intKeys D).length ≤ 240 := ints_length 240 _ (hnd.imp fun h => h) (fun x hx => hS x ((hmem x).1 hx))
  have hwf := intKeys_wf ho Tryz.underlying3
  have hseq : SeqGives Fence.wide 2 Tryz.prog 87 #[.pointer (some ⟨g, 0, none⟩)] encZ (fun ss => ss.Perm (Go.intKeys D)) (Maps.size D) w :=
    AnyZI.keys_gives (ρ := Tryz.keysA_ren) { Tryz.keysA with } Fence.wide _ trivial rfl (by omega) g b _ D w hB.lt (hB.cell 0 _ rfl).1 ho
  have cS := AnyZI.sorted_in Tryz.sortedA Fence.wide 5 trivial trivial trivial trivial rfl (by omega) (sortsI _) (enters_of Tryz.func86 (by kernel_rfl) rfl) 87 #[.pointer (some ⟨g, 0, none⟩)] trivial (enters_of Tryz.func87 (by kernel_rfl) rfl) _ _ (by unfold maxLen; omega) (by omega) _ hseq
  change CallsIn _ _ Tryz.prog 63 _ _ _ at cS
  refine (callsIn_wide.1 cS).mono ?_
  rintro e w' ⟨v, ss, rfl, hS', hrow, hnil, hb⟩
  have hp := (List.mergeSort_perm ss (fun x y => decide (x ≤ y))).trans hS'
  refine ⟨v, ss.mergeSort (fun x y => decide (x ≤ y)), rfl, ⟨fun x => by rw [hp.mem_iff]; exact hmem x, hp.nodup_iff.2 hnd, by rw [hp.length_eq]; exact hlen⟩, ⟨?_, fun x hx => hwf x (hp.mem_iff.1 hx)⟩, fun k hk => (World.ownsRow.lt hrow k hk).1, Fr.of_below hb⟩
  have := Sl.of_owns hrow
  rw [List.length_mergeSort]
  exact this
end Go.Proofs.YtmkinaijkgkgiaaGreat
