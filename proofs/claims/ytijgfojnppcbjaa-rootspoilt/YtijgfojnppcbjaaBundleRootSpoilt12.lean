/- Texts V5, V6, V7 of the proof of RootSpoilt, one behind the other. -/
import Derived.Test.YtijgfojnppcbjaaBundleRootSpoilt1
import Derived.Test.YtijgfojnppcbjaaBundleRootSpoilt2
import Derived.Test.YtijgfojnppcbjaaBundleRootSpoilt3
import Derived.Test.YtijgfojnppcbjaaBundleRootSpoilt4
import Derived.Test.YtijgfojnppcbjaaBundleRootSpoilt5
import Derived.Test.YtijgfojnppcbjaaBundleRootSpoilt6
import Derived.Test.YtijgfojnppcbjaaBundleRootSpoilt7
import Derived.Test.YtijgfojnppcbjaaBundleRootSpoilt8
import Derived.Test.YtijgfojnppcbjaaBundleRootSpoilt9
import Derived.Test.YtijgfojnppcbjaaBundleRootSpoilt10
import Derived.Test.YtijgfojnppcbjaaBundleRootSpoilt11
/- rootOf of package root. (Written by v5_gen.py.) -/
namespace Go.Proofs.Ytijgfojnppcbjaa
open Go.RowKit Go.Proofs.U
set_option linter.unusedSimpArgs false
set_option linter.unusedVariables false
/-- While one call lays memory and answers V. -/
def JV (w0 : World) (V : Value) : List Value → World → Prop
  | [], W => W = w0
  | [v], W => v = V ∧ Fr noB w0 W
  | _, _ => False
theorem JV.fr {w0 : World} {V : Value} : ∀ {hv : List Value} {W : World}, JV w0 V hv W → Fr noB w0 W
  | [], _, h => by cases h; exact Fr.refl _ _
  | [_], _, h => h.2
  | _ :: _ :: _, _, h => h.elim
abbrev rtL (g : Int) (v : Value) : List Value := [.int .u64 g, v]
abbrev rtV (g : Int) (v : Value) : Value := .agg #[.int .u64 g, v]
theorem zero_root : (Try.prog.info? 77).map (·.zero) = some (some (.agg (rtL 0 (.slice none 0 0)).toArray)) := by kernel_rfl
theorem size_root : (Try.prog.info? 77).map (·.size) = some 2 := by kernel_rfl
theorem under_root : Try.prog.underlying 77 = some (.struct (Try.prog.fieldsOf 77)) := by kernel_rfl
theorem isSl_one {v : Value} (h : isSl v) : v.oneCell' = true := by obtain ⟨a, n, c, rfl⟩ := h; rfl
section
variable {w : World} {ops : Array Oper} {rest : List Oper} {o : Oper} {a : Act} {Q : Exit → Act → World → Prop}
theorem wpList_allocRt (hgd : Region.wanted o (yielded ops a.tmps) = true) (ho : o.op = .alloc 77)
    (h : ∀ g w', Hid (g = w.heap.size) → BxV w' g 77 (rtL 0 (.slice none 0 0)) → Fr noB w w' → w.heap.size ≤ g → wpList Try.prog ops Q rest (a.put o.dst (.pointer (some ⟨g, 0, none⟩))) w') : wpList Try.prog ops Q (o :: rest) a w :=
  wpList_allocV hgd 77 ho _ zero_root h
theorem wpList_stRt (hgd : o.guard = none) (x y : Operand) (ho : o.op = .store 77 x y) (g : Nat) (hx : a.eval x = .pointer (some ⟨g, 0, none⟩)) (G : Int) (v : Value) (hy : a.eval y = rtV G v) (hv : isSl v) (G0 : Int) (v0 : Value) (hA : BxV w g 77 (rtL G0 v0))
    (h : ∀ w', BxV w' g 77 (rtL G v) → Fr (onB1 g) w w' → wpList Try.prog ops Q rest (a.put o.dst undef) w') : wpList Try.prog ops Q (o :: rest) a w := by
  refine wpList_storeV hgd 77 x y ho g 0 hx (rtL G v) hy 77 (rtL G0 v0) hA size_root (by simp) ?_ ?_
  · intro u hu
    simp at hu
    rcases hu with rfl | rfl
    · rfl
    · exact isSl_one hv
  · intro w' h1 h2
    exact h w' h1 h2
theorem wpList_ldRt (hgd : o.guard = none) (x : Operand) (ho : o.op = .load 77 x) (g : Nat) (hx : a.eval x = .pointer (some ⟨g, 0, none⟩)) (G : Int) (v : Value) (hA : BxV w g 77 (rtL G v))
    (h : wpList Try.prog ops Q rest (a.put o.dst (rtV G v)) w) : wpList Try.prog ops Q (o :: rest) a w :=
  wpList_loadV hgd 77 x ho g 0 hx 77 (rtL G v) (rtL G v) _ hA under_root rfl size_root (by simp) h
end
theorem results_root {fn : Func} {q : Tmp} (h : fn.results = #[.cell q 77]) (tmps : Array Value) (w : World) (g : Nat) (G : Int) (v : Value) (hq : tmps.getD q undef = .pointer (some ⟨g, 0, none⟩)) (hA : BxV w g 77 (rtL G v)) :
    (results fn tmps).run Try.prog w = .ok (rtV G v) w :=
  results_cell_row h tmps w g 77 (rtL G v).toArray (0, 0) _ hq hA under_root rfl (by rw [size_root]; rfl)

theorem nm2 (p : List Int) : nmV (strmOf p) 0 false 2 = lenOf p ∧ nmT (strmOf p) 0 false 2 = 2 ∧ nmF (strmOf p) 0 false 2 = false := by
  have e : isW 2 = true := rfl
  have hl := strmOf_len p
  simp [nmV, nmT, nmF, e, tkL, tkT, tkF, tkOk, hl, lenOf]
theorem tk2 (p : List Int) (n : Nat) (hn : lenOf p = (n : Int)) (h : n ≤ 186) : tkL (strmOf p) 2 false (n : Int) = contOf p := by
  have hl := strmOf_len p
  simp [tkL, tkOk, hl, contOf, hn]
  intro hh; omega
/-- What rootOf answers. -/
def RootIs (w w' : World) (p : List Int) (e : Ending) : Prop := ∃ v, e = .returned (rtV (rootOf p).1 v) ∧ SlI .u8 w' v (rootOf p).2 ∧ (∀ q, v.ownBlock = some q → w.heap.size ≤ q ∧ q < w'.heap.size) ∧ Fr noB w w'

set_option maxRecDepth 100000 in
set_option maxHeartbeats 2000000 in
theorem rootOf_long (p : List Int) (hp : p.length = 256) (hb : Byt p) (w : World) (hlong : 186 < lenOf p) :
    Calls Try.prog 49 #[pgV p] w fun e w' => RootIs w w' p e := by
  have Hp := show Hid _ from hp
  clear hp
  have hrt : rootOf p = (0, []) := by unfold rootOf; rw [if_pos hlong]
  unfold RootIs
  rw [hrt]
  have hbd := lenOf_bd hb
  obtain ⟨N, HN⟩ : ∃ N, Hid (lenOf p = N) := ⟨_, rfl⟩
  rw [HN.out] at hlong hbd
  have hnm : Hid (nmV (strmOf p) 0 false 2 = N) := by show _ = _; rw [(nm2 p).1]; exact HN.out
  have hsl : (strmOf p).length ≤ 1000000000000 := by rw [strmOf_len]; decide
  obtain ⟨S, HS⟩ : ∃ S, Hid (strmOf p = S) := ⟨_, rfl⟩
  rw [HS.out] at hnm hsl
  go_enter Try.func49, Try.ntmps49
  go_wp2_with (first
    | (with_reducible refine at_wpP ?_; refine wpList_boxV rfl 46 _ rfl (pgv p) rfl ?_; intro g1 w1 hg1 b1 f1 s1)
    | (with_reducible refine at_wpP ?_; refine wpList_allocRt rfl rfl ?_; intro g2 w2 hg2 b2 f2 s2; have c1 := b1.fr0 f2)
    | (with_reducible refine at_wpP ?_; refine at_ld 46 _ rfl ?_; go_must (refine wpList_loadP rfl _ rfl g1 rfl _ c1 Hp.out ?_))
    | (go_at_call 59; go_must (refine (streamOf_any p Hp.out hb _).mono ?_; rw [HS.out]; rintro e w3 ⟨v3, rfl, i3, f3⟩))
    | (go_at_call 58; go_must (refine (enew_any _ _ _ i3 hsl).mono ?_; rintro e w4 ⟨g4, vb4, rfl, hg4, hv4, r4, f4⟩))
    | (go_at_call 60; go_must (refine (num_any g4 vb4 _ 0 false 2 _ r4).mono ?_; rw [hnm.out]; rintro e w5 ⟨rfl, r5, f5⟩; have l2 := b2.lt; have z3 := f3.size; have z4 := f4.size; have b5 := ((b2.fr0 f3).fr0 f4).fr f5 (fun q => by unfold onB at q; omega)))
    | (with_reducible refine at_wpP ?_; refine at_st 77 _ _ rfl ?_; go_must (refine wpList_stRt rfl _ _ rfl g2 rfl 0 (.slice none 0 0) rfl (isSl_mk _ _ _) _ _ b5 ?_; intro w6 b6 f6)))
  refine bodyPost_ret (v := rtV 0 (.slice none 0 0)) (results_root Try.results49 _ w6 g2 0 _ rfl b6) rfl ?_
  have z1 := f1.size
  have z2 := f2.size
  refine ⟨_, rfl, SlI.nil _ _, (fun q hq => by simp [Value.ownBlock] at hq), ?_⟩
  exact ((((f1.thenN f2).thenN f3).thenN f4).thenT f5 (fun i hi q => by unfold onB at q; omega)).thenT f6 (fun i hi q => by unfold onB1 at q; omega)

set_option maxRecDepth 100000 in
set_option maxHeartbeats 2000000 in
theorem rootOf_short (p : List Int) (hp : p.length = 256) (hb : Byt p) (w : World) (hshort : ¬ 186 < lenOf p) :
    Calls Try.prog 49 #[pgV p] w fun e w' => RootIs w w' p e := by
  have Hp := show Hid _ from hp
  clear hp
  have hbd := lenOf_bd hb
  obtain ⟨N, hN⟩ := Int.eq_ofNat_of_zero_le hbd.1
  have hN186 : N ≤ 186 := by omega
  have hG := genAt_bd hb 0
  have hCl : (contOf p).length ≤ 186 := by rw [contOf_len hb (by omega)]; omega
  have hCb := contOf_byt hb
  have hrt : Hid (rootOf p = if rootP (genAt p 0) (contOf p) == p then (genAt p 0, contOf p) else (0, [])) := by show _ = _; unfold rootOf; rw [if_neg hshort]
  clear hshort hbd
  have hnm : Hid (nmV (strmOf p) 0 false 2 = (N : Int)) := by show _ = _; rw [(nm2 p).1]; exact hN
  have hnt : Hid (nmT (strmOf p) 0 false 2 = 2) := (nm2 p).2.1
  have hnf : Hid (nmF (strmOf p) 0 false 2 = false) := (nm2 p).2.2
  have htk : Hid (tkL (strmOf p) 2 false (N : Int) = contOf p) := tk2 p N hN hN186
  have hsl : (strmOf p).length ≤ 1000000000000 := by rw [strmOf_len]; decide
  clear hN
  obtain ⟨S, HS⟩ : ∃ S, Hid (strmOf p = S) := ⟨_, rfl⟩
  rw [HS.out] at hnm hnt hnf htk hsl
  have hgen := show Hid _ from fun W => genOf_any p Hp.out hb 0 (by decide) W
  obtain ⟨C, HC⟩ : ∃ C, Hid (contOf p = C) := ⟨_, rfl⟩
  obtain ⟨G, HG⟩ : ∃ G, Hid (genAt p 0 = G) := ⟨_, rfl⟩
  rw [HC.out] at hCl hCb htk
  rw [HG.out] at hG
  rw [HC.out, HG.out] at hrt
  have hgen2 : Hid (∀ W, Calls Try.prog 53 #[pgV p, .int .i64 0] W fun e w' => e = .returned (.int .u64 G) ∧ Fr noB W w') := by
    intro W
    have := hgen.out W
    rw [HG.out] at this
    exact this
  clear hgen
  obtain ⟨R, HR⟩ : ∃ R, Hid (rootP G C = R) := ⟨_, rfl⟩
  have hRl : Hid (R.length = 256) := by show _ = _; rw [← HR.out, rootP_len]
  rw [HR.out] at hrt
  go_enter Try.func49, Try.ntmps49
  go_wp2_with (first
    | (with_reducible refine at_wpP ?_; refine wpList_boxV rfl 46 _ rfl (pgv p) rfl ?_; intro g1 w1 hg1 b1 f1 s1)
    | (with_reducible refine at_wpP ?_; have i7' := i7; refine wpList_allocRt rfl rfl ?_; intro g5 w8 hg5 b8 f8 s8)
    | (with_reducible refine at_wpP ?_; refine wpList_allocRt rfl rfl ?_; intro g2 w2 hg2 b2 f2 s2; have c1 := b1.fr0 f2; have l1 := b1.lt; have l2 := b2.lt)
    | (with_reducible refine at_wpP ?_; refine at_ld 46 _ rfl ?_; have c5' := c5; go_must (refine wpList_loadP rfl _ rfl g1 rfl _ c5 Hp.out ?_))
    | (with_reducible refine at_wpP ?_; refine at_ld 46 _ rfl ?_; go_must (refine wpList_loadP rfl _ rfl g1 rfl _ c1 Hp.out ?_))
    | (go_at_call 59; go_must (refine (streamOf_any p Hp.out hb _).mono ?_; rw [HS.out]; rintro e w3 ⟨v3, rfl, i3, f3⟩))
    | (go_at_call 58; go_must (refine (enew_any _ _ _ i3 hsl).mono ?_; rintro e w4 ⟨g4, vb4, rfl, hg4, hv4, r4, f4⟩))
    | (go_at_call 60; go_must (refine (num_any g4 vb4 _ 0 false 2 _ r4).mono ?_; rw [hnm.out, hnt.out, hnf.out]; rintro e w5 ⟨rfl, r5, f5⟩; have z3 := f3.size; have z4 := f4.size; have z5 := f5.size; have b5 := ((b2.fr0 f3).fr0 f4).fr f5 (fun q => by unfold onB at q; omega); have c5 := ((c1.fr0 f3).fr0 f4).fr f5 (fun q => by unfold onB at q; omega)))
    | (go_at_call 53; go_must (refine (hgen2.out _).mono ?_; rintro e w6 ⟨rfl, f6⟩; have r6 := r5.fr0 f6))
    | (go_at_call 61; go_must (refine (take_any g4 vb4 _ 2 false (N : Int) _ r6).mono ?_; rw [htk.out]; rintro e w7 ⟨v7, rfl, o7, r7, f7⟩; have i7 := o7.sl hCb; have z6 := f6.size; have z7 := f7.size; have c7 := (c5.fr0 f6).fr f7 (fun q => by unfold onB at q; omega); have b7 := (b5.fr0 f6).fr f7 (fun q => by unfold onB at q; omega); obtain ⟨a7, k7, rfl⟩ := o7.opn))
    | (with_reducible refine at_wpP ?_; refine at_st 77 _ _ rfl ?_; go_must (refine wpList_stRt rfl _ _ rfl g5 rfl G (.slice a7 C.length k7) rfl (isSl_mk _ _ _) _ _ b8 ?_; intro w9 b9 f9)))
  have z1 := f1.size
  have z2 := f2.size
  have z8 := f8.size
  have hv7 : ∀ q, (Value.slice a7 C.length k7).ownBlock = some q → w.heap.size ≤ q ∧ q < w7.heap.size := fun q hq => by have := o7.newB q hq; omega
  have F7 : Fr noB w w7 := ((((((f1.thenN f2).thenN f3).thenN f4).thenT f5 (fun i hi q => by unfold onB at q; omega)).thenN f6)).thenT f7 (fun i hi q => by unfold onB at q; omega)
  have F9 : Fr noB w w9 := (F7.thenN f8).thenT f9 (fun i hi q => by unfold onB1 at q; omega)
  have i9 : SlI .u8 w9 (.slice a7 C.length k7) C := (i7.fr0 f8).fr f9 (fun q hq e => by have := (hv7 q hq).2; unfold onB1 at e; omega)
  have c9 := (c7.fr0 f8).ne f9 (by omega)
  have d9 := (b7.fr0 f8).ne f9 (by omega)
  obtain ⟨vc, Hvc⟩ : ∃ v, Hid (Value.slice a7 C.length k7 = v) := ⟨_, rfl⟩
  obtain ⟨w0, HW⟩ : ∃ w0, Hid (w9.drew = w0) := ⟨_, rfl⟩
  have f0 : Fr noB w9 w0 := by rw [← HW.out]; exact (Fr.refl _ _).drew
  have hB1 := c9.fr0 f0
  have hB2 := d9.fr0 f0
  have hB5 := b9.fr0 f0
  have hIC := i9.fr0 f0
  have F0 := F9.thenN f0
  have hvn : ∀ q, vc.ownBlock = some q → w.heap.size ≤ q ∧ q < w7.heap.size := by rw [← Hvc.out]; exact hv7
  rw [Hvc.out] at hB5 hIC
  refine wp_region_chain_lay (by kernel_rfl) [5] [none, none, none, none, none, some 0, none]
    [fun v => v = pgV p, fun v => v = ptr g5, fun v => v = .int .u64 G, fun v => v = .pointer (some ⟨g5, 1, none⟩), fun v => v = vc, fun _ => True, fun v => v = .bool (!(p == R))]
    (JV w0 (pgV R)) (HW.out) (by kernel_rfl) (by kernel_rfl) (by decide) ⟨?o0, ?o1, ?o2, ?o3, ?o4, ?o5, ?o6, trivial⟩ ?oe
  case o0 =>
    intro A W hv hlen hJ hbase hdL hdH
    have e1 : A.eval (.tmp 1) = ptr g1 := hbase 1 (by kernel_rfl)
    have f1 : A.tmps[1]?.getD undef = ptr g1 := by simpa [Act.eval] using e1
    have hr := run_loadP W g1 0 p ((hB1.fr0 hJ.fr).range 0 (pgv p) (by rw [List.drop_zero, List.take_length])) Hp.out
    exact light_val rfl (v := pgV p) (by simp [execOp, e1, hr, Result.andThen]) hJ rfl
  case o1 =>
    intro A W hv hlen hJ hbase hdL hdH
    have e5 : A.eval (.tmp 5) = ptr g5 := hbase 5 (by kernel_rfl)
    have f5 : A.tmps[5]?.getD undef = ptr g5 := by simpa [Act.eval] using e5
    exact light_val rfl (v := ptr g5) (by simp [execOp, go_sem, e5, f5]) hJ rfl
  case o2 =>
    intro A W hv hlen hJ hbase hdL hdH
    have e22 : A.eval (.tmp 22) = ptr g5 := hdL 1 22 (by kernel_rfl) (by kernel_rfl) (by kernel_rfl)
    have f22 : A.tmps[22]?.getD undef = ptr g5 := by simpa [Act.eval] using e22
    have hc := ((hB5.fr0 hJ.fr).cell 0 _ rfl).1
    exact light_val rfl (v := .int .u64 G) (by simp [execOp, go_sem, e22, f22, hc]) hJ rfl
  case o3 =>
    intro A W hv hlen hJ hbase hdL hdH
    have e5 : A.eval (.tmp 5) = ptr g5 := hbase 5 (by kernel_rfl)
    have f5 : A.tmps[5]?.getD undef = ptr g5 := by simpa [Act.eval] using e5
    exact light_val rfl (v := .pointer (some ⟨g5, 1, none⟩)) (by simp [execOp, go_sem, e5, f5]) hJ rfl
  case o4 =>
    intro A W hv hlen hJ hbase hdL hdH
    have e24 : A.eval (.tmp 24) = .pointer (some ⟨g5, 1, none⟩) := hdL 3 24 (by kernel_rfl) (by kernel_rfl) (by kernel_rfl)
    have f24 : A.tmps[24]?.getD undef = .pointer (some ⟨g5, 1, none⟩) := by simpa [Act.eval] using e24
    have hc := ((hB5.fr0 hJ.fr).cell 1 _ rfl).1
    have hr := run_ld1 (P := Try.prog) (w := W) 24 5 Try.underlying24 g5 1 _ hc
    exact light_val rfl (v := vc) (by simp [execOp, e24, hr, Result.andThen]) hJ rfl
  case o5 =>
    intro A W hv hlen hJ hbase hdL hdH
    have e23 : A.eval (.tmp 23) = .int .u64 G := hdL 2 23 (by kernel_rfl) (by kernel_rfl) (by kernel_rfl)
    have f23 : A.tmps[23]?.getD undef = .int .u64 G := by simpa [Act.eval] using e23
    have e25 : A.eval (.tmp 25) = vc := hdL 4 25 (by kernel_rfl) (by kernel_rfl) (by kernel_rfl)
    have f25 : A.tmps[25]?.getD undef = vc := by simpa [Act.eval] using e25
    obtain rfl : hv = [] := List.eq_nil_of_length_eq_zero hlen
    obtain rfl := hJ
    refine heavy_call rfl (f := 32) (args := #[.int .u64 G, vc]) (by simp [execOp, resolve, invoke, go_sem, e23, f23, e25, f25]) ?_
    refine (pageOf_any G hG vc C hCl _ hIC).mono ?_
    rw [HR.out]
    rintro e W1 ⟨rfl, fW⟩
    exact ⟨_, rfl, rfl, fW⟩
  case o6 =>
    intro A W hv hlen hJ hbase hdL hdH
    have e21 : A.eval (.tmp 21) = pgV p := hdL 0 21 (by kernel_rfl) (by kernel_rfl) (by kernel_rfl)
    have f21 : A.tmps[21]?.getD undef = pgV p := by simpa [Act.eval] using e21
    have v26 := hdH 5 26 0 (by kernel_rfl) rfl (by kernel_rfl)
    have e26 : A.eval (.tmp 26) = pgV R := by
      match hv, hJ, v26 with
      | [y], hJ, v26 =>
        have h1 : y = pgV R := hJ.1
        simp at v26
        rw [← v26]; exact h1
    have hr := run_neq_page W p R Hp.out hRl.out
    exact light_val rfl (v := .bool (!(p == R))) (by simp [execOp, e21, e26, hr, eqg_neq, Result.andThen]) hJ rfl
  case oe =>
    intro vs W' hv hlen hJ hL hH
    have hfx : vs 6 = .bool (!(p == R)) := hL 6 (by rfl) (by rfl)
    have fW := hJ.fr
    simp only [layL, Nat.reduceAdd, Act.put, List.setIfInBounds_toArray, List.set_cons_zero, List.set_cons_succ]
    clear hL hH
    generalize vs 0 = y100 at *
    generalize vs 1 = y101 at *
    generalize vs 2 = y102 at *
    generalize vs 3 = y103 at *
    generalize vs 4 = y104 at *
    generalize vs 5 = y105 at *
    generalize vs 6 = y106 at *
    have e2 := hB2.fr0 fW
    have e5 := hB5.fr0 fW
    have iC := hIC.fr0 fW
    have l2' := e2.lt
    subst hfx
    have FW := F0.thenN fW
    by_cases hpR : p = R
    · have hq : (p == R) = true := by simpa using hpR
      have hq2 : (R == p) = true := by rw [hpR]; simp
      have hrt2 : rootOf p = (G, C) := by rw [hrt.out, hq2]; rfl
      rw [hq]
      have isv : isSl vc := by rw [← Hvc.out]; exact isSl_mk _ _ _
      go_wp2_with (first
        | (with_reducible refine at_wpP ?_; refine at_ld 77 _ rfl ?_; go_must (refine wpList_ldRt rfl _ rfl g5 rfl _ _ e5 ?_))
        | (with_reducible refine at_wpP ?_; refine at_st 77 _ _ rfl ?_; go_must (refine wpList_stRt rfl _ _ rfl g2 rfl G vc rfl isv _ _ e2 ?_; intro w11 b11 f11)))
      refine bodyPost_ret (v := rtV G vc) (results_root Try.results49 _ w11 g2 G vc rfl b11) rfl ?_
      unfold RootIs
      rw [hrt2]
      refine ⟨vc, rfl, iC.fr f11 (fun q hq e => ?_), (fun q hq => ⟨(hvn q hq).1, by have := (hvn q hq).2; have := f9.size; have := f0.size; have := fW.size; have := f11.size; omega⟩), FW.thenT f11 (fun i hi q => by unfold onB1 at q; omega)⟩
      rw [← Hvc.out] at hq
      have h1 := o7.newB q hq
      unfold onB1 at e
      omega
    · have hq : (p == R) = false := by simpa using hpR
      have hq2 : (R == p) = false := by simpa using fun e => hpR e.symm
      have hrt2 : rootOf p = (0, []) := by rw [hrt.out, hq2]; rfl
      rw [hq]
      go_wp2_with (first
        | (with_reducible refine at_wpP ?_; refine at_st 77 _ _ rfl ?_; go_must (refine wpList_stRt rfl _ _ rfl g2 rfl 0 (.slice none 0 0) rfl (isSl_mk _ _ _) _ _ e2 ?_; intro w11 b11 f11)))
      refine bodyPost_ret (v := rtV 0 (.slice none 0 0)) (results_root Try.results49 _ w11 g2 0 _ rfl b11) rfl ?_
      unfold RootIs
      rw [hrt2]
      exact ⟨_, rfl, SlI.nil _ _, (fun q hq => by simp [Value.ownBlock] at hq), FW.thenT f11 (fun i hi q => by unfold onB1 at q; omega)⟩
theorem rootOf_any (p : List Int) (hp : p.length = 256) (hb : Byt p) (w : World) : Calls Try.prog 49 #[pgV p] w fun e w' => RootIs w w' p e := by
  by_cases h : 186 < lenOf p
  · exact rootOf_long p hp hb w h
  · exact rootOf_short p hp hb w h
end Go.Proofs.Ytijgfojnppcbjaa
/- Both slots' pages as one value; newestOf and topOf of package root. -/
namespace Go.Proofs.Ytijgfojnppcbjaa
open Go.RowKit Go.Proofs.U
set_option linter.unusedSimpArgs false
set_option linter.unusedVariables false
def pp (p q : List Int) : List Value := pgv p ++ pgv q
/-- Both slots' pages. -/
def ppV (p q : List Int) : Value := .agg (pp p q).toArray
theorem pp_len (p q : List Int) (hp : p.length = 256) (hq : q.length = 256) : (pp p q).length = 512 := by simp only [pp, List.length_append, pgv_len, hp, hq]
theorem pp_one (p q : List Int) : ∀ v ∈ pp p q, v.oneCell' = true := by
  intro v hv
  rcases List.mem_append.1 hv with h | h
  · exact pgv_one p v h
  · exact pgv_one q v h
theorem zero_two : (Try.prog.info? 73).map (·.zero) = some (some (.agg (pp zeroP zeroP).toArray)) := by kernel_rfl
theorem size_two : (Try.prog.info? 73).map (·.size) = some 512 := by kernel_rfl
theorem under_two : Try.prog.underlying 73 = some (.array 2 46) := by kernel_rfl
theorem under_pg : Try.prog.underlying 46 = some (.array 256 5) := by kernel_rfl
def pick2 (p q : List Int) (i : Nat) : List Int := if i = 0 then p else q
theorem pick2_len {p q : List Int} (hp : p.length = 256) (hq : q.length = 256) (i : Nat) : (pick2 p q i).length = 256 := by unfold pick2; split <;> assumption
theorem pick2_byt {p q : List Int} (hp : Byt p) (hq : Byt q) (i : Nat) : Byt (pick2 p q i) := by unfold pick2; split <;> assumption
theorem pp_cut (p q : List Int) (hp : p.length = 256) (hq : q.length = 256) (i : Nat) (hi : i < 2) : ((pp p q).drop (i * 256)).take 256 = pgv (pick2 p q i) := by
  have h1 := pgv_len p
  have h2 := pgv_len q
  have : i = 0 ∨ i = 1 := by omega
  rcases this with rfl | rfl
  · simp only [pp, pick2, Nat.zero_mul, List.drop_zero, if_true]
    rw [List.take_append_of_le_length (by omega), List.take_of_length_le (by omega)]
  · simp only [pp, pick2, Nat.one_mul, Nat.one_ne_zero, if_false]
    rw [List.drop_append_of_le_length (by omega), List.drop_of_length_le (by omega), List.nil_append, List.take_of_length_le (by omega)]
theorem run_index2 (w : World) (p q : List Int) (hp : p.length = 256) (hq : q.length = 256) (i : Nat) (hi : i < 2) : (Instr.index 73 (ppV p q) (.int .i64 (i : Int))).run Try.prog w = .ok (pgV (pick2 p q i)) w := by
  obtain ⟨ii, hii, hs⟩ := Option.map_eq_some_iff.1 size_page
  have hc := pp_cut p q hp hq i hi
  have hx : (pp p q).toArray.extract (i * 256) (i * 256 + 256) = (pgv (pick2 p q i)).toArray := by
    rw [← hc]
    apply Array.ext'
    simp [List.extract_eq_take_drop]
  have h1 : (i : Int) < 2 := by omega
  unfold ppV pgV
  simp [Instr.index, asIntOf, run_underlying under_two, run_underlying under_pg, part, isAgg, sizeOf, typeInfo, hii, hs, go_sem, h1, hx]
  rw [if_pos hi, hc]
section
variable {w : World} {ops : Array Oper} {rest : List Oper} {o : Oper} {a : Act} {Q : Exit → Act → World → Prop}
theorem wpList_index2 (hgd : Region.wanted o (yielded ops a.tmps) = true) (x y : Operand) (ho : o.op = .index 73 x y) (p q : List Int) (hx : a.eval x = ppV p q) (hp : p.length = 256) (hq : q.length = 256) (i : Nat) (hy : a.eval y = .int .i64 (i : Int)) (hi : i < 2)
    (h : wpList Try.prog ops Q rest (a.put o.dst (pgV (pick2 p q i))) w) : wpList Try.prog ops Q (o :: rest) a w := by
  refine wpList_wanted hgd fun K hK => ?_
  have hrun := run_index2 w p q hp hq i hi
  unfold Oper.wp
  simp [execOp, ho, hx, hy, hrun, Result.andThen]
  exact hK _ _ h
theorem wpList_box2 (hgd : Region.wanted o (yielded ops a.tmps) = true) (x : Operand) (ho : o.op = .box 73 x) (p q : List Int) (hx : a.eval x = ppV p q)
    (h : ∀ g w', Hid (g = w.heap.size) → BxV w' g 73 (pp p q) → Fr noB w w' → w.heap.size ≤ g → wpList Try.prog ops Q rest (a.put o.dst (.pointer (some ⟨g, 0, none⟩))) w') : wpList Try.prog ops Q (o :: rest) a w :=
  wpList_boxV hgd 73 x ho (pp p q) hx h
theorem wpList_alloc2 (hgd : Region.wanted o (yielded ops a.tmps) = true) (ho : o.op = .alloc 73)
    (h : ∀ g w', Hid (g = w.heap.size) → BxV w' g 73 (pp zeroP zeroP) → Fr noB w w' → w.heap.size ≤ g → wpList Try.prog ops Q rest (a.put o.dst (.pointer (some ⟨g, 0, none⟩))) w') : wpList Try.prog ops Q (o :: rest) a w :=
  wpList_allocV hgd 73 ho _ zero_two h
theorem wpList_ld2 (hgd : o.guard = none) (x : Operand) (ho : o.op = .load 73 x) (g : Nat) (hx : a.eval x = .pointer (some ⟨g, 0, none⟩)) (p q : List Int) (hA : BxV w g 73 (pp p q)) (hp : p.length = 256) (hq : q.length = 256)
    (h : wpList Try.prog ops Q rest (a.put o.dst (ppV p q)) w) : wpList Try.prog ops Q (o :: rest) a w :=
  wpList_loadV hgd 73 x ho g 0 hx 73 (pp p q) (pp p q) _ hA under_two rfl (by rw [size_two, pp_len p q hp hq]) (by rw [List.drop_zero, List.take_length]) h
theorem wpList_st2P (hgd : o.guard = none) (x y : Operand) (ho : o.op = .store 73 x y) (g : Nat) (hx : a.eval x = .pointer (some ⟨g, 0, none⟩)) (p q p0 q0 : List Int) (hy : a.eval y = ppV p q) (hA : BxV w g 73 (pp p0 q0)) (hp : p.length = 256) (hq : q.length = 256) (hp0 : p0.length = 256) (hq0 : q0.length = 256)
    (h : ∀ w', BxV w' g 73 (pp p q) → Fr (onB1 g) w w' → wpList Try.prog ops Q rest (a.put o.dst undef) w') : wpList Try.prog ops Q (o :: rest) a w := by
  refine wpList_storeV hgd 73 x y ho g 0 hx (pp p q) hy 73 (pp p0 q0) hA (by rw [size_two, pp_len p q hp hq]) (by rw [pp_len p q hp hq, pp_len p0 q0 hp0 hq0]; decide) (pp_one p q) ?_
  intro w' h1 h2
  rw [putAt_all _ _ (by rw [pp_len p q hp hq, pp_len p0 q0 hp0 hq0])] at h1
  exact h w' h1 h2
end

/-- The root that counts of the first k pages. -/
def nwK (p q : List Int) (k : Nat) : Int × List Int :=
  if k = 0 then (0, []) else if k = 1 then (if (rootOf p).1 % 2 = 0 ∧ 0 < (rootOf p).1 then rootOf p else (0, [])) else newest p q
theorem nwK_succ (p q : List Int) (k : Nat) (hk : k < 2) : nwK p q (k + 1) = if (rootOf (pick2 p q k)).1 % 2 = (k : Int) ∧ (nwK p q k).1 < (rootOf (pick2 p q k)).1 then rootOf (pick2 p q k) else nwK p q k := by
  have : k = 0 ∨ k = 1 := by omega
  rcases this with rfl | rfl
  · simp [nwK, pick2]
  · simp [nwK, pick2, newest]
theorem nwK_bd {p q : List Int} (h : Byt p) (k : Byt q) (n : Nat) : 0 ≤ (nwK p q n).1 ∧ (nwK p q n).1 < 18446744073709551616 := by
  have h1 := rootOf_bd h
  have h3 : 0 ≤ (0 : Int) ∧ (0 : Int) < 18446744073709551616 := by decide
  unfold nwK
  split
  · exact h3
  · split
    · split
      · exact h1
      · exact h3
    · exact newest_bd h k

set_option maxRecDepth 100000 in
set_option maxHeartbeats 2000000 in
theorem newestOf_any (p q : List Int) (hp : p.length = 256) (hq : q.length = 256) (hbp : Byt p) (hbq : Byt q) (w : World) :
    Calls Try.prog 30 #[ppV p q] w fun e w' => ∃ v, e = .returned (rtV (newest p q).1 v) ∧ SlI .u8 w' v (newest p q).2 ∧ (∀ b, v.ownBlock = some b → w.heap.size ≤ b ∧ b < w'.heap.size) ∧ Fr noB w w' := by
  have Hp := show Hid _ from hp
  have Hq := show Hid _ from hq
  clear hp hq
  obtain ⟨Z, HZ⟩ : ∃ Z, Hid (zeroP = Z) := ⟨_, rfl⟩
  have hZl : Hid (Z.length = 256) := by show _ = _; rw [← HZ.out]; exact zeroP_len
  go_enter Try.func30, Try.ntmps30
  go_wp2_with (first
    | (with_reducible refine at_wpP ?_; refine wpList_box2 rfl _ rfl p q rfl ?_; intro g1 w1 hg1 b1 f1 s1)
    | (with_reducible refine at_wpP ?_; have b2' := b2; refine wpList_allocRt rfl rfl ?_; intro g3 w3 hg3 b3 f3 s3; have c2 := b2.fr0 f3; have c1 := (b1.fr0 f2).fr0 f3; have l3 := b3.lt)
    | (with_reducible refine at_wpP ?_; refine wpList_allocRt rfl rfl ?_; intro g2 w2 hg2 b2 f2 s2; have l1 := b1.lt; have l2 := b2.lt)
    | (with_reducible refine at_wpP ?_; refine at_ld 73 _ rfl ?_; go_must (refine wpList_ld2 rfl _ rfl g1 rfl p q c1 Hp.out Hq.out ?_)))
  have z1 := f1.size
  have z2 := f2.size
  have F3 := (f1.thenN f2).thenN f3
  go_loopw [8] (fun i wr => ∃ (k : Nat) (v : Value) (n : Int × List Int), k ≤ 2 ∧ i = .int .i64 (k : Int) ∧ Hid (n = nwK p q k) ∧ BxV wr g3 77 (rtL n.1 v) ∧ BxV wr g2 77 (rtL 0 (.slice none 0 0)) ∧ SlI .u8 wr v n.2 ∧ (∀ b, v.ownBlock = some b → w.heap.size ≤ b ∧ b < wr.heap.size ∧ b ≠ g2 ∧ b ≠ g3) ∧ Fr noB w wr) (fun i _ => 2 - (intOf i).toNat)
  case atStart => exact ⟨0, .slice none 0 0, (0, []), by omega, rfl, (rfl : ((0 : Int), ([] : List Int)) = nwK p q 0), b3, c2, SlI.nil _ _, (fun b hb => by simp [Value.ownBlock] at hb), F3⟩
  case round =>
    obtain ⟨k, v, n, hk, rfl, hn, hB, hC, hI, hnew, hf⟩ := hrel
    by_cases hlt : k < 2
    · have hk' : (k : Int) < 2 := by omega
      have hk0 : (0 : Int) ≤ (k : Int) := by omega
      have hXl := pick2_len Hp.out Hq.out k
      have hXb := pick2_byt hbp hbq k
      have hsucc := show Hid _ from nwK_succ p q k hlt
      obtain ⟨X, HX⟩ : ∃ X, Hid (pick2 p q k = X) := ⟨_, rfl⟩
      rw [HX.out] at hXl hXb
      rw [HX.out, ← hn.out] at hsucc
      have hXl := show Hid _ from hXl
      have hnb : 0 ≤ n.1 ∧ n.1 < 18446744073709551616 := by rw [hn.out]; exact nwK_bd hbp hbq k
      have hRb := rootOf_bd hXb
      have hroot := show Hid _ from fun W => rootOf_any X hXl.out hXb W
      unfold RootIs at hroot
      obtain ⟨⟨G, C⟩, HR⟩ : ∃ R, Hid (rootOf X = R) := ⟨_, rfl⟩
      obtain ⟨n1, n2⟩ := n
      simp only [HR.out] at hroot hsucc hRb hnb hB hI
      obtain ⟨hRb0, hRb1⟩ := hRb
      obtain ⟨hnb0, hnb1⟩ := hnb
      have lB := hB.lt
      have lC := hC.lt
      have isv : isSl v := by obtain ⟨a, c, rfl, _⟩ := hI.opn; exact isSl_mk _ _ _
      by_cases hG : G % 2 = (k : Int)
      · by_cases hgt : n1 < G
        · rw [if_pos ⟨hG, hgt⟩] at hsucc
          have hG2 : (G % 2 == (k : Int)) = true := by simpa using hG
          have hgt2 : decide (n1 < G) = true := by simpa using hgt
          go_wp2_with (first
            | (with_reducible refine at_wpP ?_; refine at_index 73 _ _ rfl ?_; go_must (refine wpList_index2 rfl _ _ rfl p q rfl Hp.out Hq.out k rfl hlt ?_; rw [HX.out]))
            | (with_reducible refine at_wpP ?_; refine wpList_allocP rfl rfl ?_; rw [HZ.out]; intro g5 w5 hg5 b5 f5 s5)
            | (with_reducible refine at_wpP ?_; refine at_st 46 _ _ rfl ?_; go_must (refine wpList_storeP rfl _ _ rfl g5 rfl X rfl _ b5 hXl.out hZl.out ?_; intro w6 b6 f6; have l5 := b5.lt))
            | (with_reducible refine at_wpP ?_; refine at_ld 46 _ rfl ?_; go_must (refine wpList_loadP rfl _ rfl g5 rfl _ b6 hXl.out ?_))
            | (go_at_call 49; go_must (refine (hroot.out _).mono ?_; rintro e w7 ⟨v7, rfl, i7, n7, f7⟩; have isv7 : isSl v7 := (by obtain ⟨a, c, rfl, _⟩ := i7.opn; exact isSl_mk _ _ _)))
            | (with_reducible refine at_wpP ?_; refine wpList_allocRt rfl rfl ?_; intro g6 w8 hg6 b8 f8 s8)
            | (with_reducible refine at_wpP ?_; refine at_st 77 _ _ rfl ?_; have b9' := b9; go_must (refine wpList_stRt rfl _ _ rfl g3 rfl G v7 rfl isv7 _ _ B9 ?_; intro w10 b10 f10))
            | (with_reducible refine at_wpP ?_; refine at_st 77 _ _ rfl ?_; go_must (refine wpList_stRt rfl _ _ rfl g6 rfl G v7 rfl isv7 _ _ b8 ?_; intro w9 b9 f9; have l8 := b8.lt; have z5 := f5.size; have z6 := f6.size; have z7 := f7.size; have z8 := f8.size; obtain ⟨q0, _⟩ := b9.cell 0 _ rfl; have B9 := (((((hB.fr0 f5).ne f6 (by omega)).fr0 f7).fr0 f8).ne f9 (by omega)); have C9 := (((((hC.fr0 f5).ne f6 (by omega)).fr0 f7).fr0 f8).ne f9 (by omega)); obtain ⟨q3, _⟩ := B9.cell 0 _ rfl))
            | (with_reducible refine at_wpP ?_; refine at_ld 77 _ rfl ?_; go_must (refine wpList_ldRt rfl _ rfl g6 rfl _ _ b9 ?_))
            | (go_at_call 31; go_must (refine (slotOf_any G ⟨hRb0, hRb1⟩ _).mono ?_; rintro e w' ⟨rfl, rfl⟩; rw [hG])))
          have z9 := f9.size
          have F5 : Fr noB w w9 := ((((hf.thenN f5).thenT f6 (fun i hi q => by unfold onB1 at q; omega)).thenN f7).thenN f8).thenT f9 (fun i hi q => by unfold onB1 at q; omega)
          have zf := hf.size
          have hlt7 : ∀ b, v7.ownBlock = some b → w.heap.size ≤ b ∧ b < w7.heap.size ∧ b ≠ g2 ∧ b ≠ g3 ∧ b ≠ g6 := by
            intro b hb
            have h1 := n7 b hb
            exact ⟨by omega, by omega, by omega, by omega, by omega⟩
          have I10 : SlI .u8 w10 v7 C := ((i7.fr0 f8).fr f9 (fun b hb q => (hlt7 b hb).2.2.2.2 q)).fr f10 (fun b hb q => (hlt7 b hb).2.2.2.1 q)
          have C10 := C9.ne f10 (by omega)
          go_roundw
          case rel => exact ⟨k + 1, v7, (G, C), by omega, by go_num, show _ = _ from hsucc.out.symm, b10, C10, I10, (fun b hb => by have h1 := hlt7 b hb; have := f10.size; exact ⟨h1.1, by omega, h1.2.2.1, h1.2.2.2.1⟩), F5.thenT f10 (fun i hi q => by unfold onB1 at q; omega)⟩
          case measure => simp [intOf]; omega
        · rw [if_neg (fun h => hgt h.2)] at hsucc
          have hG2 : (G % 2 == (k : Int)) = true := by simpa using hG
          have hgt2 : decide (n1 < G) = false := by simpa using hgt
          go_wp2_with (first
            | (with_reducible refine at_wpP ?_; refine at_index 73 _ _ rfl ?_; go_must (refine wpList_index2 rfl _ _ rfl p q rfl Hp.out Hq.out k rfl hlt ?_; rw [HX.out]))
            | (with_reducible refine at_wpP ?_; refine wpList_allocP rfl rfl ?_; rw [HZ.out]; intro g5 w5 hg5 b5 f5 s5)
            | (with_reducible refine at_wpP ?_; refine at_st 46 _ _ rfl ?_; go_must (refine wpList_storeP rfl _ _ rfl g5 rfl X rfl _ b5 hXl.out hZl.out ?_; intro w6 b6 f6; have l5 := b5.lt))
            | (with_reducible refine at_wpP ?_; refine at_ld 46 _ rfl ?_; go_must (refine wpList_loadP rfl _ rfl g5 rfl _ b6 hXl.out ?_))
            | (go_at_call 49; go_must (refine (hroot.out _).mono ?_; rintro e w7 ⟨v7, rfl, i7, n7, f7⟩; have isv7 : isSl v7 := (by obtain ⟨a, c, rfl, _⟩ := i7.opn; exact isSl_mk _ _ _)))
            | (with_reducible refine at_wpP ?_; refine wpList_allocRt rfl rfl ?_; intro g6 w8 hg6 b8 f8 s8)
            | (with_reducible refine at_wpP ?_; refine at_st 77 _ _ rfl ?_; go_must (refine wpList_stRt rfl _ _ rfl g6 rfl G v7 rfl isv7 _ _ b8 ?_; intro w9 b9 f9; have l8 := b8.lt; have z5 := f5.size; have z6 := f6.size; have z7 := f7.size; have z8 := f8.size; obtain ⟨q0, _⟩ := b9.cell 0 _ rfl; have B9 := (((((hB.fr0 f5).ne f6 (by omega)).fr0 f7).fr0 f8).ne f9 (by omega)); have C9 := (((((hC.fr0 f5).ne f6 (by omega)).fr0 f7).fr0 f8).ne f9 (by omega)); obtain ⟨q3, _⟩ := B9.cell 0 _ rfl))
            | (go_at_call 31; go_must (refine (slotOf_any G ⟨hRb0, hRb1⟩ _).mono ?_; rintro e w' ⟨rfl, rfl⟩; rw [hG])))
          have z9 := f9.size
          have zf := hf.size
          have F5 : Fr noB w w9 := ((((hf.thenN f5).thenT f6 (fun i hi q => by unfold onB1 at q; omega)).thenN f7).thenN f8).thenT f9 (fun i hi q => by unfold onB1 at q; omega)
          have I9 : SlI .u8 w9 v n2 := ((((hI.fr0 f5).fr f6 (fun b hb q => by have := (hnew b hb).2.1; unfold onB1 at q; omega)).fr0 f7).fr0 f8).fr f9 (fun b hb q => by have := (hnew b hb).2.1; unfold onB1 at q; omega)
          go_roundw
          case rel => exact ⟨k + 1, v, (n1, n2), by omega, by go_num, show _ = _ from hsucc.out.symm, B9, C9, I9, (fun b hb => by have h1 := hnew b hb; exact ⟨h1.1, by omega, h1.2.2⟩), F5⟩
          case measure => simp [intOf]; omega
      · rw [if_neg (fun h => hG h.1)] at hsucc
        have hG2 : (G % 2 == (k : Int)) = false := by simpa using hG
        go_wp2_with (first
          | (with_reducible refine at_wpP ?_; refine at_index 73 _ _ rfl ?_; go_must (refine wpList_index2 rfl _ _ rfl p q rfl Hp.out Hq.out k rfl hlt ?_; rw [HX.out]))
          | (with_reducible refine at_wpP ?_; refine wpList_allocP rfl rfl ?_; rw [HZ.out]; intro g5 w5 hg5 b5 f5 s5)
          | (with_reducible refine at_wpP ?_; refine at_st 46 _ _ rfl ?_; go_must (refine wpList_storeP rfl _ _ rfl g5 rfl X rfl _ b5 hXl.out hZl.out ?_; intro w6 b6 f6; have l5 := b5.lt))
          | (with_reducible refine at_wpP ?_; refine at_ld 46 _ rfl ?_; go_must (refine wpList_loadP rfl _ rfl g5 rfl _ b6 hXl.out ?_))
          | (go_at_call 49; go_must (refine (hroot.out _).mono ?_; rintro e w7 ⟨v7, rfl, i7, n7, f7⟩; have isv7 : isSl v7 := (by obtain ⟨a, c, rfl, _⟩ := i7.opn; exact isSl_mk _ _ _)))
          | (with_reducible refine at_wpP ?_; refine wpList_allocRt rfl rfl ?_; intro g6 w8 hg6 b8 f8 s8)
          | (with_reducible refine at_wpP ?_; refine at_st 77 _ _ rfl ?_; go_must (refine wpList_stRt rfl _ _ rfl g6 rfl G v7 rfl isv7 _ _ b8 ?_; intro w9 b9 f9; have l8 := b8.lt; have z5 := f5.size; have z6 := f6.size; have z7 := f7.size; have z8 := f8.size; obtain ⟨q0, _⟩ := b9.cell 0 _ rfl; have B9 := (((((hB.fr0 f5).ne f6 (by omega)).fr0 f7).fr0 f8).ne f9 (by omega)); have C9 := (((((hC.fr0 f5).ne f6 (by omega)).fr0 f7).fr0 f8).ne f9 (by omega)); obtain ⟨q3, _⟩ := B9.cell 0 _ rfl))
          | (go_at_call 31; go_must (refine (slotOf_any G ⟨hRb0, hRb1⟩ _).mono ?_; rintro e w' ⟨rfl, rfl⟩)))
        have z9 := f9.size
        have zf := hf.size
        have F5 : Fr noB w w9 := ((((hf.thenN f5).thenT f6 (fun i hi q => by unfold onB1 at q; omega)).thenN f7).thenN f8).thenT f9 (fun i hi q => by unfold onB1 at q; omega)
        have I9 : SlI .u8 w9 v n2 := ((((hI.fr0 f5).fr f6 (fun b hb q => by have := (hnew b hb).2.1; unfold onB1 at q; omega)).fr0 f7).fr0 f8).fr f9 (fun b hb q => by have := (hnew b hb).2.1; unfold onB1 at q; omega)
        go_roundw
        case rel => exact ⟨k + 1, v, (n1, n2), by omega, by go_num, show _ = _ from hsucc.out.symm, B9, C9, I9, (fun b hb => by have h1 := hnew b hb; exact ⟨h1.1, by omega, h1.2.2⟩), F5⟩
        case measure => simp [intOf]; omega
    · obtain rfl : k = 2 := by omega
      obtain ⟨n1, n2⟩ := n
      have hn2 : (n1, n2) = newest p q := by rw [hn.out]; rfl
      have isv : isSl v := by obtain ⟨a, c, rfl, _⟩ := hI.opn; exact isSl_mk _ _ _
      go_wp2_with (first
        | (with_reducible refine at_wpP ?_; refine at_ld 77 _ rfl ?_; go_must (refine wpList_ldRt rfl _ rfl g3 rfl _ _ hB ?_))
        | (with_reducible refine at_wpP ?_; refine at_st 77 _ _ rfl ?_; go_must (refine wpList_stRt rfl _ _ rfl g2 rfl n1 v rfl isv _ _ hC ?_; intro w11 b11 f11)))
      refine bodyPost_ret (v := rtV n1 v) (results_root Try.results30 _ w11 g2 n1 v rfl b11) rfl ?_
      rw [← hn2]
      refine ⟨v, rfl, hI.fr f11 (fun b hb q => (hnew b hb).2.2.1 q), (fun b hb => by have h1 := hnew b hb; have := f11.size; exact ⟨h1.1, by omega⟩), hf.thenT f11 (fun i hi q => by unfold onB1 at q; omega)⟩

/-- The greatest generation of the first k pages. -/
def tpK (p q : List Int) (k : Nat) : Int := if k = 0 then 0 else if k = 1 then topK p 0 8 else top p q
theorem tpK_succ (p q : List Int) (k : Nat) (hk : k < 2) : tpK p q (k + 1) = topK (pick2 p q k) (tpK p q k) 8 := by
  have : k = 0 ∨ k = 1 := by omega
  rcases this with rfl | rfl
  · simp [tpK, pick2]
  · simp [tpK, pick2, top]
theorem tpK_bd {p q : List Int} (h : Byt p) (k : Byt q) (n : Nat) : 0 ≤ tpK p q n ∧ tpK p q n < 18446744073709551616 := by
  unfold tpK
  split
  · decide
  · split
    · exact topK_bd h _ (by decide) 8
    · exact top_bd h k

set_option maxRecDepth 100000 in
set_option maxHeartbeats 2000000 in
theorem topOf_any (p q : List Int) (hp : p.length = 256) (hq : q.length = 256) (hbp : Byt p) (hbq : Byt q) (w : World) :
    Calls Try.prog 34 #[ppV p q] w fun e w' => e = .returned (.int .u64 (top p q)) ∧ Fr noB w w' := by
  have Hp := show Hid _ from hp
  have Hq := show Hid _ from hq
  clear hp hq
  obtain ⟨Z, HZ⟩ : ∃ Z, Hid (zeroP = Z) := ⟨_, rfl⟩
  have hZl : Hid (Z.length = 256) := by show _ = _; rw [← HZ.out]; exact zeroP_len
  obtain ⟨T, HT⟩ : ∃ T, Hid (top p q = T) := ⟨_, rfl⟩
  rw [HT.out]
  go_enter Try.func34, Try.ntmps34
  go_wp2_with (first
    | (with_reducible refine at_wpP ?_; refine wpList_box2 rfl _ rfl p q rfl ?_; intro g1 w1 hg1 b1 f1 s1)
    | (with_reducible refine at_wpP ?_; refine at_ld 73 _ rfl ?_; go_must (refine wpList_ld2 rfl _ rfl g1 rfl p q b1 Hp.out Hq.out ?_)))
  go_loopw [3, 8] (fun t i wr => ∃ (k : Nat) (n : Int), k ≤ 2 ∧ i = .int .i64 (k : Int) ∧ Hid (n = tpK p q k) ∧ t = .int .u64 n ∧ Fr noB w wr) (fun _ i _ => 2 - (intOf i).toNat)
  case atStart => exact ⟨0, 0, by omega, rfl, (rfl : (0 : Int) = tpK p q 0), rfl, f1⟩
  case round =>
    obtain ⟨k, n, hk, rfl, hn, rfl, hf⟩ := hrel
    by_cases hlt : k < 2
    · have hk' : (k : Int) < 2 := by omega
      have hk0 : (0 : Int) ≤ (k : Int) := by omega
      have hXl := pick2_len Hp.out Hq.out k
      have hXb := pick2_byt hbp hbq k
      have hsucc := show Hid _ from tpK_succ p q k hlt
      obtain ⟨X, HX⟩ : ∃ X, Hid (pick2 p q k = X) := ⟨_, rfl⟩
      rw [HX.out] at hXl hXb
      rw [HX.out, ← hn.out] at hsucc
      have hXl := show Hid _ from hXl
      have hnb : 0 ≤ n ∧ n < 18446744073709551616 := by rw [hn.out]; exact tpK_bd hbp hbq k
      have htb := fun j => topK_bd hXb n hnb j
      have hgb := fun j => genAt_bd hXb j
      go_wp2_with (first
        | (with_reducible refine at_wpP ?_; refine at_index 73 _ _ rfl ?_; go_must (refine wpList_index2 rfl _ _ rfl p q rfl Hp.out Hq.out k rfl hlt ?_; rw [HX.out]))
        | (with_reducible refine at_wpP ?_; refine wpList_allocP rfl rfl ?_; rw [HZ.out]; intro g5 w5 hg5 b5 f5 s5)
        | (with_reducible refine at_wpP ?_; refine at_st 46 _ _ rfl ?_; go_must (refine wpList_storeP rfl _ _ rfl g5 rfl X rfl _ b5 hXl.out hZl.out ?_; intro w6 b6 f6; have l5 := b5.lt)))
      have zf := hf.size
      have F6 : Fr noB w w6 := (hf.thenN f5).thenT f6 (fun i hi q => by unfold onB1 at q; omega)
      go_loopw [3, 11] (fun t i wr => ∃ (j : Nat) (m : Int), j ≤ 8 ∧ i = .int .i64 (j : Int) ∧ Hid (m = topK X n j) ∧ t = .int .u64 m ∧ BxV wr g5 46 (pgv X) ∧ Fr noB w wr) (fun _ i _ => 8 - (intOf i).toNat)
      case atStart => exact ⟨0, n, by omega, rfl, (rfl : n = topK X n 0), rfl, b6, F6⟩
      case round =>
        obtain ⟨j, m, hj, rfl, hm, rfl, hB, hf2⟩ := hrel
        by_cases hjl : j < 8
        · have hj' : (j : Int) < 8 := by omega
          have hmb : 0 ≤ m ∧ m < 18446744073709551616 := by rw [hm.out]; exact htb j
          have hms := show Hid _ from topK_succ X n j
          rw [← hm.out] at hms
          have hgen := show Hid _ from fun W => genOf_any X hXl.out hXb j hjl W
          have hgj := hgb j
          obtain ⟨G, HG⟩ : ∃ G, Hid (genAt X j = G) := ⟨_, rfl⟩
          rw [HG.out] at hms hgj
          simp only [HG.out] at hgen
          go_wp2_with (first
            | (with_reducible refine at_wpP ?_; refine at_ld 46 _ rfl ?_; go_must (refine wpList_loadP rfl _ rfl g5 rfl _ hB hXl.out ?_))
            | (go_at_call 53; go_must (refine (hgen.out _).mono ?_; rintro e w7 ⟨rfl, f7⟩)))
          go_roundw
          case rel => exact ⟨j + 1, max m G, by omega, by go_num, show _ = _ from hms.out.symm, by first | rfl | (simp; done) | skip, hB.fr0 f7, hf2.thenN f7⟩
          case measure => simp [intOf]; omega
        · obtain rfl : j = 8 := by omega
          go_wp2
          go_roundw
          case rel => exact ⟨k + 1, m, by omega, by go_num, show _ = _ by rw [hsucc.out]; exact hm.out, rfl, hf2⟩
          case measure => simp [intOf]; omega
    · obtain rfl : k = 2 := by omega
      have hnT : n = T := by rw [hn.out, ← HT.out]; rfl
      subst hnT
      go_wp2
      go_ret
      exact ⟨rfl, hf⟩
end Go.Proofs.Ytijgfojnppcbjaa
/- slots of package root. -/
namespace Go.Proofs.Ytijgfojnppcbjaa
open Go.RowKit Go.Proofs.U
set_option linter.unusedSimpArgs false
set_option linter.unusedVariables false
/-- All pages, and all that is pending, are bytes. -/
def DSt.byt (X : DSt) : Prop := (∀ p ∈ X.pages, Byt p) ∧ ∀ x ∈ X.pend, Byt x.2
theorem lastW_byt {l : List (Int × List Int)} (h : ∀ x ∈ l, Byt x.2) (i : Int) {p : List Int} (hp : Byt p) : Byt (lastW l i p) := by
  unfold lastW
  induction l generalizing p with
  | nil => exact hp
  | cons x l ih =>
    rw [List.foldl_cons]
    refine ih (fun y hy => h y (by simp [hy])) ?_
    split
    · exact h x (by simp)
    · exact hp
theorem readP_byt {X : DSt} (h : X.byt) (i : Int) : Byt (readP X i).1 := by
  unfold readP
  split
  · split
    · exact zeroP_byt
    · refine lastW_byt h.2 i ?_
      by_cases hj : i.toNat < X.pages.length
      · have : X.pages.getD i.toNat [] = X.pages[i.toNat] := by simp [List.getD, hj]
        rw [this]; exact h.1 _ (by simp)
      · have : X.pages.getD i.toNat [] = [] := by simp [List.getD, hj]
        rw [this]; intro n hn; simp at hn
  · exact zeroP_byt
theorem readP_err (X : DSt) (i : Int) : (readP X i).2 = 0 ∨ (readP X i).2 = 41 ∨ (readP X i).2 = 43 := by
  unfold readP
  split
  · split <;> simp
  · simp
theorem run_idx2 (w : World) (g i : Nat) (hi : i < 2) : (Instr.indexAt 73 (.pointer (some ⟨g, 0, none⟩)) (.int .i64 (i : Int))).run Try.prog w = .ok (.pointer (some ⟨g, i * 256, none⟩)) w := by
  obtain ⟨ii, hinf, hsz⟩ := Option.map_eq_some_iff.1 size_page
  have h1 : (0 : Int) ≤ (i : Int) ∧ (i : Int) < 2 := by omega
  simp [Instr.indexAt, asIntOf, run_underlying under_two, h1, sizeOf, typeInfo, hinf, hsz, go_sem, Addr.plain]
  omega
section
variable {w : World} {ops : Array Oper} {rest : List Oper} {o : Oper} {a : Act} {Q : Exit → Act → World → Prop}
theorem wpList_idxA2 (hgd : Region.wanted o (yielded ops a.tmps) = true) (x y : Operand) (ho : o.op = .indexAddr 73 x y) (g : Nat) (hx : a.eval x = .pointer (some ⟨g, 0, none⟩)) (i : Nat) (hy : a.eval y = .int .i64 (i : Int)) (hi : i < 2)
    (h : wpList Try.prog ops Q rest (a.put o.dst (.pointer (some ⟨g, i * 256, none⟩))) w) : wpList Try.prog ops Q (o :: rest) a w := by
  refine wpList_wanted hgd fun K hK => ?_
  have hrun := run_idx2 w g i hi
  unfold Oper.wp
  simp [execOp, ho, hx, hy, hrun, Result.andThen]
  exact hK _ _ h
/-- One of both pages is put. -/
theorem wpList_stPm (hgd : o.guard = none) (x y : Operand) (ho : o.op = .store 46 x y) (g i : Nat) (hx : a.eval x = .pointer (some ⟨g, i * 256, none⟩)) (hi : i < 2) (p : List Int) (hy : a.eval y = pgV p) (hp : p.length = 256) (p0 q0 : List Int) (hA : BxV w g 73 (pp p0 q0)) (hp0 : p0.length = 256) (hq0 : q0.length = 256)
    (h : ∀ w', BxV w' g 73 (pp (if i = 0 then p else p0) (if i = 0 then q0 else p)) → Fr (onB1 g) w w' → wpList Try.prog ops Q rest (a.put o.dst undef) w') : wpList Try.prog ops Q (o :: rest) a w := by
  refine wpList_storeV hgd 46 x y ho g (i * 256) hx (pgv p) hy 73 (pp p0 q0) hA (by rw [size_page, pgv_len, hp]) (by rw [pgv_len, hp, pp_len p0 q0 hp0 hq0]; omega) (pgv_one p) ?_
  intro w' h1 h2
  refine h w' ?_ h2
  have e : putAt (pp p0 q0) (i * 256) (pgv p) = pp (if i = 0 then p else p0) (if i = 0 then q0 else p) := by
    have l1 := pgv_len p
    have l2 := pgv_len p0
    have l3 := pgv_len q0
    have : i = 0 ∨ i = 1 := by omega
    rcases this with rfl | rfl
    · simp only [pp, putAt, if_true, Nat.zero_mul, List.take_zero, List.nil_append, Nat.zero_add]
      rw [l1, hp, List.drop_append_of_le_length (by omega), List.drop_of_length_le (by omega), List.nil_append]
    · simp only [pp, putAt, Nat.one_mul, Nat.one_ne_zero, if_false]
      rw [List.take_append_of_le_length (by omega), List.take_of_length_le (by omega), List.drop_of_length_le (by rw [List.length_append]; omega), List.append_nil]
  rw [← e]; exact h1
end
theorem results_pp {fn : Func} {q u : Tmp} (h : fn.results = #[.cell q 73, .tmp u]) (tmps : Array Value) (w : World) (g : Nat) (a b : List Int) (hq : tmps.getD q undef = .pointer (some ⟨g, 0, none⟩)) (hA : BxV w g 73 (pp a b)) (ha : a.length = 256) (hb : b.length = 256) :
    (results fn tmps).run Try.prog w = .ok (.tuple #[ppV a b, tmps.getD u undef]) w := by
  rw [results_cell_tmp h, hq]
  have hr := run_loadVar_mid (P := Try.prog) w g 0 73 (pp a b) _ (hA.range 0 _ (by rw [List.drop_zero, List.take_length])) under_two rfl (by rw [size_two, pp_len a b ha hb])
  simp only [asAddr, Sem.run_pure, Result.andThen_ok, hr]
  rfl
theorem built_two : Try.prog.built 73 [] = some (pp zeroP zeroP).toArray := by kernel_rfl
section
variable {w : World} {ops : Array Oper} {rest : List Oper} {o : Oper} {a : Act} {Q : Exit → Act → World → Prop}
theorem wpList_build2 (hgd : Region.wanted o (yielded ops a.tmps) = true) (ho : o.op = .build 73 #[])
    (h : wpList Try.prog ops Q rest (a.put o.dst (ppV zeroP zeroP)) w) : wpList Try.prog ops Q (o :: rest) a w := by
  refine wpList_wanted hgd fun K hK => ?_
  have hrun := run_build (P := Try.prog) w 73 #[] _ built_two
  unfold Oper.wp
  simp [execOp, ho, hrun, Result.andThen]
  exact hK _ _ h
end
def slA (X : DSt) : List Int := if rdE X = 0 then (readP X 0).1 else zeroP
def slB (X : DSt) : List Int := if rdE X = 0 then (readP X 1).1 else zeroP

set_option maxRecDepth 100000 in
set_option maxHeartbeats 2000000 in
theorem slots_any {F : Nat → Prop} {X : DSt} (g : Nat) (w : World) (hD : Disk w F g X) (hm : X.pend.length ≤ 100000) :
    Calls Try.prog 29 #[ptr g] w fun e w' => e = .returned (.tuple #[ppV (slA X) (slB X), .int .i64 (rdE X)]) ∧ Fr noB w w' := by
  have l0 := readP_len hD 0
  have l1 := readP_len hD 1
  unfold slA slB rdE
  have r0 := show Hid _ from fun (W : World) (h : Disk W F g X) => read_any g 0 (by decide) W h hm
  have r1 := show Hid _ from fun (W : World) (h : Disk W F g X) => read_any g 1 (by decide) W h hm
  obtain ⟨⟨P0, E0⟩, H0⟩ : ∃ R, Hid (readP X 0 = R) := ⟨_, rfl⟩
  obtain ⟨⟨P1, E1⟩, H1⟩ : ∃ R, Hid (readP X 1 = R) := ⟨_, rfl⟩
  simp only [H0.out, H1.out] at l0 l1 r0 r1 ⊢
  have l0 := show Hid _ from l0
  have l1 := show Hid _ from l1
  obtain ⟨Z, HZ⟩ : ∃ Z, Hid (zeroP = Z) := ⟨_, rfl⟩
  have hZl : Hid (Z.length = 256) := by show _ = _; rw [← HZ.out]; exact zeroP_len
  simp only [HZ.out]
  go_enter Try.func29, Try.ntmps29
  go_wp2_with (first
    | (with_reducible refine at_wpP ?_; have b2' := b2; refine wpList_alloc2 rfl rfl ?_; rw [HZ.out]; intro g4 w4 hg4 b4 f4 s4; have c2 := b2.fr0 f4; have l2' := b2.lt; have l4 := b4.lt)
    | (with_reducible refine at_wpP ?_; refine wpList_alloc2 rfl rfl ?_; rw [HZ.out]; intro g2 w2 hg2 b2 f2 s2))
  have z2 := f2.size
  go_loopw [8] (fun i wr => ∃ (k : Nat) (a b : List Int), k ≤ 2 ∧ i = .int .i64 (k : Int) ∧ Hid ((k = 0 ∧ Z = a ∧ Z = b) ∨ (k = 1 ∧ P0 = a ∧ Z = b ∧ E0 = 0) ∨ (k = 2 ∧ P0 = a ∧ P1 = b ∧ E0 = 0 ∧ E1 = 0)) ∧ BxV wr g4 73 (pp a b) ∧ BxV wr g2 73 (pp Z Z) ∧ Fr noB w wr) (fun i _ => 2 - (intOf i).toNat)
  case atStart => exact ⟨0, Z, Z, by omega, rfl, show _ ∨ _ from Or.inl ⟨rfl, rfl, rfl⟩, b4, c2, f2.thenN f4⟩
  case round =>
    obtain ⟨k, a, b, hk, rfl, hc, hB, hC, hf⟩ := hrel
    rcases hc.out with ⟨rfl, rfl, rfl⟩ | ⟨rfl, rfl, rfl, rfl⟩ | ⟨rfl, rfl, rfl, rfl, rfl⟩
    · clear hc
      by_cases he : E0 = 0
      · subst he
        go_wp2_with (first
          | (go_at_call 28; go_must (refine (r0.out _ (hD.fr0 hf)).mono ?_; rintro e w5 ⟨rfl, f5⟩))
          | (with_reducible refine at_wpP ?_; refine wpList_allocP rfl rfl ?_; rw [HZ.out]; intro g6 w6 hg6 b6 f6 s6; have l6 := b6.lt; have zf := hf.size; have z5 := f5.size; have lB := hB.lt; have lC := hC.lt)
          | (with_reducible refine at_wpP ?_; refine at_st 46 _ _ rfl ?_; have c7' := c7; go_must (refine wpList_stPm rfl _ _ rfl g4 0 rfl (by decide) P0 rfl l0.out _ _ c7 hZl.out hZl.out ?_; intro w8 b8 f8))
          | (with_reducible refine at_wpP ?_; refine at_st 46 _ _ rfl ?_; go_must (refine wpList_storeP rfl _ _ rfl g6 rfl P0 rfl _ b6 l0.out hZl.out ?_; intro w7 b7 f7; have c7 := ((hB.fr0 f5).fr0 f6).ne f7 (by omega); have d7 := ((hC.fr0 f5).fr0 f6).ne f7 (by omega); have z7 := f7.size))
          | (with_reducible refine at_wpP ?_; refine at_ld 46 _ rfl ?_; go_must (refine wpList_loadP rfl _ rfl g6 rfl _ b7 l0.out ?_))
          | (refine at_idx 73 _ _ rfl ?_; go_must (refine wpList_idxA2 rfl _ _ rfl g4 rfl 0 rfl (by decide) ?_)))
        have F8 : Fr noB w w8 := (((hf.thenN f5).thenN f6).thenT f7 (fun i hi q => by unfold onB1 at q; omega)).thenT f8 (fun i hi q => by unfold onB1 at q; omega)
        have d8 := d7.ne f8 (by omega)
        go_roundw
        case rel => exact ⟨0 + 1, P0, Z, by omega, by go_num, by show _ ∨ _; simp, b8, d8, F8⟩
        case measure => simp [intOf]
      · go_wp2_with (first
          | (go_at_call 28; go_must (refine (r0.out _ (hD.fr0 hf)).mono ?_; rintro e w5 ⟨rfl, f5⟩))
          | (with_reducible refine at_wpP ?_; refine wpList_allocP rfl rfl ?_; rw [HZ.out]; intro g6 w6 hg6 b6 f6 s6; have l6 := b6.lt; have zf := hf.size; have z5 := f5.size; have lB := hB.lt; have lC := hC.lt)
          | (with_reducible refine at_wpP ?_; refine at_st 46 _ _ rfl ?_; go_must (refine wpList_storeP rfl _ _ rfl g6 rfl P0 rfl _ b6 l0.out hZl.out ?_; intro w7 b7 f7; have d7 := ((hC.fr0 f5).fr0 f6).ne f7 (by omega); have z7 := f7.size))
          | (with_reducible refine at_wpP ?_; refine wpList_build2 rfl rfl ?_; rw [HZ.out])
          | (with_reducible refine at_wpP ?_; refine at_st 73 _ _ rfl ?_; go_must (refine wpList_st2P rfl _ _ rfl g2 rfl Z Z Z Z rfl d7 hZl.out hZl.out hZl.out hZl.out ?_; intro w8 b8 f8)))
        have F8 : Fr noB w w8 := (((hf.thenN f5).thenN f6).thenT f7 (fun i hi q => by unfold onB1 at q; omega)).thenT f8 (fun i hi q => by unfold onB1 at q; omega)
        refine bodyPost_ret (results_pp Try.results29 _ w8 g2 Z Z rfl b8 hZl.out hZl.out) rfl ⟨?_, F8⟩
        simp [he]
    · clear hc
      by_cases he : E1 = 0
      · subst he
        go_wp2_with (first
          | (go_at_call 28; go_must (refine (r1.out _ (hD.fr0 hf)).mono ?_; rintro e w5 ⟨rfl, f5⟩))
          | (with_reducible refine at_wpP ?_; refine wpList_allocP rfl rfl ?_; rw [HZ.out]; intro g6 w6 hg6 b6 f6 s6; have l6 := b6.lt; have zf := hf.size; have z5 := f5.size; have lB := hB.lt; have lC := hC.lt)
          | (with_reducible refine at_wpP ?_; refine at_st 46 _ _ rfl ?_; have c7' := c7; go_must (refine wpList_stPm rfl _ _ rfl g4 1 rfl (by decide) P1 rfl l1.out P0 Z c7 l0.out hZl.out ?_; intro w8 b8 f8))
          | (with_reducible refine at_wpP ?_; refine at_st 46 _ _ rfl ?_; go_must (refine wpList_storeP rfl _ _ rfl g6 rfl P1 rfl _ b6 l1.out hZl.out ?_; intro w7 b7 f7; have c7 := ((hB.fr0 f5).fr0 f6).ne f7 (by omega); have d7 := ((hC.fr0 f5).fr0 f6).ne f7 (by omega); have z7 := f7.size))
          | (with_reducible refine at_wpP ?_; refine at_ld 46 _ rfl ?_; go_must (refine wpList_loadP rfl _ rfl g6 rfl _ b7 l1.out ?_))
          | (refine at_idx 73 _ _ rfl ?_; go_must (refine wpList_idxA2 rfl _ _ rfl g4 rfl 1 rfl (by decide) ?_)))
        have F8 : Fr noB w w8 := (((hf.thenN f5).thenN f6).thenT f7 (fun i hi q => by unfold onB1 at q; omega)).thenT f8 (fun i hi q => by unfold onB1 at q; omega)
        have d8 := d7.ne f8 (by omega)
        go_roundw
        case rel => exact ⟨1 + 1, P0, P1, by omega, by go_num, by show _ ∨ _; simp, b8, d8, F8⟩
        case measure => simp [intOf]
      · go_wp2_with (first
          | (go_at_call 28; go_must (refine (r1.out _ (hD.fr0 hf)).mono ?_; rintro e w5 ⟨rfl, f5⟩))
          | (with_reducible refine at_wpP ?_; refine wpList_allocP rfl rfl ?_; rw [HZ.out]; intro g6 w6 hg6 b6 f6 s6; have l6 := b6.lt; have zf := hf.size; have z5 := f5.size; have lB := hB.lt; have lC := hC.lt)
          | (with_reducible refine at_wpP ?_; refine at_st 46 _ _ rfl ?_; go_must (refine wpList_storeP rfl _ _ rfl g6 rfl P1 rfl _ b6 l1.out hZl.out ?_; intro w7 b7 f7; have d7 := ((hC.fr0 f5).fr0 f6).ne f7 (by omega); have z7 := f7.size))
          | (with_reducible refine at_wpP ?_; refine wpList_build2 rfl rfl ?_; rw [HZ.out])
          | (with_reducible refine at_wpP ?_; refine at_st 73 _ _ rfl ?_; go_must (refine wpList_st2P rfl _ _ rfl g2 rfl Z Z Z Z rfl d7 hZl.out hZl.out hZl.out hZl.out ?_; intro w8 b8 f8)))
        have F8 : Fr noB w w8 := (((hf.thenN f5).thenN f6).thenT f7 (fun i hi q => by unfold onB1 at q; omega)).thenT f8 (fun i hi q => by unfold onB1 at q; omega)
        refine bodyPost_ret (results_pp Try.results29 _ w8 g2 Z Z rfl b8 hZl.out hZl.out) rfl ⟨?_, F8⟩
        simp [he]
    · clear hc
      go_wp2_with (first
        | (with_reducible refine at_wpP ?_; refine at_ld 73 _ rfl ?_; go_must (refine wpList_ld2 rfl _ rfl g4 rfl _ _ hB l0.out l1.out ?_))
        | (with_reducible refine at_wpP ?_; refine at_st 73 _ _ rfl ?_; go_must (refine wpList_st2P rfl _ _ rfl g2 rfl _ _ Z Z rfl hC l0.out l1.out hZl.out hZl.out ?_; intro w8 b8 f8)))
      refine bodyPost_ret (results_pp Try.results29 _ w8 g2 _ _ rfl b8 l0.out l1.out) rfl ⟨?_, hf.thenT f8 (fun i hi q => by unfold onB1 at q; omega)⟩
      simp
end Go.Proofs.Ytijgfojnppcbjaa
