/- Texts VL of the proof of PruneCuts, one behind the other. -/
import Derived.Test.YtmkinaijkgkgiaaGreatBundlePruneCuts1
import Derived.Test.YtmkinaijkgkgiaaGreatBundlePruneCuts2
import Derived.Test.YtmkinaijkgkgiaaGreatBundlePruneCuts3
import Derived.Test.YtmkinaijkgkgiaaGreatBundlePruneCuts4
import Derived.Test.YtmkinaijkgkgiaaGreatBundlePruneCuts5
import Derived.Test.YtmkinaijkgkgiaaGreatBundlePruneCuts6
import Derived.Test.YtmkinaijkgkgiaaGreatBundlePruneCuts7
import Derived.Test.YtmkinaijkgkgiaaGreatBundlePruneCuts8
import Derived.Test.YtmkinaijkgkgiaaGreatBundlePruneCuts9
import Derived.Test.YtmkinaijkgkgiaaGreatBundlePruneCuts10
import Derived.Test.YtmkinaijkgkgiaaGreatBundlePruneCuts11
import Derived.Test.YtmkinaijkgkgiaaGreatBundlePruneCuts12
import Derived.Test.YtmkinaijkgkgiaaGreatBundlePruneCuts13
import Derived.Test.YtmkinaijkgkgiaaGreatBundlePruneCuts14
import Derived.Test.YtmkinaijkgkgiaaGreatBundlePruneCuts15
import Derived.Test.YtmkinaijkgkgiaaGreatBundlePruneCuts16
import Derived.Test.YtmkinaijkgkgiaaGreatBundlePruneCuts17
import Derived.Test.YtmkinaijkgkgiaaGreatBundlePruneCuts18
import Derived.Test.YtmkinaijkgkgiaaGreatBundlePruneCuts19
import Derived.Test.YtmkinaijkgkgiaaGreatBundlePruneCuts20
import Derived.Test.YtmkinaijkgkgiaaGreatBundlePruneCuts21
import Derived.Test.YtmkinaijkgkgiaaGreatBundlePruneCuts22
import Derived.Test.YtmkinaijkgkgiaaGreatBundlePruneCuts23
import Derived.Test.YtmkinaijkgkgiaaGreatBundlePruneCuts24
import Derived.Test.YtmkinaijkgkgiaaGreatBundlePruneCuts25
import Derived.Test.YtmkinaijkgkgiaaGreatBundlePruneCuts26
import Derived.Test.YtmkinaijkgkgiaaGreatBundlePruneCuts27
import Derived.Test.YtmkinaijkgkgiaaGreatBundlePruneCuts28
import Derived.Test.YtmkinaijkgkgiaaGreatBundlePruneCuts29
import Derived.Test.YtmkinaijkgkgiaaGreatBundlePruneCuts30
/- PruneCuts. (Written by vl_gen.py.) -/
namespace Go.Proofs.YtmkinaijkgkgiaaGreat
open Go.RowKit Go.Proofs.U Go.ChangeShapes Go.WideShapes Go.ChangeAt
set_option linter.unusedSimpArgs false
set_option linter.unusedVariables false
set_option maxRecDepth 100000 in
/-- Acts that came in. -/
theorem opened_cuts {H : Type} {enc : TypeId × Value → H} {W : World} {base : Nat} {v : Value} {d : DataW H} {p : List MemPlace} (hval : Value.okWide Tryz.prog W .any base 22 v)
    (h : DataW.Trod enc Tryz.prog W 0 (fun _ => true) true 22 v d p) : ∃ l, SlP .i64 .i64 W v l :=
  slP_of_trod Tryz.underlying22 Tryz.underlying33 (by kernel_rfl) rfl rfl (by kernel_rfl) (by kernel_rfl) Tryz.underlying3 Tryz.underlying3 hval h
theorem act_size11 : (Tryz.prog.info? 33).map (·.size) = some 2 := by kernel_rfl
theorem act_zero11 : (Tryz.prog.info? 33).map (·.zero) = some (some (.agg (pairC .i64 .i64 (0, 0)).toArray)) := by kernel_rfl
theorem act_under11 : Tryz.prog.underlying 33 = some (.struct (Tryz.prog.fieldsOf 33)) := by kernel_rfl
abbrev AkB (w : World) (g : Nat) (x : Int × Int) : Prop := BxV w g 33 (pairC .i64 .i64 x)
theorem AkB.all {w : World} {g : Nat} {x : Int × Int} (h : AkB w g x) : w.cell? ⟨g, 0, none⟩ = some (.int .i64 x.1) ∧ w.cell? ⟨g, 1, none⟩ = some (.int .i64 x.2) := ⟨(h.cell 0 _ rfl).1, (h.cell 1 _ rfl).1⟩
section
variable {w : World} {ops : Array Oper} {rest : List Oper} {o : Oper} {a : Act} {Q : Exit → Act → World → Prop}
theorem wpList_alAk (hgd : Region.wanted o (yielded ops a.tmps) = true) (ho : o.op = .alloc 33)
    (h : ∀ g w', Hid (g = w.heap.size) → AkB w' g (0, 0) → Fr noB w w' → w.heap.size ≤ g → wpList Tryz.prog ops Q rest (a.put o.dst (.pointer (some ⟨g, 0, none⟩))) w') : wpList Tryz.prog ops Q (o :: rest) a w :=
  wpList_allocV hgd _ ho _ act_zero11 h
theorem wpList_ldAk (hgd : o.guard = none) (y : Operand) (ho : o.op = .load 33 y) (b off : Nat) (hy : a.eval y = .pointer (some ⟨b, off, none⟩)) (x : Int × Int) (hc : ∀ q u, (pairC .i64 .i64 x)[q]? = some u → w.cell? ⟨b, off + q, none⟩ = some u)
    (h : wpList Tryz.prog ops Q rest (a.put o.dst (enV x)) w) : wpList Tryz.prog ops Q (o :: rest) a w :=
  wpList_load_mid hgd _ y ho b off hy (pairC .i64 .i64 x) _ (range_of fun j v hj => hc j v hj) act_under11 rfl act_size11 h
theorem wpList_stAk (hgd : o.guard = none) (y z : Operand) (ho : o.op = .store 33 y z) (g : Nat) (hy : a.eval y = .pointer (some ⟨g, 0, none⟩)) (x x' : Int × Int) (hB : AkB w g x) (hz : a.eval z = enV x')
    (h : ∀ w', AkB w' g x' → Fr (onB1 g) w w' → wpList Tryz.prog ops Q rest (a.put o.dst undef) w') : wpList Tryz.prog ops Q (o :: rest) a w := by
  refine wpList_storeV hgd _ y z ho g 0 hy (pairC .i64 .i64 x') hz _ (pairC .i64 .i64 x) hB act_size11 (Nat.le_refl _) (by intro v hv; simp [pairC] at hv; rcases hv with rfl | rfl <;> rfl) ?_
  intro w' h1 h2
  rw [putAt_all (pairC .i64 .i64 x) (pairC .i64 .i64 x') rfl] at h1
  exact h w' h1 h2
end
theorem findL_key {l : List (Int × Int)} {k : Int} (h : ¬ findL l k = -1) : ∃ z ∈ l, z.1 = k := by
  by_cases q : ∃ z ∈ l, z.1 = k
  · exact q
  · exact absurd (findL_none fun z hz e => q ⟨z, hz, e⟩) h
theorem findL_nokey {l : List (Int × Int)} {k : Int} (hp : ∀ z ∈ l, ¬ z.2 = -1) (h : findL l k = -1) : ∀ z ∈ l, ¬ z.1 = k := by
  intro z hz e
  unfold findL at h
  split at h
  · rename_i y hy
    exact hp y (List.mem_of_find?_eq_some hy) h
  · rename_i hy
    have := List.find?_eq_none.1 hy z hz
    simp at this
    exact this e
theorem hgt_le8 {X : DSt} {L : List Pg} {T : List Nat} {lv : Nat} {root : Int} {l : List (Int × Int)} (h : RtOk X L T lv root l) : hgtR root lv ≤ 8 := by
  unfold hgtR
  rcases h with ⟨e, _⟩ | ⟨_, _, hl, _⟩
  · rw [if_pos e]; omega
  · split <;> omega
set_option maxRecDepth 100000 in
set_option maxHeartbeats 40000000 in
theorem pcuts_walk (v : Value) (es : List (Int × Int)) (w : World) (hv : SlP .i64 .i64 w v es) :
    Calls Tryz.prog 3 #[v] w fun r w' => r = .returned (.bool true) ∧ Below w.heap.size w w' := by
  obtain ⟨a0, c0, rfl, hc0⟩ := hv.1.opn
  by_cases cc0 : (120 : Int) < (es.length : Int)
  · have d0 : decide ((120 : Int) < (es.length : Int)) = true := decide_eq_true cc0
    go_enter Tryz.func3, Tryz.ntmps3
    go_wp2_with (first
      | (go_at_call 6; go_must (refine (palive_any _).mono ?_; rintro e w0 ⟨rfl, f0⟩; have z0 := f0.size)))
    go_ret
    exact ⟨rfl, f0.below⟩
  · have d0 : decide ((120 : Int) < (es.length : Int)) = false := decide_eq_false cc0
    have hN : plN (sizeN 200) = 196 := by decide
    have hM := fun W => made_P 200 (by decide) W
    rw [hN] at hM
    clear hN
    go_enter Tryz.func3, Tryz.ntmps3
    go_wp2_with (first
      | (go_at_call 6; go_must (refine (palive_any _).mono ?_; rintro e w0 ⟨rfl, f0⟩; have z0 := f0.size))
      | (go_at_call 7; go_must (refine (hM _).mono ?_; rintro e w1 ⟨gs, gp, F, X, L, pg, rfl, st1, A1, B1⟩; have z1 := A1.fr.size))
      | (with_reducible refine at_wpP ?_; refine wpList_allocG rfl 28 rfl (.agg #[.pointer none]) [.pointer none] pr_zero rfl ?_; intro g2 w2 hg2 b2 f2 s2; have l2 := b2.lt; have z2 := f2.size)
      | (with_reducible refine at_wpP ?_; refine at_st 28 _ _ rfl ?_; go_must (refine wpList_stP rfl _ _ rfl g2 rfl gs rfl (.pointer none) b2 ?_; intro w3 b3 f3; have F3 := Fr.ownX f2 s2 f3; have z3 := f3.size; have l3 := b3.lt))
      | (with_reducible refine at_wpP ?_; refine wpList_mk0 enC 2 rfl 31 rfl 40 Tryz.underlying31 en_size ?_; intro g6 w6 o6 f6 s6 t6; have z6 := f6.size))
    have hgp := st1.ltp
    have hgs := st1.lts
    have hFt := st1.ft
    have D3 := (f0.thenN A1.fr).thenN F3
    have hnB : ∀ q, w1.heap.size ≤ q → ¬ stB F gp q := fun q hq s => by
      rcases s with s | s
      · have := hFt _ s; omega
      · omega
    have D6 := D3.thenN f6
    have st6 := (st1.fr0 F3).fr0 f6
    have b6 := b3.fr0 f6
    have hpgw : (Lit.int .i64 pg).wf = true := by
      have h1 := B1.iv.toT.root (r := pg) (by simp)
      have h2 := B1.iv.toT.low h1.2
      exact wfSm (by omega) (by omega)
    have hpg0 := B1.p0
    have hln0 := B1.ln
    have k0 := B1.kt
    clear B1
    go_loopw [38, 6, 7] (fun i r vw wr => ∃ (k : Nat) (Fk : Nat → Prop) (Xk : DSt) (Lk : List Pg) (lv : Nat) (root : Int) (l : List (Int × Int)) (d : Nat), k ≤ es.length ∧ i = .int .i64 (k : Int) ∧ r = .int .i64 root ∧ StT w6 wr F Fk gs gp (Xk, Lk) (1 + 20 * k) ∧ KT Xk Lk [pg] lv root l d 0 ∧ Hid (Lk.length = 196) ∧ l.length + 2 * d ≤ k ∧ OwnR enC 2 40 wr w3.heap.size vw l ∧ ∀ q, vw.ownBlock = some q → ¬ Fk q ∧ q ≠ gp) (fun i _ _ _ => es.length - (intOf i).toNat)
    case atStart =>
      refine ⟨0, F, X, L, 0, -1, [], 0, Nat.zero_le _, rfl, rfl, StT.start st6, k0, hln0, Nat.zero_le _, o6, fun q hq => ?_⟩
      have := (o6.newB q hq).1
      exact ⟨fun r => by have := hFt _ r; omega, by omega⟩
    case round =>
      clear k0 hln0
      obtain ⟨j, Fj, Xj, Lj, lv, root, l, d, hj, rfl, rfl, T, o, hln, hld, ow, hwF⟩ := hrel
      have zj := T.fr.size
      have D := D6.thenT T.fr (fun i hi q => by
        rcases q with q | q
        · have := A1.f _ q; omega
        · have := A1.p; omega)
      have hFj := T.st.ft
      have hgpj := T.st.ltp
      have bj := b6.fr T.fr (hnB _ s2)
      have hnFj : ∀ q, q < w3.heap.size → w1.heap.size ≤ q → ¬ stB Fj gp q := fun q h1 h2 s => by
        rcases s with s | s
        · rcases (T.ft _ s).1 with s | s
          · exact hnB q h2 (Or.inl s)
          · omega
        · omega
      by_cases hlt : j < es.length
      · have hSj := (hv.1).fr0 D
        obtain ⟨x, Hy⟩ : ∃ x, Hid (es[j] = x) := ⟨es[j], (rfl : es[j] = es[j])⟩
        have hlt' : (j : Int) < (es.length : Int) := by omega
        have hj119 : j ≤ 119 := by omega
        have hmj : 1 + 20 * j ≤ 60000 := by omega
        have hmj2 : 1 + 20 * j ≤ 100000 := by omega
        have hup := o.up
        have hocc := o.occ
        have hB1l : [pg].length = 1 := rfl
        have hwf : ∀ z ∈ l, (Lit.int .i64 z.1).wf = true ∧ (Lit.int .i64 z.2).wf = true := fun z hz => by
          have h1 := hup.2.1 z hz
          have h2 := o.pg z hz
          simp at h2
          exact ⟨wfSm (by omega) (by omega), by rw [h2]; exact hpgw⟩
        have hpgn : ∀ z ∈ l, ¬ z.2 = -1 := fun z hz => by
          have h2 := o.pg z hz
          simp at h2
          omega
        have hl64 := hup.2.2
        have hLL : Hid ((l == l) = true) := by show _ = _; simp
        have hnw := ow.newB
        obtain ⟨aw, cw, hve⟩ := ow.opn
        subst hve
        have hrr : (root == root) = true := by simp
        have hL1 := fun (F' : Nat → Prop) W (s : Sto W F' gs gp Xj Lj (1 + 20 * j)) => List_ok o.iv.toT hmj2 o.rk W s
        by_cases h0 : x.1 = 0
        · have e0 : (x.1 == 0) = true := by simpa using h0
          by_cases hx : 0 ≤ x.2 ∧ x.2 < 64
          · skip
            obtain ⟨X9, L9, p', lv', L10, hP, hp0, _, KS, _⟩ := o.put T.st.up hmj (x.2, pg) ⟨by show 0 ≤ x.2; omega, by show x.2 ≤ 63; omega⟩ (by simp) (by simp) (by omega) (by have := hln.out; omega)
            have hPut := fun W (h : Sto W Fj gs gp Xj Lj (1 + 20 * j)) => hP Fj gs gp W h
            obtain ⟨T9', I9, r9, _⟩ := KS.mid
            have hL2 := fun (F' : Nat → Prop) W (s : Sto W F' gs gp X9 L9 (1 + 20 * j + 20)) => List_ok I9 (by omega) r9 W s
            have o2 := KS.kt
            have hSw := KS.sw
            have hln2 : Hid (L10.length = 196) := show _ from KS.ln.trans hln.out
            have hhg := hgt_le8 o2.rk
            have hL3 := fun (F' : Nat → Prop) W (s : Sto W F' gs gp X9 L10 (1 + 20 * j + 20)) => List_ok o2.iv.toT (by omega) o2.rk W s
            have hHe := fun (F' : Nat → Prop) W (s : Sto W F' gs gp X9 L10 (1 + 20 * j + 20)) => Height_ok o2.iv.toT (by omega) o2.rk W s
            obtain ⟨hh, Hhh⟩ : ∃ h : Int, Hid (hgtR p' lv' = h) := ⟨_, rfl⟩
            rw [Hhh.out] at hHe hhg
            have d81 : decide ((8 : Int) < hh) = false := decide_eq_false (by omega)
            have hup2 := o2.up
            have hrp := fun W vv (h : SlR enC 2 W vv l) => refPut_any vv l (x.2, pg) W h ⟨by show 0 ≤ x.2; omega, by show x.2 ≤ 63; omega⟩ (by omega)
            have hle2 := putL_le l (x.2, pg)
            generalize putL l (x.2, pg) = l2 at *
            have hwf2 : ∀ z ∈ l2, (Lit.int .i64 z.1).wf = true ∧ (Lit.int .i64 z.2).wf = true := fun z hz => by
              have h1 := hup2.2.1 z hz
              have h2 := o2.pg z hz
              simp at h2
              exact ⟨wfSm (by omega) (by omega), by rw [h2]; exact hpgw⟩
            have hl264 := hup2.2.2
            have hLL2 : Hid ((l2 == l2) = true) := by show _ = _; simp
            have hne2 := o2.ne
            have Ho2 := show Hid _ from o2
            clear o2 KS I9 r9 hup2 hhg
            have hz1 : (p' == -1) = false := by simp; omega
            have hz2 : ¬ l2 = [] := fun e => by have := hne2.2 e; omega
            have hz3 : ((l2.length : Int) == 0) = false := by simpa using hz2
            go_upto_region 13 with (first
              | (with_reducible refine at_wpP ?_; refine at_idx 22 _ _ rfl ?_; go_must (refine wpList_idxR rfl 22 _ _ rfl 33 Tryz.underlying22 2 act_size11 _ _ _ rfl hSj (by decide) _ _ j rfl rfl hlt ?_; rw [Hy.out]; intro ba oa hba hca))
              | (with_reducible refine at_wpP ?_; refine at_ld 33 _ rfl ?_; have q := hca; go_must (refine wpList_ldAk rfl _ rfl ba oa rfl x hca ?_))
              | (with_reducible refine at_wpP ?_; refine wpList_alAk rfl rfl ?_; intro gl wa hgl ba' fa sl; have la := ba'.lt; have za := fa.size)
              | (with_reducible refine at_wpP ?_; refine at_st 33 _ _ rfl ?_; go_must (refine wpList_stAk rfl _ _ rfl gl rfl (0, 0) x ba' rfl ?_; intro w7 B7 f7; have F7 := Fr.ownX fa sl f7; have z7 := F7.size; have l7 := B7.lt; obtain ⟨k70, k71⟩ := B7.all; have b7 := bj.fr0 F7; have s7 := T.st.fr0 F7; have ow7 := ow.fr0 F7; have c7 := pr_cell b7)))
            go_upto_region 19 with (first
              | (with_reducible refine at_wpP ?_; refine at_ld 26 _ rfl ?_; have q := b7; go_must (refine wpList_ldPT rfl _ rfl g2 rfl gs b7 ?_))
              | (go_at_call 8; go_must (refine (hPut _ s7).mono ?_; rintro e w9 ⟨F9, rfl, T9⟩; have z9 := T9.fr.size)))
            have hgl9 : ¬ stB Fj gp gl := fun q => by
              rcases q with q | q
              · have := hFj _ q; omega
              · omega
            have b9 := b7.fr T9.fr (hnFj _ (by omega) s2)
            have B9 := B7.fr T9.fr hgl9
            obtain ⟨k90, k91⟩ := AkB.all B9
            have c9 := pr_cell b9
            have hF9 := T9.st.ft
            have ow9 := ow7.fr T9.fr (fun k hk q => by
              rcases q with q | q
              · exact (hwF k hk).1 q
              · exact (hwF k hk).2 q)
            have T9w := (T.fr0 F7).trans st6.ft T9
            have hwF9 : ∀ q, Value.ownBlock (.slice aw l.length cw) = some q → ¬ F9 q ∧ q ≠ gp := fun q hq => by
              have h1 := hwF q hq
              have h2 := hnw q hq
              exact ⟨fun r => by rcases (T9.ft q r).1 with r | r; exact h1.1 r; omega, h1.2⟩
            go_upto_region 20 with (first
              | (with_reducible refine at_wpP ?_; refine wpList_bldE rfl _ _ rfl _ _ rfl rfl ?_)
              | (go_at_call 9; go_must (refine (hrp _ _ ow9.sl).mono ?_; rintro e w11 ⟨uv, rfl, ovv, f11⟩; have z11 := f11.size)))
            go_upto_region 30 with (first
              | (with_reducible refine at_wpP ?_; refine at_ld 26 _ rfl ?_; have q := (b9.fr0 f11); go_must (refine wpList_ldPT rfl _ rfl g2 rfl gs (b9.fr0 f11) ?_))
              | (go_at_call 12; go_must (refine (hL2 _ _ (T9.st.fr0 f11)).mono ?_; rintro e w10 ⟨ub, rfl, ob, f10⟩; have z10 := f10.size)))
            obtain ⟨a10, c10, hub⟩ := ob.opn
            subst hub
            have ob10 := EnO.slp ob hwf
            obtain ⟨av, cv, huv⟩ := ovv.opn
            subst huv
            go_upto_region 35 with (first
              | (go_at_call 13; go_must (refine (same10_any _ _ _ _ _ ob10 (EnO.slp ((ow9.fr0 f11).fr0 f10) hwf) (by omega)).mono ?_; rw [hLL.out]; rintro e w12 ⟨rfl, f12⟩; have z12 := f12.size; have b12 := ((b9.fr0 f11).fr0 f10).fr0 f12; have s12 := ((T9.st.fr0 f11).fr0 f10).fr0 f12))
              | (with_reducible refine at_wpP ?_; refine at_ld 26 _ rfl ?_; have q := b12; go_must (refine wpList_ldPT rfl _ rfl g2 rfl gs b12 ?_))
              | (go_at_call 14; go_must (refine (hSw _ _ _ _ _ (by omega) s12).mono ?_; rintro e w13 ⟨rfl, s13, f13⟩; have z13 := f13.size)))
            have b13 := b12.ne f13 (by omega)
            have ov13 := ((ovv.fr0 f10).fr0 f12).fr f13 (fun k hk q => by have := (ovv.newB k hk).1; unfold onB1 at q; omega)
            go_upto_region 38 with (first
              | (with_reducible refine at_wpP ?_; refine at_ld 26 _ rfl ?_; have q := b13; go_must (refine wpList_ldPT rfl _ rfl g2 rfl gs b13 ?_))
              | (go_at_call 12; go_must (refine (hL3 _ _ s13).mono ?_; rintro e w14 ⟨uc, rfl, oc, f14⟩; have z14 := f14.size)))
            obtain ⟨ac, cc, huc⟩ := oc.opn
            subst huc
            go_upto_region 39 with (first
              | (with_reducible refine at_wpP ?_; refine at_ld 26 _ rfl ?_; have q := (b13.fr0 f14); go_must (refine wpList_ldPT rfl _ rfl g2 rfl gs (b13.fr0 f14) ?_))
              | (go_at_call 15; go_must (refine (hHe _ _ (s13.fr0 f14)).mono ?_; rintro e w16 ⟨rfl, f16⟩; have z16 := f16.size)))
            have F16 := f14.thenN f16
            have ov16 := ov13.fr0 F16
            have oc16 := EnO.slp (oc.fr0 f16) hwf2
            go_wp2_with (first
              | (go_at_call 13; go_must (refine (same10_any _ _ _ _ _ oc16 (EnO.slp ov16 hwf2) (by omega)).mono ?_; rw [hLL2.out]; rintro e w17 ⟨rfl, f17⟩; have z17 := f17.size)))
            go_roundw
            case rel =>
              refine ⟨j + 1, F9, X9, L10, lv', p', l2, d, by omega, by go_num, rfl, (((((((T9w.fr0 f11).fr0 f10).fr0 f12).pool f13 s13).fr0 F16).fr0 f17).mono (by omega)), Ho2.out, hln2, by omega, ((ov16.fr0 f17).rebase (by omega)), fun q hq => ?_⟩
              have h2 := ovv.newB q hq
              exact ⟨fun r => by have := hF9 _ r; omega, by omega⟩
            case measure => simp [intOf]; omega
          · skip
            have hPut := Put_no (F := Fj) (gs := gs) (gp := gp) (X := Xj) (L := Lj) (m := 1 + 20 * j) root x.2 pg (by omega)
            go_upto_region 13 with (first
              | (with_reducible refine at_wpP ?_; refine at_idx 22 _ _ rfl ?_; go_must (refine wpList_idxR rfl 22 _ _ rfl 33 Tryz.underlying22 2 act_size11 _ _ _ rfl hSj (by decide) _ _ j rfl rfl hlt ?_; rw [Hy.out]; intro ba oa hba hca))
              | (with_reducible refine at_wpP ?_; refine at_ld 33 _ rfl ?_; have q := hca; go_must (refine wpList_ldAk rfl _ rfl ba oa rfl x hca ?_))
              | (with_reducible refine at_wpP ?_; refine wpList_alAk rfl rfl ?_; intro gl wa hgl ba' fa sl; have la := ba'.lt; have za := fa.size)
              | (with_reducible refine at_wpP ?_; refine at_st 33 _ _ rfl ?_; go_must (refine wpList_stAk rfl _ _ rfl gl rfl (0, 0) x ba' rfl ?_; intro w7 B7 f7; have F7 := Fr.ownX fa sl f7; have z7 := F7.size; have l7 := B7.lt; obtain ⟨k70, k71⟩ := B7.all; have b7 := bj.fr0 F7; have s7 := T.st.fr0 F7; have ow7 := ow.fr0 F7; have c7 := pr_cell b7)))
            go_upto_region 19 with (first
              | (with_reducible refine at_wpP ?_; refine at_ld 26 _ rfl ?_; have q := b7; go_must (refine wpList_ldPT rfl _ rfl g2 rfl gs b7 ?_))
              | (go_at_call 8; go_must (refine (hPut _ s7).mono ?_; rintro e w9 ⟨F9, rfl, T9⟩; have z9 := T9.fr.size)))
            have hgl9 : ¬ stB Fj gp gl := fun q => by
              rcases q with q | q
              · have := hFj _ q; omega
              · omega
            have b9 := b7.fr T9.fr (hnFj _ (by omega) s2)
            have B9 := B7.fr T9.fr hgl9
            obtain ⟨k90, k91⟩ := AkB.all B9
            have c9 := pr_cell b9
            have hF9 := T9.st.ft
            have ow9 := ow7.fr T9.fr (fun k hk q => by
              rcases q with q | q
              · exact (hwF k hk).1 q
              · exact (hwF k hk).2 q)
            have T9w := (T.fr0 F7).trans st6.ft T9
            have hwF9 : ∀ q, Value.ownBlock (.slice aw l.length cw) = some q → ¬ F9 q ∧ q ≠ gp := fun q hq => by
              have h1 := hwF q hq
              have h2 := hnw q hq
              exact ⟨fun r => by rcases (T9.ft q r).1 with r | r; exact h1.1 r; omega, h1.2⟩
            go_upto_region 20 with (first
              | (with_reducible refine at_wpP ?_; refine wpList_bldE rfl _ _ rfl _ _ rfl rfl ?_)
              | (go_at_call 9; go_must (refine (refPut_no _ (x.2, pg) _ (by show x.2 < 0 ∨ 63 < x.2; omega)).mono ?_; rintro e w11 ⟨rfl, f11⟩; have z11 := f11.size)))
            go_upto_region 30 with (first
              | (with_reducible refine at_wpP ?_; refine at_ld 26 _ rfl ?_; have q := (b9.fr0 f11); go_must (refine wpList_ldPT rfl _ rfl g2 rfl gs (b9.fr0 f11) ?_))
              | (go_at_call 12; go_must (refine (hL1 _ _ (T9.st.fr0 f11)).mono ?_; rintro e w10 ⟨ub, rfl, ob, f10⟩; have z10 := f10.size)))
            obtain ⟨a10, c10, hub⟩ := ob.opn
            subst hub
            go_wp2_with (first
              | (go_at_call 13; go_must (refine (same10_any _ _ _ _ _ (EnO.slp ob hwf) (EnO.slp ((ow9.fr0 f11).fr0 f10) hwf) (by omega)).mono ?_; rw [hLL.out]; rintro e w12 ⟨rfl, f12⟩; have z12 := f12.size)))
            go_roundw
            case rel => exact ⟨j + 1, F9, Xj, Lj, lv, root, l, d, by omega, by go_num, rfl, ((((T9w.fr0 f11).fr0 f10).fr0 f12).mono (by omega)), o, hln, by omega, (((ow9.fr0 f11).fr0 f10).fr0 f12), hwF9⟩
            case measure => simp [intOf]; omega
        · have e0 : (x.1 == 0) = false := by simpa using h0
          by_cases h1 : x.1 = 1
          · have e1 : (x.1 == 1) = true := by simpa using h1
            by_cases hx1 : x.2 < 0
            · have k1 : decide (x.2 < (0 : Int)) = true := decide_eq_true hx1
              have hCut := fun W (s : Sto W Fj gs gp Xj Lj (1 + 20 * j)) => Cut_bad (F := Fj) (gs := gs) (gp := gp) (X := Xj) (L := Lj) (m := 1 + 20 * j) root x.2 (by omega) W s
              have hRC := fun W vv (h : SlR enC 2 W vv l) => refCut_any vv l x.2 W h (by omega)
              have hcn : decide ((cutL l x.2).length < l.length) = false := by
                rw [cutK_none fun z hz => by have := hup.2.1 z hz; omega]
                simp
              rw [hcn] at hRC
              clear hcn
              go_upto_region 13 with (first
                | (with_reducible refine at_wpP ?_; refine at_idx 22 _ _ rfl ?_; go_must (refine wpList_idxR rfl 22 _ _ rfl 33 Tryz.underlying22 2 act_size11 _ _ _ rfl hSj (by decide) _ _ j rfl rfl hlt ?_; rw [Hy.out]; intro ba oa hba hca))
                | (with_reducible refine at_wpP ?_; refine at_ld 33 _ rfl ?_; have q := hca; go_must (refine wpList_ldAk rfl _ rfl ba oa rfl x hca ?_))
                | (with_reducible refine at_wpP ?_; refine wpList_alAk rfl rfl ?_; intro gl wa hgl ba' fa sl; have la := ba'.lt; have za := fa.size)
                | (with_reducible refine at_wpP ?_; refine at_st 33 _ _ rfl ?_; go_must (refine wpList_stAk rfl _ _ rfl gl rfl (0, 0) x ba' rfl ?_; intro w7 B7 f7; have F7 := Fr.ownX fa sl f7; have z7 := F7.size; have l7 := B7.lt; obtain ⟨k70, k71⟩ := B7.all; have b7 := bj.fr0 F7; have s7 := T.st.fr0 F7; have ow7 := ow.fr0 F7; have c7 := pr_cell b7)))
              go_upto_region 23 with (first
                | (with_reducible refine at_wpP ?_; refine at_ld 28 _ rfl ?_; have q := b7; go_must (refine wpList_ldP rfl _ rfl g2 rfl gs b7 ?_))
                | (go_at_call 10; go_must (refine (hCut _ s7).mono ?_; rintro e w9 ⟨rfl, f9⟩; have z9 := f9.size)))
              have B9 := B7.fr0 f9
              obtain ⟨k90, k91⟩ := AkB.all B9
              go_upto_region 29 with (first
                | (go_at_call 11; have q := f9; go_must (refine (hRC _ _ (ow7.fr0 f9).sl).mono ?_; rintro e w11 ⟨uv, rfl, ovv, f11⟩; have z11 := f11.size; have B11 := B9.fr0 f11; obtain ⟨k110, k111⟩ := AkB.all B11)))
              obtain ⟨av, cv, huv⟩ := ovv.opn
              subst huv
              go_upto_region 30 with (first
                | (with_reducible refine at_wpP ?_; refine at_ld 26 _ rfl ?_; have q := ((b7.fr0 f9).fr0 f11); go_must (refine wpList_ldPT rfl _ rfl g2 rfl gs ((b7.fr0 f9).fr0 f11) ?_))
                | (go_at_call 12; go_must (refine (hL1 _ _ ((s7.fr0 f9).fr0 f11)).mono ?_; rintro e w10 ⟨ub, rfl, ob, f10⟩; have z10 := f10.size)))
              obtain ⟨a10, c10, hub⟩ := ob.opn
              subst hub
              go_wp2_with (first
                | (go_at_call 13; go_must (refine (same10_any _ _ _ _ _ (EnO.slp ob hwf) (EnO.slp (((ow7.fr0 f9).fr0 f11).fr0 f10) hwf) (by omega)).mono ?_; rw [hLL.out]; rintro e w12 ⟨rfl, f12⟩; have z12 := f12.size)))
              go_roundw
              case rel => exact ⟨j + 1, Fj, Xj, Lj, lv, root, l, d, by omega, by go_num, rfl, ((((((T.fr0 F7).fr0 f9).fr0 f11).fr0 f10).fr0 f12).mono (by omega)), o, hln, by omega, ((((ow7.fr0 f9).fr0 f11).fr0 f10).fr0 f12), hwF⟩
              case measure => simp [intOf]; omega
            · have k1 : decide (x.2 < (0 : Int)) = false := decide_eq_false hx1
              by_cases hx2 : 63 < x.2
              · have k2 : decide ((63 : Int) < x.2) = true := decide_eq_true hx2
                have hCut := fun W (s : Sto W Fj gs gp Xj Lj (1 + 20 * j)) => Cut_bad (F := Fj) (gs := gs) (gp := gp) (X := Xj) (L := Lj) (m := 1 + 20 * j) root x.2 (by omega) W s
                have hRC := fun W vv (h : SlR enC 2 W vv l) => refCut_any vv l x.2 W h (by omega)
                have hcn : decide ((cutL l x.2).length < l.length) = false := by
                  rw [cutK_none fun z hz => by have := hup.2.1 z hz; omega]
                  simp
                rw [hcn] at hRC
                clear hcn
                go_upto_region 13 with (first
                  | (with_reducible refine at_wpP ?_; refine at_idx 22 _ _ rfl ?_; go_must (refine wpList_idxR rfl 22 _ _ rfl 33 Tryz.underlying22 2 act_size11 _ _ _ rfl hSj (by decide) _ _ j rfl rfl hlt ?_; rw [Hy.out]; intro ba oa hba hca))
                  | (with_reducible refine at_wpP ?_; refine at_ld 33 _ rfl ?_; have q := hca; go_must (refine wpList_ldAk rfl _ rfl ba oa rfl x hca ?_))
                  | (with_reducible refine at_wpP ?_; refine wpList_alAk rfl rfl ?_; intro gl wa hgl ba' fa sl; have la := ba'.lt; have za := fa.size)
                  | (with_reducible refine at_wpP ?_; refine at_st 33 _ _ rfl ?_; go_must (refine wpList_stAk rfl _ _ rfl gl rfl (0, 0) x ba' rfl ?_; intro w7 B7 f7; have F7 := Fr.ownX fa sl f7; have z7 := F7.size; have l7 := B7.lt; obtain ⟨k70, k71⟩ := B7.all; have b7 := bj.fr0 F7; have s7 := T.st.fr0 F7; have ow7 := ow.fr0 F7; have c7 := pr_cell b7)))
                go_upto_region 23 with (first
                  | (with_reducible refine at_wpP ?_; refine at_ld 28 _ rfl ?_; have q := b7; go_must (refine wpList_ldP rfl _ rfl g2 rfl gs b7 ?_))
                  | (go_at_call 10; go_must (refine (hCut _ s7).mono ?_; rintro e w9 ⟨rfl, f9⟩; have z9 := f9.size)))
                have B9 := B7.fr0 f9
                obtain ⟨k90, k91⟩ := AkB.all B9
                go_upto_region 29 with (first
                  | (go_at_call 11; have q := f9; go_must (refine (hRC _ _ (ow7.fr0 f9).sl).mono ?_; rintro e w11 ⟨uv, rfl, ovv, f11⟩; have z11 := f11.size; have B11 := B9.fr0 f11; obtain ⟨k110, k111⟩ := AkB.all B11)))
                obtain ⟨av, cv, huv⟩ := ovv.opn
                subst huv
                go_upto_region 30 with (first
                  | (with_reducible refine at_wpP ?_; refine at_ld 26 _ rfl ?_; have q := ((b7.fr0 f9).fr0 f11); go_must (refine wpList_ldPT rfl _ rfl g2 rfl gs ((b7.fr0 f9).fr0 f11) ?_))
                  | (go_at_call 12; go_must (refine (hL1 _ _ ((s7.fr0 f9).fr0 f11)).mono ?_; rintro e w10 ⟨ub, rfl, ob, f10⟩; have z10 := f10.size)))
                obtain ⟨a10, c10, hub⟩ := ob.opn
                subst hub
                go_wp2_with (first
                  | (go_at_call 13; go_must (refine (same10_any _ _ _ _ _ (EnO.slp ob hwf) (EnO.slp (((ow7.fr0 f9).fr0 f11).fr0 f10) hwf) (by omega)).mono ?_; rw [hLL.out]; rintro e w12 ⟨rfl, f12⟩; have z12 := f12.size)))
                go_roundw
                case rel => exact ⟨j + 1, Fj, Xj, Lj, lv, root, l, d, by omega, by go_num, rfl, ((((((T.fr0 F7).fr0 f9).fr0 f11).fr0 f10).fr0 f12).mono (by omega)), o, hln, by omega, ((((ow7.fr0 f9).fr0 f11).fr0 f10).fr0 f12), hwF⟩
                case measure => simp [intOf]; omega
              · have k2 : decide ((63 : Int) < x.2) = false := decide_eq_false hx2
                by_cases hfn : findL l x.2 = -1
                · skip
                  have hCut := fun W (s : Sto W Fj gs gp Xj Lj (1 + 20 * j)) => Cut_not o.iv.toT hmj o.rk x.2 (by omega) hfn W s
                  have hRC := fun W vv (h : SlR enC 2 W vv l) => refCut_any vv l x.2 W h (by omega)
                  have hcn : decide ((cutL l x.2).length < l.length) = false := by
                    rw [cutK_none (findL_nokey hpgn hfn)]
                    simp
                  rw [hcn] at hRC
                  clear hcn hfn
                  go_upto_region 13 with (first
                    | (with_reducible refine at_wpP ?_; refine at_idx 22 _ _ rfl ?_; go_must (refine wpList_idxR rfl 22 _ _ rfl 33 Tryz.underlying22 2 act_size11 _ _ _ rfl hSj (by decide) _ _ j rfl rfl hlt ?_; rw [Hy.out]; intro ba oa hba hca))
                    | (with_reducible refine at_wpP ?_; refine at_ld 33 _ rfl ?_; have q := hca; go_must (refine wpList_ldAk rfl _ rfl ba oa rfl x hca ?_))
                    | (with_reducible refine at_wpP ?_; refine wpList_alAk rfl rfl ?_; intro gl wa hgl ba' fa sl; have la := ba'.lt; have za := fa.size)
                    | (with_reducible refine at_wpP ?_; refine at_st 33 _ _ rfl ?_; go_must (refine wpList_stAk rfl _ _ rfl gl rfl (0, 0) x ba' rfl ?_; intro w7 B7 f7; have F7 := Fr.ownX fa sl f7; have z7 := F7.size; have l7 := B7.lt; obtain ⟨k70, k71⟩ := B7.all; have b7 := bj.fr0 F7; have s7 := T.st.fr0 F7; have ow7 := ow.fr0 F7; have c7 := pr_cell b7)))
                  go_upto_region 23 with (first
                    | (with_reducible refine at_wpP ?_; refine at_ld 28 _ rfl ?_; have q := b7; go_must (refine wpList_ldP rfl _ rfl g2 rfl gs b7 ?_))
                    | (go_at_call 10; go_must (refine (hCut _ s7).mono ?_; rintro e w9 ⟨rfl, f9⟩; have z9 := f9.size)))
                  have B9 := B7.fr0 f9
                  obtain ⟨k90, k91⟩ := AkB.all B9
                  go_upto_region 29 with (first
                    | (go_at_call 11; have q := f9; go_must (refine (hRC _ _ (ow7.fr0 f9).sl).mono ?_; rintro e w11 ⟨uv, rfl, ovv, f11⟩; have z11 := f11.size; have B11 := B9.fr0 f11; obtain ⟨k110, k111⟩ := AkB.all B11)))
                  obtain ⟨av, cv, huv⟩ := ovv.opn
                  subst huv
                  go_upto_region 30 with (first
                    | (with_reducible refine at_wpP ?_; refine at_ld 26 _ rfl ?_; have q := ((b7.fr0 f9).fr0 f11); go_must (refine wpList_ldPT rfl _ rfl g2 rfl gs ((b7.fr0 f9).fr0 f11) ?_))
                    | (go_at_call 12; go_must (refine (hL1 _ _ ((s7.fr0 f9).fr0 f11)).mono ?_; rintro e w10 ⟨ub, rfl, ob, f10⟩; have z10 := f10.size)))
                  obtain ⟨a10, c10, hub⟩ := ob.opn
                  subst hub
                  go_wp2_with (first
                    | (go_at_call 13; go_must (refine (same10_any _ _ _ _ _ (EnO.slp ob hwf) (EnO.slp (((ow7.fr0 f9).fr0 f11).fr0 f10) hwf) (by omega)).mono ?_; rw [hLL.out]; rintro e w12 ⟨rfl, f12⟩; have z12 := f12.size)))
                  go_roundw
                  case rel => exact ⟨j + 1, Fj, Xj, Lj, lv, root, l, d, by omega, by go_num, rfl, ((((((T.fr0 F7).fr0 f9).fr0 f11).fr0 f10).fr0 f12).mono (by omega)), o, hln, by omega, ((((ow7.fr0 f9).fr0 f11).fr0 f10).fr0 f12), hwF⟩
                  case measure => simp [intOf]; omega
                · skip
                  obtain ⟨X9, L9, p', lv', L10, hP, KS, _⟩ := o.cut T.st.up hmj x.2 ⟨by omega, by omega⟩ hfn (by simp) (by omega) (by have := hln.out; omega)
                  have hCut := fun W (h : Sto W Fj gs gp Xj Lj (1 + 20 * j)) => hP Fj gs gp W h
                  obtain ⟨T9', I9, r9, _⟩ := KS.mid
                  have hL2 := fun (F' : Nat → Prop) W (s : Sto W F' gs gp X9 L9 (1 + 20 * j + 20)) => List_ok I9 (by omega) r9 W s
                  have o2 := KS.kt
                  have hSw := KS.sw
                  have hln2 : Hid (L10.length = 196) := show _ from KS.ln.trans hln.out
                  have hhg := hgt_le8 o2.rk
                  have hL3 := fun (F' : Nat → Prop) W (s : Sto W F' gs gp X9 L10 (1 + 20 * j + 20)) => List_ok o2.iv.toT (by omega) o2.rk W s
                  have hHe := fun (F' : Nat → Prop) W (s : Sto W F' gs gp X9 L10 (1 + 20 * j + 20)) => Height_ok o2.iv.toT (by omega) o2.rk W s
                  obtain ⟨hh, Hhh⟩ : ∃ h : Int, Hid (hgtR p' lv' = h) := ⟨_, rfl⟩
                  rw [Hhh.out] at hHe hhg
                  have d81 : decide ((8 : Int) < hh) = false := decide_eq_false (by omega)
                  have hup2 := o2.up
                  have hRC := fun W vv (h : SlR enC 2 W vv l) => refCut_any vv l x.2 W h (by omega)
                  have hle2 := cutL_lt (findL_key hfn)
                  rw [decide_eq_true hle2] at hRC
                  generalize cutL l x.2 = l2 at *
                  have hwf2 : ∀ z ∈ l2, (Lit.int .i64 z.1).wf = true ∧ (Lit.int .i64 z.2).wf = true := fun z hz => by
                    have h1 := hup2.2.1 z hz
                    have h2 := o2.pg z hz
                    simp at h2
                    exact ⟨wfSm (by omega) (by omega), by rw [h2]; exact hpgw⟩
                  have hl264 := hup2.2.2
                  have hLL2 : Hid ((l2 == l2) = true) := by show _ = _; simp
                  have hne2 := o2.ne
                  have Ho2 := show Hid _ from o2
                  clear o2 KS I9 r9 hup2 hhg
                  by_cases hz : p' = -1
                  · obtain rfl := hz
                    obtain rfl := hne2.1 rfl
                    go_upto_region 13 with (first
                      | (with_reducible refine at_wpP ?_; refine at_idx 22 _ _ rfl ?_; go_must (refine wpList_idxR rfl 22 _ _ rfl 33 Tryz.underlying22 2 act_size11 _ _ _ rfl hSj (by decide) _ _ j rfl rfl hlt ?_; rw [Hy.out]; intro ba oa hba hca))
                      | (with_reducible refine at_wpP ?_; refine at_ld 33 _ rfl ?_; have q := hca; go_must (refine wpList_ldAk rfl _ rfl ba oa rfl x hca ?_))
                      | (with_reducible refine at_wpP ?_; refine wpList_alAk rfl rfl ?_; intro gl wa hgl ba' fa sl; have la := ba'.lt; have za := fa.size)
                      | (with_reducible refine at_wpP ?_; refine at_st 33 _ _ rfl ?_; go_must (refine wpList_stAk rfl _ _ rfl gl rfl (0, 0) x ba' rfl ?_; intro w7 B7 f7; have F7 := Fr.ownX fa sl f7; have z7 := F7.size; have l7 := B7.lt; obtain ⟨k70, k71⟩ := B7.all; have b7 := bj.fr0 F7; have s7 := T.st.fr0 F7; have ow7 := ow.fr0 F7; have c7 := pr_cell b7)))
                    go_upto_region 23 with (first
                      | (with_reducible refine at_wpP ?_; refine at_ld 28 _ rfl ?_; have q := b7; go_must (refine wpList_ldP rfl _ rfl g2 rfl gs b7 ?_))
                      | (go_at_call 10; go_must (refine (hCut _ s7).mono ?_; rintro e w9 ⟨F9, rfl, T9⟩; have z9 := T9.fr.size)))
                    have hgl9 : ¬ stB Fj gp gl := fun q => by
                      rcases q with q | q
                      · have := hFj _ q; omega
                      · omega
                    have b9 := b7.fr T9.fr (hnFj _ (by omega) s2)
                    have B9 := B7.fr T9.fr hgl9
                    obtain ⟨k90, k91⟩ := AkB.all B9
                    have c9 := pr_cell b9
                    have hF9 := T9.st.ft
                    have ow9 := ow7.fr T9.fr (fun k hk q => by
                      rcases q with q | q
                      · exact (hwF k hk).1 q
                      · exact (hwF k hk).2 q)
                    have T9w := (T.fr0 F7).trans st6.ft T9
                    have hwF9 : ∀ q, Value.ownBlock (.slice aw l.length cw) = some q → ¬ F9 q ∧ q ≠ gp := fun q hq => by
                      have h1 := hwF q hq
                      have h2 := hnw q hq
                      exact ⟨fun r => by rcases (T9.ft q r).1 with r | r; exact h1.1 r; omega, h1.2⟩
                    go_upto_region 29 with (first
                      | (go_at_call 11; have q := T9; go_must (refine (hRC _ _ ow9.sl).mono ?_; rintro e w11 ⟨uv, rfl, ovv, f11⟩; have z11 := f11.size; have B11 := B9.fr0 f11; obtain ⟨k110, k111⟩ := AkB.all B11)))
                    go_upto_region 30 with (first
                      | (with_reducible refine at_wpP ?_; refine at_ld 26 _ rfl ?_; have q := (b9.fr0 f11); go_must (refine wpList_ldPT rfl _ rfl g2 rfl gs (b9.fr0 f11) ?_))
                      | (go_at_call 12; go_must (refine (hL2 _ _ (T9.st.fr0 f11)).mono ?_; rintro e w10 ⟨ub, rfl, ob, f10⟩; have z10 := f10.size)))
                    obtain ⟨a10, c10, hub⟩ := ob.opn
                    subst hub
                    have ob10 := EnO.slp ob hwf
                    obtain ⟨av, cv, huv⟩ := ovv.opn
                    subst huv
                    go_upto_region 35 with (first
                      | (go_at_call 13; go_must (refine (same10_any _ _ _ _ _ ob10 (EnO.slp ((ow9.fr0 f11).fr0 f10) hwf) (by omega)).mono ?_; rw [hLL.out]; rintro e w12 ⟨rfl, f12⟩; have z12 := f12.size; have b12 := ((b9.fr0 f11).fr0 f10).fr0 f12; have s12 := ((T9.st.fr0 f11).fr0 f10).fr0 f12))
                      | (with_reducible refine at_wpP ?_; refine at_ld 26 _ rfl ?_; have q := b12; go_must (refine wpList_ldPT rfl _ rfl g2 rfl gs b12 ?_))
                      | (go_at_call 14; go_must (refine (hSw _ _ _ _ _ (by omega) s12).mono ?_; rintro e w13 ⟨rfl, s13, f13⟩; have z13 := f13.size)))
                    have b13 := b12.ne f13 (by omega)
                    have ov13 := ((ovv.fr0 f10).fr0 f12).fr f13 (fun k hk q => by have := (ovv.newB k hk).1; unfold onB1 at q; omega)
                    go_upto_region 38 with (first
                      | (with_reducible refine at_wpP ?_; refine at_ld 26 _ rfl ?_; have q := b13; go_must (refine wpList_ldPT rfl _ rfl g2 rfl gs b13 ?_))
                      | (go_at_call 12; go_must (refine (hL3 _ _ s13).mono ?_; rintro e w14 ⟨uc, rfl, oc, f14⟩; have z14 := f14.size)))
                    obtain ⟨ac, cc, huc⟩ := oc.opn
                    subst huc
                    go_upto_region 39 with (first
                      | (with_reducible refine at_wpP ?_; refine at_ld 26 _ rfl ?_; have q := (b13.fr0 f14); go_must (refine wpList_ldPT rfl _ rfl g2 rfl gs (b13.fr0 f14) ?_))
                      | (go_at_call 15; go_must (refine (hHe _ _ (s13.fr0 f14)).mono ?_; rintro e w16 ⟨rfl, f16⟩; have z16 := f16.size)))
                    have F16 := f14.thenN f16
                    have ov16 := ov13.fr0 F16
                    have oc16 := EnO.slp (oc.fr0 f16) hwf2
                    go_wp2_with (first
                      | (go_at_call 13; go_must (refine (same10_any _ _ _ _ _ oc16 (EnO.slp ov16 hwf2) (by omega)).mono ?_; rw [hLL2.out]; rintro e w17 ⟨rfl, f17⟩; have z17 := f17.size)))
                    go_roundw
                    case rel =>
                      refine ⟨j + 1, F9, X9, L10, lv', -1, [], d + 1, by omega, by go_num, rfl, (((((((T9w.fr0 f11).fr0 f10).fr0 f12).pool f13 s13).fr0 F16).fr0 f17).mono (by omega)), Ho2.out, hln2, by omega, ((ov16.fr0 f17).rebase (by omega)), fun q hq => ?_⟩
                      have h2 := ovv.newB q hq
                      exact ⟨fun r => by have := hF9 _ r; omega, by omega⟩
                    case measure => simp [intOf]; omega
                  · have hz1 : (p' == -1) = false := by simpa using hz
                    have hz2 : ¬ l2 = [] := fun e => hz (hne2.2 e)
                    have hz3 : ((l2.length : Int) == 0) = false := by simpa using hz2
                    go_upto_region 13 with (first
                      | (with_reducible refine at_wpP ?_; refine at_idx 22 _ _ rfl ?_; go_must (refine wpList_idxR rfl 22 _ _ rfl 33 Tryz.underlying22 2 act_size11 _ _ _ rfl hSj (by decide) _ _ j rfl rfl hlt ?_; rw [Hy.out]; intro ba oa hba hca))
                      | (with_reducible refine at_wpP ?_; refine at_ld 33 _ rfl ?_; have q := hca; go_must (refine wpList_ldAk rfl _ rfl ba oa rfl x hca ?_))
                      | (with_reducible refine at_wpP ?_; refine wpList_alAk rfl rfl ?_; intro gl wa hgl ba' fa sl; have la := ba'.lt; have za := fa.size)
                      | (with_reducible refine at_wpP ?_; refine at_st 33 _ _ rfl ?_; go_must (refine wpList_stAk rfl _ _ rfl gl rfl (0, 0) x ba' rfl ?_; intro w7 B7 f7; have F7 := Fr.ownX fa sl f7; have z7 := F7.size; have l7 := B7.lt; obtain ⟨k70, k71⟩ := B7.all; have b7 := bj.fr0 F7; have s7 := T.st.fr0 F7; have ow7 := ow.fr0 F7; have c7 := pr_cell b7)))
                    go_upto_region 23 with (first
                      | (with_reducible refine at_wpP ?_; refine at_ld 28 _ rfl ?_; have q := b7; go_must (refine wpList_ldP rfl _ rfl g2 rfl gs b7 ?_))
                      | (go_at_call 10; go_must (refine (hCut _ s7).mono ?_; rintro e w9 ⟨F9, rfl, T9⟩; have z9 := T9.fr.size)))
                    have hgl9 : ¬ stB Fj gp gl := fun q => by
                      rcases q with q | q
                      · have := hFj _ q; omega
                      · omega
                    have b9 := b7.fr T9.fr (hnFj _ (by omega) s2)
                    have B9 := B7.fr T9.fr hgl9
                    obtain ⟨k90, k91⟩ := AkB.all B9
                    have c9 := pr_cell b9
                    have hF9 := T9.st.ft
                    have ow9 := ow7.fr T9.fr (fun k hk q => by
                      rcases q with q | q
                      · exact (hwF k hk).1 q
                      · exact (hwF k hk).2 q)
                    have T9w := (T.fr0 F7).trans st6.ft T9
                    have hwF9 : ∀ q, Value.ownBlock (.slice aw l.length cw) = some q → ¬ F9 q ∧ q ≠ gp := fun q hq => by
                      have h1 := hwF q hq
                      have h2 := hnw q hq
                      exact ⟨fun r => by rcases (T9.ft q r).1 with r | r; exact h1.1 r; omega, h1.2⟩
                    go_upto_region 29 with (first
                      | (go_at_call 11; have q := T9; go_must (refine (hRC _ _ ow9.sl).mono ?_; rintro e w11 ⟨uv, rfl, ovv, f11⟩; have z11 := f11.size; have B11 := B9.fr0 f11; obtain ⟨k110, k111⟩ := AkB.all B11)))
                    go_upto_region 30 with (first
                      | (with_reducible refine at_wpP ?_; refine at_ld 26 _ rfl ?_; have q := (b9.fr0 f11); go_must (refine wpList_ldPT rfl _ rfl g2 rfl gs (b9.fr0 f11) ?_))
                      | (go_at_call 12; go_must (refine (hL2 _ _ (T9.st.fr0 f11)).mono ?_; rintro e w10 ⟨ub, rfl, ob, f10⟩; have z10 := f10.size)))
                    obtain ⟨a10, c10, hub⟩ := ob.opn
                    subst hub
                    have ob10 := EnO.slp ob hwf
                    obtain ⟨av, cv, huv⟩ := ovv.opn
                    subst huv
                    go_upto_region 35 with (first
                      | (go_at_call 13; go_must (refine (same10_any _ _ _ _ _ ob10 (EnO.slp ((ow9.fr0 f11).fr0 f10) hwf) (by omega)).mono ?_; rw [hLL.out]; rintro e w12 ⟨rfl, f12⟩; have z12 := f12.size; have b12 := ((b9.fr0 f11).fr0 f10).fr0 f12; have s12 := ((T9.st.fr0 f11).fr0 f10).fr0 f12))
                      | (with_reducible refine at_wpP ?_; refine at_ld 26 _ rfl ?_; have q := b12; go_must (refine wpList_ldPT rfl _ rfl g2 rfl gs b12 ?_))
                      | (go_at_call 14; go_must (refine (hSw _ _ _ _ _ (by omega) s12).mono ?_; rintro e w13 ⟨rfl, s13, f13⟩; have z13 := f13.size)))
                    have b13 := b12.ne f13 (by omega)
                    have ov13 := ((ovv.fr0 f10).fr0 f12).fr f13 (fun k hk q => by have := (ovv.newB k hk).1; unfold onB1 at q; omega)
                    go_upto_region 38 with (first
                      | (with_reducible refine at_wpP ?_; refine at_ld 26 _ rfl ?_; have q := b13; go_must (refine wpList_ldPT rfl _ rfl g2 rfl gs b13 ?_))
                      | (go_at_call 12; go_must (refine (hL3 _ _ s13).mono ?_; rintro e w14 ⟨uc, rfl, oc, f14⟩; have z14 := f14.size)))
                    obtain ⟨ac, cc, huc⟩ := oc.opn
                    subst huc
                    go_upto_region 39 with (first
                      | (with_reducible refine at_wpP ?_; refine at_ld 26 _ rfl ?_; have q := (b13.fr0 f14); go_must (refine wpList_ldPT rfl _ rfl g2 rfl gs (b13.fr0 f14) ?_))
                      | (go_at_call 15; go_must (refine (hHe _ _ (s13.fr0 f14)).mono ?_; rintro e w16 ⟨rfl, f16⟩; have z16 := f16.size)))
                    have F16 := f14.thenN f16
                    have ov16 := ov13.fr0 F16
                    have oc16 := EnO.slp (oc.fr0 f16) hwf2
                    go_wp2_with (first
                      | (go_at_call 13; go_must (refine (same10_any _ _ _ _ _ oc16 (EnO.slp ov16 hwf2) (by omega)).mono ?_; rw [hLL2.out]; rintro e w17 ⟨rfl, f17⟩; have z17 := f17.size)))
                    go_roundw
                    case rel =>
                      refine ⟨j + 1, F9, X9, L10, lv', p', l2, d + 1, by omega, by go_num, rfl, (((((((T9w.fr0 f11).fr0 f10).fr0 f12).pool f13 s13).fr0 F16).fr0 f17).mono (by omega)), Ho2.out, hln2, by omega, ((ov16.fr0 f17).rebase (by omega)), fun q hq => ?_⟩
                      have h2 := ovv.newB q hq
                      exact ⟨fun r => by have := hF9 _ r; omega, by omega⟩
                    case measure => simp [intOf]; omega
          · have e1 : (x.1 == 1) = false := by simpa using h1
            go_upto_region 13 with (first
              | (with_reducible refine at_wpP ?_; refine at_idx 22 _ _ rfl ?_; go_must (refine wpList_idxR rfl 22 _ _ rfl 33 Tryz.underlying22 2 act_size11 _ _ _ rfl hSj (by decide) _ _ j rfl rfl hlt ?_; rw [Hy.out]; intro ba oa hba hca))
              | (with_reducible refine at_wpP ?_; refine at_ld 33 _ rfl ?_; have q := hca; go_must (refine wpList_ldAk rfl _ rfl ba oa rfl x hca ?_))
              | (with_reducible refine at_wpP ?_; refine wpList_alAk rfl rfl ?_; intro gl wa hgl ba' fa sl; have la := ba'.lt; have za := fa.size)
              | (with_reducible refine at_wpP ?_; refine at_st 33 _ _ rfl ?_; go_must (refine wpList_stAk rfl _ _ rfl gl rfl (0, 0) x ba' rfl ?_; intro w7 B7 f7; have F7 := Fr.ownX fa sl f7; have z7 := F7.size; have l7 := B7.lt; obtain ⟨k70, k71⟩ := B7.all; have b7 := bj.fr0 F7; have s7 := T.st.fr0 F7; have ow7 := ow.fr0 F7; have c7 := pr_cell b7)))
            go_upto_region 30 with (first
              | (with_reducible refine at_wpP ?_; refine at_ld 26 _ rfl ?_; have q := b7; go_must (refine wpList_ldPT rfl _ rfl g2 rfl gs b7 ?_))
              | (go_at_call 12; go_must (refine (hL1 _ _ s7).mono ?_; rintro e w10 ⟨ub, rfl, ob, f10⟩; have z10 := f10.size)))
            obtain ⟨a10, c10, hub⟩ := ob.opn
            subst hub
            go_wp2_with (first
              | (go_at_call 13; go_must (refine (same10_any _ _ _ _ _ (EnO.slp ob hwf) (EnO.slp (ow7.fr0 f10) hwf) (by omega)).mono ?_; rw [hLL.out]; rintro e w12 ⟨rfl, f12⟩; have z12 := f12.size)))
            go_roundw
            case rel => exact ⟨j + 1, Fj, Xj, Lj, lv, root, l, d, by omega, by go_num, rfl, ((((T.fr0 F7).fr0 f10).fr0 f12).mono (by omega)), o, hln, by omega, ((ow7.fr0 f10).fr0 f12), hwF⟩
            case measure => simp [intOf]; omega
      · obtain rfl : j = es.length := by omega
        go_wp2_with (first
          | (with_reducible refine at_wpP ?_; refine at_ld 28 _ rfl ?_; have q := bj; go_must (refine wpList_ldP rfl _ rfl g2 rfl gs bj ?_))
          | (go_at_call 16; go_must (refine (exact_P o (by omega) _ T.st).mono ?_; rintro e w20 ⟨rfl, f20⟩)))
        go_ret
        exact ⟨rfl, (D.thenT f20 (fun i hi q => by unfold onB1 at q; have := A1.p; omega)).below⟩
end Go.Proofs.YtmkinaijkgkgiaaGreat
