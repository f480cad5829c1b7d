/- Texts TI of the proof of TreePuts, one behind the other. -/
import Derived.Test.YtkhdniccnefdhaaGreatBundleTreePuts1
import Derived.Test.YtkhdniccnefdhaaGreatBundleTreePuts2
import Derived.Test.YtkhdniccnefdhaaGreatBundleTreePuts3
import Derived.Test.YtkhdniccnefdhaaGreatBundleTreePuts4
import Derived.Test.YtkhdniccnefdhaaGreatBundleTreePuts5
import Derived.Test.YtkhdniccnefdhaaGreatBundleTreePuts6
import Derived.Test.YtkhdniccnefdhaaGreatBundleTreePuts7
import Derived.Test.YtkhdniccnefdhaaGreatBundleTreePuts8
import Derived.Test.YtkhdniccnefdhaaGreatBundleTreePuts9
import Derived.Test.YtkhdniccnefdhaaGreatBundleTreePuts10
import Derived.Test.YtkhdniccnefdhaaGreatBundleTreePuts11
import Derived.Test.YtkhdniccnefdhaaGreatBundleTreePuts12
import Derived.Test.YtkhdniccnefdhaaGreatBundleTreePuts13
import Derived.Test.YtkhdniccnefdhaaGreatBundleTreePuts14
import Derived.Test.YtkhdniccnefdhaaGreatBundleTreePuts15
import Derived.Test.YtkhdniccnefdhaaGreatBundleTreePuts16
import Derived.Test.YtkhdniccnefdhaaGreatBundleTreePuts17
import Derived.Test.YtkhdniccnefdhaaGreatBundleTreePuts18
import Derived.Test.YtkhdniccnefdhaaGreatBundleTreePuts19
import Derived.Test.YtkhdniccnefdhaaGreatBundleTreePuts20
import Derived.Test.YtkhdniccnefdhaaGreatBundleTreePuts21
import Derived.Test.YtkhdniccnefdhaaGreatBundleTreePuts22
import Derived.Test.YtkhdniccnefdhaaGreatBundleTreePuts23
/- TreePuts. (Written by ti_gen.py.) -/
namespace Go.Proofs.YtkhdniccnefdhaaGreat
open Go.RowKit Go.Proofs.U Go.ChangeShapes Go.WideShapes Go.ChangeAt
set_option linter.unusedSimpArgs false
set_option linter.unusedVariables false
set_option maxRecDepth 100000 in
/-- Entries that came in. -/
theorem opened_ents {H : Type} {enc : TypeId × Value → H} {W : World} {base : Nat} {v : Value} {d : DataW H} {p : List MemPlace} (hval : Value.okWide Tryz.prog W .any base 22 v)
    (h : DataW.Trod enc Tryz.prog W 0 (fun _ => true) true 22 v d p) : ∃ l, SlP .i64 .i64 W v l :=
  slP_of_trod Tryz.underlying22 Tryz.underlying33 (by kernel_rfl) rfl rfl (by kernel_rfl) (by kernel_rfl) Tryz.underlying3 Tryz.underlying3 hval h
theorem en_two {x : Int × Int} : 1 < (enC x).length := Nat.lt_succ_self 1
theorem en_set {w : World} {g : Nat} {x : Int × Int} {p : Int} (h : BxV w g 33 ((enC x).set 1 (.int .i64 p))) : EnB w g (x.1, p) := h
theorem slI_1 {k : IntKind} {w : World} {v : Value} {l : List Int} (h : SlI k w v l) : Sl w 1 v l.length (l.map (Value.int k)) := h.1
/-- An elder tree behind a put. -/
theorem OneT.elder {X X' : DSt} {L L' : List Pg} {B : List Int} {O : List (Nat × Int)} {lv : Nat} {root : Int} {l l' : List (Int × Int)} {p' : Int} (o : OneT X L B O lv root l) {h : Nat} (r : PutR X L (rtsB (B ++ O.map (·.2)) root) [] Q2 h l' X' L' p' 0) : InvT X' L' (rtsB (B ++ O.map (·.2)) root) [p'.toNat] ∧ RtAt X' L' [p'.toNat] Q2 lv root l := by
  obtain ⟨lv', _, iv, t⟩ := r.ys rfl
  refine ⟨iv, ?_⟩
  rcases o.rt with ⟨h1, h2⟩ | ⟨h0, hp, h8, t⟩
  · exact Or.inl ⟨h1, h2⟩
  · refine Or.inr ⟨h0, ?_, h8, t.ext o.iv.toT r.ext h0 hp⟩
    have h1 := r.ext.kp root.toNat (o.iv.toT.live hp).1
    have h2 : 0 < cntL L root.toNat := by rwa [cntT_nil] at hp
    unfold cntT
    omega
set_option maxRecDepth 100000 in
set_option maxHeartbeats 16000000 in
theorem tputs_walk (v : Value) (es : List (Int × Int)) (key : Int) (w : World) (hv : SlP .i64 .i64 w v es) (hkw : (Lit.int .i64 key).wf = true) :
    Calls Tryz.prog 3 #[v, .int .i64 key] w fun r w' => r = .returned (.bool true) ∧ Below w.heap.size w w' := by
  obtain ⟨a0, c0, rfl, hc0⟩ := hv.1.opn
  by_cases cc0 : (70 : Int) < (es.length : Int)
  · have d0 : decide ((70 : Int) < (es.length : Int)) = true := decide_eq_true cc0
    go_enter Tryz.func3, Tryz.ntmps3
    go_wp2_with (first
      | (go_at_call 5; go_must (refine (talive_any _).mono ?_; rintro e w0 ⟨rfl, f0⟩; have z0 := f0.size)))
    go_ret
    exact ⟨rfl, f0.below⟩
  · have d0 : decide ((70 : Int) < (es.length : Int)) = false := decide_eq_false cc0
    have hM := fun W => made_T 244 (by decide) W
    go_enter Tryz.func3, Tryz.ntmps3
    go_wp2_with (first
      | (go_at_call 5; go_must (refine (talive_any _).mono ?_; rintro e w0 ⟨rfl, f0⟩; have z0 := f0.size))
      | (go_at_call 6; go_must (refine (hM _).mono ?_; rintro e w1 ⟨gs, gp, F, X, L, pg, rfl, st1, A1, B1⟩; have z1 := A1.fr.size))
      | (with_reducible refine at_wpP ?_; refine wpList_allocG rfl 26 rfl (.agg #[.pointer none]) [.pointer none] tr_zero rfl ?_; intro g2 w2 hg2 b2 f2 s2; have l2 := b2.lt; have z2 := f2.size)
      | (with_reducible refine at_wpP ?_; refine at_st 26 _ _ rfl ?_; go_must (refine wpList_stT rfl _ _ rfl g2 rfl gs rfl (.pointer none) b2 ?_; intro w3 b3 f3; have F3 := Fr.ownX f2 s2 f3; have z3 := f3.size))
      | (with_reducible refine at_wpP ?_; refine at_ld 26 _ rfl ?_; have q := b3; go_must (refine wpList_ldT rfl _ rfl g2 rfl gs b3 ?_))
      | (go_at_call 7; go_must (refine (pages_T _ (st1.fr0 F3) (by decide) (Bks.base B1) (by simp only [List.length_singleton]; decide) (by simp)).mono ?_; rintro e w5 ⟨F5, X5, L5, ps, v4, rfl, T5, hbk, hpl, ov, hvF⟩; have z5 := T5.fr.size; have hpl4 := show Hid _ from hpl; clear hpl))
      | (with_reducible refine at_wpP ?_; refine wpList_mk0 enC 2 rfl 22 rfl 33 Tryz.underlying22 en_size ?_; intro g6 w6 o6 f6 s6 t6; have z6 := f6.size))
    have hgp := st1.ltp
    have hgs := st1.lts
    have hFt := st1.ft
    have hN : plN (sizeN 244) = 240 := by decide
    rw [hN] at hbk
    have D3 := (f0.thenN A1.fr).thenN F3
    have D5 := D3.thenT T5.fr (fun i hi q => by
      rcases q with q | q
      · have := A1.f _ q; omega
      · have := A1.p; omega)
    have hnB : ∀ q, w1.heap.size ≤ q → ¬ stB F gp q := fun q hq s => by
      rcases s with s | s
      · have := hFt _ s; omega
      · omega
    have b5 := b3.fr T5.fr (hnB _ s2)
    have hF5 := T5.st.ft
    have hF5o : ∀ q, q < w3.heap.size → w1.heap.size ≤ q → ¬ stB F5 gp q := fun q h1 h2 s => by
      rcases s with s | s
      · rcases (T5.ft _ s).1 with s | s
        · have := hFt _ s; omega
        · omega
      · omega
    have hpsw : ∀ p ∈ ps, (Lit.int .i64 p).wf = true := fun p hp => by
      have h1 := hbk.iv.toT.root (List.mem_append_right [pg] hp)
      have h2 := hbk.iv.toT.low h1.2
      exact wfSm (by omega) (by omega)
    have hv4 := (ov.newB)
    have hov : SlI .i64 w5 v4 ps := (ownI_of_R ov).sl hpsw
    have D6 := D5.thenN f6
    have st6 := T5.st.fr0 f6
    have hF6 := st6.ft
    obtain ⟨B, HB⟩ : ∃ B, Hid ([pg] ++ ps = B) := ⟨_, rfl⟩
    rw [HB.out] at hbk
    have hBm : ∀ p ∈ ps, p ∈ B := fun p hp => by rw [← HB.out]; exact List.mem_append_right _ hp
    have hB5 : B.length = 5 := by rw [← HB.out, List.length_append, hpl4.out]; rfl
    have hBn := hbk.nd
    have hBks := hbk
    have hB5' := show Hid _ from hB5
    go_loopw [46, 9, 10] (fun i r vw wr => ∃ (k : Nat) (Fk : Nat → Prop) (Xk : DSt) (Lk : List Pg) (lv : Nat) (root : Int) (l : List (Int × Int)), k ≤ es.length ∧ i = .int .i64 (k : Int) ∧ r = .int .i64 root ∧ StT w6 wr F5 Fk gs gp (Xk, Lk) (5 + 20 * k) ∧ OneT Xk Lk B [] lv root l ∧ PlY Lk ∧ Lk.length = 240 ∧ OwnR enC 2 33 wr w5.heap.size vw l ∧ ∀ q, vw.ownBlock = some q → ¬ Fk q ∧ q ≠ gp) (fun i _ _ _ => es.length - (intOf i).toNat)
    case atStart =>
      refine ⟨0, F5, X5, L5, 0, -1, [], Nat.zero_le _, rfl, rfl, StT.start st6, hbk.one, hbk.yg, hbk.ln, o6, fun q hq => ?_⟩
      have := (o6.newB q hq).1
      exact ⟨fun r => by have := hF5 _ r; omega, by omega⟩
    case round =>
      obtain ⟨j, Fj, Xj, Lj, lv, root, l, hj, rfl, rfl, T, o, y, hln, ow, hwF⟩ := hrel
      have zj := T.fr.size
      have D := D6.thenT T.fr (fun i hi q => by
        rcases q with q | q
        · rcases (T5.ft _ q).1 with q | q
          · have := A1.f _ q; omega
          · omega
        · have := A1.p; omega)
      have hFj := T.st.ft
      have hgpj := T.st.ltp
      have bj := (b5.fr0 f6).fr T.fr (hF5o _ (by omega) s2)
      have hnFj : ∀ q, q < w3.heap.size → w1.heap.size ≤ q → ¬ stB Fj gp q := fun q h1 h2 s => by
        rcases s with s | s
        · rcases (T.ft _ s).1 with s | s
          · exact hF5o q h1 h2 (Or.inl s)
          · omega
        · omega
      have hmj : 5 + 20 * j ≤ 80000 := by omega
      have hmj2 : 5 + 20 * j ≤ 100000 := by omega
      by_cases hlt : j < es.length
      · have hSj := (hv.1).fr0 D
        have hS4 : SlI .i64 wr v4 ps := (hov.fr0 f6).fr T.fr (fun q hq s => by
          rcases s with s | s
          · exact (hvF q hq).1 s
          · exact (hvF q hq).2 s)
        obtain ⟨x, Hy⟩ : ∃ x, Hid (es[j] = x) := ⟨es[j], (rfl : es[j] = es[j])⟩
        have hlt' : (j : Int) < (es.length : Int) := by omega
        obtain ⟨qi, hq, hq4⟩ : ∃ q : Nat, max 0 (min x.2 3) = (q : Int) ∧ q < ps.length := ⟨(max 0 (min x.2 3)).toNat, by omega, by have := hpl4.out; omega⟩
        obtain ⟨pgx, Hp⟩ : ∃ p, Hid (ps[qi] = p) := ⟨ps[qi], (rfl : ps[qi] = ps[qi])⟩
        have hpm : pgx ∈ ps := by rw [← Hp.out]; simp
        have hpB := hBm _ hpm
        have hkey := o.rt.up.2
        have hllen := o.len
        have hBw : ∀ p ∈ B, (Lit.int .i64 p).wf = true := fun p hp => by
          have h1 := hBks.iv.toT.root hp
          have h2 := hBks.iv.toT.low h1.2
          exact wfSm (by omega) (by omega)
        have hwf : ∀ z ∈ l, (Lit.int .i64 z.1).wf = true ∧ (Lit.int .i64 z.2).wf = true := fun z hz => by
          have h1 := hkey z hz
          exact ⟨wfSm (by omega) (by omega), hBw _ (o.pg z hz)⟩
        have hLL : Hid ((l == l) = true) := by show _ = _; simp
        have hL1 := fun W (s : Sto W Fj gs gp Xj Lj (5 + 20 * j)) => List_any o.iv.toT hmj2 o.rt W s
        obtain ⟨a4, n4, c4, hv4e⟩ : ∃ a n c, v4 = .slice a n c := ⟨_, _, _, hS4.opn.choose_spec.choose_spec.1⟩
        subst hv4e
        have hnw := ow.newB
        obtain ⟨aw, cw, hve⟩ := ow.opn
        subst hve
        by_cases hx : 0 ≤ x.1 ∧ x.1 < 64
        · skip
          obtain ⟨X9, L9, p', e, R, up, P⟩ := o.Put_ex hmj (x.1, pgx) ⟨hx.1, by show x.1 ≤ 63; omega⟩ hpB T.st.up
          have hB5n := hB5'.out
          obtain rfl := o.good y (by simp; omega) (by simp; omega) R
          obtain ⟨h0, L10, lv', sw, ln10, yg10, o10⟩ := o.put (x := (x.1, pgx)) hpB R (by simp; omega)
          obtain ⟨hI9, rt9⟩ := o.elder R
          have hPut := fun W (h : Sto W Fj gs gp Xj Lj (5 + 20 * j)) => P Fj gs gp W h
          have hL2 := fun (F' : Nat → Prop) W (s : Sto W F' gs gp X9 L9 (5 + 20 * j + 20)) => List_any hI9 (by omega) rt9 W s
          have hnl : (putL l (x.1, pgx)).length ≤ 64 := o10.len
          have hkey2 := o10.rt.up.2
          have hpg2 := o10.pg
          have hy10 := yg10 y
          have hh0 : (p' == -1) = false := by simpa using (show ¬ p' = -1 by omega)
          obtain ⟨_, hlv8, _⟩ := o10.tree (by omega)
          have hhg : hgtR p' lv' = (lv' : Int) + 1 := by unfold hgtR; rw [if_neg (by omega)]
          have hL3 := fun (F' : Nat → Prop) W (s : Sto W F' gs gp X9 L10 (5 + 20 * j + 20)) => List_any o10.iv.toT (by omega) o10.rt W s
          have hFi := fun (F' : Nat → Prop) W (s : Sto W F' gs gp X9 L10 (5 + 20 * j + 20)) => Find_any o10.iv.toT (by omega) o10.rt key W s
          have hHe := fun (F' : Nat → Prop) W (s : Sto W F' gs gp X9 L10 (5 + 20 * j + 20)) => Height_any o10.iv.toT (by omega) o10.rt W s
          rw [hhg] at hHe
          have hrp := fun W vv (h : SlR enC 2 W vv l) => refPut_any vv l (x.1, pgx) W h ⟨hx.1, by show x.1 ≤ 63; omega⟩ (by omega)
          obtain ⟨hh, Hhh⟩ : ∃ h : Int, Hid ((lv' : Int) + 1 = h) := ⟨_, rfl⟩
          rw [Hhh.out] at hHe
          have d81 : decide ((8 : Int) < hh) = false := decide_eq_false (by have := Hhh.out; omega)
          have d82 : decide (hh < (1 : Int)) = false := decide_eq_false (by have := Hhh.out; omega)
          have hwf2 : ∀ z ∈ putL l (x.1, pgx), (Lit.int .i64 z.1).wf = true ∧ (Lit.int .i64 z.2).wf = true := fun z hz => by
            have h1 := hkey2 z hz
            exact ⟨wfSm (by omega) (by omega), hBw _ (hpg2 z hz)⟩
          have hln10 : L10.length = 240 := by rw [ln10, hln]
          generalize putL l (x.1, pgx) = l2 at *
          obtain ⟨fa, Hfa⟩ : ∃ f, Hid (findL l2 key = f) := ⟨_, rfl⟩
          rw [Hfa.out] at hFi
          have hLL2 : Hid ((l2 == l2) = true) := by show _ = _; simp
          have Hln10 := show Hid _ from hln10
          have Ho10 := show Hid _ from o10
          clear hkey2 hpg2 up P R hI9 rt9 ln10 yg10 hln10
          go_upto_region 15 with (first
            | (with_reducible refine at_wpP ?_; refine at_idx 22 _ _ rfl ?_; go_must (refine wpList_idxR rfl 22 _ _ rfl 33 Tryz.underlying22 2 en_size _ _ _ rfl hSj (by decide) _ _ j rfl rfl hlt ?_; rw [Hy.out]; intro ba oa hba hca))
            | (with_reducible refine at_wpP ?_; refine at_ld 33 _ rfl ?_; have q := hca; go_must (refine wpList_ldE rfl _ rfl ba oa rfl x hca ?_))
            | (with_reducible refine at_wpP ?_; refine wpList_allocE rfl rfl ?_; intro gl wa hgl ba' fa sl; have la := ba'.lt; have za := fa.size)
            | (with_reducible refine at_wpP ?_; refine at_st 33 _ _ rfl ?_; go_must (refine wpList_stE rfl _ _ rfl gl rfl (0, 0) x ba' rfl ?_; intro wb Bb fb; have Fb := Fr.ownX fa sl fb; have zb := fb.size; have hvb1 := slI_1 (hS4.fr0 Fb); obtain ⟨kb0, kb1⟩ := Bb.all))
            | (with_reducible refine at_wpP ?_; refine at_idx 29 _ _ rfl ?_; have qq := Fb; go_must (refine wpList_idx1 rfl 29 _ _ rfl 3 Tryz.underlying29 int_size1 (.slice a4 n4 c4) _ _ rfl hvb1 .i64 (qi : Int) qi rfl rfl hq4 ?_; intro pp u hu hcu; obtain rfl := getX hu hq4 Hp.out))
            | (with_reducible refine at_wpP ?_; refine at_st 3 _ _ rfl ?_; go_must (refine wpList_store1 rfl 3 _ _ rfl gl 1 rfl (.int .i64 pgx) rfl rfl 33 (enC x) Bb int_size1 en_two ?_; intro w7 B7 f7; have F7 := Fr.ownX Fb sl f7; have z7 := f7.size; have l7 := B7.lt; have B7 := en_set B7; obtain ⟨k70, k71⟩ := B7.all; have b7 := bj.fr0 F7; have s7 := T.st.fr0 F7)))
          go_upto_region 16 with (first
            | (with_reducible refine at_wpP ?_; refine at_ld 26 _ rfl ?_; have q := b7; go_must (refine wpList_ldT rfl _ rfl g2 rfl gs b7 ?_))
            | (go_at_call 8; go_must (refine (hL1 _ s7).mono ?_; rintro e w8 ⟨ua, rfl, oa, f8⟩; have z8 := f8.size)))
          have b8 := b7.fr0 f8
          have s8 := s7.fr0 f8
          have B8 := B7.fr0 f8
          obtain ⟨k80, k81⟩ := EnB.all B8
          have F8 := F7.thenN f8
          go_upto_region 17 with (first
            | (with_reducible refine at_wpP ?_; refine at_ld 26 _ rfl ?_; have q := b8; go_must (refine wpList_ldT rfl _ rfl g2 rfl gs b8 ?_))
            | (go_at_call 9; go_must (refine (hPut _ s8).mono ?_; rintro e w9 ⟨F9, rfl, T9⟩; have z9 := T9.fr.size)))
          have hgl9 : ¬ stB Fj gp gl := fun q => by
            rcases q with q | q
            · have := hFj _ q; omega
            · omega
          have b9 := b8.fr T9.fr (hnFj _ (by omega) s2)
          have B9 := B8.fr T9.fr hgl9
          have hF9 := T9.st.ft
          have oa9 := oa.fr T9.fr (fun k hk q => by
            have := (oa.newB k hk).1
            rcases q with q | q
            · have := hFj _ q; omega
            · omega)
          have ow9 := (ow.fr0 F8).fr T9.fr (fun k hk q => by
            rcases q with q | q
            · exact (hwF k hk).1 q
            · exact (hwF k hk).2 q)
          have T9w := (T.fr0 F8).trans hF6 T9
          go_upto_region 18 with (first
            | (with_reducible refine at_wpP ?_; refine at_ld 26 _ rfl ?_; have q := b9; go_must (refine wpList_ldT rfl _ rfl g2 rfl gs b9 ?_))
            | (go_at_call 8; go_must (refine (hL2 _ _ T9.st).mono ?_; rintro e w10 ⟨ub, rfl, ob, f10⟩; have z10 := f10.size)))
          have b10 := b9.fr0 f10
          have B10 := B9.fr0 f10
          have ow10 := ow9.fr0 f10
          have pa10 := EnO.slp (oa9.fr0 f10) hwf
          have pb10 := EnO.slp ob hwf
          go_upto_region 26 with (first
            | (with_reducible refine at_wpP ?_; refine at_ld 33 _ rfl ?_; have q := B10; go_must (refine wpList_ldE rfl _ rfl gl 0 rfl (x.1, pgx) (bx_cells B10) ?_))
            | (go_at_call 10; go_must (refine (hrp _ _ ow10.sl).mono ?_; rintro e w11 ⟨uv, rfl, ovv, f11⟩; have z11 := f11.size))
            | (go_at_call 11; go_must (refine (same10_any _ _ _ _ _ (EnO.slp ((oa9.fr0 f10).fr0 f11) hwf) (EnO.slp (ob.fr0 f11) hwf) (by omega)).mono ?_; rw [hLL.out]; rintro e w12 ⟨rfl, f12⟩; have z12 := f12.size))
            | (with_reducible refine at_wpP ?_; refine at_ld 26 _ rfl ?_; have q := ((b10.fr0 f11).fr0 f12); go_must (refine wpList_ldT rfl _ rfl g2 rfl gs ((b10.fr0 f11).fr0 f12) ?_))
            | (go_at_call 12; go_must (refine (Swap_F (by omega) (by omega) (((T9.st.fr0 f10).fr0 f11).fr0 f12) sw).mono ?_; rintro e w13 ⟨rfl, s13, f13⟩; have z13 := f13.size)))
          have b13 := ((b10.fr0 f11).fr0 f12).ne f13 (by omega)
          have ov13 := (ovv.fr0 f12).fr f13 (fun k hk q => by have := (ovv.newB k hk).1; unfold onB1 at q; omega)
          go_upto_region 27 with (first
            | (with_reducible refine at_wpP ?_; refine at_ld 26 _ rfl ?_; have q := b13; go_must (refine wpList_ldT rfl _ rfl g2 rfl gs b13 ?_))
            | (go_at_call 8; go_must (refine (hL3 _ _ s13).mono ?_; rintro e w14 ⟨uc, rfl, oc, f14⟩; have z14 := f14.size)))
          go_upto_region 28 with (first
            | (with_reducible refine at_wpP ?_; refine at_ld 26 _ rfl ?_; have q := (b13.fr0 f14); go_must (refine wpList_ldT rfl _ rfl g2 rfl gs (b13.fr0 f14) ?_))
            | (go_at_call 13; go_must (refine (hFi _ _ (s13.fr0 f14)).mono ?_; rintro e w15 ⟨rfl, f15⟩; have z15 := f15.size)))
          go_upto_region 29 with (first
            | (with_reducible refine at_wpP ?_; refine at_ld 26 _ rfl ?_; have q := ((b13.fr0 f14).fr0 f15); go_must (refine wpList_ldT rfl _ rfl g2 rfl gs ((b13.fr0 f14).fr0 f15) ?_))
            | (go_at_call 14; go_must (refine (hHe _ _ ((s13.fr0 f14).fr0 f15)).mono ?_; rintro e w16 ⟨rfl, f16⟩; have z16 := f16.size)))
          have F16 := (f14.thenN f15).thenN f16
          have ov16 := ov13.fr0 F16
          have oc16 := (oc.fr0 f15).fr0 f16
          go_wp2_with (first
            | (go_at_call 11; go_must (refine (same10_any _ _ _ _ _ (EnO.slp oc16 hwf2) (EnO.slp ov16 hwf2) (by omega)).mono ?_; rw [hLL2.out]; rintro e w17 ⟨rfl, f17⟩; have z17 := f17.size))
            | (go_at_call 15; go_must (refine (refFind_any _ _ key _ ((ov16.fr0 f17).sl) (by omega)).mono ?_; rw [Hfa.out]; rintro e w18 ⟨rfl, f18⟩; have z18 := f18.size)))
          go_roundw
          case rel =>
            refine ⟨j + 1, F9, X9, L10, lv', p', l2, by omega, by go_num, rfl, ((((((((T9w.fr0 f10).fr0 f11).fr0 f12).pool f13 s13).fr0 F16).fr0 f17).fr0 f18).mono (by omega)), Ho10.out, hy10, Hln10.out, (((ov16.fr0 f17).fr0 f18).rebase (by have := F8.size; omega)), fun q hq => ?_⟩
            have h2 := ovv.newB q hq
            exact ⟨fun r => by have := hF9 _ r; omega, by omega⟩
          case measure => simp [intOf]; omega
        · skip
          have hPut := Put_no (F := Fj) (gs := gs) (gp := gp) (X := Xj) (L := Lj) (m := 5 + 20 * j) root x.1 pgx (by omega)
          have hL2 := fun (F' : Nat → Prop) W (s : Sto W F' gs gp Xj Lj (5 + 20 * j)) => List_any o.iv.toT hmj2 o.rt W s
          go_upto_region 15 with (first
            | (with_reducible refine at_wpP ?_; refine at_idx 22 _ _ rfl ?_; go_must (refine wpList_idxR rfl 22 _ _ rfl 33 Tryz.underlying22 2 en_size _ _ _ rfl hSj (by decide) _ _ j rfl rfl hlt ?_; rw [Hy.out]; intro ba oa hba hca))
            | (with_reducible refine at_wpP ?_; refine at_ld 33 _ rfl ?_; have q := hca; go_must (refine wpList_ldE rfl _ rfl ba oa rfl x hca ?_))
            | (with_reducible refine at_wpP ?_; refine wpList_allocE rfl rfl ?_; intro gl wa hgl ba' fa sl; have la := ba'.lt; have za := fa.size)
            | (with_reducible refine at_wpP ?_; refine at_st 33 _ _ rfl ?_; go_must (refine wpList_stE rfl _ _ rfl gl rfl (0, 0) x ba' rfl ?_; intro wb Bb fb; have Fb := Fr.ownX fa sl fb; have zb := fb.size; have hvb1 := slI_1 (hS4.fr0 Fb); obtain ⟨kb0, kb1⟩ := Bb.all))
            | (with_reducible refine at_wpP ?_; refine at_idx 29 _ _ rfl ?_; have qq := Fb; go_must (refine wpList_idx1 rfl 29 _ _ rfl 3 Tryz.underlying29 int_size1 (.slice a4 n4 c4) _ _ rfl hvb1 .i64 (qi : Int) qi rfl rfl hq4 ?_; intro pp u hu hcu; obtain rfl := getX hu hq4 Hp.out))
            | (with_reducible refine at_wpP ?_; refine at_st 3 _ _ rfl ?_; go_must (refine wpList_store1 rfl 3 _ _ rfl gl 1 rfl (.int .i64 pgx) rfl rfl 33 (enC x) Bb int_size1 en_two ?_; intro w7 B7 f7; have F7 := Fr.ownX Fb sl f7; have z7 := f7.size; have l7 := B7.lt; have B7 := en_set B7; obtain ⟨k70, k71⟩ := B7.all; have b7 := bj.fr0 F7; have s7 := T.st.fr0 F7)))
          go_upto_region 16 with (first
            | (with_reducible refine at_wpP ?_; refine at_ld 26 _ rfl ?_; have q := b7; go_must (refine wpList_ldT rfl _ rfl g2 rfl gs b7 ?_))
            | (go_at_call 8; go_must (refine (hL1 _ s7).mono ?_; rintro e w8 ⟨ua, rfl, oa, f8⟩; have z8 := f8.size)))
          have b8 := b7.fr0 f8
          have s8 := s7.fr0 f8
          have B8 := B7.fr0 f8
          obtain ⟨k80, k81⟩ := EnB.all B8
          have F8 := F7.thenN f8
          go_upto_region 17 with (first
            | (with_reducible refine at_wpP ?_; refine at_ld 26 _ rfl ?_; have q := b8; go_must (refine wpList_ldT rfl _ rfl g2 rfl gs b8 ?_))
            | (go_at_call 9; go_must (refine (hPut _ s8).mono ?_; rintro e w9 ⟨F9, rfl, T9⟩; have z9 := T9.fr.size)))
          have hgl9 : ¬ stB Fj gp gl := fun q => by
            rcases q with q | q
            · have := hFj _ q; omega
            · omega
          have b9 := b8.fr T9.fr (hnFj _ (by omega) s2)
          have B9 := B8.fr T9.fr hgl9
          have hF9 := T9.st.ft
          have oa9 := oa.fr T9.fr (fun k hk q => by
            have := (oa.newB k hk).1
            rcases q with q | q
            · have := hFj _ q; omega
            · omega)
          have ow9 := (ow.fr0 F8).fr T9.fr (fun k hk q => by
            rcases q with q | q
            · exact (hwF k hk).1 q
            · exact (hwF k hk).2 q)
          have T9w := (T.fr0 F8).trans hF6 T9
          go_upto_region 18 with (first
            | (with_reducible refine at_wpP ?_; refine at_ld 26 _ rfl ?_; have q := b9; go_must (refine wpList_ldT rfl _ rfl g2 rfl gs b9 ?_))
            | (go_at_call 8; go_must (refine (hL2 _ _ T9.st).mono ?_; rintro e w10 ⟨ub, rfl, ob, f10⟩; have z10 := f10.size)))
          have b10 := b9.fr0 f10
          have B10 := B9.fr0 f10
          have ow10 := ow9.fr0 f10
          have pa10 := EnO.slp (oa9.fr0 f10) hwf
          have pb10 := EnO.slp ob hwf
          go_wp2_with (first
            | (with_reducible refine at_wpP ?_; refine at_ld 33 _ rfl ?_; have q := B10; go_must (refine wpList_ldE rfl _ rfl gl 0 rfl (x.1, pgx) (bx_cells B10) ?_))
            | (go_at_call 10; go_must (refine (refPut_no _ (x.1, pgx) _ (by show x.1 < 0 ∨ 63 < x.1; omega)).mono ?_; rintro e w11 ⟨rfl, f11⟩; have z11 := f11.size))
            | (go_at_call 11; go_must (refine (same10_any _ _ _ _ _ (EnO.slp ((oa9.fr0 f10).fr0 f11) hwf) (EnO.slp (ob.fr0 f11) hwf) (by omega)).mono ?_; rw [hLL.out]; rintro e w12 ⟨rfl, f12⟩; have z12 := f12.size)))
          go_roundw
          case rel =>
            refine ⟨j + 1, F9, Xj, Lj, lv, root, l, by omega, by go_num, rfl, ((((T9w.fr0 f10).fr0 f11).fr0 f12).mono (by omega)), o, y, hln, ((ow10.fr0 f11).fr0 f12), fun q hq => ?_⟩
            have h1 := hwF q hq
            have h2 := hnw q hq
            exact ⟨fun r => by rcases (T9.ft q r).1 with r | r; exact h1.1 r; (have := F8.size; omega), h1.2⟩
          case measure => simp [intOf]; omega
      · obtain rfl : j = es.length := by omega
        go_wp2_with (first
          | (with_reducible refine at_wpP ?_; refine at_ld 26 _ rfl ?_; have q := bj; go_must (refine wpList_ldT rfl _ rfl g2 rfl gs bj ?_))
          | (go_at_call 16; go_must (refine (exact_T o y hBn hB5'.out hmj2 _ T.st).mono ?_; rintro e w20 ⟨rfl, f20⟩)))
        go_ret
        exact ⟨rfl, (D.thenT f20 (fun i hi q => by unfold onB1 at q; have := A1.p; omega)).below⟩
end Go.Proofs.YtkhdniccnefdhaaGreat
