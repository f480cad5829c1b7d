/- Texts V18 of the proof of RootRuns, one behind the other. -/
import Derived.Test.YtijgfojnppcbjaaBundleRootRuns1
import Derived.Test.YtijgfojnppcbjaaBundleRootRuns2
import Derived.Test.YtijgfojnppcbjaaBundleRootRuns3
import Derived.Test.YtijgfojnppcbjaaBundleRootRuns4
import Derived.Test.YtijgfojnppcbjaaBundleRootRuns5
import Derived.Test.YtijgfojnppcbjaaBundleRootRuns6
import Derived.Test.YtijgfojnppcbjaaBundleRootRuns7
import Derived.Test.YtijgfojnppcbjaaBundleRootRuns8
import Derived.Test.YtijgfojnppcbjaaBundleRootRuns9
import Derived.Test.YtijgfojnppcbjaaBundleRootRuns10
import Derived.Test.YtijgfojnppcbjaaBundleRootRuns11
import Derived.Test.YtijgfojnppcbjaaBundleRootRuns12
import Derived.Test.YtijgfojnppcbjaaBundleRootRuns13
import Derived.Test.YtijgfojnppcbjaaBundleRootRuns14
import Derived.Test.YtijgfojnppcbjaaBundleRootRuns15
import Derived.Test.YtijgfojnppcbjaaBundleRootRuns16
import Derived.Test.YtijgfojnppcbjaaBundleRootRuns17
import Derived.Test.YtijgfojnppcbjaaBundleRootRuns18
/- RootRuns. (Written by v18_gen.py.) -/
namespace Go.Proofs.Ytijgfojnppcbjaa
open Go.RowKit Go.Proofs.U
set_option linter.unusedSimpArgs false
set_option linter.unusedVariables false


section
variable {P : Program} {ops : Array Oper} {Q : Exit → Act → World → Prop} {a : Act} {w : World} {o : Oper} {fs : List (Value → Prop)} {J : List Value → World → Prop} {k : Nat} {hv : List Value}
theorem light_call {f : FuncId} {args : Array Value} (hw : Region.wanted o (yielded ops a.tmps) = true) (hrun : (execOp a.eval o).run P w = .ok (.enter f args) w)
    (hc : Calls P f args w fun e w' => ∃ v, e = .returned v ∧ J hv w' ∧ factL fs k v) :
    if Region.wanted o (yielded ops a.tmps) = true then o.wp P a w (fun a' w' => ∃ v, a' = a.put o.dst v ∧ J hv w' ∧ factL fs k v) Q else factL fs k undef := by
  rw [if_pos hw]
  unfold Oper.wp
  rw [hrun]
  refine hc.mono ?_
  rintro e w' ⟨v, rfl, hJ⟩
  exact ⟨v, rfl, hJ⟩
end
/-- While a page is made and laid into a new variable. -/
def JG (w0 : World) (Z P : List Int) : List Value → World → Prop
  | [], W => Fr noB w0 W
  | [v], W => ∃ g, v = .pointer (some ⟨g, 0, none⟩) ∧ BxV W g 46 (pgv Z) ∧ w0.heap.size ≤ g ∧ Fr noB w0 W
  | [v, _], W => ∃ g, v = .pointer (some ⟨g, 0, none⟩) ∧ BxV W g 46 (pgv P) ∧ w0.heap.size ≤ g ∧ Fr noB w0 W
  | _, _ => False
theorem JG.fr {w0 : World} {Z P : List Int} : ∀ {hv : List Value} {W : World}, JG w0 Z P hv W → Fr noB w0 W
  | [], _, h => h
  | [_], _, h => by obtain ⟨_, _, _, _, h⟩ := h; exact h
  | [_, _], _, h => by obtain ⟨_, _, _, _, h⟩ := h; exact h
  | _ :: _ :: _ :: _, _, h => h.elim
theorem JG.grow {w0 : World} {Z P : List Int} : ∀ {hv : List Value} {W W' : World}, JG w0 Z P hv W → Fr noB W W' → JG w0 Z P hv W'
  | [], _, _, h, f => Fr.thenN h f
  | [_], _, _, h, f => by obtain ⟨g, h1, h2, h3, h4⟩ := h; exact ⟨g, h1, h2.fr0 f, h3, h4.thenN f⟩
  | [_, _], _, _, h, f => by obtain ⟨g, h1, h2, h3, h4⟩ := h; exact ⟨g, h1, h2.fr0 f, h3, h4.thenN f⟩
  | _ :: _ :: _ :: _, _, _, h, _ => h.elim
theorem wp_stP {w : World} {o : Oper} {a : Act} {K : Act → World → Prop} {Q : Exit → Act → World → Prop} (x y : Operand) (ho : o.op = .store 46 x y) (g : Nat) (hx : a.eval x = .pointer (some ⟨g, 0, none⟩)) (p : List Int) (hy : a.eval y = pgV p) (q : List Int) (hA : BxV w g 46 (pgv q)) (hp : p.length = 256) (hq : q.length = 256)
    (h : ∀ w', BxV w' g 46 (pgv p) → Fr (onB1 g) w w' → K (a.put o.dst undef) w') : o.wp Try.prog a w K Q := by
  refine wp_store_mid 46 x y ho g 0 (pgv p).toArray hx hy ?_ (by rw [size_page]; simp [pgv_len, hp]) (all_oneCell_toArray (pgv_one p)) (h _ ?_ ?_)
  · have := hA.thereR 0 256 (by rw [pgv_len, hq]; decide)
    simpa [pgv_len, hp] using this
  · have := setCells_bx (pgv p) 0 w (pgv q) hA (by rw [pgv_len, pgv_len, hp, hq]; decide)
    rw [putAt_all _ _ (by rw [pgv_len, pgv_len, hp, hq])] at this
    exact this
  · exact setCells_fr1 w g _ 0

set_option maxRecDepth 100000 in
set_option maxHeartbeats 40000000 in
theorem runs5_walk (n : Int) (va : Value) (acts : List Act5) (w : World) (hn : (Lit.int .i64 n).wf = true) (ha : Sl5 w va acts) :
    Calls Try.prog 4 #[.int .i64 n, va] w fun r w' => r = .returned (.bool true) ∧ Below w.heap.size w w' := by
  have hall := ha
  obtain ⟨hA, hok⟩ := ha
  obtain ⟨a1, c1, rfl, _⟩ := hA.opn
  have hnr := wf64 hn
  obtain ⟨GB, HGB⟩ : ∃ b, Hid (great5 acts = b) := ⟨_, rfl⟩
  by_cases hg1 : 20 < n
  · go_enter Try.func4, Try.ntmps4
    go_wp2_with (first
      | (go_at_call 12; go_must (refine (ralive_any _).mono ?_; rintro e w0 ⟨rfl, f0⟩)))
    go_ret
    exact ⟨rfl, f0.below⟩
  cases GB with
  | true =>
    go_enter Try.func4, Try.ntmps4
    go_wp2_with (first
      | (go_at_call 12; go_must (refine (ralive_any _).mono ?_; rintro e w0 ⟨rfl, f0⟩))
      | (go_at_call 13; go_must (refine (great_any _ acts _ (hall.fr0 f0)).mono ?_; rw [HGB.out]; rintro e w1 ⟨rfl, f1⟩)))
    go_ret
    exact ⟨rfl, (f0.thenN f1).below⟩
  | false =>
    have hg2 : acts.length ≤ 40 ∧ ∀ x ∈ acts, x.c.length ≤ 400 := by
      have := HGB.out
      simp [great5] at this
      exact this
    obtain ⟨hg2, hg3⟩ := hg2
    have hg3 := show Hid _ from hg3
    obtain ⟨X0, HX0⟩ : ∃ X, Hid (newD n = X) := ⟨_, rfl⟩
    have hR0 : Hid (RXD X0 false 0 (List.replicate (newN n) false)) := by show RXD _ _ _ _; rw [← HX0.out]; exact RXD.new n
    have hX0p : Hid (X0.pend = []) := by show _ = _; rw [← HX0.out]; rfl
    have hX0d : Hid (X0.down = false) := by show _ = _; rw [← HX0.out]; rfl
    have hX0g : Hid (X0.pages = List.replicate (newN n) zeroP) := by show _ = _; rw [← HX0.out]; rfl
    have hX0b : Hid X0.byt := by show X0.byt; rw [← HX0.out]; exact newD_byt n
    obtain ⟨B0, HB0⟩ : ∃ B, Hid (List.replicate (newN n) false = B) := ⟨_, rfl⟩
    obtain ⟨P0, HP0⟩ : ∃ B, Hid (List.replicate (newN n) zeroP = B) := ⟨_, rfl⟩
    rw [HB0.out] at hR0
    rw [HP0.out] at hX0g
    go_enter Try.func4, Try.ntmps4
    go_wp2_with (first
      | (go_at_call 12; go_must (refine (ralive_any _).mono ?_; rintro e wa ⟨rfl, fa⟩))
      | (go_at_call 13; go_must (refine (great_any _ acts _ (hall.fr0 fa)).mono ?_; rw [HGB.out]; rintro e w0 ⟨rfl, fb⟩; have f0 := fa.thenN fb; have z0 := f0.size))
      | (go_at_call 8; go_must (refine (new_any n hnr _).mono ?_; rw [HX0.out]; rintro e w1 ⟨gd, rfl, d1, f1⟩; have z1 := f1.size))
      | (go_at_call 14; go_must (refine (rnew_any n hnr _).mono ?_; rw [HP0.out, HB0.out]; rintro e w2 ⟨v1, v2, rfl, s1, s2, f2, nb1, nb2⟩; have z2 := f2.size; have hi1 := SlR.isSl s1; have hi2 := SlR.isSl s2))
      | (with_reducible refine at_wpP ?_; refine wpList_allocD rfl rfl ?_; intro g6 w3 hg6 b3 f3 s3; have z3 := f3.size; have l3 := b3.lt)
      | (with_reducible refine at_wpP ?_; refine at_st 39 _ _ rfl ?_; go_must (refine wpList_stD rfl _ _ rfl g6 rfl _ _ _ _ _ _ rfl _ b3 rfl hi1 hi2 (isSl_mk _ _ _) ?_; intro w4 b4 f4; have z4 := f4.size)))
    have hg6w : w.heap.size ≤ g6 := by omega
    have hdc0 : DocD w4 g6 v1 v2 (.slice none 0 0) false 0 X0.down X0.pages B0 X0.pend := by
      rw [hX0p.out, hX0d.out, hX0g.out]
      exact DocD.put f4 b4 (s1.fr0 f3) (s2.fr0 f3) ⟨by simp, Sl.nil _ _⟩ (fun q h => by have := nb1 q h; omega) (fun q h => by have := nb2 q h; omega) (fun q h => by simp [Value.ownBlock] at h)
    have hd0 : Disk w4 (fun q => w0.heap.size ≤ q ∧ q < w1.heap.size) gd X0 := ((d1.tight.fr0 f2).fr0 f3).fr f4 (fun q _ hq e => by unfold onB1 at e; omega)
    have hsp0 : Sep (fun q => w0.heap.size ≤ q ∧ q < w1.heap.size) w4 w0.heap.size g6 v1 v2 (.slice none 0 0) := fun q hq => ⟨hq.1, by omega, by omega, fun e => by have := nb1 q e; omega, fun e => by have := nb2 q e; omega, fun e => by simp [Value.ownBlock] at e⟩
    have G4 : Fr noB w w4 := (((f0.thenN f1).thenN f2).thenN f3).thenT f4 (fun q hq e => by unfold onB1 at e; omega)
    clear b4 b3 s1 s2 nb1 nb2 hi1 hi2 d1 hg6
    go_loopw [42] (fun i wr => ∃ (m : Nat) (X : DSt) (F : Nat → Prop) (v1 v2 v3 : Value) (c : Bool) (l : Int) (bad : List Bool), m ≤ acts.length ∧ i = .int .i64 (m : Int) ∧ Hid (RXD X c l bad) ∧ Hid (X.pend.length ≤ m) ∧ Hid X.byt ∧ Disk wr F gd X ∧ DocD wr g6 v1 v2 v3 c l X.down X.pages bad X.pend ∧ Sep F wr w0.heap.size g6 v1 v2 v3 ∧ Fr noB w wr) (fun i _ => acts.length - (intOf i).toNat)
    case atStart => exact ⟨0, X0, _, v1, v2, _, false, 0, B0, Nat.zero_le _, rfl, hR0, by show _ ≤ _; rw [hX0p.out]; exact Nat.le_refl _, hX0b, hd0, hdc0, hsp0, G4⟩
    case round =>
      clear hdc0 hsp0 hd0 G4
      obtain ⟨m, X, F, v1, v2, v3, c, l, bad, hma, rfl, hRX, hpl, hbX, hD, hdc, hsp, hf⟩ := hrel
      have zf := hf.size
      have hl0 := hdc.bx.lt
      have hpm : X.pend.length ≤ 90000 := by have := hpl.out; omega
      have hpl256 : Hid (∀ p ∈ X.pages, p.length = 256) := disk_pl hD
      have hin : Hid (∀ x ∈ X.pend, 0 ≤ x.1 ∧ x.1 < (X.pages.length : Int)) := (disk_in hD).1
      have hpg := (disk_in hD).2
      have hi1 := SlR.isSl hdc.s1
      have hi2 := SlR.isSl hdc.s2
      have hi3 := SlR.isSl hdc.s3
      by_cases hlt : m < acts.length
      · obtain ⟨x, Hx⟩ : ∃ X, Hid (acts[m] = X) := ⟨acts[m], (rfl : acts[m] = acts[m])⟩
        have hxo : Ok5 w x := by rw [← Hx.out]; exact hok _ (by simp)
        have hcl4 : x.c.length ≤ 400 := by rw [← Hx.out]; exact hg3.out _ (by simp)
        have hx1 := enc5_one hxo
        obtain ⟨kd, ak, ag, cv, cont, kv, kp⟩ := x
        have hakr := wf64 hxo.2.1
        have hagb := u64_bd hxo.2.2.1
        have hcv : SlI .u8 w cv cont := hxo.2.2.2.1
        have hkv : SlI .u8 w kv kp := hxo.2.2.2.2
        simp only at hcl4 hagb
        clear hxo
        obtain ⟨ca, cc, rfl, hcc⟩ := hcv.opn
        obtain ⟨ka, kc, rfl, hkc⟩ := hkv.opn
        by_cases hk0 : kd = 0
        · subst hk0
          obtain ⟨⟨Y, gN, eN⟩, HW0⟩ : ∃ R, Hid (rWrite X cont = R) := ⟨_, rfl⟩
          have hbY : Hid Y.byt := by show Y.byt; have := rWrite_byt hbX.out hcv.2; rw [HW0.out] at this; exact this
          have hpYm : Hid (Y.pend.length ≤ m + 1) := by show _ ≤ _; have := rWrite_pend X cont; rw [HW0.out] at this; have := hpl.out; simp only at *; omega
          have hpY : Y.pend.length ≤ 90000 := by have := hpYm.out; omega
          have hpgY : Y.pages.length ≤ 100000 := by have := rWrite_plen X cont; rw [HW0.out] at this; simp only at this; omega
          have hwr := show Hid _ from fun (F : Nat → Prop) (v : Value) (W : World) (h : Disk W F gd X) (hS : SlI .u8 W v cont) => rwrite_p gd v cont W h hpm hbX.out hS
          simp only [HW0.out] at hwr
          have rX0 := show Hid _ from readP_len hD 0
          have rX1 := show Hid _ from readP_len hD 1
          have hdp := show Hid _ from fun (W : World) (vc : Value) (hV : DocV W v1 v2 v3 X bad) (hn1 : ∀ q, v1.ownBlock = some q → q < W.heap.size) (hn3 : ∀ q, v3.ownBlock = some q → q < W.heap.size) (hS : SlI .u8 W vc cont) => dput_any v1 v2 v3 bad c l W hRX.out hpl256.out hin.out hV rX0.out rX1.out hbX.out hpm hn1 hn3 vc cont hS
          simp only [HW0.out] at hdp
          obtain ⟨⟨rc, rg, re⟩, HRR⟩ : ∃ R, Hid (rRead Y = R) := ⟨_, rfl⟩
          obtain ⟨⟨xg, xe⟩, HNX⟩ : ∃ R, Hid (rNext Y = R) := ⟨_, rfl⟩
          have pr := show Hid _ from fun (F : Nat → Prop) (W : World) (h : Disk W F gd Y) => rread_p gd W h (by omega) hbY.out
          have px := show Hid _ from fun (F : Nat → Prop) (W : World) (h : Disk W F gd Y) => rnext_p gd W h (by omega) hbY.out
          have dr := show Hid _ from fun (L : Int) (V1 V2 V3 : Value) (W : World) (h : DocV W V1 V2 V3 Y bad) (l0 : (readP Y 0).1.length = 256) (l1 : (readP Y 1).1.length = 256) => dread_any V1 V2 V3 bad c L Y.down W h l0 l1 hbY.out
          have dx := show Hid _ from fun (L : Int) (V1 V2 V3 : Value) (W : World) (h : DocV W V1 V2 V3 Y bad) (l0 : (readP Y 0).1.length = 256) (l1 : (readP Y 1).1.length = 256) => dnext_any V1 V2 V3 bad c L Y.down W h l0 l1 hbY.out
          unfold ReadIs at pr
          unfold DReadIs at dr
          simp only [HRR.out] at pr dr
          simp only [HNX.out] at px dx
          have tst := str_refl rc
          go_wp2_with (first
            | (refine at_idx 33 _ _ rfl ?_; go_must (refine wpList_idxR rfl 33 _ _ rfl 42 Try.underlying33 5 act5_size _ _ _ rfl (hA.fr0 hf) (by decide) _ _ m rfl rfl hlt ?_; rw [Hx.out]; intro ba oa hba hca))
            | (with_reducible refine at_wpP ?_; refine at_ld 42 _ rfl ?_; go_must (refine wpList_load_mid rfl 42 _ rfl ba oa rfl (enc5 ⟨0, ak, ag, .slice ca cont.length cc, cont, .slice ka kp.length kc, kp⟩) _ (range_of fun j v hj => hca j v hj) under_act5 rfl (act5_sizeE _) ?_))
            | (with_reducible refine at_wpP ?_; refine wpList_allocV rfl 42 rfl _ act5_zero ?_; intro gx w4 hgx b4 f4 s4; have l4 := b4.lt)
            | (with_reducible refine at_wpP ?_; refine at_st 42 _ _ rfl ?_; go_must (refine wpList_storeV rfl 42 _ _ rfl gx 0 rfl (enc5 ⟨0, ak, ag, .slice ca cont.length cc, cont, .slice ka kp.length kc, kp⟩) rfl _ _ b4 (act5_sizeE _) (enc5_le _ _) hx1 ?_; intro w5 b5 f5; rw [putAt_all _ _ (enc5_eq _ _)] at b5; have F45 : Fr noB wr w5 := (f4.thenT f5 (fun q hq e => (by unfold onB1 at e; omega))); have z45 := F45.size; have hD5 := hD.fr0 F45; have doc5 := hdc.fr0 F45; have sep5 := hsp.size z45; have G5 := hf.thenN F45; obtain ⟨q0, _⟩ := b5.cell 0 _ rfl; obtain ⟨q1, _⟩ := b5.cell 1 _ rfl; obtain ⟨q2, _⟩ := b5.cell 2 _ rfl; obtain ⟨q3, _⟩ := b5.cell 3 _ rfl; obtain ⟨q4, _⟩ := b5.cell 4 _ rfl; have hngx : ¬ F gx := (fun q => (by have := (hsp _ q).2.1; omega))))
            | (with_reducible refine at_wpP ?_; refine wpList_mk0 en8 1 rfl 24 rfl 5 Try.underlying24 size_u8 ?_; intro g50 w50 o50 f50 s50 t50; have b50 := b5.fr0 f50; obtain ⟨p3, _⟩ := b50.cell 3 _ rfl)
            | (at_builtin; go_must (refine wpList_app rfl _ _ 24 rfl w5.heap.size 5 _ 1 1 Try.underlying24 info5 rfl (by decide) _ _ _ rfl o50.2 _ _ _ rfl ((hcv.fr0 (G5.thenN f50)).1) (Go.Proofs.U.ones _ _) ?hq1 ?hq2 ?hq3 ?_; rotate_left 3; intro v13 w5b hown hgr; have o13 : OwnI .u8 5 w5b w5.heap.size v13 cont := OwnI.mk _ hown (by simp); have i13 := o13.sl hcv.2; have f5b : Fr noB w5 w5b := f50.grown hgr (owns_new o50.2); obtain ⟨a13, c13, rfl⟩ := o13.opn))
            | (go_at_call 10; go_must (refine (hwr.out _ _ _ (hD5.fr0 f5b) i13).mono ?_; rintro e w6 ⟨rfl, d6, f6⟩; have z5b := f5b.size; have z6 := f6.size; have d6 := d6.tight; have doc5b := doc5.fr0 f5b; have sep5b := sep5.size z5b; have doc6 := doc5b.prog sep5b f6; have sep6 : Sep (fun k => orNew F w5b k ∧ k < w6.heap.size) w6 w0.heap.size g6 v1 v2 v3 := (sep5b.prog doc5b (by have := hf.size; omega) (fun q hq => ⟨hq.2, hq.1⟩)); have bx6 := (b5.fr0 f5b).fr f6 hngx; have G6 := (G5.thenN f5b).thenT f6 (fun q hq hq' => (by have := (hsp q hq').1; omega)); have hl6 := doc6.bx.lt; obtain ⟨c63, _⟩ := bx6.cell 3 _ rfl))
            | (go_at_call 15; go_must (refine (hdp.out _ _ ⟨doc6.s1, doc6.s2, doc6.s3, hRX.out.len, hpg, (by omega), hRX.out.read⟩ (fun q hq => (doc6.n1 q hq).2) (fun q hq => (doc6.n3 q hq).2) (hcv.fr0 G6)).mono ?_; rintro e w7 ⟨v1', v3', l', rfl, t1, t3, hR7, f7, nw1, nw3⟩; have hRY : Hid (RXD Y c l' bad) := hR7; have z7 := f7.size; have hi1' := SlR.isSl t1; have hi3' := SlR.isSl t3))
            | (with_reducible refine at_wpP ?_; refine at_st 39 _ _ rfl ?_; go_must (refine wpList_stD rfl _ _ rfl g6 rfl _ _ _ _ _ _ rfl _ (doc6.bx.fr0 f7) rfl hi1' hi2 hi3' ?_; intro w8 b8 f8; have z8 := f8.size; have sep7 := sep6.doc z7 nw1 (nwB.refl _ _ _) nw3; have hsep := sep7.size z8; have hDz := (d6.fr0 f7).fr f8 sep7.ng; have Gz := (G6.thenN f7).thenT f8 (fun q hq e => (by unfold onB1 at e; omega)); have hdoc : DocD w8 g6 v1' v2 v3' c l' Y.down Y.pages bad Y.pend := DocD.put f8 b8 t1 (doc6.s2.fr0 f7) t3 (nw1.n doc6.n1 hl6 z7) ((nwB.refl _ _ _).n doc6.n2 hl6 z7) (nw3.n doc6.n3 hl6 z7)))
            | (go_at_call 9; go_must (refine (pr.out _ _ hDz).mono ?_; rintro e y1 ⟨vr, rfl, ir, nr, fy1⟩; have docy := hdoc.fr0 fy1; have rl0 := show Hid _ from readP_len hDz 0; have rl1 := show Hid _ from readP_len hDz 1; obtain ⟨ra, rb, rfl, _⟩ := ir.opn))
            | (with_reducible refine at_wpP ?_; refine at_ld 39 _ rfl ?_; have fy3' := fy3; go_must (refine wpList_ldD rfl _ rfl g6 rfl _ _ _ _ _ _ ((docy.fr0 fy2).fr0 fy3).bx ?_))
            | (with_reducible refine at_wpP ?_; refine at_ld 39 _ rfl ?_; have fy1' := fy1; go_must (refine wpList_ldD rfl _ rfl g6 rfl _ _ _ _ _ _ docy.bx ?_))
            | (go_at_call 25; go_must (refine (dr.out _ _ _ _ _ ⟨docy.s1, docy.s2, docy.s3, hRY.out.len, hpgY, by omega, hRY.out.read⟩ rl0.out rl1.out).mono ?_; rintro e y2 ⟨vd, rfl, id', fy2⟩; have ir2 := ir.fr0 fy2; obtain ⟨da, db, rfl, _⟩ := id'.opn))
            | (go_at_call 11; go_must (refine (px.out _ _ ((hDz.fr0 fy1).fr0 fy2)).mono ?_; rintro e y3 ⟨rfl, fy3⟩; have ir3 := ir2.fr0 fy3; have id3 := id'.fr0 fy3))
            | (go_at_call 26; go_must (refine (dx.out _ _ _ _ _ ⟨((docy.fr0 fy2).fr0 fy3).s1, ((docy.fr0 fy2).fr0 fy3).s2, ((docy.fr0 fy2).fr0 fy3).s3, hRY.out.len, hpgY, by omega, hRY.out.read⟩ rl0.out rl1.out).mono ?_; rintro e y4 ⟨rfl, fy4⟩; have ir4 := ir3.fr0 fy4; have id4 := id3.fr0 fy4))
            | (refine at_conv 24 9 _ rfl ?_; first | (refine wpList_str rfl _ 24 9 5 rfl Try.underlying24 Try.underlying5 Try.underlying9 _ _ rfl ir4 ?_) | (refine wpList_str rfl _ 24 9 5 rfl Try.underlying24 Try.underlying5 Try.underlying9 _ _ rfl id4 ?_))
            | (with_reducible refine at_wpP ?_; refine at_ld 39 _ rfl ?_; go_must (refine wpList_ldD rfl _ rfl g6 rfl _ _ _ _ _ _ doc6.bx ?_)))
          case hq1 => unfold maxLen; omega
          case hq2 => omega
          case hq3 => exact f50.size
          have FY := ((fy1.thenN fy2).thenN fy3).thenN fy4
          have zY := FY.size
          go_roundw
          case rel => exact ⟨m + 1, Y, _, v1', v2, v3', c, l', bad, by omega, by go_num, hRY, hpYm, hbY, hDz.fr0 FY, hdoc.fr0 FY, hsep.size zY, Gz.thenN FY⟩
          case measure => simp [intOf]; omega
        · have hk0b : (kd == 0) = false := by simpa using hk0
          by_cases hk1 : kd = 1
          · subst hk1
            obtain ⟨mm, Hmm⟩ : ∃ mm : Nat, Hid (min cont.length 186 = mm) := ⟨_, rfl⟩
            have hmm : mm ≤ cont.length ∧ mm ≤ 186 := by have := Hmm.out; omega
            have hmi : Hid (min (cont.length : Int) 186 = (mm : Int)) := by show _ = _; have := Hmm.out; omega
            obtain ⟨K, HK⟩ : ∃ K, Hid (cont.take mm = K) := ⟨_, rfl⟩
            have hKl : K.length ≤ 186 := by rw [← HK.out, List.length_take]; omega
            have hKb : Byt K := by rw [← HK.out]; exact Byt.take hcv.2 mm
            obtain ⟨P, HP⟩ : ∃ p, Hid (rootP ag K = p) := ⟨_, rfl⟩
            have hPl : Hid (P.length = 256) := by show _ = _; rw [← HP.out, rootP_len]
            have hPb : Byt P := by rw [← HP.out]; exact rootP_byt ag hKb
            obtain ⟨E, HE⟩ : ∃ E, Hid (X.writeE ak = E) := ⟨_, rfl⟩
            obtain ⟨Y, HY⟩ : ∃ Y, Hid (X.write ak P = Y) := ⟨_, rfl⟩
            obtain ⟨L', HL⟩ : ∃ l', Hid ((if inR X.pages.length ak then (actR c l X.down).1 else l) = l') := ⟨_, rfl⟩
            obtain ⟨hw1, hw2, hw3, hw4, hw5⟩ := hRX.out.write ak P
            have hbY : Hid Y.byt := by show Y.byt; rw [← HY.out]; exact write_byt hbX.out ak hPb
            rw [HY.out] at hw1 hw2 hw4 hw5
            rw [HE.out] at hw3
            rw [HL.out] at hw5
            replace hw1 : Hid _ := hw1
            replace hw2 : Hid _ := hw2
            replace hw3 : Hid _ := hw3
            replace hw4 : Hid _ := hw4
            have hRY : Hid (RXD Y c L' bad) := hw5
            have hpYm : Hid (Y.pend.length ≤ m + 1) := by show _ ≤ _; rw [← hw4.out]; have := hpl.out; split <;> (try simp only [List.length_append, List.length_singleton]) <;> omega
            have hpY : Y.pend.length ≤ 90000 := by have := hpYm.out; omega
            have hpgY : Y.pages.length ≤ 100000 := by rw [hw1.out]; exact hpg
            obtain ⟨a3, c3, hv1, _⟩ := hdc.s1.opn
            replace hv1 : Hid _ := hv1
            obtain ⟨Z, HZ⟩ : ∃ Z, Hid (zeroP = Z) := ⟨_, rfl⟩
            have hZl : Hid (Z.length = 256) := by show _ = _; rw [← HZ.out]; exact zeroP_len
            have hzp : Hid ((Try.prog.info? 46).map (·.zero) = some (some (.agg (pgv Z).toArray))) := by show _ = _; rw [← HZ.out]; exact zero_page
            obtain ⟨⟨rc, rg, re⟩, HRR⟩ : ∃ R, Hid (rRead Y = R) := ⟨_, rfl⟩
            obtain ⟨⟨xg, xe⟩, HNX⟩ : ∃ R, Hid (rNext Y = R) := ⟨_, rfl⟩
            have pr := show Hid _ from fun (F : Nat → Prop) (W : World) (h : Disk W F gd Y) => rread_p gd W h (by omega) hbY.out
            have px := show Hid _ from fun (F : Nat → Prop) (W : World) (h : Disk W F gd Y) => rnext_p gd W h (by omega) hbY.out
            have dr := show Hid _ from fun (L : Int) (V1 V2 V3 : Value) (W : World) (h : DocV W V1 V2 V3 Y bad) (l0 : (readP Y 0).1.length = 256) (l1 : (readP Y 1).1.length = 256) => dread_any V1 V2 V3 bad c L Y.down W h l0 l1 hbY.out
            have dx := show Hid _ from fun (L : Int) (V1 V2 V3 : Value) (W : World) (h : DocV W V1 V2 V3 Y bad) (l0 : (readP Y 0).1.length = 256) (l1 : (readP Y 1).1.length = 256) => dnext_any V1 V2 V3 bad c L Y.down W h l0 l1 hbY.out
            unfold ReadIs at pr
            unfold DReadIs at dr
            simp only [HRR.out] at pr dr
            simp only [HNX.out] at px dx
            have tst := str_refl rc
            go_wp2_with (first
              | (refine at_idx 33 _ _ rfl ?_; go_must (refine wpList_idxR rfl 33 _ _ rfl 42 Try.underlying33 5 act5_size _ _ _ rfl (hA.fr0 hf) (by decide) _ _ m rfl rfl hlt ?_; rw [Hx.out]; intro ba oa hba hca))
              | (with_reducible refine at_wpP ?_; refine at_ld 42 _ rfl ?_; go_must (refine wpList_load_mid rfl 42 _ rfl ba oa rfl (enc5 ⟨1, ak, ag, .slice ca cont.length cc, cont, .slice ka kp.length kc, kp⟩) _ (range_of fun j v hj => hca j v hj) under_act5 rfl (act5_sizeE _) ?_))
              | (with_reducible refine at_wpP ?_; refine wpList_allocV rfl 42 rfl _ act5_zero ?_; intro gx w4 hgx b4 f4 s4; have l4 := b4.lt)
              | (with_reducible refine at_wpP ?_; refine at_st 42 _ _ rfl ?_; go_must (refine wpList_storeV rfl 42 _ _ rfl gx 0 rfl (enc5 ⟨1, ak, ag, .slice ca cont.length cc, cont, .slice ka kp.length kc, kp⟩) rfl _ _ b4 (act5_sizeE _) (enc5_le _ _) hx1 ?_; intro w5 b5 f5; rw [putAt_all _ _ (enc5_eq _ _)] at b5; have F45 : Fr noB wr w5 := (f4.thenT f5 (fun q hq e => (by unfold onB1 at e; omega))); have z45 := F45.size; have hD5 := hD.fr0 F45; have doc5 := hdc.fr0 F45; have sep5 := hsp.size z45; have G5 := hf.thenN F45; obtain ⟨q0, _⟩ := b5.cell 0 _ rfl; obtain ⟨q1, _⟩ := b5.cell 1 _ rfl; obtain ⟨q2, _⟩ := b5.cell 2 _ rfl; obtain ⟨q3, _⟩ := b5.cell 3 _ rfl; obtain ⟨q4, _⟩ := b5.cell 4 _ rfl; have hngx : ¬ F gx := (fun q => (by have := (hsp _ q).2.1; omega)))))
            obtain ⟨wd, HWd⟩ : ∃ wd, Hid (w5.drew = wd) := ⟨_, rfl⟩
            have fd : Fr noB w5 wd := by rw [← HWd.out]; exact (Fr.refl _ _).drew
            have bd := b5.fr0 fd
            have hcd : SlI .u8 wd (.slice ca mm cc) K := by rw [← HK.out]; exact (hcv.fr0 (G5.thenN fd)).takeN mm hmm.1
            have hld := bd.lt
            refine wp_region_chain_lay (by kernel_rfl) [10, 11] [none, none, none, none, none, none, none, none, none, none, some 0, some 1]
              [fun v => v = .pointer (some ⟨gx, 2, none⟩), fun v => v = .int .u64 ag, fun v => v = .pointer (some ⟨gx, 3, none⟩), fun v => v = .slice ca cont.length cc, fun v => v = .pointer (some ⟨gx, 3, none⟩), fun v => v = .slice ca cont.length cc, fun v => v = .int .i64 (cont.length : Int), fun v => v = .int .i64 (mm : Int), fun v => v = (.slice ca mm cc), fun v => v = pgV P, fun _ => True, fun _ => True]
              (JG wd Z P) ((by show Fr noB wd _; rw [HWd.out]; exact Fr.refl _ _)) (by kernel_rfl) (by kernel_rfl) (by decide) ⟨?o0, ?o1, ?o2, ?o3, ?o4, ?o5, ?o6, ?o7, ?o8, ?o9, ?o10, ?o11, trivial⟩ ?oe
            case o0 =>
              intro A W hv hlen hJ hbase hdL hdH
              have e8 : A.eval (.tmp 8) = .pointer (some ⟨gx, 0, none⟩) := hbase 8 (by kernel_rfl)
              have f8 : A.tmps[8]?.getD undef = .pointer (some ⟨gx, 0, none⟩) := by simpa [Act.eval] using e8
              exact light_val rfl (v := .pointer (some ⟨gx, 2, none⟩)) (by simp [execOp, go_sem, e8, f8]) hJ rfl
            case o1 =>
              intro A W hv hlen hJ hbase hdL hdH
              have e70 : A.eval (.tmp 70) = .pointer (some ⟨gx, 2, none⟩) := hdL 0 70 (by kernel_rfl) (by kernel_rfl) (by kernel_rfl)
              have f70 : A.tmps[70]?.getD undef = .pointer (some ⟨gx, 2, none⟩) := by simpa [Act.eval] using e70
              obtain ⟨hcW, _⟩ := (bd.fr0 (JG.fr hJ)).cell 2 _ rfl
              exact light_val rfl (v := .int .u64 ag) (by simp [execOp, go_sem, e70, f70, hcW]) hJ rfl
            case o2 =>
              intro A W hv hlen hJ hbase hdL hdH
              have e8 : A.eval (.tmp 8) = .pointer (some ⟨gx, 0, none⟩) := hbase 8 (by kernel_rfl)
              have f8 : A.tmps[8]?.getD undef = .pointer (some ⟨gx, 0, none⟩) := by simpa [Act.eval] using e8
              exact light_val rfl (v := .pointer (some ⟨gx, 3, none⟩)) (by simp [execOp, go_sem, e8, f8]) hJ rfl
            case o3 =>
              intro A W hv hlen hJ hbase hdL hdH
              have e72 : A.eval (.tmp 72) = .pointer (some ⟨gx, 3, none⟩) := hdL 2 72 (by kernel_rfl) (by kernel_rfl) (by kernel_rfl)
              have f72 : A.tmps[72]?.getD undef = .pointer (some ⟨gx, 3, none⟩) := by simpa [Act.eval] using e72
              obtain ⟨hcW, _⟩ := (bd.fr0 (JG.fr hJ)).cell 3 _ rfl
              have hr := run_ld1 (P := Try.prog) (w := W) 24 5 Try.underlying24 gx 3 _ hcW
              exact light_val rfl (v := .slice ca cont.length cc) (by simp [execOp, e72, hr, Result.andThen]) hJ rfl
            case o4 =>
              intro A W hv hlen hJ hbase hdL hdH
              have e8 : A.eval (.tmp 8) = .pointer (some ⟨gx, 0, none⟩) := hbase 8 (by kernel_rfl)
              have f8 : A.tmps[8]?.getD undef = .pointer (some ⟨gx, 0, none⟩) := by simpa [Act.eval] using e8
              exact light_val rfl (v := .pointer (some ⟨gx, 3, none⟩)) (by simp [execOp, go_sem, e8, f8]) hJ rfl
            case o5 =>
              intro A W hv hlen hJ hbase hdL hdH
              have e74 : A.eval (.tmp 74) = .pointer (some ⟨gx, 3, none⟩) := hdL 4 74 (by kernel_rfl) (by kernel_rfl) (by kernel_rfl)
              have f74 : A.tmps[74]?.getD undef = .pointer (some ⟨gx, 3, none⟩) := by simpa [Act.eval] using e74
              obtain ⟨hcW, _⟩ := (bd.fr0 (JG.fr hJ)).cell 3 _ rfl
              have hr := run_ld1 (P := Try.prog) (w := W) 24 5 Try.underlying24 gx 3 _ hcW
              exact light_val rfl (v := .slice ca cont.length cc) (by simp [execOp, e74, hr, Result.andThen]) hJ rfl
            case o6 =>
              intro A W hv hlen hJ hbase hdL hdH
              have e75 : A.eval (.tmp 75) = .slice ca cont.length cc := hdL 5 75 (by kernel_rfl) (by kernel_rfl) (by kernel_rfl)
              have f75 : A.tmps[75]?.getD undef = .slice ca cont.length cc := by simpa [Act.eval] using e75
              exact light_val rfl (v := .int .i64 (cont.length : Int)) (by simp [execOp, resolve, invoke, builtin, Builtin.len_, go_sem, e75, f75]) hJ rfl
            case o7 =>
              intro A W hv hlen hJ hbase hdL hdH
              have e76 : A.eval (.tmp 76) = .int .i64 (cont.length : Int) := hdL 6 76 (by kernel_rfl) (by kernel_rfl) (by kernel_rfl)
              have f76 : A.tmps[76]?.getD undef = .int .i64 (cont.length : Int) := by simpa [Act.eval] using e76
              exact light_val rfl (v := .int .i64 (mm : Int)) (by rw [← hmi.out]; simp [execOp, resolve, invoke, builtin, go_sem, e76, f76]) hJ rfl
            case o8 =>
              intro A W hv hlen hJ hbase hdL hdH
              have e73 : A.eval (.tmp 73) = .slice ca cont.length cc := hdL 3 73 (by kernel_rfl) (by kernel_rfl) (by kernel_rfl)
              have f73 : A.tmps[73]?.getD undef = .slice ca cont.length cc := by simpa [Act.eval] using e73
              have e77 : A.eval (.tmp 77) = .int .i64 (mm : Int) := hdL 7 77 (by kernel_rfl) (by kernel_rfl) (by kernel_rfl)
              have f77 : A.tmps[77]?.getD undef = .int .i64 (mm : Int) := by simpa [Act.eval] using e77
              have hr := run_cuth (P := Try.prog) (w := W) 24 5 Try.underlying24 1 size_u8 ca cont.length cc .i64 mm (by omega)
              exact light_val rfl (v := (.slice ca mm cc)) (by simp [execOp, e73, e77, hr, Result.andThen]) hJ rfl
            case o9 =>
              intro A W hv hlen hJ hbase hdL hdH
              have e71 : A.eval (.tmp 71) = .int .u64 ag := hdL 1 71 (by kernel_rfl) (by kernel_rfl) (by kernel_rfl)
              have f71 : A.tmps[71]?.getD undef = .int .u64 ag := by simpa [Act.eval] using e71
              have e78 : A.eval (.tmp 78) = (.slice ca mm cc) := hdL 8 78 (by kernel_rfl) (by kernel_rfl) (by kernel_rfl)
              have f78 : A.tmps[78]?.getD undef = (.slice ca mm cc) := by simpa [Act.eval] using e78
              refine light_call rfl (f := 16) (args := #[.int .u64 ag, .slice ca mm cc]) (by simp [execOp, resolve, invoke, go_sem, e71, f71, e78, f78]) ?_
              refine (page_any ag hagb (.slice ca mm cc) K hKl W (hcd.fr0 (JG.fr hJ))).mono ?_
              rw [HP.out]
              rintro e w' ⟨rfl, f'⟩
              exact ⟨_, rfl, JG.grow hJ f', rfl⟩
            case o10 =>
              intro A W hv hlen hJ hbase hdL hdH
              obtain rfl : hv = [] := List.eq_nil_of_length_eq_zero hlen
              have hJ : Fr noB wd W := hJ
              refine heavy_wp rfl ?_
              unfold Oper.wp
              obtain ⟨ii, hii, hz'⟩ := Option.map_eq_some_iff.1 hzp.out
              have hrun : ∀ ev, (execOp ev { dst := some 14, op := .alloc 46, type := 0, pos := "law.go:73", after := #[], guard := none }).run Try.prog W = .ok (.value (.pointer (some ⟨W.heap.size, 0, none⟩))) (W.alloc (.cells (pgv Z).toArray 46)) := by
                intro ev
                simp [execOp, go_sem, zeroValue, typeInfo, hii, hz', Value.cells]
              rw [hrun]
              refine ⟨_, rfl, W.heap.size, rfl, ?_, hJ.size, hJ.alloc _⟩
              show (W.heap.push _)[W.heap.size]? = _
              rw [Array.getElem?_push, if_pos rfl]
            case o11 =>
              intro A W hv hlen hJ hbase hdL hdH
              have e79 : A.eval (.tmp 79) = pgV P := hdL 9 79 (by kernel_rfl) (by kernel_rfl) (by kernel_rfl)
              have f79 : A.tmps[79]?.getD undef = pgV P := by simpa [Act.eval] using e79
              obtain ⟨v14, rfl⟩ := List.length_eq_one_iff.1 hlen
              obtain ⟨g14, rfl, hb14, hg14, hfW⟩ := hJ
              have e14 : A.eval (.tmp 14) = .pointer (some ⟨g14, 0, none⟩) := by have := hdH 10 14 0 (by kernel_rfl) rfl (by kernel_rfl); simpa using this.symm
              refine heavy_wp rfl ?_
              refine wp_stP (.tmp 14) (.tmp 79) rfl g14 e14 P e79 Z hb14 hPl.out hZl.out ?_
              intro w' b' f'
              exact ⟨undef, rfl, g14, rfl, b', hg14, hfW.thenT f' (fun q hq e => by unfold onB1 at e; omega)⟩
            case oe =>
              intro vs' W' hv hlen hJ hL hH
              match hv, hlen with
              | [y1', y2'], _ =>
                have hx14 := hH 0 10 rfl (by rfl)
                obtain ⟨g14, rfl, b14, hg14, fW⟩ := hJ
                have hx14 : vs' 10 = .pointer (some ⟨g14, 0, none⟩) := by simpa using hx14.symm
                simp only [layL, Nat.reduceAdd, Act.put, List.setIfInBounds_toArray, List.set_cons_zero, List.set_cons_succ]
                clear hL hH
                generalize vs' 0 = y100 at *
                generalize vs' 1 = y101 at *
                generalize vs' 2 = y102 at *
                generalize vs' 3 = y103 at *
                generalize vs' 4 = y104 at *
                generalize vs' 5 = y105 at *
                generalize vs' 6 = y106 at *
                generalize vs' 7 = y107 at *
                generalize vs' 8 = y108 at *
                generalize vs' 9 = y109 at *
                generalize vs' 10 = y110 at *
                generalize vs' 11 = y111 at *
                subst hx14
                have F5d : Fr noB w5 W' := fd.thenN fW
                have zW := F5d.size
                have hD5 := hD5.fr0 F5d
                have doc5 := doc5.fr0 F5d
                have sep5 := sep5.size zW
                have G5 := G5.thenN F5d
                have b5 := b5.fr0 F5d
                have hn14 : ¬ F g14 := fun q => by have := (hsp _ q).2.1; have := fd.size; have := F45.size; omega
                obtain ⟨q1', _⟩ := b5.cell 1 _ rfl
                go_wp2_with (first
                  | (with_reducible refine at_wpP ?_; refine at_ld 46 _ rfl ?_; have b146' := b146; go_must (refine wpList_loadP rfl _ rfl g14 rfl _ b146 hPl.out ?_))
                  | (with_reducible refine at_wpP ?_; refine at_ld 46 _ rfl ?_; go_must (refine wpList_loadP rfl _ rfl g14 rfl _ b14 hPl.out ?_))
                  | (go_at_call 17; go_must (refine (write_any gd ak P hPl.out _ hD5 (by omega)).mono ?_; rw [HE.out, HY.out]; rintro e w6 ⟨rfl, d6, f6⟩; have d6 := d6.tight; have z6 := f6.size; have doc6 := doc5.prog sep5 f6; have sep6 : Sep (fun k => orNew F W' k ∧ k < w6.heap.size) w6 w0.heap.size g6 v1 v2 v3 := (sep5.prog doc5 (by have := hf.size; omega) (fun q hq => ⟨hq.2, hq.1⟩)); have bx6 := b5.fr f6 hngx; have b146 := b14.fr f6 hn14; have G6 := G5.thenT f6 (fun q hq hq' => (by have := (hsp q hq').1; omega)); have hl6 := doc6.bx.lt; obtain ⟨c61, _⟩ := bx6.cell 1 _ rfl))
                  | (go_at_call 18; go_must (refine (rput4_any v1 v2 v3 X.pages.length a3 c3 hv1.out hi2 X.pend c l hRX.out.hl X.down ak P hPl.out _ doc6.s3 (by omega)).mono ?_; rw [hw4.out, hw2.out, hw3.out, HL.out]; rintro e w7 ⟨v3', rfl, t3, f7, nw3⟩; have z7 := f7.size; have hi3' := SlR.isSl t3))
                  | (with_reducible refine at_wpP ?_; refine at_st 39 _ _ rfl ?_; go_must (refine wpList_stD rfl _ _ rfl g6 rfl _ _ _ _ _ _ rfl _ (doc6.bx.fr0 f7) rfl hi1 hi2 hi3' ?_; intro w8 b8 f8; have z8 := f8.size; have sep7 := sep6.doc z7 (nwB.refl _ _ _) (nwB.refl _ _ _) nw3; have hsep := sep7.size z8; have hDz := (d6.fr0 f7).fr f8 sep7.ng; have Gz := (G6.thenN f7).thenT f8 (fun q hq e => (by unfold onB1 at e; omega)); have hdoc : DocD w8 g6 v1 v2 v3' c L' Y.down Y.pages bad Y.pend := (by rw [hw1.out]; exact DocD.put f8 b8 (doc6.s1.fr0 f7) (doc6.s2.fr0 f7) t3 ((nwB.refl _ _ _).n doc6.n1 hl6 z7) ((nwB.refl _ _ _).n doc6.n2 hl6 z7) (nw3.n doc6.n3 hl6 z7))))
                  | (go_at_call 9; go_must (refine (pr.out _ _ hDz).mono ?_; rintro e y1 ⟨vr, rfl, ir, nr, fy1⟩; have docy := hdoc.fr0 fy1; have rl0 := show Hid _ from readP_len hDz 0; have rl1 := show Hid _ from readP_len hDz 1; obtain ⟨ra, rb, rfl, _⟩ := ir.opn))
                  | (with_reducible refine at_wpP ?_; refine at_ld 39 _ rfl ?_; have fy3' := fy3; go_must (refine wpList_ldD rfl _ rfl g6 rfl _ _ _ _ _ _ ((docy.fr0 fy2).fr0 fy3).bx ?_))
                  | (with_reducible refine at_wpP ?_; refine at_ld 39 _ rfl ?_; have fy1' := fy1; go_must (refine wpList_ldD rfl _ rfl g6 rfl _ _ _ _ _ _ docy.bx ?_))
                  | (go_at_call 25; go_must (refine (dr.out _ _ _ _ _ ⟨docy.s1, docy.s2, docy.s3, hRY.out.len, hpgY, by omega, hRY.out.read⟩ rl0.out rl1.out).mono ?_; rintro e y2 ⟨vd, rfl, id', fy2⟩; have ir2 := ir.fr0 fy2; obtain ⟨da, db, rfl, _⟩ := id'.opn))
                  | (go_at_call 11; go_must (refine (px.out _ _ ((hDz.fr0 fy1).fr0 fy2)).mono ?_; rintro e y3 ⟨rfl, fy3⟩; have ir3 := ir2.fr0 fy3; have id3 := id'.fr0 fy3))
                  | (go_at_call 26; go_must (refine (dx.out _ _ _ _ _ ⟨((docy.fr0 fy2).fr0 fy3).s1, ((docy.fr0 fy2).fr0 fy3).s2, ((docy.fr0 fy2).fr0 fy3).s3, hRY.out.len, hpgY, by omega, hRY.out.read⟩ rl0.out rl1.out).mono ?_; rintro e y4 ⟨rfl, fy4⟩; have ir4 := ir3.fr0 fy4; have id4 := id3.fr0 fy4))
                  | (refine at_conv 24 9 _ rfl ?_; first | (refine wpList_str rfl _ 24 9 5 rfl Try.underlying24 Try.underlying5 Try.underlying9 _ _ rfl ir4 ?_) | (refine wpList_str rfl _ 24 9 5 rfl Try.underlying24 Try.underlying5 Try.underlying9 _ _ rfl id4 ?_))
                  | (with_reducible refine at_wpP ?_; refine at_ld 39 _ rfl ?_; go_must (refine wpList_ldD rfl _ rfl g6 rfl _ _ _ _ _ _ doc6.bx ?_)))
                have FY := ((fy1.thenN fy2).thenN fy3).thenN fy4
                have zY := FY.size
                go_roundw
                case rel => exact ⟨m + 1, Y, _, v1, v2, v3', c, L', bad, by omega, by go_num, hRY, hpYm, hbY, hDz.fr0 FY, hdoc.fr0 FY, hsep.size zY, Gz.thenN FY⟩
                case measure => simp [intOf]; omega
          · have hk1b : (kd == 1) = false := by simpa using hk1
            by_cases hk2 : kd = 2
            · subst hk2
              obtain ⟨Y, HY⟩ : ∃ Y, Hid (({ X with left := ak } : DSt) = Y) := ⟨_, rfl⟩
              obtain ⟨cz, Hcz⟩ : ∃ cz, Hid (decide (0 ≤ ak) = cz) := ⟨_, rfl⟩
              have hRY : Hid (RXD Y cz ak bad) := by show RXD _ _ _ _; rw [← HY.out, ← Hcz.out]; exact hRX.out.cut ak hakr
              have hbY : Hid Y.byt := by show Y.byt; rw [← HY.out]; exact hbX.out
              have hpYm : Hid (Y.pend.length ≤ m + 1) := by show _ ≤ _; rw [← HY.out]; have := hpl.out; show X.pend.length ≤ _; omega
              have hpY : Y.pend.length ≤ 90000 := by have := hpYm.out; omega
              have hpgY : Y.pages.length ≤ 100000 := by rw [← HY.out]; exact hpg
              obtain ⟨⟨rc, rg, re⟩, HRR⟩ : ∃ R, Hid (rRead Y = R) := ⟨_, rfl⟩
              obtain ⟨⟨xg, xe⟩, HNX⟩ : ∃ R, Hid (rNext Y = R) := ⟨_, rfl⟩
              have pr := show Hid _ from fun (F : Nat → Prop) (W : World) (h : Disk W F gd Y) => rread_p gd W h (by omega) hbY.out
              have px := show Hid _ from fun (F : Nat → Prop) (W : World) (h : Disk W F gd Y) => rnext_p gd W h (by omega) hbY.out
              have dr := show Hid _ from fun (L : Int) (V1 V2 V3 : Value) (W : World) (h : DocV W V1 V2 V3 Y bad) (l0 : (readP Y 0).1.length = 256) (l1 : (readP Y 1).1.length = 256) => dread_any V1 V2 V3 bad cz L Y.down W h l0 l1 hbY.out
              have dx := show Hid _ from fun (L : Int) (V1 V2 V3 : Value) (W : World) (h : DocV W V1 V2 V3 Y bad) (l0 : (readP Y 0).1.length = 256) (l1 : (readP Y 1).1.length = 256) => dnext_any V1 V2 V3 bad cz L Y.down W h l0 l1 hbY.out
              unfold ReadIs at pr
              unfold DReadIs at dr
              simp only [HRR.out] at pr dr
              simp only [HNX.out] at px dx
              have tst := str_refl rc
              go_wp2_with (first
                | (refine at_idx 33 _ _ rfl ?_; go_must (refine wpList_idxR rfl 33 _ _ rfl 42 Try.underlying33 5 act5_size _ _ _ rfl (hA.fr0 hf) (by decide) _ _ m rfl rfl hlt ?_; rw [Hx.out]; intro ba oa hba hca))
                | (with_reducible refine at_wpP ?_; refine at_ld 42 _ rfl ?_; go_must (refine wpList_load_mid rfl 42 _ rfl ba oa rfl (enc5 ⟨2, ak, ag, .slice ca cont.length cc, cont, .slice ka kp.length kc, kp⟩) _ (range_of fun j v hj => hca j v hj) under_act5 rfl (act5_sizeE _) ?_))
                | (with_reducible refine at_wpP ?_; refine wpList_allocV rfl 42 rfl _ act5_zero ?_; intro gx w4 hgx b4 f4 s4; have l4 := b4.lt)
                | (with_reducible refine at_wpP ?_; refine at_st 42 _ _ rfl ?_; go_must (refine wpList_storeV rfl 42 _ _ rfl gx 0 rfl (enc5 ⟨2, ak, ag, .slice ca cont.length cc, cont, .slice ka kp.length kc, kp⟩) rfl _ _ b4 (act5_sizeE _) (enc5_le _ _) hx1 ?_; intro w5 b5 f5; rw [putAt_all _ _ (enc5_eq _ _)] at b5; have F45 : Fr noB wr w5 := (f4.thenT f5 (fun q hq e => (by unfold onB1 at e; omega))); have z45 := F45.size; have hD5 := hD.fr0 F45; have doc5 := hdc.fr0 F45; have sep5 := hsp.size z45; have G5 := hf.thenN F45; obtain ⟨q0, _⟩ := b5.cell 0 _ rfl; obtain ⟨q1, _⟩ := b5.cell 1 _ rfl; obtain ⟨q2, _⟩ := b5.cell 2 _ rfl; obtain ⟨q3, _⟩ := b5.cell 3 _ rfl; obtain ⟨q4, _⟩ := b5.cell 4 _ rfl; have hngx : ¬ F gx := (fun q => (by have := (hsp _ q).2.1; omega))))
                | (go_at_call 19; go_must (refine (pcut_any gd ak hakr _ hD5).mono ?_; rw [HY.out]; rintro e w6 ⟨rfl, d6, f6⟩; have z6 := f6.size; have doc6 := doc5.prog sep5 f6; have sep6 := sep5.size z6; have bx6 := b5.fr f6 hngx; have G6 := G5.thenT f6 (fun q hq hq' => (by have := (hsp q hq').1; omega)); have hl6 := doc6.bx.lt; obtain ⟨c60, _⟩ := bx6.cell 0 _ rfl; obtain ⟨c61, _⟩ := bx6.cell 1 _ rfl; obtain ⟨c63, _⟩ := bx6.cell 3 _ rfl; obtain ⟨c64, _⟩ := bx6.cell 4 _ rfl))
                | (go_at_call 20; go_must (refine (rcut_any v1 v2 v3 hi1 hi2 hi3 c l X.down ak _).mono ?_; rw [Hcz.out]; rintro e w7 ⟨rfl, f7⟩; have z7 := f7.size))
                | (with_reducible refine at_wpP ?_; refine at_st 39 _ _ rfl ?_; go_must (refine wpList_stD rfl _ _ rfl g6 rfl _ _ _ _ _ _ rfl _ (doc6.bx.fr0 f7) rfl hi1 hi2 hi3 ?_; intro w8 b8 f8; have z8 := f8.size; have sep7 := sep6.doc z7 (nwB.refl _ _ _) (nwB.refl _ _ _) (nwB.refl _ _ _); have hsep := sep7.size z8; have hDz := (d6.fr0 f7).fr f8 sep7.ng; have Gz := (G6.thenN f7).thenT f8 (fun q hq e => (by unfold onB1 at e; omega)); have hdoc : DocD w8 g6 v1 v2 v3 cz ak Y.down Y.pages bad Y.pend := (by rw [← HY.out]; exact DocD.put f8 b8 (doc6.s1.fr0 f7) (doc6.s2.fr0 f7) (doc6.s3.fr0 f7) ((nwB.refl _ _ _).n doc6.n1 hl6 z7) ((nwB.refl _ _ _).n doc6.n2 hl6 z7) ((nwB.refl _ _ _).n doc6.n3 hl6 z7))))
                | (go_at_call 9; go_must (refine (pr.out _ _ hDz).mono ?_; rintro e y1 ⟨vr, rfl, ir, nr, fy1⟩; have docy := hdoc.fr0 fy1; have rl0 := show Hid _ from readP_len hDz 0; have rl1 := show Hid _ from readP_len hDz 1; obtain ⟨ra, rb, rfl, _⟩ := ir.opn))
                | (with_reducible refine at_wpP ?_; refine at_ld 39 _ rfl ?_; have fy3' := fy3; go_must (refine wpList_ldD rfl _ rfl g6 rfl _ _ _ _ _ _ ((docy.fr0 fy2).fr0 fy3).bx ?_))
                | (with_reducible refine at_wpP ?_; refine at_ld 39 _ rfl ?_; have fy1' := fy1; go_must (refine wpList_ldD rfl _ rfl g6 rfl _ _ _ _ _ _ docy.bx ?_))
                | (go_at_call 25; go_must (refine (dr.out _ _ _ _ _ ⟨docy.s1, docy.s2, docy.s3, hRY.out.len, hpgY, by omega, hRY.out.read⟩ rl0.out rl1.out).mono ?_; rintro e y2 ⟨vd, rfl, id', fy2⟩; have ir2 := ir.fr0 fy2; obtain ⟨da, db, rfl, _⟩ := id'.opn))
                | (go_at_call 11; go_must (refine (px.out _ _ ((hDz.fr0 fy1).fr0 fy2)).mono ?_; rintro e y3 ⟨rfl, fy3⟩; have ir3 := ir2.fr0 fy3; have id3 := id'.fr0 fy3))
                | (go_at_call 26; go_must (refine (dx.out _ _ _ _ _ ⟨((docy.fr0 fy2).fr0 fy3).s1, ((docy.fr0 fy2).fr0 fy3).s2, ((docy.fr0 fy2).fr0 fy3).s3, hRY.out.len, hpgY, by omega, hRY.out.read⟩ rl0.out rl1.out).mono ?_; rintro e y4 ⟨rfl, fy4⟩; have ir4 := ir3.fr0 fy4; have id4 := id3.fr0 fy4))
                | (refine at_conv 24 9 _ rfl ?_; first | (refine wpList_str rfl _ 24 9 5 rfl Try.underlying24 Try.underlying5 Try.underlying9 _ _ rfl ir4 ?_) | (refine wpList_str rfl _ 24 9 5 rfl Try.underlying24 Try.underlying5 Try.underlying9 _ _ rfl id4 ?_))
                | (with_reducible refine at_wpP ?_; refine at_ld 39 _ rfl ?_; go_must (refine wpList_ldD rfl _ rfl g6 rfl _ _ _ _ _ _ doc6.bx ?_)))
              have FY := ((fy1.thenN fy2).thenN fy3).thenN fy4
              have zY := FY.size
              go_roundw
              case rel => exact ⟨m + 1, Y, F, v1, v2, v3, cz, ak, bad, by omega, by go_num, hRY, hpYm, hbY, hDz.fr0 FY, hdoc.fr0 FY, hsep.size zY, Gz.thenN FY⟩
              case measure => simp [intOf]; omega
            · have hk2b : (kd == 2) = false := by simpa using hk2
              by_cases hk3 : kd = 3
              · subst hk3
                obtain ⟨Y, HY⟩ : ∃ Y, Hid (X.crash kp = Y) := ⟨_, rfl⟩
                obtain ⟨hc1, hc2⟩ := hRX.out.crash hpl256.out kp
                have hbY : Hid Y.byt := by show Y.byt; rw [← HY.out]; exact crash_byt hbX.out kp
                rw [HY.out] at hc1 hc2
                replace hc1 : Hid _ := hc1
                have hRY : Hid (RXD Y false 0 bad) := hc2
                have hYd : Hid (Y.down = false) := by show _ = _; rw [← HY.out]; rfl
                have hYp : Hid (Y.pend = []) := by show _ = _; rw [← HY.out]; rfl
                have hpYm : Hid (Y.pend.length ≤ m + 1) := by show _ ≤ _; rw [hYp.out]; exact Nat.zero_le _
                have hpY : Y.pend.length ≤ 90000 := by have := hpYm.out; omega
                have hpgY : Y.pages.length ≤ 100000 := by have := hRY.out.len; have := hRX.out.len; omega
                obtain ⟨⟨rc, rg, re⟩, HRR⟩ : ∃ R, Hid (rRead Y = R) := ⟨_, rfl⟩
                obtain ⟨⟨xg, xe⟩, HNX⟩ : ∃ R, Hid (rNext Y = R) := ⟨_, rfl⟩
                have pr := show Hid _ from fun (F : Nat → Prop) (W : World) (h : Disk W F gd Y) => rread_p gd W h (by omega) hbY.out
                have px := show Hid _ from fun (F : Nat → Prop) (W : World) (h : Disk W F gd Y) => rnext_p gd W h (by omega) hbY.out
                have dr := show Hid _ from fun (L : Int) (V1 V2 V3 : Value) (W : World) (h : DocV W V1 V2 V3 Y bad) (l0 : (readP Y 0).1.length = 256) (l1 : (readP Y 1).1.length = 256) => dread_any V1 V2 V3 bad false L Y.down W h l0 l1 hbY.out
                have dx := show Hid _ from fun (L : Int) (V1 V2 V3 : Value) (W : World) (h : DocV W V1 V2 V3 Y bad) (l0 : (readP Y 0).1.length = 256) (l1 : (readP Y 1).1.length = 256) => dnext_any V1 V2 V3 bad false L Y.down W h l0 l1 hbY.out
                unfold ReadIs at pr
                unfold DReadIs at dr
                simp only [HRR.out] at pr dr
                simp only [HNX.out] at px dx
                have tst := str_refl rc
                go_wp2_with (first
                  | (refine at_idx 33 _ _ rfl ?_; go_must (refine wpList_idxR rfl 33 _ _ rfl 42 Try.underlying33 5 act5_size _ _ _ rfl (hA.fr0 hf) (by decide) _ _ m rfl rfl hlt ?_; rw [Hx.out]; intro ba oa hba hca))
                  | (with_reducible refine at_wpP ?_; refine at_ld 42 _ rfl ?_; go_must (refine wpList_load_mid rfl 42 _ rfl ba oa rfl (enc5 ⟨3, ak, ag, .slice ca cont.length cc, cont, .slice ka kp.length kc, kp⟩) _ (range_of fun j v hj => hca j v hj) under_act5 rfl (act5_sizeE _) ?_))
                  | (with_reducible refine at_wpP ?_; refine wpList_allocV rfl 42 rfl _ act5_zero ?_; intro gx w4 hgx b4 f4 s4; have l4 := b4.lt)
                  | (with_reducible refine at_wpP ?_; refine at_st 42 _ _ rfl ?_; go_must (refine wpList_storeV rfl 42 _ _ rfl gx 0 rfl (enc5 ⟨3, ak, ag, .slice ca cont.length cc, cont, .slice ka kp.length kc, kp⟩) rfl _ _ b4 (act5_sizeE _) (enc5_le _ _) hx1 ?_; intro w5 b5 f5; rw [putAt_all _ _ (enc5_eq _ _)] at b5; have F45 : Fr noB wr w5 := (f4.thenT f5 (fun q hq e => (by unfold onB1 at e; omega))); have z45 := F45.size; have hD5 := hD.fr0 F45; have doc5 := hdc.fr0 F45; have sep5 := hsp.size z45; have G5 := hf.thenN F45; obtain ⟨q0, _⟩ := b5.cell 0 _ rfl; obtain ⟨q1, _⟩ := b5.cell 1 _ rfl; obtain ⟨q2, _⟩ := b5.cell 2 _ rfl; obtain ⟨q3, _⟩ := b5.cell 3 _ rfl; obtain ⟨q4, _⟩ := b5.cell 4 _ rfl; have hngx : ¬ F gx := (fun q => (by have := (hsp _ q).2.1; omega))))
                  | (go_at_call 21; go_must (refine (crash_anyW gd (.slice ka kp.length kc) kp _ hD5 (by omega) (fun W hW => hkv.fr0 (G5.thenT hW (fun q hq hq' => (by have := (hsp q hq'.1).1; omega))))).mono ?_; rw [HY.out]; rintro e w6 ⟨rfl, d6, f6⟩; have z6 := f6.size; have doc6 := doc5.prog sep5 f6; have sep6 := sep5.size z6; have bx6 := b5.fr f6 hngx; have G6 := G5.thenT f6 (fun q hq hq' => (by have := (hsp q hq').1; omega)); have hl6 := doc6.bx.lt; obtain ⟨c60, _⟩ := bx6.cell 0 _ rfl; obtain ⟨c61, _⟩ := bx6.cell 1 _ rfl; obtain ⟨c63, _⟩ := bx6.cell 3 _ rfl; obtain ⟨c64, _⟩ := bx6.cell 4 _ rfl))
                  | (go_at_call 22; go_must (refine (rcrash_any v1 v2 v3 (.slice ka kp.length kc) hi2 X.pages X.pend kp c l X.down _ doc6.s1 doc6.s3 (hkv.fr0 G6) hin.out hpg (by omega)).mono ?_; rw [hc1.out]; rintro e w7 ⟨v1', rfl, t1, f7, nq1⟩; have z7 := f7.size; have hi1' := SlR.isSl t1; have nw1 := nwB.of (v := v1) nq1))
                  | (with_reducible refine at_wpP ?_; refine at_st 39 _ _ rfl ?_; go_must (refine wpList_stD rfl _ _ rfl g6 rfl _ _ _ _ _ _ rfl _ (doc6.bx.fr0 f7) rfl hi1' hi2 (isSl_mk _ _ _) ?_; intro w8 b8 f8; have z8 := f8.size; have sep7 := sep6.doc z7 nw1 (nwB.refl _ _ _) (nwB.none _ _ _); have hsep := sep7.size z8; have hDz := (d6.fr0 f7).fr f8 sep7.ng; have Gz := (G6.thenN f7).thenT f8 (fun q hq e => (by unfold onB1 at e; omega)); have hdoc : DocD w8 g6 v1' v2 (.slice none 0 0) false 0 Y.down Y.pages bad Y.pend := (by rw [hYd.out, hYp.out]; exact DocD.put f8 b8 t1 (doc6.s2.fr0 f7) (slW_nil _) (nw1.n doc6.n1 hl6 z7) ((nwB.refl _ _ _).n doc6.n2 hl6 z7) (none_n _ _))))
                  | (go_at_call 9; go_must (refine (pr.out _ _ hDz).mono ?_; rintro e y1 ⟨vr, rfl, ir, nr, fy1⟩; have docy := hdoc.fr0 fy1; have rl0 := show Hid _ from readP_len hDz 0; have rl1 := show Hid _ from readP_len hDz 1; obtain ⟨ra, rb, rfl, _⟩ := ir.opn))
                  | (with_reducible refine at_wpP ?_; refine at_ld 39 _ rfl ?_; have fy3' := fy3; go_must (refine wpList_ldD rfl _ rfl g6 rfl _ _ _ _ _ _ ((docy.fr0 fy2).fr0 fy3).bx ?_))
                  | (with_reducible refine at_wpP ?_; refine at_ld 39 _ rfl ?_; have fy1' := fy1; go_must (refine wpList_ldD rfl _ rfl g6 rfl _ _ _ _ _ _ docy.bx ?_))
                  | (go_at_call 25; go_must (refine (dr.out _ _ _ _ _ ⟨docy.s1, docy.s2, docy.s3, hRY.out.len, hpgY, by omega, hRY.out.read⟩ rl0.out rl1.out).mono ?_; rintro e y2 ⟨vd, rfl, id', fy2⟩; have ir2 := ir.fr0 fy2; obtain ⟨da, db, rfl, _⟩ := id'.opn))
                  | (go_at_call 11; go_must (refine (px.out _ _ ((hDz.fr0 fy1).fr0 fy2)).mono ?_; rintro e y3 ⟨rfl, fy3⟩; have ir3 := ir2.fr0 fy3; have id3 := id'.fr0 fy3))
                  | (go_at_call 26; go_must (refine (dx.out _ _ _ _ _ ⟨((docy.fr0 fy2).fr0 fy3).s1, ((docy.fr0 fy2).fr0 fy3).s2, ((docy.fr0 fy2).fr0 fy3).s3, hRY.out.len, hpgY, by omega, hRY.out.read⟩ rl0.out rl1.out).mono ?_; rintro e y4 ⟨rfl, fy4⟩; have ir4 := ir3.fr0 fy4; have id4 := id3.fr0 fy4))
                  | (refine at_conv 24 9 _ rfl ?_; first | (refine wpList_str rfl _ 24 9 5 rfl Try.underlying24 Try.underlying5 Try.underlying9 _ _ rfl ir4 ?_) | (refine wpList_str rfl _ 24 9 5 rfl Try.underlying24 Try.underlying5 Try.underlying9 _ _ rfl id4 ?_))
                  | (with_reducible refine at_wpP ?_; refine at_ld 39 _ rfl ?_; go_must (refine wpList_ldD rfl _ rfl g6 rfl _ _ _ _ _ _ doc6.bx ?_)))
                have FY := ((fy1.thenN fy2).thenN fy3).thenN fy4
                have zY := FY.size
                go_roundw
                case rel => exact ⟨m + 1, Y, F, v1', v2, (.slice none 0 0), false, 0, bad, by omega, by go_num, hRY, hpYm, hbY, hDz.fr0 FY, hdoc.fr0 FY, hsep.size zY, Gz.thenN FY⟩
                case measure => simp [intOf]; omega
              · have hk3b : (kd == 3) = false := by simpa using hk3
                by_cases hk4 : kd = 4
                · subst hk4
                  obtain ⟨E, HE⟩ : ∃ E, Hid ((if inR X.pages.length ak then (0 : Int) else 41) = E) := ⟨_, rfl⟩
                  obtain ⟨Y, HY⟩ : ∃ Y, Hid (X.spoil ak true = Y) := ⟨_, rfl⟩
                  have hbY : Hid Y.byt := by show Y.byt; rw [← HY.out]; unfold DSt.spoil; split <;> exact hbX.out
                  obtain ⟨bz, Hbz⟩ : ∃ bz, Hid ((if inR X.pages.length ak then bad.set ak.toNat true else bad) = bz) := ⟨_, rfl⟩
                  obtain ⟨hy1, hy2, hy3, hy4⟩ := hRX.out.spoil ak true
                  rw [HY.out] at hy1 hy2 hy3 hy4
                  rw [Hbz.out] at hy4
                  replace hy1 : Hid _ := hy1
                  replace hy2 : Hid _ := hy2
                  replace hy3 : Hid _ := hy3
                  have hRY : Hid (RXD Y c l bz) := hy4
                  have hpYm : Hid (Y.pend.length ≤ m + 1) := by show _ ≤ _; rw [hy2.out]; have := hpl.out; omega
                  have hpY : Y.pend.length ≤ 90000 := by have := hpYm.out; omega
                  have hpgY : Y.pages.length ≤ 100000 := by rw [hy1.out]; exact hpg
                  obtain ⟨a3, c3, hv1, _⟩ := hdc.s1.opn
                  replace hv1 : Hid _ := hv1
                  obtain ⟨⟨rc, rg, re⟩, HRR⟩ : ∃ R, Hid (rRead Y = R) := ⟨_, rfl⟩
                  obtain ⟨⟨xg, xe⟩, HNX⟩ : ∃ R, Hid (rNext Y = R) := ⟨_, rfl⟩
                  have pr := show Hid _ from fun (F : Nat → Prop) (W : World) (h : Disk W F gd Y) => rread_p gd W h (by omega) hbY.out
                  have px := show Hid _ from fun (F : Nat → Prop) (W : World) (h : Disk W F gd Y) => rnext_p gd W h (by omega) hbY.out
                  have dr := show Hid _ from fun (L : Int) (V1 V2 V3 : Value) (W : World) (h : DocV W V1 V2 V3 Y bz) (l0 : (readP Y 0).1.length = 256) (l1 : (readP Y 1).1.length = 256) => dread_any V1 V2 V3 bz c L Y.down W h l0 l1 hbY.out
                  have dx := show Hid _ from fun (L : Int) (V1 V2 V3 : Value) (W : World) (h : DocV W V1 V2 V3 Y bz) (l0 : (readP Y 0).1.length = 256) (l1 : (readP Y 1).1.length = 256) => dnext_any V1 V2 V3 bz c L Y.down W h l0 l1 hbY.out
                  unfold ReadIs at pr
                  unfold DReadIs at dr
                  simp only [HRR.out] at pr dr
                  simp only [HNX.out] at px dx
                  have tst := str_refl rc
                  go_wp2_with (first
                    | (refine at_idx 33 _ _ rfl ?_; go_must (refine wpList_idxR rfl 33 _ _ rfl 42 Try.underlying33 5 act5_size _ _ _ rfl (hA.fr0 hf) (by decide) _ _ m rfl rfl hlt ?_; rw [Hx.out]; intro ba oa hba hca))
                    | (with_reducible refine at_wpP ?_; refine at_ld 42 _ rfl ?_; go_must (refine wpList_load_mid rfl 42 _ rfl ba oa rfl (enc5 ⟨4, ak, ag, .slice ca cont.length cc, cont, .slice ka kp.length kc, kp⟩) _ (range_of fun j v hj => hca j v hj) under_act5 rfl (act5_sizeE _) ?_))
                    | (with_reducible refine at_wpP ?_; refine wpList_allocV rfl 42 rfl _ act5_zero ?_; intro gx w4 hgx b4 f4 s4; have l4 := b4.lt)
                    | (with_reducible refine at_wpP ?_; refine at_st 42 _ _ rfl ?_; go_must (refine wpList_storeV rfl 42 _ _ rfl gx 0 rfl (enc5 ⟨4, ak, ag, .slice ca cont.length cc, cont, .slice ka kp.length kc, kp⟩) rfl _ _ b4 (act5_sizeE _) (enc5_le _ _) hx1 ?_; intro w5 b5 f5; rw [putAt_all _ _ (enc5_eq _ _)] at b5; have F45 : Fr noB wr w5 := (f4.thenT f5 (fun q hq e => (by unfold onB1 at e; omega))); have z45 := F45.size; have hD5 := hD.fr0 F45; have doc5 := hdc.fr0 F45; have sep5 := hsp.size z45; have G5 := hf.thenN F45; obtain ⟨q0, _⟩ := b5.cell 0 _ rfl; obtain ⟨q1, _⟩ := b5.cell 1 _ rfl; obtain ⟨q2, _⟩ := b5.cell 2 _ rfl; obtain ⟨q3, _⟩ := b5.cell 3 _ rfl; obtain ⟨q4, _⟩ := b5.cell 4 _ rfl; have hngx : ¬ F gx := (fun q => (by have := (hsp _ q).2.1; omega))))
                    | (go_at_call 23; go_must (refine (spoil_any gd ak hakr true _ hD5).mono ?_; rw [HE.out, HY.out]; rintro e w6 ⟨rfl, d6, f6⟩; have z6 := f6.size; have doc6 := doc5.prog sep5 f6; have sep6 := sep5.size z6; have bx6 := b5.fr f6 hngx; have G6 := G5.thenT f6 (fun q hq hq' => (by have := (hsp q hq').1; omega)); have hl6 := doc6.bx.lt; obtain ⟨c60, _⟩ := bx6.cell 0 _ rfl; obtain ⟨c61, _⟩ := bx6.cell 1 _ rfl; obtain ⟨c63, _⟩ := bx6.cell 3 _ rfl; obtain ⟨c64, _⟩ := bx6.cell 4 _ rfl))
                    | (go_at_call 24; go_must (refine (rspoil_any v1 v2 v3 X.pages.length a3 c3 hv1.out hi3 bad c l X.down ak true _ doc6.s2 hRX.out.len hpg).mono ?_; rw [HE.out, Hbz.out]; rintro e w7 ⟨v2', rfl, t2, f7, nw2⟩; have z7 := f7.size; have hi2' := SlR.isSl t2))
                    | (with_reducible refine at_wpP ?_; refine at_st 39 _ _ rfl ?_; go_must (refine wpList_stD rfl _ _ rfl g6 rfl _ _ _ _ _ _ rfl _ (doc6.bx.fr0 f7) rfl hi1 hi2' hi3 ?_; intro w8 b8 f8; have z8 := f8.size; have sep7 := sep6.doc z7 (nwB.refl _ _ _) nw2 (nwB.refl _ _ _); have hsep := sep7.size z8; have hDz := (d6.fr0 f7).fr f8 sep7.ng; have Gz := (G6.thenN f7).thenT f8 (fun q hq e => (by unfold onB1 at e; omega)); have hdoc : DocD w8 g6 v1 v2' v3 c l Y.down Y.pages bz Y.pend := (by rw [hy1.out, hy2.out, hy3.out]; exact DocD.put f8 b8 (doc6.s1.fr0 f7) t2 (doc6.s3.fr0 f7) ((nwB.refl _ _ _).n doc6.n1 hl6 z7) (nw2.n doc6.n2 hl6 z7) ((nwB.refl _ _ _).n doc6.n3 hl6 z7))))
                    | (go_at_call 9; go_must (refine (pr.out _ _ hDz).mono ?_; rintro e y1 ⟨vr, rfl, ir, nr, fy1⟩; have docy := hdoc.fr0 fy1; have rl0 := show Hid _ from readP_len hDz 0; have rl1 := show Hid _ from readP_len hDz 1; obtain ⟨ra, rb, rfl, _⟩ := ir.opn))
                    | (with_reducible refine at_wpP ?_; refine at_ld 39 _ rfl ?_; have fy3' := fy3; go_must (refine wpList_ldD rfl _ rfl g6 rfl _ _ _ _ _ _ ((docy.fr0 fy2).fr0 fy3).bx ?_))
                    | (with_reducible refine at_wpP ?_; refine at_ld 39 _ rfl ?_; have fy1' := fy1; go_must (refine wpList_ldD rfl _ rfl g6 rfl _ _ _ _ _ _ docy.bx ?_))
                    | (go_at_call 25; go_must (refine (dr.out _ _ _ _ _ ⟨docy.s1, docy.s2, docy.s3, hRY.out.len, hpgY, by omega, hRY.out.read⟩ rl0.out rl1.out).mono ?_; rintro e y2 ⟨vd, rfl, id', fy2⟩; have ir2 := ir.fr0 fy2; obtain ⟨da, db, rfl, _⟩ := id'.opn))
                    | (go_at_call 11; go_must (refine (px.out _ _ ((hDz.fr0 fy1).fr0 fy2)).mono ?_; rintro e y3 ⟨rfl, fy3⟩; have ir3 := ir2.fr0 fy3; have id3 := id'.fr0 fy3))
                    | (go_at_call 26; go_must (refine (dx.out _ _ _ _ _ ⟨((docy.fr0 fy2).fr0 fy3).s1, ((docy.fr0 fy2).fr0 fy3).s2, ((docy.fr0 fy2).fr0 fy3).s3, hRY.out.len, hpgY, by omega, hRY.out.read⟩ rl0.out rl1.out).mono ?_; rintro e y4 ⟨rfl, fy4⟩; have ir4 := ir3.fr0 fy4; have id4 := id3.fr0 fy4))
                    | (refine at_conv 24 9 _ rfl ?_; first | (refine wpList_str rfl _ 24 9 5 rfl Try.underlying24 Try.underlying5 Try.underlying9 _ _ rfl ir4 ?_) | (refine wpList_str rfl _ 24 9 5 rfl Try.underlying24 Try.underlying5 Try.underlying9 _ _ rfl id4 ?_))
                    | (with_reducible refine at_wpP ?_; refine at_ld 39 _ rfl ?_; go_must (refine wpList_ldD rfl _ rfl g6 rfl _ _ _ _ _ _ doc6.bx ?_)))
                  have FY := ((fy1.thenN fy2).thenN fy3).thenN fy4
                  have zY := FY.size
                  go_roundw
                  case rel => exact ⟨m + 1, Y, F, v1, v2', v3, c, l, bz, by omega, by go_num, hRY, hpYm, hbY, hDz.fr0 FY, hdoc.fr0 FY, hsep.size zY, Gz.thenN FY⟩
                  case measure => simp [intOf]; omega
                · have hk4b : (kd == 4) = false := by simpa using hk4
                  by_cases hk5 : kd = 5
                  · subst hk5
                    obtain ⟨E, HE⟩ : ∃ E, Hid ((if inR X.pages.length ak then (0 : Int) else 41) = E) := ⟨_, rfl⟩
                    obtain ⟨Y, HY⟩ : ∃ Y, Hid (X.spoil ak false = Y) := ⟨_, rfl⟩
                    have hbY : Hid Y.byt := by show Y.byt; rw [← HY.out]; unfold DSt.spoil; split <;> exact hbX.out
                    obtain ⟨bz, Hbz⟩ : ∃ bz, Hid ((if inR X.pages.length ak then bad.set ak.toNat false else bad) = bz) := ⟨_, rfl⟩
                    obtain ⟨hy1, hy2, hy3, hy4⟩ := hRX.out.spoil ak false
                    rw [HY.out] at hy1 hy2 hy3 hy4
                    rw [Hbz.out] at hy4
                    replace hy1 : Hid _ := hy1
                    replace hy2 : Hid _ := hy2
                    replace hy3 : Hid _ := hy3
                    have hRY : Hid (RXD Y c l bz) := hy4
                    have hpYm : Hid (Y.pend.length ≤ m + 1) := by show _ ≤ _; rw [hy2.out]; have := hpl.out; omega
                    have hpY : Y.pend.length ≤ 90000 := by have := hpYm.out; omega
                    have hpgY : Y.pages.length ≤ 100000 := by rw [hy1.out]; exact hpg
                    obtain ⟨a3, c3, hv1, _⟩ := hdc.s1.opn
                    replace hv1 : Hid _ := hv1
                    obtain ⟨⟨rc, rg, re⟩, HRR⟩ : ∃ R, Hid (rRead Y = R) := ⟨_, rfl⟩
                    obtain ⟨⟨xg, xe⟩, HNX⟩ : ∃ R, Hid (rNext Y = R) := ⟨_, rfl⟩
                    have pr := show Hid _ from fun (F : Nat → Prop) (W : World) (h : Disk W F gd Y) => rread_p gd W h (by omega) hbY.out
                    have px := show Hid _ from fun (F : Nat → Prop) (W : World) (h : Disk W F gd Y) => rnext_p gd W h (by omega) hbY.out
                    have dr := show Hid _ from fun (L : Int) (V1 V2 V3 : Value) (W : World) (h : DocV W V1 V2 V3 Y bz) (l0 : (readP Y 0).1.length = 256) (l1 : (readP Y 1).1.length = 256) => dread_any V1 V2 V3 bz c L Y.down W h l0 l1 hbY.out
                    have dx := show Hid _ from fun (L : Int) (V1 V2 V3 : Value) (W : World) (h : DocV W V1 V2 V3 Y bz) (l0 : (readP Y 0).1.length = 256) (l1 : (readP Y 1).1.length = 256) => dnext_any V1 V2 V3 bz c L Y.down W h l0 l1 hbY.out
                    unfold ReadIs at pr
                    unfold DReadIs at dr
                    simp only [HRR.out] at pr dr
                    simp only [HNX.out] at px dx
                    have tst := str_refl rc
                    go_wp2_with (first
                      | (refine at_idx 33 _ _ rfl ?_; go_must (refine wpList_idxR rfl 33 _ _ rfl 42 Try.underlying33 5 act5_size _ _ _ rfl (hA.fr0 hf) (by decide) _ _ m rfl rfl hlt ?_; rw [Hx.out]; intro ba oa hba hca))
                      | (with_reducible refine at_wpP ?_; refine at_ld 42 _ rfl ?_; go_must (refine wpList_load_mid rfl 42 _ rfl ba oa rfl (enc5 ⟨5, ak, ag, .slice ca cont.length cc, cont, .slice ka kp.length kc, kp⟩) _ (range_of fun j v hj => hca j v hj) under_act5 rfl (act5_sizeE _) ?_))
                      | (with_reducible refine at_wpP ?_; refine wpList_allocV rfl 42 rfl _ act5_zero ?_; intro gx w4 hgx b4 f4 s4; have l4 := b4.lt)
                      | (with_reducible refine at_wpP ?_; refine at_st 42 _ _ rfl ?_; go_must (refine wpList_storeV rfl 42 _ _ rfl gx 0 rfl (enc5 ⟨5, ak, ag, .slice ca cont.length cc, cont, .slice ka kp.length kc, kp⟩) rfl _ _ b4 (act5_sizeE _) (enc5_le _ _) hx1 ?_; intro w5 b5 f5; rw [putAt_all _ _ (enc5_eq _ _)] at b5; have F45 : Fr noB wr w5 := (f4.thenT f5 (fun q hq e => (by unfold onB1 at e; omega))); have z45 := F45.size; have hD5 := hD.fr0 F45; have doc5 := hdc.fr0 F45; have sep5 := hsp.size z45; have G5 := hf.thenN F45; obtain ⟨q0, _⟩ := b5.cell 0 _ rfl; obtain ⟨q1, _⟩ := b5.cell 1 _ rfl; obtain ⟨q2, _⟩ := b5.cell 2 _ rfl; obtain ⟨q3, _⟩ := b5.cell 3 _ rfl; obtain ⟨q4, _⟩ := b5.cell 4 _ rfl; have hngx : ¬ F gx := (fun q => (by have := (hsp _ q).2.1; omega))))
                      | (go_at_call 23; go_must (refine (spoil_any gd ak hakr false _ hD5).mono ?_; rw [HE.out, HY.out]; rintro e w6 ⟨rfl, d6, f6⟩; have z6 := f6.size; have doc6 := doc5.prog sep5 f6; have sep6 := sep5.size z6; have bx6 := b5.fr f6 hngx; have G6 := G5.thenT f6 (fun q hq hq' => (by have := (hsp q hq').1; omega)); have hl6 := doc6.bx.lt; obtain ⟨c60, _⟩ := bx6.cell 0 _ rfl; obtain ⟨c61, _⟩ := bx6.cell 1 _ rfl; obtain ⟨c63, _⟩ := bx6.cell 3 _ rfl; obtain ⟨c64, _⟩ := bx6.cell 4 _ rfl))
                      | (go_at_call 24; go_must (refine (rspoil_any v1 v2 v3 X.pages.length a3 c3 hv1.out hi3 bad c l X.down ak false _ doc6.s2 hRX.out.len hpg).mono ?_; rw [HE.out, Hbz.out]; rintro e w7 ⟨v2', rfl, t2, f7, nw2⟩; have z7 := f7.size; have hi2' := SlR.isSl t2))
                      | (with_reducible refine at_wpP ?_; refine at_st 39 _ _ rfl ?_; go_must (refine wpList_stD rfl _ _ rfl g6 rfl _ _ _ _ _ _ rfl _ (doc6.bx.fr0 f7) rfl hi1 hi2' hi3 ?_; intro w8 b8 f8; have z8 := f8.size; have sep7 := sep6.doc z7 (nwB.refl _ _ _) nw2 (nwB.refl _ _ _); have hsep := sep7.size z8; have hDz := (d6.fr0 f7).fr f8 sep7.ng; have Gz := (G6.thenN f7).thenT f8 (fun q hq e => (by unfold onB1 at e; omega)); have hdoc : DocD w8 g6 v1 v2' v3 c l Y.down Y.pages bz Y.pend := (by rw [hy1.out, hy2.out, hy3.out]; exact DocD.put f8 b8 (doc6.s1.fr0 f7) t2 (doc6.s3.fr0 f7) ((nwB.refl _ _ _).n doc6.n1 hl6 z7) (nw2.n doc6.n2 hl6 z7) ((nwB.refl _ _ _).n doc6.n3 hl6 z7))))
                      | (go_at_call 9; go_must (refine (pr.out _ _ hDz).mono ?_; rintro e y1 ⟨vr, rfl, ir, nr, fy1⟩; have docy := hdoc.fr0 fy1; have rl0 := show Hid _ from readP_len hDz 0; have rl1 := show Hid _ from readP_len hDz 1; obtain ⟨ra, rb, rfl, _⟩ := ir.opn))
                      | (with_reducible refine at_wpP ?_; refine at_ld 39 _ rfl ?_; have fy3' := fy3; go_must (refine wpList_ldD rfl _ rfl g6 rfl _ _ _ _ _ _ ((docy.fr0 fy2).fr0 fy3).bx ?_))
                      | (with_reducible refine at_wpP ?_; refine at_ld 39 _ rfl ?_; have fy1' := fy1; go_must (refine wpList_ldD rfl _ rfl g6 rfl _ _ _ _ _ _ docy.bx ?_))
                      | (go_at_call 25; go_must (refine (dr.out _ _ _ _ _ ⟨docy.s1, docy.s2, docy.s3, hRY.out.len, hpgY, by omega, hRY.out.read⟩ rl0.out rl1.out).mono ?_; rintro e y2 ⟨vd, rfl, id', fy2⟩; have ir2 := ir.fr0 fy2; obtain ⟨da, db, rfl, _⟩ := id'.opn))
                      | (go_at_call 11; go_must (refine (px.out _ _ ((hDz.fr0 fy1).fr0 fy2)).mono ?_; rintro e y3 ⟨rfl, fy3⟩; have ir3 := ir2.fr0 fy3; have id3 := id'.fr0 fy3))
                      | (go_at_call 26; go_must (refine (dx.out _ _ _ _ _ ⟨((docy.fr0 fy2).fr0 fy3).s1, ((docy.fr0 fy2).fr0 fy3).s2, ((docy.fr0 fy2).fr0 fy3).s3, hRY.out.len, hpgY, by omega, hRY.out.read⟩ rl0.out rl1.out).mono ?_; rintro e y4 ⟨rfl, fy4⟩; have ir4 := ir3.fr0 fy4; have id4 := id3.fr0 fy4))
                      | (refine at_conv 24 9 _ rfl ?_; first | (refine wpList_str rfl _ 24 9 5 rfl Try.underlying24 Try.underlying5 Try.underlying9 _ _ rfl ir4 ?_) | (refine wpList_str rfl _ 24 9 5 rfl Try.underlying24 Try.underlying5 Try.underlying9 _ _ rfl id4 ?_))
                      | (with_reducible refine at_wpP ?_; refine at_ld 39 _ rfl ?_; go_must (refine wpList_ldD rfl _ rfl g6 rfl _ _ _ _ _ _ doc6.bx ?_)))
                    have FY := ((fy1.thenN fy2).thenN fy3).thenN fy4
                    have zY := FY.size
                    go_roundw
                    case rel => exact ⟨m + 1, Y, F, v1, v2', v3, c, l, bz, by omega, by go_num, hRY, hpYm, hbY, hDz.fr0 FY, hdoc.fr0 FY, hsep.size zY, Gz.thenN FY⟩
                    case measure => simp [intOf]; omega
                  · have hk5b : (kd == 5) = false := by simpa using hk5
                    have hRY := hRX
                    have hbY := hbX
                    have hpY := hpm
                    have hpgY := hpg
                    have hpYm : Hid (X.pend.length ≤ m + 1) := by show _ ≤ _; have := hpl.out; omega
                    obtain ⟨⟨rc, rg, re⟩, HRR⟩ : ∃ R, Hid (rRead X = R) := ⟨_, rfl⟩
                    obtain ⟨⟨xg, xe⟩, HNX⟩ : ∃ R, Hid (rNext X = R) := ⟨_, rfl⟩
                    have pr := show Hid _ from fun (F : Nat → Prop) (W : World) (h : Disk W F gd X) => rread_p gd W h (by omega) hbY.out
                    have px := show Hid _ from fun (F : Nat → Prop) (W : World) (h : Disk W F gd X) => rnext_p gd W h (by omega) hbY.out
                    have dr := show Hid _ from fun (L : Int) (V1 V2 V3 : Value) (W : World) (h : DocV W V1 V2 V3 X bad) (l0 : (readP X 0).1.length = 256) (l1 : (readP X 1).1.length = 256) => dread_any V1 V2 V3 bad c L X.down W h l0 l1 hbY.out
                    have dx := show Hid _ from fun (L : Int) (V1 V2 V3 : Value) (W : World) (h : DocV W V1 V2 V3 X bad) (l0 : (readP X 0).1.length = 256) (l1 : (readP X 1).1.length = 256) => dnext_any V1 V2 V3 bad c L X.down W h l0 l1 hbY.out
                    unfold ReadIs at pr
                    unfold DReadIs at dr
                    simp only [HRR.out] at pr dr
                    simp only [HNX.out] at px dx
                    have tst := str_refl rc
                    go_wp2_with (first
                      | (refine at_idx 33 _ _ rfl ?_; go_must (refine wpList_idxR rfl 33 _ _ rfl 42 Try.underlying33 5 act5_size _ _ _ rfl (hA.fr0 hf) (by decide) _ _ m rfl rfl hlt ?_; rw [Hx.out]; intro ba oa hba hca))
                      | (with_reducible refine at_wpP ?_; refine at_ld 42 _ rfl ?_; go_must (refine wpList_load_mid rfl 42 _ rfl ba oa rfl (enc5 ⟨kd, ak, ag, .slice ca cont.length cc, cont, .slice ka kp.length kc, kp⟩) _ (range_of fun j v hj => hca j v hj) under_act5 rfl (act5_sizeE _) ?_))
                      | (with_reducible refine at_wpP ?_; refine wpList_allocV rfl 42 rfl _ act5_zero ?_; intro gx w4 hgx b4 f4 s4; have l4 := b4.lt)
                      | (with_reducible refine at_wpP ?_; refine at_st 42 _ _ rfl ?_; go_must (refine wpList_storeV rfl 42 _ _ rfl gx 0 rfl (enc5 ⟨kd, ak, ag, .slice ca cont.length cc, cont, .slice ka kp.length kc, kp⟩) rfl _ _ b4 (act5_sizeE _) (enc5_le _ _) hx1 ?_; intro w5 b5 f5; rw [putAt_all _ _ (enc5_eq _ _)] at b5; have F45 : Fr noB wr w5 := (f4.thenT f5 (fun q hq e => (by unfold onB1 at e; omega))); have z45 := F45.size; have hD5 := hD.fr0 F45; have doc5 := hdc.fr0 F45; have sep5 := hsp.size z45; have G5 := hf.thenN F45; obtain ⟨q0, _⟩ := b5.cell 0 _ rfl; obtain ⟨q1, _⟩ := b5.cell 1 _ rfl; obtain ⟨q2, _⟩ := b5.cell 2 _ rfl; obtain ⟨q3, _⟩ := b5.cell 3 _ rfl; obtain ⟨q4, _⟩ := b5.cell 4 _ rfl; have hngx : ¬ F gx := (fun q => (by have := (hsp _ q).2.1; omega)); have hdoc := doc5; have hsep := sep5; have hDz := hD5; have Gz := G5))
                      | (go_at_call 9; go_must (refine (pr.out _ _ hDz).mono ?_; rintro e y1 ⟨vr, rfl, ir, nr, fy1⟩; have docy := hdoc.fr0 fy1; have rl0 := show Hid _ from readP_len hDz 0; have rl1 := show Hid _ from readP_len hDz 1; obtain ⟨ra, rb, rfl, _⟩ := ir.opn))
                      | (with_reducible refine at_wpP ?_; refine at_ld 39 _ rfl ?_; have fy3' := fy3; go_must (refine wpList_ldD rfl _ rfl g6 rfl _ _ _ _ _ _ ((docy.fr0 fy2).fr0 fy3).bx ?_))
                      | (with_reducible refine at_wpP ?_; refine at_ld 39 _ rfl ?_; have fy1' := fy1; go_must (refine wpList_ldD rfl _ rfl g6 rfl _ _ _ _ _ _ docy.bx ?_))
                      | (go_at_call 25; go_must (refine (dr.out _ _ _ _ _ ⟨docy.s1, docy.s2, docy.s3, hRY.out.len, hpgY, by omega, hRY.out.read⟩ rl0.out rl1.out).mono ?_; rintro e y2 ⟨vd, rfl, id', fy2⟩; have ir2 := ir.fr0 fy2; obtain ⟨da, db, rfl, _⟩ := id'.opn))
                      | (go_at_call 11; go_must (refine (px.out _ _ ((hDz.fr0 fy1).fr0 fy2)).mono ?_; rintro e y3 ⟨rfl, fy3⟩; have ir3 := ir2.fr0 fy3; have id3 := id'.fr0 fy3))
                      | (go_at_call 26; go_must (refine (dx.out _ _ _ _ _ ⟨((docy.fr0 fy2).fr0 fy3).s1, ((docy.fr0 fy2).fr0 fy3).s2, ((docy.fr0 fy2).fr0 fy3).s3, hRY.out.len, hpgY, by omega, hRY.out.read⟩ rl0.out rl1.out).mono ?_; rintro e y4 ⟨rfl, fy4⟩; have ir4 := ir3.fr0 fy4; have id4 := id3.fr0 fy4))
                      | (refine at_conv 24 9 _ rfl ?_; first | (refine wpList_str rfl _ 24 9 5 rfl Try.underlying24 Try.underlying5 Try.underlying9 _ _ rfl ir4 ?_) | (refine wpList_str rfl _ 24 9 5 rfl Try.underlying24 Try.underlying5 Try.underlying9 _ _ rfl id4 ?_)))
                    have FY := ((fy1.thenN fy2).thenN fy3).thenN fy4
                    have zY := FY.size
                    go_roundw
                    case rel => exact ⟨m + 1, X, F, v1, v2, v3, c, l, bad, by omega, by go_num, hRY, hpYm, hbY, hDz.fr0 FY, hdoc.fr0 FY, hsep.size zY, Gz.thenN FY⟩
                    case measure => simp [intOf]; omega
      · obtain rfl : m = acts.length := by omega
        obtain ⟨N, HN⟩ : ∃ N, Hid (X.pages.length = N) := ⟨_, rfl⟩
        obtain ⟨a3, c3, hv1, _⟩ := hdc.s1.opn
        rw [HN.out] at hv1
        subst hv1
        obtain ⟨e0, _⟩ := hdc.bx.cell 0 _ rfl
        have hNm : N ≤ 100000 := by rw [← HN.out]; exact hpg
        go_wp2
        go_loopw [194] (fun i ws => ∃ (r : Nat), r ≤ N ∧ i = .int .i64 (r : Int) ∧ Fr noB wr ws) (fun i _ => N - (intOf i).toNat)
        case atStart => exact ⟨0, Nat.zero_le _, rfl, Fr.refl _ _⟩
        case round =>
          obtain ⟨r, hrN, rfl, hfr⟩ := hrel
          by_cases hlr : r < N
          · have hlr' : (r : Int) < (N : Int) := by omega
            obtain ⟨p, Hp⟩ : ∃ p, Hid (X.pages.getD r [] = p) := ⟨_, rfl⟩
            have hrX : r < X.pages.length := by rw [HN.out]; exact hlr
            have hpp : Hid (X.pages[r] = p) := by show _ = _; rw [← Hp.out]; simp [List.getD, hrX]
            have hsY : Hid (stabR X (r : Int) = (p, 0)) := by show _ = _; rw [← Hp.out]; simp [stabR, inR, hrX]
            have hrl : Hid (p.length = 256) := by show _ = _; rw [← hpp.out]; exact hpl256.out _ (List.getElem_mem hrX)
            obtain ⟨b1, o1, cc1, hva, hc1⟩ := hdc.s1.addr (by decide) (by omega)
            rw [HN.out] at hva
            obtain ⟨rfl, rfl⟩ : a3 = some ⟨b1, o1, none⟩ ∧ c3 = cc1 := by simpa using hva
            clear hva
            have hrg := hc1 r hrX
            rw [hpp.out] at hrg
            go_wp2_with (first
              | (go_at_call 27; go_must (refine (stable_any gd (r : Int) _ (hD.fr0 hfr)).mono ?_; rw [hsY.out]; rintro e y1 ⟨rfl, fy1⟩; have zy1 := fy1.size))
              | (with_reducible refine at_wpP ?_; refine wpList_allocP rfl rfl ?_; intro ga y2 hga by2 fy2 sy2; have ly2 := by2.lt)
              | (with_reducible refine at_wpP ?_; refine at_st 46 _ _ rfl ?_; go_must (refine wpList_storeP rfl _ _ rfl ga rfl p rfl _ by2 hrl.out zeroP_len ?_; intro y3 qy3 fy3; have FY3 := (fy1.thenN fy2).thenT (S := noB) fy3 (fun q hq e => (by unfold onB1 at e; omega)))))
            have FA := (hfr.thenN FY3).drew
            have qa : BxV y3.drew ga 46 (pgv p) := qy3
            have e1 := FA.cell e0 (fun q => q)
            have hrg1 : y3.drew.rangeAt b1 (o1 + r * 256) (pgv p) := range_of (fun j v hj => FA.cell (hrg j v hj) (fun q => q))
            refine wp_region_chain_lay (by kernel_rfl) [] [none, none, none, none, none, none, none]
              [fun v => v = pgV p, fun v => v = .pointer (some ⟨g6, 0, none⟩), fun v => v = .slice (some ⟨b1, o1, none⟩) N c3, fun v => v = .int .i64 (r : Int), fun v => v = .pointer (some ⟨b1, o1 + r * 256, none⟩), fun v => v = pgV p, fun v => v = .bool false]
              (JN y3.drew) (rfl) (by kernel_rfl) (by kernel_rfl) (by decide) ⟨?o0, ?o1, ?o2, ?o3, ?o4, ?o5, ?o6, trivial⟩ ?oe
            case o0 =>
              intro A W hv hlen hJ hbase hdL hdH
              have e26 : A.eval (.tmp 26) = .pointer (some ⟨ga, 0, none⟩) := hbase 26 (by kernel_rfl)
              have f26 : A.tmps[26]?.getD undef = .pointer (some ⟨ga, 0, none⟩) := by simpa [Act.eval] using e26
              cases hJ
              have hr := run_loadP y3.drew ga 0 p (qa.range 0 (pgv p) (by show (pgv p).take (pgv p).length = pgv p; exact List.take_length)) hrl.out
              exact light_val rfl (v := pgV p) (by simp [execOp, e26, hr, Result.andThen]) rfl rfl
            case o1 =>
              intro A W hv hlen hJ hbase hdL hdH
              have e6 : A.eval (.tmp 6) = .pointer (some ⟨g6, 0, none⟩) := hbase 6 (by kernel_rfl)
              have f6 : A.tmps[6]?.getD undef = .pointer (some ⟨g6, 0, none⟩) := by simpa [Act.eval] using e6
              exact light_val rfl (v := .pointer (some ⟨g6, 0, none⟩)) (by simp [execOp, go_sem, e6, f6]) hJ rfl
            case o2 =>
              intro A W hv hlen hJ hbase hdL hdH
              have e204 : A.eval (.tmp 204) = .pointer (some ⟨g6, 0, none⟩) := hdL 1 204 (by kernel_rfl) (by kernel_rfl) (by kernel_rfl)
              have f204 : A.tmps[204]?.getD undef = .pointer (some ⟨g6, 0, none⟩) := by simpa [Act.eval] using e204
              cases hJ
              have hr := run_ld1 (P := Try.prog) (w := y3.drew) 35 46 Try.underlying35 g6 0 _ e1
              exact light_val rfl (v := .slice (some ⟨b1, o1, none⟩) N c3) (by simp [execOp, e204, hr, Result.andThen]) rfl rfl
            case o3 =>
              intro A W hv hlen hJ hbase hdL hdH
              have e25 : A.eval (.tmp 25) = .int .i64 (r : Int) := hbase 25 (by kernel_rfl)
              have f25 : A.tmps[25]?.getD undef = .int .i64 (r : Int) := by simpa [Act.eval] using e25
              exact light_val rfl (v := .int .i64 (r : Int)) (by simp [execOp, e25, f25]) hJ rfl
            case o4 =>
              intro A W hv hlen hJ hbase hdL hdH
              have e205 : A.eval (.tmp 205) = .slice (some ⟨b1, o1, none⟩) N c3 := hdL 2 205 (by kernel_rfl) (by kernel_rfl) (by kernel_rfl)
              have f205 : A.tmps[205]?.getD undef = .slice (some ⟨b1, o1, none⟩) N c3 := by simpa [Act.eval] using e205
              have e206 : A.eval (.tmp 206) = .int .i64 (r : Int) := hdL 3 206 (by kernel_rfl) (by kernel_rfl) (by kernel_rfl)
              have f206 : A.tmps[206]?.getD undef = .int .i64 (r : Int) := by simpa [Act.eval] using e206
              have hr := run_idxS (P := Try.prog) (w := W) (sz := 256) 35 46 Try.underlying35 size_page b1 o1 N c3 .i64 r hlr
              exact light_val rfl (v := .pointer (some ⟨b1, o1 + r * 256, none⟩)) (by simp [execOp, e205, e206, hr, Result.andThen]) hJ rfl
            case o5 =>
              intro A W hv hlen hJ hbase hdL hdH
              have e207 : A.eval (.tmp 207) = .pointer (some ⟨b1, o1 + r * 256, none⟩) := hdL 4 207 (by kernel_rfl) (by kernel_rfl) (by kernel_rfl)
              have f207 : A.tmps[207]?.getD undef = .pointer (some ⟨b1, o1 + r * 256, none⟩) := by simpa [Act.eval] using e207
              cases hJ
              have hr := run_loadP y3.drew b1 (o1 + r * 256) p hrg1 hrl.out
              exact light_val rfl (v := pgV p) (by simp [execOp, e207, hr, Result.andThen]) rfl rfl
            case o6 =>
              intro A W hv hlen hJ hbase hdL hdH
              have e203 : A.eval (.tmp 203) = pgV p := hdL 0 203 (by kernel_rfl) (by kernel_rfl) (by kernel_rfl)
              have f203 : A.tmps[203]?.getD undef = pgV p := by simpa [Act.eval] using e203
              have e208 : A.eval (.tmp 208) = pgV p := hdL 5 208 (by kernel_rfl) (by kernel_rfl) (by kernel_rfl)
              have f208 : A.tmps[208]?.getD undef = pgV p := by simpa [Act.eval] using e208
              have hr := run_neq_page W p p hrl.out hrl.out
              exact light_val rfl (v := .bool false) (by simp [execOp, e203, e208, hr, eqg_neq, Result.andThen]) hJ rfl
            case oe =>
              intro vs' W' hv hlen hJ hL hH
              obtain rfl : hv = [] := List.eq_nil_of_length_eq_zero hlen
              cases hJ
              have hx : vs' 6 = .bool false := hL 6 (by rfl) (by rfl)
              simp only [layL, Nat.reduceAdd, Act.put, List.setIfInBounds_toArray, List.set_cons_zero, List.set_cons_succ]
              clear hL hH
              generalize vs' 0 = y100 at *
              generalize vs' 1 = y101 at *
              generalize vs' 2 = y102 at *
              generalize vs' 3 = y103 at *
              generalize vs' 4 = y104 at *
              generalize vs' 5 = y105 at *
              generalize vs' 6 = y106 at *
              subst hx
              go_wp2
              go_roundw
              case rel => exact ⟨r + 1, by omega, by go_num, FA⟩
              case measure => simp [intOf]; omega
          · obtain rfl : r = N := by omega
            go_wp2
            go_ret
            exact ⟨rfl, (hf.thenN hfr).below⟩
end Go.Proofs.Ytijgfojnppcbjaa
