/- Texts TD of the proof of TreeOrders, one behind the other. -/
import Derived.Test.YtkhdniccnefdhaaBundleTreeOrders1
import Derived.Test.YtkhdniccnefdhaaBundleTreeOrders2
import Derived.Test.YtkhdniccnefdhaaBundleTreeOrders3
import Derived.Test.YtkhdniccnefdhaaBundleTreeOrders4
import Derived.Test.YtkhdniccnefdhaaBundleTreeOrders5
import Derived.Test.YtkhdniccnefdhaaBundleTreeOrders6
import Derived.Test.YtkhdniccnefdhaaBundleTreeOrders7
import Derived.Test.YtkhdniccnefdhaaBundleTreeOrders8
import Derived.Test.YtkhdniccnefdhaaBundleTreeOrders9
import Derived.Test.YtkhdniccnefdhaaBundleTreeOrders10
import Derived.Test.YtkhdniccnefdhaaBundleTreeOrders11
import Derived.Test.YtkhdniccnefdhaaBundleTreeOrders12
import Derived.Test.YtkhdniccnefdhaaBundleTreeOrders13
import Derived.Test.YtkhdniccnefdhaaBundleTreeOrders14
import Derived.Test.YtkhdniccnefdhaaBundleTreeOrders15
import Derived.Test.YtkhdniccnefdhaaBundleTreeOrders16
import Derived.Test.YtkhdniccnefdhaaBundleTreeOrders17
import Derived.Test.YtkhdniccnefdhaaBundleTreeOrders18
import Derived.Test.YtkhdniccnefdhaaBundleTreeOrders19
import Derived.Test.YtkhdniccnefdhaaBundleTreeOrders20
import Derived.Test.YtkhdniccnefdhaaBundleTreeOrders21
/- TreeOrders. (Written by td_gen.py.) -/
namespace Go.Proofs.Ytkhdniccnefdhaa
open Go.RowKit Go.Proofs.U
set_option linter.unusedSimpArgs false
set_option linter.unusedVariables false
/-- While the entries are turned and a tree is built of them. -/
def JOr (w0 : World) (F : Nat → Prop) (gs gp m : Nat) (S : DSt × List Pg) (V : Value) (A B : List (Int × Int)) : List Value → World → Prop
  | [], W => W = w0
  | [v], W => W = w0.alloc (.cells #[] 49) ∧ v = .slice (some ⟨w0.heap.size, 0, none⟩) 0 0
  | [_, v], W => OwnR enC 2 49 W w0.heap.size v A ∧ Fr noB w0 W
  | [_, _, v], W => OwnR enC 2 49 W w0.heap.size v (A ++ B) ∧ Fr noB w0 W
  | [_, _, _, v], W => v = V ∧ ∃ F', StT w0 W F F' gs gp S m
  | _, _ => False
theorem JOr.fr {w0 : World} {F : Nat → Prop} {gs gp m : Nat} {S : DSt × List Pg} {V : Value} {A B : List (Int × Int)} : ∀ {hv : List Value} {W : World}, JOr w0 F gs gp m S V A B hv W → hv.length ≤ 3 → Fr noB w0 W
  | [], _, h, _ => by cases h; exact Fr.refl _ _
  | [_], _, h, _ => by obtain ⟨rfl, _⟩ := h; exact (Fr.refl _ _).alloc _
  | [_, _], _, h, _ => h.2
  | [_, _, _], _, h, _ => h.2
  | _ :: _ :: _ :: _ :: _, _, _, h => absurd h (by simp)
theorem JOr.val {w0 : World} {F : Nat → Prop} {gs gp m : Nat} {S : DSt × List Pg} {V : Value} {A B : List (Int × Int)} : ∀ {hv : List Value} {W : World} {x : Value}, JOr w0 F gs gp m S V A B hv W → hv[3]? = some x → x = V
  | [], _, _, _, h => by simp at h
  | [_], _, _, _, h => by simp at h
  | [_, _], _, _, _, h => by simp at h
  | [_, _, _], _, _, _, h => by simp at h
  | [_, _, _, v], _, _, j, h => by simp at h; subst h; exact j.1
  | _ :: _ :: _ :: _ :: _ :: _, _, _, j, _ => j.elim
theorem SlE.dropx {w : World} {a : Option Addr} {cap : Nat} {l : List (Int × Int)} (h : SlR enC 2 w (.slice a l.length cap) l) (hc : l.length ≤ cap) (i : Nat) (hi : i ≤ l.length) : SlR enC 2 w (.slice (if cap = i then a else a.map (·.add (i * 2))) (l.length - i) (cap - i)) (l.drop i) := by
  by_cases e : cap = i
  · rw [if_pos e]
    have el : l.length = i := by omega
    rw [List.drop_of_length_le (by omega), show l.length - i = 0 by omega, show cap - i = 0 by omega]
    exact ⟨by simp, a, 0, rfl, Nat.le_refl _, rfl, fun _ => rfl, fun x _ j u hj => by simp at hj⟩
  · rw [if_neg e]
    exact SlE.drop h rfl i hi e
set_option maxRecDepth 100000 in
set_option maxHeartbeats 8000000 in
theorem torders_walk (v : Value) (keys : List Int) (turn : Int) (w : World) (hk : SlI .i64 w v keys) (ht : (Lit.int .i64 turn).wf = true) :
    Calls Try.prog 6 #[v, .int .i64 turn] w fun r w' => r = .returned (.bool true) ∧ Below w.heap.size w w' := by
  obtain ⟨a0, c0, rfl, hc0⟩ := hk.opn
  have hM := fun W => made_T 244 (by decide) W
  by_cases h0 : (64 : Int) < (keys.length : Int)
  · have d0 : decide ((64 : Int) < (keys.length : Int)) = true := decide_eq_true h0
    go_enter Try.func6, Try.ntmps6
    go_wp2_with (first
      | (go_at_call 7; go_must (refine (talive_any _).mono ?_; rintro e w0 ⟨rfl, f0⟩)))
    go_ret
    exact ⟨rfl, f0.below⟩
  · have d0 : decide ((64 : Int) < (keys.length : Int)) = false := decide_eq_false h0
    by_cases h1 : turn < 0
    · have d1 : decide (turn < (0 : Int)) = true := decide_eq_true h1
      go_enter Try.func6, Try.ntmps6
      go_wp2_with (first
        | (go_at_call 7; go_must (refine (talive_any _).mono ?_; rintro e w0 ⟨rfl, f0⟩)))
      go_ret
      exact ⟨rfl, f0.below⟩
    · have d1 : decide (turn < (0 : Int)) = false := decide_eq_false h1
      by_cases h2 : (keys.length : Int) < turn
      · have d2 : decide ((keys.length : Int) < turn) = true := decide_eq_true h2
        go_enter Try.func6, Try.ntmps6
        go_wp2_with (first
          | (go_at_call 7; go_must (refine (talive_any _).mono ?_; rintro e w0 ⟨rfl, f0⟩)))
        go_ret
        exact ⟨rfl, f0.below⟩
      · have d2 : decide ((keys.length : Int) < turn) = false := decide_eq_false h2
        go_enter Try.func6, Try.ntmps6
        go_wp2_with (first
          | (go_at_call 7; go_must (refine (talive_any _).mono ?_; rintro e w0 ⟨rfl, f0⟩; have z0 := f0.size))
          | (go_at_call 8; go_must (refine (hM _).mono ?_; rintro e w1 ⟨gs, gp, F, X, L, pg, rfl, st1, A1, B1⟩; have z1 := A1.fr.size))
          | (with_reducible refine at_wpP ?_; refine wpList_allocG rfl 25 rfl (.agg #[.pointer none]) [.pointer none] tr_zero rfl ?_; intro g2 w2 hg2 b2 f2 s2; have l2 := b2.lt; have z2 := f2.size)
          | (with_reducible refine at_wpP ?_; refine at_st 25 _ _ rfl ?_; go_must (refine wpList_stT rfl _ _ rfl g2 rfl gs rfl (.pointer none) b2 ?_; intro w3 b3 f3; have F3 := Fr.ownX f2 s2 f3; have z3 := f3.size))
          | (with_reducible refine at_wpP ?_; refine wpList_mk0 enC 2 rfl 31 rfl 49 Try.underlying31 en_size ?_; intro g4 w4 o4 f4 s4 t4; have z4 := f4.size))
        have hgp := st1.ltp
        have hFt := st1.ft
        go_loopw [41, 7] (fun i u wr => ∃ (k : Nat), k ≤ keys.length ∧ i = .int .i64 (k : Int) ∧ OwnR enC 2 49 wr w3.heap.size u (keyL pg (keys.take k)) ∧ Fr noB w3 wr) (fun i _ _ => keys.length - (intOf i).toNat)
        case atStart => exact ⟨0, Nat.zero_le _, rfl, o4, f4⟩
        case round =>
          obtain ⟨j, hj, rfl, ho, hf⟩ := hrel
          by_cases hlt : j < keys.length
          · obtain ⟨x, Hx⟩ : ∃ x, Hid (keys[j] = x) := ⟨keys[j], (rfl : keys[j] = keys[j])⟩
            have hsk : ∀ W, Fr noB w3 W → SlI .i64 W (.slice a0 keys.length c0) keys := fun W f => ((((hk.fr0 f0).fr0 A1.fr).fr0 F3).fr0 f)
            have hv1 := (hsk _ hf).1
            have hts : keys.take (j + 1) = keys.take j ++ [x] := by rw [List.take_succ_eq_append_getElem hlt, Hx.out]
            have hlt' : (j : Int) < (keys.length : Int) := by omega
            have hbs : w3.heap.size ≤ wr.heap.size := hf.size
            by_cases p : 0 ≤ x
            · have p0 : decide ((0 : Int) ≤ x) = true := decide_eq_true p
              by_cases q : x < 64
              · have q0 : decide (x < (64 : Int)) = true := decide_eq_true q
                have hn := keyL_snoc_in (pg := pg) (keys.take j) ⟨p, q⟩
                rw [← hts] at hn
                have hkl := keyL_len pg (keys.take j)
                have hkj : (keys.take j).length ≤ j := by rw [List.length_take]; omega
                clear hts
                generalize keyL pg (keys.take j) = K at *
                have hn := show Hid _ from hn
                obtain ⟨a5, c5, rfl⟩ := ho.opn
                have hnb := ho.newB
                go_wp2_with (first
                  | (with_reducible refine at_wpP ?_; refine at_idx 36 _ _ rfl ?_; go_must (refine wpList_idx1 rfl 36 _ _ rfl 3 Try.underlying36 int_size1 (.slice a0 keys.length c0) _ _ rfl hv1 .i64 (j : Int) j rfl rfl hlt ?_; intro pp u hu hcu; obtain rfl := getX hu hlt Hx.out))
                  | (with_reducible refine at_wpP ?_; refine wpList_bldE rfl _ _ rfl x pg rfl rfl ?_)
                  | (with_reducible refine at_wpP ?_; refine wpList_mkC rfl 31 _ rfl uE _ en_info2 (by decide) (by decide) (x, pg) (enV (x, pg)) rfl rfl rfl ?_; intro g7 w7 b7 f7 s7; have z7 := f7.size)
                  | (at_builtin; go_must (refine wpList_appL rfl _ _ 31 rfl _ 16 uE en_info rfl (by decide) (.slice a5 K.length c5) rfl (ho.fr0 f7) g7 rfl (x, pg) rfl _ b7 (en_one _) ?hq1 ?hq2 ?hq3 ?_; rotate_left 3; intro u8 w8 o8 f8 p8)))
                case hq1 => unfold maxLen; omega
                case hq2 => omega
                case hq3 => omega
                go_roundw
                case rel => exact ⟨j + 1, by omega, by go_num, by rw [hn.out]; exact o8, (hf.thenN f7).thenT f8 (fun y hy e => by have := (hnb y e).1; omega)⟩
                case measure => simp [intOf]; omega
              · have q0 : decide (x < (64 : Int)) = false := decide_eq_false q
                have hn := keyL_snoc_out (pg := pg) (keys.take j) (x := x) (fun z => q z.2)
                rw [← hts] at hn
                rw [← hn] at ho
                clear hts hn
                go_wp2_with (first
                  | (with_reducible refine at_wpP ?_; refine at_idx 36 _ _ rfl ?_; go_must (refine wpList_idx1 rfl 36 _ _ rfl 3 Try.underlying36 int_size1 (.slice a0 keys.length c0) _ _ rfl hv1 .i64 (j : Int) j rfl rfl hlt ?_; intro pp u hu hcu; obtain rfl := getX hu hlt Hx.out)))
                go_roundw
                case rel => exact ⟨j + 1, by omega, by go_num, ho, hf⟩
                case measure => simp [intOf]; omega
            · have p0 : decide ((0 : Int) ≤ x) = false := decide_eq_false p
              have hn := keyL_snoc_out (pg := pg) (keys.take j) (x := x) (fun z => p z.1)
              rw [← hts] at hn
              rw [← hn] at ho
              clear hts hn
              go_wp2_with (first
                | (with_reducible refine at_wpP ?_; refine at_idx 36 _ _ rfl ?_; go_must (refine wpList_idx1 rfl 36 _ _ rfl 3 Try.underlying36 int_size1 (.slice a0 keys.length c0) _ _ rfl hv1 .i64 (j : Int) j rfl rfl hlt ?_; intro pp u hu hcu; obtain rfl := getX hu hlt Hx.out)))
              go_roundw
              case rel => exact ⟨j + 1, by omega, by go_num, ho, hf⟩
              case measure => simp [intOf]; omega
          · obtain rfl : j = keys.length := by omega
            rw [List.take_length] at ho
            generalize HKL : keyL pg keys = K at *
            obtain ⟨a5, c5, rfl⟩ := ho.opn
            have hkl : K.length ≤ keys.length := by rw [← HKL]; exact keyL_len pg keys
            have hKp : ∀ x ∈ K, (0 ≤ x.1 ∧ x.1 ≤ 63) ∧ x.2 = pg := fun x hx => keyL_in (by rw [HKL]; exact hx)
            clear HKL
            have hnb := ho.newB
            have st5 := (st1.fr0 F3).fr0 hf
            have b5 := b3.fr0 hf
            have O1 : OneT X L [pg] [] 0 (-1) [] := OneT.start (by simpa using B1.iv) (by intro t ht; simp at ht) (by intro b hb; simp at hb; subst hb; exact ⟨B1.p0, by rw [B1.rd], by rw [B1.rd]⟩)
            have hlenL : L.length = plN (sizeN 244) := B1.ln
            have hN : plN (sizeN 244) = 240 := by decide
            have zf := hf.size
            have hvF : ∀ x, (Value.slice a5 K.length c5).ownBlock = some x → ¬ F x ∧ x ≠ gp := fun x hx => by
              have := (hnb x hx).1
              refine ⟨fun q => ?_, by omega⟩
              have := hFt _ q
              omega
            have hB1 := Build_any K (.slice a5 K.length c5) wr st5 O1 B1.yg (by simp) (by simp; omega) (by omega) (by omega) (fun x hx => ⟨(hKp x hx).1, by rw [(hKp x hx).2]; simp⟩) ho.sl hvF
            go_upto_region 15 with (first
              | (with_reducible refine at_wpP ?_; refine at_ld 25 _ rfl ?_; go_must (refine wpList_ldT rfl _ rfl g2 rfl gs b5 ?_))
              | (go_at_call 21; go_must (refine hB1.mono ?_; rintro e w6 ⟨F6, X6, L6, lv6, ra, rfl, T6, o6, y6, hl6⟩; have z6 := T6.fr.size)))
            obtain ⟨t, ht, htK⟩ : ∃ t : Nat, min turn (K.length : Int) = (t : Int) ∧ t ≤ K.length := ⟨(min turn (K.length : Int)).toNat, by omega, by omega⟩
            try rw [ht]
            obtain ⟨O, hO⟩ : ∃ O : List (Nat × Int), (ra = -1 ∧ O = []) ∨ (¬ ra = -1 ∧ O = [(lv6, ra)]) := by
              by_cases h : ra = -1
              · exact ⟨[], Or.inl ⟨h, rfl⟩⟩
              · exact ⟨[(lv6, ra)], Or.inr ⟨h, rfl⟩⟩
            have hiv6 := o6.iv
            have O2 : OneT X6 L6 [pg] O 0 (-1) [] := by
              rcases hO with ⟨rfl, rfl⟩ | ⟨hr, rfl⟩
              · exact OneT.start (by simpa [rtsB] using o6.iv) (by intro z hz; simp at hz) o6.bl
              · obtain ⟨r0, r8, rt⟩ := o6.tree hr
                have e : lsT X6 lv6 ra = K.foldl putL [] := rt.ls
                refine OneT.start (by simpa [rtsB, hr] using o6.iv) ?_ o6.bl
                intro z hz
                obtain rfl := List.mem_singleton.1 hz
                show 0 ≤ ra ∧ TreeAt X6 Q2 lv6 ra (lsT X6 lv6 ra) ∧ (∀ z ∈ lsT X6 lv6 ra, z.2 ∈ [pg]) ∧ lsT X6 lv6 ra ≠ []
                rw [e]
                exact ⟨r0, rt, o6.pg, o6.ne hr⟩
            have hO1 : O.length ≤ 1 := by rcases hO with ⟨_, rfl⟩ | ⟨_, rfl⟩ <;> simp
            have hMm : ∀ x ∈ K.drop t ++ K.take t, x ∈ K := fun x hx => by
              rcases List.mem_append.1 hx with q | q
              · exact List.mem_of_mem_drop q
              · exact List.mem_of_mem_take q
            have hMl : (K.drop t ++ K.take t).length = K.length := by rw [List.length_append, List.length_drop, List.length_take]; omega
            have hft := fold_turn (pg := pg) K t (fun x hx => (hKp x hx).2)
            obtain ⟨s, es0, es1, es2⟩ := OneT.steps (s0 := ⟨X6, L6, 0, -1⟩) (B := [pg]) (O := O) (m := 1 + 20 * K.length) (K.drop t ++ K.take t) O2 y6 (by omega) (by omega) (fun x hx => ⟨(hKp x (hMm x hx)).1, by rw [(hKp x (hMm x hx)).2]; simp⟩) T6.st.up (by simp; omega) (by simp only [List.length_singleton]; omega)
            have hB0 := fun (v : Value) (W : World) (h : Sto W F6 gs gp (s 0).X (s 0).L (1 + 20 * K.length)) hS hv => Build_steps s (K.drop t ++ K.take t) (by rw [es0]) es1 (by omega) (by omega) v W h hS hv
            rw [es0] at hB0
            have h2 := es2 _ (Nat.le_refl _)
            rw [List.take_length, hft] at h2
            rw [hMl] at hB0 h2
            clear es0 es1 es2
            generalize s K.length = sz at hB0 h2
            obtain ⟨Xz, Lz, lvz, rb⟩ := sz
            simp only at hB0 h2
            obtain ⟨oz, yz, lz, uz, ez⟩ := h2
            obtain ⟨VA, HVA⟩ : ∃ V : Value, Hid (V = .slice a5 t c5) := ⟨_, rfl⟩
            obtain ⟨VB, HVB⟩ : ∃ V : Value, Hid (V = .slice (if c5 = t then a5 else a5.map (·.add (t * 2))) (K.length - t) (c5 - t)) := ⟨_, rfl⟩
            have ho6 := ho.sl.fr T6.fr (fun x hx q => by
              rcases q with q | q
              · exact (hvF x hx).1 q
              · exact (hvF x hx).2 q)
            have hc5 : K.length ≤ c5 := by obtain ⟨a', c', e', hc'⟩ := ho.sl.opn; cases e'; exact hc'
            have hrA : ∀ W : World, (Instr.sliceAt 31 (.slice a5 K.length c5) none (some (.int .i64 (t : Int))) none).run Try.prog W = .ok VA W := fun W => by rw [HVA.out]; exact run_cuth 31 49 uE 2 en_size a5 K.length c5 .i64 t (by omega)
            have hrB : ∀ W : World, (Instr.sliceAt 31 (.slice a5 K.length c5) (some (.int .i64 (t : Int))) none none).run Try.prog W = .ok VB W := fun W => by rw [HVB.out]; exact run_cutl 31 49 uE 2 en_size a5 K.length c5 .i64 t htK
            have hSA : SlR enC 2 w6 VA (K.take t) := by rw [HVA.out]; exact SlE.take ho6 rfl t htK
            have hSB : SlR enC 2 w6 VB (K.drop t) := by rw [HVB.out]; exact SlE.dropx ho6 hc5 t htK
            have hlA : (K.take t).length ≤ 64 := by rw [List.length_take]; omega
            have hlB : (K.drop t).length ≤ 64 := by rw [List.length_drop]; omega
            have hF6 := T6.st.ft
            have hgp6 := T6.st.ltp
            have b6 := b5.fr T6.fr (fun q => by
              rcases q with q | q
              · have := hFt _ q; omega
              · omega)
            obtain ⟨w0o, HWo⟩ : ∃ w0, Hid (w6.drew = w0) := ⟨_, rfl⟩
            have f0o : Fr noB w6 w0o := by rw [← HWo.out]; exact (Fr.refl _ _).drew
            have z0o := f0o.size
            have b6o := b6.fr0 f0o
            have st6o := T6.st.fr0 f0o
            have hB2 := fun (W : World) (f : Fr noB w0o W) (v : Value) (hO : OwnR enC 2 49 W w0o.heap.size v (K.drop t ++ K.take t)) => hB0 v W (st6o.fr0 f) hO.sl (fun x hx => ⟨fun q => by have := hF6 _ q; have := (hO.newB x hx).1; omega, fun q => by have := (hO.newB x hx).1; omega⟩)
            refine wp_region_chain_layT (by kernel_rfl) [1, 5, 9, 10] [none, some 0, none, none, none, some 1, none, none, none, some 2, some 3, none, none, none, none, none]
              [fun v => v = trV gs, fun _ => True, fun v => v = .slice a5 K.length c5, fun v => v = .int .i64 (t : Int), fun v => v = VB, fun _ => True, fun v => v = .slice a5 K.length c5, fun v => v = .int .i64 (t : Int), fun v => v = VA, fun _ => True, fun _ => True, fun v => v = .tuple #[.int .i64 rb, .int .i64 0], fun v => v = .int .i64 rb, fun v => v = .int .i64 0, fun v => v = .int .i64 rb, fun v => v = .int .i64 0]
              (JOr w0o F6 gs gp (1 + 20 * K.length + 20 * K.length) (Xz, Lz) (.tuple #[.int .i64 rb, .int .i64 0]) (K.drop t) (K.take t)) (HWo.out) (by kernel_rfl) (by kernel_rfl) (by decide) ⟨?o0, ?o1, ?o2, ?o3, ?o4, ?o5, ?o6, ?o7, ?o8, ?o9, ?o10, ?o11, ?o12, ?o13, ?o14, ?o15, trivial⟩ ?oe
            case o0 =>
              intro A W hv hlen hJ hbase hdL hdH
              have e5 : A.eval (.tmp 5) = ptr g2 := hbase 5 (by kernel_rfl)
              have f5 : A.tmps[5]?.getD undef = ptr g2 := by simpa [Act.eval] using e5
              have hb := hlen.2 0 3 10 rfl (by kernel_rfl)
              have hr := run_ldT (b6o.fr0 (JOr.fr hJ hb))
              exact light_val rfl (v := trV gs) (by simp [execOp, e5, hr, Result.andThen]) hJ rfl
            case o1 =>
              intro A W hv hlen hJ hbase hdL hdH
              obtain rfl : hv = [] := List.eq_nil_of_length_eq_zero hlen
              obtain rfl := (show W = _ from hJ)
              exact heavy_val rfl (v := .slice (some ⟨W.heap.size, 0, none⟩) 0 0) (w' := W.alloc (.cells #[] 49)) (by simp [execOp, go_sem]) ⟨rfl, rfl⟩
            case o2 =>
              intro A W hv hlen hJ hbase hdL hdH
              have e7 : A.eval (.tmp 7) = .slice a5 K.length c5 := hbase 7 (by kernel_rfl)
              have f7 : A.tmps[7]?.getD undef = .slice a5 K.length c5 := by simpa [Act.eval] using e7
              exact light_val rfl (v := .slice a5 K.length c5) (by simp [execOp, e7, f7]) hJ rfl
            case o3 =>
              intro A W hv hlen hJ hbase hdL hdH
              have e10 : A.eval (.tmp 10) = .int .i64 (t : Int) := hbase 10 (by kernel_rfl)
              have f10 : A.tmps[10]?.getD undef = .int .i64 (t : Int) := by simpa [Act.eval] using e10
              exact light_val rfl (v := .int .i64 (t : Int)) (by simp [execOp, e10, f10]) hJ rfl
            case o4 =>
              intro A W hv hlen hJ hbase hdL hdH
              have e71 : A.eval (.tmp 71) = .slice a5 K.length c5 := hdL 2 71 (by kernel_rfl) (by kernel_rfl) (by kernel_rfl)
              have f71 : A.tmps[71]?.getD undef = .slice a5 K.length c5 := by simpa [Act.eval] using e71
              have e72 : A.eval (.tmp 72) = .int .i64 (t : Int) := hdL 3 72 (by kernel_rfl) (by kernel_rfl) (by kernel_rfl)
              have f72 : A.tmps[72]?.getD undef = .int .i64 (t : Int) := by simpa [Act.eval] using e72
              have hr := hrB W
              exact light_val rfl (v := VB) (by simp [execOp, e71, e72, hr, Result.andThen]) hJ rfl
            case o5 =>
              intro A W hv hlen hJ hbase hdL hdH
              have e73 : A.eval (.tmp 73) = VB := hdL 4 73 (by kernel_rfl) (by kernel_rfl) (by kernel_rfl)
              have f73 : A.tmps[73]?.getD undef = VB := by simpa [Act.eval] using e73
              obtain ⟨v77, rfl⟩ := List.length_eq_one_iff.1 hlen
              obtain ⟨rfl, rfl⟩ := hJ
              have e70 : A.eval (.tmp 70) = .slice (some ⟨w0o.heap.size, 0, none⟩) 0 0 := by have := hdH 1 70 0 (by kernel_rfl) rfl (by kernel_rfl); simpa using this.symm
              have f1 : Fr noB w0o (w0o.alloc (.cells #[] 49)) := (Fr.refl _ _).alloc _
              refine heavy_wp rfl ?_
              refine wp_appN (ec := enC) (sz := 2) (base := w0o.heap.size) (.tmp 70) (.tmp 73) 31 rfl _ 16 uE en_info rfl (by decide) _ e70 (OwnR.empty w0o _ (Nat.le_refl _)) _ (K.drop t) e73 ((hSB.fr0 f0o).fr0 f1) (fun y _ => en_one y) (by unfold maxLen; simp only [List.length_nil]; omega) (by simp only [List.length_nil]; omega) f1.size ?_
              intro v' w' hO' hg'
              exact ⟨v', rfl, by simpa using hO', f1.grown hg' (fun k hk hlt => by cases hk; exact absurd hlt (Nat.lt_irrefl _))⟩
            case o6 =>
              intro A W hv hlen hJ hbase hdL hdH
              have e7 : A.eval (.tmp 7) = .slice a5 K.length c5 := hbase 7 (by kernel_rfl)
              have f7 : A.tmps[7]?.getD undef = .slice a5 K.length c5 := by simpa [Act.eval] using e7
              exact light_val rfl (v := .slice a5 K.length c5) (by simp [execOp, e7, f7]) hJ rfl
            case o7 =>
              intro A W hv hlen hJ hbase hdL hdH
              have e10 : A.eval (.tmp 10) = .int .i64 (t : Int) := hbase 10 (by kernel_rfl)
              have f10 : A.tmps[10]?.getD undef = .int .i64 (t : Int) := by simpa [Act.eval] using e10
              exact light_val rfl (v := .int .i64 (t : Int)) (by simp [execOp, e10, f10]) hJ rfl
            case o8 =>
              intro A W hv hlen hJ hbase hdL hdH
              have e75 : A.eval (.tmp 75) = .slice a5 K.length c5 := hdL 6 75 (by kernel_rfl) (by kernel_rfl) (by kernel_rfl)
              have f75 : A.tmps[75]?.getD undef = .slice a5 K.length c5 := by simpa [Act.eval] using e75
              have e76 : A.eval (.tmp 76) = .int .i64 (t : Int) := hdL 7 76 (by kernel_rfl) (by kernel_rfl) (by kernel_rfl)
              have f76 : A.tmps[76]?.getD undef = .int .i64 (t : Int) := by simpa [Act.eval] using e76
              have hr := hrA W
              exact light_val rfl (v := VA) (by simp [execOp, e75, e76, hr, Result.andThen]) hJ rfl
            case o9 =>
              intro A W hv hlen hJ hbase hdL hdH
              have e77 : A.eval (.tmp 77) = VA := hdL 8 77 (by kernel_rfl) (by kernel_rfl) (by kernel_rfl)
              have f77 : A.tmps[77]?.getD undef = VA := by simpa [Act.eval] using e77
              match hv, hlen with
              | [x70, v74], _ =>
                obtain ⟨hO, hf'⟩ := hJ
                have e74 : A.eval (.tmp 74) = v74 := by have := hdH 5 74 1 (by kernel_rfl) rfl (by kernel_rfl); simpa using this.symm
                refine heavy_wp rfl ?_
                refine wp_appN (ec := enC) (sz := 2) (base := w0o.heap.size) (.tmp 74) (.tmp 77) 31 rfl _ 16 uE en_info rfl (by decide) _ e74 hO _ (K.take t) e77 ((hSA.fr0 f0o).fr0 hf') (fun y _ => en_one y) (by unfold maxLen; omega) (by omega) hf'.size ?_
                intro v' w' hO' hg'
                exact ⟨v', rfl, hO', hf'.grown hg' (fun k hk hlt => absurd (hO.newB k hk).1 (by omega))⟩
            case o10 =>
              intro A W hv hlen hJ hbase hdL hdH
              have e69 : A.eval (.tmp 69) = trV gs := hdL 0 69 (by kernel_rfl) (by kernel_rfl) (by kernel_rfl)
              have f69 : A.tmps[69]?.getD undef = trV gs := by simpa [Act.eval] using e69
              match hv, hlen with
              | [x70, v74, v78], _ =>
                obtain ⟨hO, hf'⟩ := hJ
                have e78 : A.eval (.tmp 78) = v78 := by have := hdH 9 78 2 (by kernel_rfl) rfl (by kernel_rfl); simpa using this.symm
                have f78 : A.tmps[78]?.getD undef = v78 := by simpa [Act.eval] using e78
                refine heavy_call rfl (args := #[trV gs, v78]) (f := 21) (by simp [execOp, resolve, invoke, go_sem, e69, f69, e78, f78]) ?_
                refine (hB2 W hf' v78 hO).mono ?_
                rintro e w' ⟨F', rfl, T'⟩
                exact ⟨_, rfl, rfl, F', T'.pre hf'⟩
            case o11 =>
              intro A W hv hlen hJ hbase hdL hdH
              have ev := JOr.val hJ (hdH 10 79 3 (by kernel_rfl) rfl (by kernel_rfl))
              have fv : A.tmps[79]?.getD undef = .tuple #[.int .i64 rb, .int .i64 0] := by simpa [Act.eval] using ev
              exact light_val rfl (v := .tuple #[.int .i64 rb, .int .i64 0]) (by simp [execOp, go_sem, ev, fv]) hJ rfl
            case o12 =>
              intro A W hv hlen hJ hbase hdL hdH
              have e68 : A.eval (.tmp 68) = .tuple #[.int .i64 rb, .int .i64 0] := hdL 11 68 (by kernel_rfl) (by kernel_rfl) (by kernel_rfl)
              have f68 : A.tmps[68]?.getD undef = .tuple #[.int .i64 rb, .int .i64 0] := by simpa [Act.eval] using e68
              exact light_val rfl (v := .int .i64 rb) (by simp [execOp, go_sem, e68, f68]) hJ rfl
            case o13 =>
              intro A W hv hlen hJ hbase hdL hdH
              have e68 : A.eval (.tmp 68) = .tuple #[.int .i64 rb, .int .i64 0] := hdL 11 68 (by kernel_rfl) (by kernel_rfl) (by kernel_rfl)
              have f68 : A.tmps[68]?.getD undef = .tuple #[.int .i64 rb, .int .i64 0] := by simpa [Act.eval] using e68
              exact light_val rfl (v := .int .i64 0) (by simp [execOp, go_sem, e68, f68]) hJ rfl
            case o14 =>
              intro A W hv hlen hJ hbase hdL hdH
              have e80 : A.eval (.tmp 80) = .int .i64 rb := hdL 12 80 (by kernel_rfl) (by kernel_rfl) (by kernel_rfl)
              have f80 : A.tmps[80]?.getD undef = .int .i64 rb := by simpa [Act.eval] using e80
              exact light_val rfl (v := .int .i64 rb) (by simp [execOp, e80, f80]) hJ rfl
            case o15 =>
              intro A W hv hlen hJ hbase hdL hdH
              have e81 : A.eval (.tmp 81) = .int .i64 0 := hdL 13 81 (by kernel_rfl) (by kernel_rfl) (by kernel_rfl)
              have f81 : A.tmps[81]?.getD undef = .int .i64 0 := by simpa [Act.eval] using e81
              exact light_val rfl (v := .int .i64 0) (by simp [execOp, e81, f81]) hJ rfl
            case oe =>
              intro vs W'o hv hlen hJ hL hH
              have x0 : vs 0 = trV gs := hL 0 (by kernel_rfl) (by kernel_rfl)
              have x2 : vs 2 = .slice a5 K.length c5 := hL 2 (by kernel_rfl) (by kernel_rfl)
              have x3 : vs 3 = .int .i64 (t : Int) := hL 3 (by kernel_rfl) (by kernel_rfl)
              have x4 : vs 4 = VB := hL 4 (by kernel_rfl) (by kernel_rfl)
              have x6 : vs 6 = .slice a5 K.length c5 := hL 6 (by kernel_rfl) (by kernel_rfl)
              have x7 : vs 7 = .int .i64 (t : Int) := hL 7 (by kernel_rfl) (by kernel_rfl)
              have x8 : vs 8 = VA := hL 8 (by kernel_rfl) (by kernel_rfl)
              have x10 : vs 10 = .tuple #[.int .i64 rb, .int .i64 0] := JOr.val hJ (hH 3 10 rfl (by kernel_rfl))
              have x11 : vs 11 = .tuple #[.int .i64 rb, .int .i64 0] := hL 11 (by kernel_rfl) (by kernel_rfl)
              have x12 : vs 12 = .int .i64 rb := hL 12 (by kernel_rfl) (by kernel_rfl)
              have x13 : vs 13 = .int .i64 0 := hL 13 (by kernel_rfl) (by kernel_rfl)
              have x14 : vs 14 = .int .i64 rb := hL 14 (by kernel_rfl) (by kernel_rfl)
              have x15 : vs 15 = .int .i64 0 := hL 15 (by kernel_rfl) (by kernel_rfl)
              simp only [layL, Nat.reduceAdd, Act.put, List.setIfInBounds_toArray, List.set_cons_zero, List.set_cons_succ, x0, x2, x3, x4, x6, x7, x8, x10, x11, x12, x13, x14, x15]
              clear x0 x2 x3 x4 x6 x7 x8 x10 x11 x12 x13 x14 x15 hL hH
              generalize vs 1 = y1 at *
              generalize vs 5 = y5 at *
              generalize vs 9 = y9 at *
              match hv, hlen with
              | [q1, q2, q3, q4], _ =>
                obtain ⟨_, Fz, Tz⟩ := hJ
                have zo := f0o.size
                have zz := Tz.fr.size
                have bz := (b6.fr0 f0o).fr Tz.fr (fun q => by
                  rcases q with q | q
                  · rcases (T6.ft _ q).1 with q | q
                    · have := hFt _ q; omega
                    · omega
                  · omega)
                have hupK : KeysUp (K.foldl putL []) := fold_up K List.Pairwise.nil
                have hkey := oz.rt.up.2
                have hpgw := oz.iv.toT.low (oz.iv.toT.root (rtsB_B (root := rb) (List.mem_append_left (O.map (·.2)) (show pg ∈ [pg] by simp)))).2
                have hwf : ∀ x ∈ K.foldl putL [], (Lit.int .i64 x.1).wf = true ∧ (Lit.int .i64 x.2).wf = true := fun x hx => by
                  have h1 := hkey x hx
                  have h2 : x.2 = pg := by simpa using oz.pg x hx
                  have h3 := B1.p0
                  exact ⟨wfSm (by omega) (by omega), wfSm (by omega) (by omega)⟩
                have R1 : RtAt Xz Lz [] Q2 lv6 ra (K.foldl putL []) := by
                  rcases hO with ⟨hr, hO⟩ | ⟨hr, hO⟩
                  · rcases o6.rt with ⟨_, q⟩ | ⟨q, _⟩
                    · exact Or.inl ⟨hr, q⟩
                    · omega
                  · obtain ⟨r0, r8, rt⟩ := o6.tree hr
                    have hm : (lv6, ra) ∈ O := by rw [hO]; simp
                    have k := (oz.ot _ hm).2.1
                    rw [ez _ hm] at k
                    simp only [rt.ls] at k
                    exact Or.inr ⟨r0, (oz.iv.toT.root (rtsB_B (root := rb) (List.mem_append_right [pg] (List.mem_map_of_mem hm)))).2, r8, k⟩
                have hmm : 1 + 20 * K.length + 20 * K.length ≤ 100000 := by omega
                have hlist : (K.foldl putL []).length ≤ 64 := oz.len
                have D1 := ((((f0.thenN A1.fr).thenN F3).thenN hf).thenT T6.fr (fun i hi q => by
                  rcases q with q | q
                  · have := A1.f _ q; omega
                  · have := A1.p; omega)).thenN f0o
                have D2 := D1.thenT Tz.fr (fun i hi q => by
                  rcases q with q | q
                  · rcases (T6.ft _ q).1 with q | q
                    · have := A1.f _ q; omega
                    · omega
                  · have := A1.p; omega)
                have hRz := oz.rt
                have hIz := oz.iv.toT
                generalize K.foldl putL [] = LL at *
                go_upto_region 17 with (first
                  | (with_reducible refine at_wpP ?_; refine at_ld 25 _ rfl ?_; go_must (refine wpList_ldT rfl _ rfl g2 rfl gs bz ?_))
                  | (go_at_call 10; go_must (refine (List_any hIz hmm R1 _ Tz.st).mono ?_; rintro e w9 ⟨ua, rfl, oa, f9⟩; have z9 := f9.size)))
                have bz2 := bz.fr0 f9
                have s9 := Tz.st.fr0 f9
                go_wp2_with (first
                  | (with_reducible refine at_wpP ?_; refine at_ld 25 _ rfl ?_; go_must (refine wpList_ldT rfl _ rfl g2 rfl gs bz2 ?_))
                  | (go_at_call 10; go_must (refine (List_any hIz hmm hRz _ s9).mono ?_; rintro e w10 ⟨ub, rfl, ob, f10⟩; have z10 := f10.size; have pa := EnO.slp (oa.fr0 f10) hwf; have pb := ob.slp hwf))
                  | (go_at_call 18; go_must (refine (same10_any _ _ _ _ _ pa pb (by omega)).mono ?_; rintro e w11 ⟨rfl, f11⟩; have z11 := f11.size)))
                go_ret
                exact ⟨by simp, (((D2.thenN f9).thenN f10).thenN f11).below⟩
end Go.Proofs.Ytkhdniccnefdhaa
