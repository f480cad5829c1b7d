/- Texts WD of the proof of PruneDense, one behind the other. -/
import Derived.Test.YtmkinaijkgkgiaaBundlePruneDense1
import Derived.Test.YtmkinaijkgkgiaaBundlePruneDense2
import Derived.Test.YtmkinaijkgkgiaaBundlePruneDense3
import Derived.Test.YtmkinaijkgkgiaaBundlePruneDense4
import Derived.Test.YtmkinaijkgkgiaaBundlePruneDense5
import Derived.Test.YtmkinaijkgkgiaaBundlePruneDense6
import Derived.Test.YtmkinaijkgkgiaaBundlePruneDense7
import Derived.Test.YtmkinaijkgkgiaaBundlePruneDense8
import Derived.Test.YtmkinaijkgkgiaaBundlePruneDense9
import Derived.Test.YtmkinaijkgkgiaaBundlePruneDense10
import Derived.Test.YtmkinaijkgkgiaaBundlePruneDense11
import Derived.Test.YtmkinaijkgkgiaaBundlePruneDense12
import Derived.Test.YtmkinaijkgkgiaaBundlePruneDense13
import Derived.Test.YtmkinaijkgkgiaaBundlePruneDense14
import Derived.Test.YtmkinaijkgkgiaaBundlePruneDense15
import Derived.Test.YtmkinaijkgkgiaaBundlePruneDense16
import Derived.Test.YtmkinaijkgkgiaaBundlePruneDense17
import Derived.Test.YtmkinaijkgkgiaaBundlePruneDense18
import Derived.Test.YtmkinaijkgkgiaaBundlePruneDense19
import Derived.Test.YtmkinaijkgkgiaaBundlePruneDense20
import Derived.Test.YtmkinaijkgkgiaaBundlePruneDense21
import Derived.Test.YtmkinaijkgkgiaaBundlePruneDense22
import Derived.Test.YtmkinaijkgkgiaaBundlePruneDense23
import Derived.Test.YtmkinaijkgkgiaaBundlePruneDense24
import Derived.Test.YtmkinaijkgkgiaaBundlePruneDense25
import Derived.Test.YtmkinaijkgkgiaaBundlePruneDense26
import Derived.Test.YtmkinaijkgkgiaaBundlePruneDense27
import Derived.Test.YtmkinaijkgkgiaaBundlePruneDense28
import Derived.Test.YtmkinaijkgkgiaaBundlePruneDense29
/- PruneDense. -/
namespace Go.Proofs.Ytmkinaijkgkgiaa
open Go.RowKit Go.Proofs.U
set_option linter.unusedSimpArgs false
set_option linter.unusedVariables false
theorem StT.offD {wa wb : World} {Fa Fb : Nat → Prop} {gs gp g : Nat} {S : DSt × List Pg} {m : Nat} (T : StT wa wb Fa Fb gs gp S m) (hg : ¬ stB Fa gp g) (hl : g < wa.heap.size) : ¬ stB Fb gp g := fun q => by
  rcases q with q | q
  · rcases (T.ft _ q).1 with r | r
    · exact hg (Or.inl r)
    · omega
  · exact hg (Or.inr q)
theorem fullE_len (pg : Int) : (fullE pg).length = 64 := by unfold fullE; simp
theorem fullE_at (pg : Int) {k : Nat} (h : k < 64) : (fullE pg).take (k + 1) = (fullE pg).take k ++ [((k : Int), pg)] := by
  rw [List.take_succ_eq_append_getElem (by rw [fullE_len]; exact h)]
  congr 2
  unfold fullE
  simp
theorem fullE_mem {pg : Int} {x : Int × Int} (h : x ∈ fullE pg) : (0 ≤ x.1 ∧ x.1 ≤ 63) ∧ x.2 ∈ [pg] := by
  unfold fullE at h
  obtain ⟨k, hk, rfl⟩ := List.mem_map.1 h
  have := List.mem_range.1 hk
  exact ⟨⟨by show (0 : Int) ≤ (k : Int); omega, by show (k : Int) ≤ 63; omega⟩, by simp⟩
/-- One key trimmed from a dense tree. -/
theorem KT.trimD {S : BSt} {B : List Int} {l : List (Int × Int)} {d m : Nat} (o : KT S.X S.L B S.lv S.root l d 0) (hD : DnsS S) (hU : Up S.X S.L.length m) (hm : m ≤ 10000) (key : Int) (hk : 0 ≤ key ∧ key ≤ 63) (hB : B.length ≤ 4) (hd : l.length + d ≤ 64) (hL : 8 + (0 + (B.length + 33)) ≤ S.L.length) :
    ∃ (S' : BSt) (d' : Nat) (l' : List (Int × Int)), (∀ (F : Nat → Prop) (gs gp : Nat) (v : Value) (w : World), Sto w F gs gp S.X S.L m → SlI .i64 w v [key] → (∀ x, v.ownBlock = some x → ¬ F x ∧ x ≠ gp) → Calls Try.prog 9 #[trV gs, .int .i64 S.root, v] w fun r w' => ∃ F', r = .returned (.tuple #[.int .i64 S'.root, .int .i64 0]) ∧ StT w w' F F' gs gp (S'.X, S'.L) (m + 20)) ∧ KT S'.X S'.L B S'.lv S'.root l' d' 0 ∧ DnsS S' ∧ S'.L.length = S.L.length ∧ Up S'.X S'.L.length (m + 20) ∧ l'.length + d' ≤ 64 := by
  have run : ∀ S' : BSt, TStep m key S S' → ∀ (F : Nat → Prop) (gs gp : Nat) (v : Value) (w : World), Sto w F gs gp S.X S.L m → SlI .i64 w v [key] → (∀ x, v.ownBlock = some x → ¬ F x ∧ x ≠ gp) → Calls Try.prog 9 #[trV gs, .int .i64 S.root, v] w fun r w' => ∃ F', r = .returned (.tuple #[.int .i64 S'.root, .int .i64 0]) ∧ StT w w' F F' gs gp (S'.X, S'.L) (m + 20) := fun S' st F gs gp v w h hv hvF => by
    have := Trim_steps (F := F) (gs := gs) (gp := gp) (m := m) (fun k => if k = 0 then S else S') [key] 1 (by simp) (fun k hk h1 => by
      obtain rfl : k = 0 := by omega
      exact st) (fun hk => by simp at hk) hm (by simp) v w h hv (fun _ => hvF)
    exact this
  by_cases hn : findL l key = -1
  · exact ⟨S, d, l, run S (Or.inl ⟨rfl, fun F gs gp w h => Cut_not o.iv.toT (by omega) o.rk key hk hn w h⟩), o, hD, rfl, hU.mono (by omega), hd⟩
  · have hocc := o.occ
    obtain ⟨S', L', hC, hS, o', ln, up, hD'⟩ := o.cutD hD hU (by omega) key hk hn hB (by omega) (by omega)
    have hlt : (cutL l key).length < l.length := by
      unfold cutL
      refine List.length_filter_lt_length_iff_exists.2 ?_
      by_cases q : ∃ z ∈ l, z.1 = key
      · obtain ⟨z, hz, e⟩ := q; exact ⟨z, hz, by simpa using e⟩
      · exact absurd (findL_none fun z hz e => q ⟨z, hz, e⟩) hn
    exact ⟨S', d + 1, cutL l key, run S' (Or.inr ⟨L', hC, hS⟩), o', hD', ln, up, by omega⟩
theorem fold_len (es : List (Int × Int)) : (es.foldl putL []).length ≤ es.length := by
  have := foldL_le es []
  simpa using this
set_option maxRecDepth 100000 in
set_option maxHeartbeats 40000000 in
theorem pdense_walk (v : Value) (ks : List Int) (w : World) (hv : SlI .i64 w v ks) :
    Calls Try.prog 4 #[v] w fun r w' => r = .returned (.bool true) ∧ Below w.heap.size w w' := by
  obtain ⟨a0, c0, hv0⟩ : ∃ a c, v = .slice a ks.length c := ⟨_, _, hv.1.choose_spec.choose_spec.1⟩
  subst hv0
  by_cases cc0 : (80 : Int) < (ks.length : Int)
  · have d0 : decide ((80 : Int) < (ks.length : Int)) = true := decide_eq_true cc0
    go_enter Try.func4, Try.ntmps4
    go_wp2_with (first
      | (go_at_call 6; go_must (refine (palive_any _).mono ?_; rintro e w0 ⟨rfl, f0⟩; have z0 := f0.size)))
    go_ret
    exact ⟨rfl, f0.below⟩
  · have d0 : decide ((80 : Int) < (ks.length : Int)) = false := decide_eq_false cc0
    have hN : plN (sizeN 200) = 196 := by decide
    have hM := fun W => made_P 200 (by decide) W
    rw [hN] at hM
    clear hN
    go_enter Try.func4, Try.ntmps4
    go_wp2_with (first
      | (go_at_call 6; go_must (refine (palive_any _).mono ?_; rintro e w0 ⟨rfl, f0⟩; have z0 := f0.size))
      | (go_at_call 5; go_must (refine (hM _).mono ?_; rintro e w1 ⟨gs, gp, F, X, L, pg, rfl, st1, A1, B1⟩; have z1 := A1.fr.size))
      | (with_reducible refine at_wpP ?_; refine wpList_allocG rfl 26 rfl (.agg #[.pointer none]) [.pointer none] pr_zero rfl ?_; intro g2 w2 hg2 b2 f2 s2; have l2 := b2.lt; have z2 := f2.size)
      | (with_reducible refine at_wpP ?_; refine at_st 26 _ _ rfl ?_; go_must (refine wpList_stP rfl _ _ rfl g2 rfl gs rfl (.pointer none) b2 ?_; intro w3 b3 f3; have F3 := Fr.ownX f2 s2 f3; have z3 := f3.size; have l3 := b3.lt))
      | (with_reducible refine at_wpP ?_; refine wpList_mk0 enC 2 rfl 38 rfl 36 Try.underlying38 en_size ?_; intro g6 w6 o6 f6 s6 t6; have z6 := f6.size))
    have hgp := st1.ltp
    have hgs := st1.lts
    have hFt := st1.ft
    have A6 := (A1.fr0 F3)
    have st6 := (st1.fr0 F3)
    have hln0 := show Hid _ from B1.ln
    have k0 := B1.kt
    clear B1
    go_loopw [7, 6] (fun i u wr => ∃ (k : Nat) (o : List (Int × Int)), k ≤ 64 ∧ i = .int .i64 (k : Int) ∧ OwnR enC 2 36 wr w3.heap.size u o ∧ Hid (o = (fullE pg).take k) ∧ o.length ≤ k ∧ Fr noB w3 wr) (fun i _ _ => 64 - (intOf i).toNat)
    case atStart => exact ⟨0, [], by omega, rfl, o6, rfl, by simp, f6⟩
    case round =>
      obtain ⟨j, o, hj, rfl, ho, he, hol, hf⟩ := hrel
      have zf := hf.size
      have hnb := ho.newB
      obtain ⟨ao, co, rfl⟩ := ho.opn
      by_cases hlt : j < 64
      · have hsn := show Hid (o ++ [((j : Int), pg)] = (fullE pg).take (j + 1)) from by show _ = _; rw [fullE_at pg hlt, ← he.out]
        clear he
        have hlt' : (j : Int) < 64 := by omega
        go_wp2_with (first
          | (with_reducible refine at_wpP ?_; refine wpList_bldE rfl _ _ rfl _ _ rfl rfl ?_)
          | (with_reducible refine at_wpP ?_; refine wpList_mkC rfl 38 _ rfl uE _ en_info2 (by decide) (by decide) ((j : Int), pg) (enV ((j : Int), pg)) rfl rfl rfl ?_; intro g7 w7 b7 f7 s7; have z7 := f7.size)
          | (at_builtin; have q := b7; go_must (refine wpList_appL rfl _ _ 38 rfl _ 16 uE en_info rfl (by decide) (.slice ao o.length co) rfl (ho.fr0 f7) g7 rfl ((j : Int), pg) rfl _ b7 (en_one _) ?hq1 ?hq2 ?hq3 ?_; rotate_left 3; intro u8 w8 o8 f8 p8; have z8 := f8.size)))
        case hq1 => unfold maxLen; omega
        case hq2 => omega
        case hq3 => omega
        go_roundw
        case rel => exact ⟨j + 1, o ++ [((j : Int), pg)], by omega, by go_num, o8, hsn, by rw [List.length_append, List.length_singleton]; omega, (hf.thenN f7).thenT f8 (fun k hk e => by have := (hnb k e).1; omega)⟩
        case measure => simp [intOf]; omega
      · obtain rfl : j = 64 := by omega
        have he1 : o = fullE pg := by rw [he.out, List.take_of_length_le (by rw [fullE_len]; omega)]
        clear he
        have hmm : ∀ x ∈ o, (0 ≤ x.1 ∧ x.1 ≤ 63) ∧ x.2 ∈ [pg] := fun x hx => fullE_mem (by rw [← he1]; exact hx)
        have Ar := A6.fr0 hf
        have str := st6.fr0 hf
        have br := b3.fr0 hf
        have lr := br.lt
        obtain ⟨s, s0, sS, sK⟩ := KT.steps (s0 := ⟨X, L, 0, -1⟩) o k0 (m := 1) (by decide) (by omega) hmm st1.up (by simp) (by have := hln0.out; show 17 + 1 + (o.length + 1) / 2 ≤ L.length; omega)
        obtain ⟨o4, ln4, up4⟩ := sK o.length (Nat.le_refl _)
        have hab := steps_abs o (by rw [s0]) (fun k hk => (sS k hk).2) o.length (Nat.le_refl _)
        rw [List.take_length] at o4 hab
        have hfl := fold_len o
        rw [he1] at hab
        have hD4 := full_dns hab
        have hB := fun W (st : Sto W F gs gp (s 0).X (s 0).L 1) (hS : SlR enC 2 W (.slice ao o.length co) o) (hvv : ∀ x, Value.ownBlock (.slice ao o.length co) = some x → ¬ F x ∧ x ≠ gp) => Build_steps s o (by rw [s0]) (fun k hk => (sS k hk).1) (by decide) (by omega) _ W st hS hvv
        rw [s0] at hB
        rw [← he1] at hD4
        clear he1 hab
        generalize s o.length = S4 at hB o4 ln4 up4 hD4
        clear sS sK s0 s
        have hL4 : Hid (S4.L.length = 196) := show _ from ln4.trans hln0.out
        clear ln4 hln0 k0
        generalize o.foldl putL [] = l4 at *
        obtain ⟨m4, Hm4⟩ : ∃ m4, 1 + 20 * o.length = m4 := ⟨_, rfl⟩
        rw [Hm4] at hB up4
        have hm4 : m4 ≤ 1281 := by omega
        clear Hm4
        have hnBr : ∀ q, w1.heap.size ≤ q → ¬ stB F gp q := fun q hq s => by
          rcases s with s | s
          · have := hFt _ s; omega
          · omega
        have hvvr : ∀ x, Value.ownBlock (.slice ao o.length co) = some x → ¬ F x ∧ x ≠ gp := fun q hq => by
          have := (hnb q hq).1
          exact ⟨fun s => by have := hFt _ s; omega, by omega⟩
        have hgr := hnBr _ s2
        go_upto_region 17 with (first
          | (with_reducible refine at_wpP ?_; refine at_ld 24 _ rfl ?_; go_must (refine wpList_ldPT rfl _ rfl g2 rfl gs br ?_))
          | (go_at_call 8; go_must (refine (hB _ str ho.sl hvvr).mono ?_; rintro e w15 ⟨F5, rfl, T5⟩; have z15 := T5.fr.size)))
        have b15 := br.fr T5.fr hgr
        have g15 := T5.offD hgr lr
        have A15 := Ar.st T5
        have l15 := b15.lt
        have hB1l : [pg].length = 1 := rfl
        clear hnBr hvvr hmm hfl
        go_loopw [50, 8] (fun i r wr => ∃ (k : Nat) (Fk : Nat → Prop) (S : BSt) (d : Nat) (l : List (Int × Int)), k ≤ ks.length ∧ i = .int .i64 (k : Int) ∧ r = .int .i64 S.root ∧ StT w15 wr F5 Fk gs gp (S.X, S.L) (m4 + 20 * k) ∧ KT S.X S.L [pg] S.lv S.root l d 0 ∧ DnsS S ∧ Hid (S.L.length = 196) ∧ l.length + d ≤ 64) (fun i _ _ => ks.length - (intOf i).toNat)
        case atStart => exact ⟨0, F5, S4, 0, l4, Nat.zero_le _, rfl, rfl, StT.start T5.st, o4, hD4, hL4, o4.up.2.2⟩
        case round =>
          obtain ⟨j, Fj, S, d, l, hj2, rfl, rfl, T, oj, hD, hL, hld⟩ := hrel
          clear o4 hD4 hL4 up4 hB
          have zj := T.fr.size
          have Aj := A15.st T
          have hvj := ((hv.fr0 f0).fr0 Aj.fr).1
          have bj := b15.fr T.fr g15
          have gj := T.offD g15 l15
          have lj := bj.lt
          have cj := pr_cell bj
          have hFj := T.st.ft
          have hgpj := T.st.ltp
          by_cases hlt2 : j < ks.length
          · obtain ⟨x, Hx⟩ : ∃ x, Hid (ks[j] = x) := ⟨ks[j], (rfl : ks[j] = ks[j])⟩
            have hlt3 : (j : Int) < (ks.length : Int) := by omega
            by_cases hx0 : x < 0
            · have k1 : decide (x < (0 : Int)) = true := decide_eq_true hx0
              go_wp2_with (first
                | (with_reducible refine at_wpP ?_; refine at_idx 37 _ _ rfl ?_; go_must (refine wpList_idx1 rfl 37 _ _ rfl 3 Try.underlying37 int_size1 (.slice a0 ks.length c0) _ _ rfl hvj .i64 (j : Int) j rfl rfl hlt2 ?_; intro pp u hu hcu; obtain rfl := getX hu hlt2 Hx.out)))
              go_roundw
              case rel => exact ⟨j + 1, Fj, S, d, l, by omega, by go_num, rfl, T.mono (by omega), oj, hD, hL, hld⟩
              case measure => simp [intOf]; omega
            · have k1 : decide (x < (0 : Int)) = false := decide_eq_false hx0
              by_cases hx1 : 63 < x
              · have k2 : decide ((63 : Int) < x) = true := decide_eq_true hx1
                go_wp2_with (first
                  | (with_reducible refine at_wpP ?_; refine at_idx 37 _ _ rfl ?_; go_must (refine wpList_idx1 rfl 37 _ _ rfl 3 Try.underlying37 int_size1 (.slice a0 ks.length c0) _ _ rfl hvj .i64 (j : Int) j rfl rfl hlt2 ?_; intro pp u hu hcu; obtain rfl := getX hu hlt2 Hx.out)))
                go_roundw
                case rel => exact ⟨j + 1, Fj, S, d, l, by omega, by go_num, rfl, T.mono (by omega), oj, hD, hL, hld⟩
                case measure => simp [intOf]; omega
              · have k2 : decide ((63 : Int) < x) = false := decide_eq_false hx1
                have hxw : (Lit.int .i64 x).wf = true := wfSm (by omega) (by omega)
                obtain ⟨S', d', l', hTr, o', hD', ln', up', hd'⟩ := oj.trimD hD T.st.up (by omega) x ⟨by omega, by omega⟩ (by simp) hld (by have := hL.out; show 8 + (0 + (1 + 33)) ≤ S.L.length; omega)
                have hLz := fun (F' : Nat → Prop) W (s : Sto W F' gs gp S'.X S'.L (m4 + 20 * j + 20)) => List_ok o'.iv.toT (by omega) o'.rk W s
                have hfew := o'.few hD'
                have hfree := o'.free
                have hL' : Hid (S'.L.length = 196) := show _ from ln'.trans hL.out
                have hL2 := hL'.out
                have hfle := plFree_le S'.L
                have hl64 := o'.up.2.2
                obtain ⟨nf, Hnf⟩ : ∃ n, Hid (plFree S'.L = n) := ⟨_, rfl⟩
                have hnf := Hnf.out
                rw [hnf] at hfree hfle
                have hcmp : decide ((l'.length : Int) + (l'.length : Int) / 2 + 1 < (196 : Int) - (nf : Int) - 1) = false := decide_eq_false (by omega)
                clear hfew hfree hnf up' ln'
                have Ho' := show Hid _ from o'
                have hD'' := show Hid _ from hD'
                clear o' hD'
                go_upto_region 24 with (first
                  | (with_reducible refine at_wpP ?_; refine at_idx 37 _ _ rfl ?_; go_must (refine wpList_idx1 rfl 37 _ _ rfl 3 Try.underlying37 int_size1 (.slice a0 ks.length c0) _ _ rfl hvj .i64 (j : Int) j rfl rfl hlt2 ?_; intro pp u hu hcu; obtain rfl := getX hu hlt2 Hx.out))
                  | (with_reducible refine at_wpP ?_; refine at_ld 26 _ rfl ?_; go_must (refine wpList_ldP rfl _ rfl g2 rfl gs bj ?_))
                  | (with_reducible refine at_wpP ?_; refine wpList_mkC (ec := en64) (sz := 1) rfl 37 _ rfl Try.underlying37 _ info_int2 (by decide) (by decide) x (.int .i64 x) rfl rfl rfl ?_; intro g20 w20 b20 f20 s20; have z20 := f20.size)
                  | (go_at_call 9; go_must (refine (hTr _ _ _ _ _ (T.st.fr0 f20) (one_int b20 hxw) (fun q hq => by
                      have e : g20 = q := by simpa [Value.ownBlock] using hq
                      subst e
                      exact ⟨fun r => by have := hFj _ r; omega, by omega⟩)).mono ?_; rintro e w21 ⟨F21, rfl, T21⟩; have z21 := T21.fr.size)))
                have b21 := (bj.fr0 f20).fr T21.fr gj
                go_upto_region 25 with (first
                  | (with_reducible refine at_wpP ?_; refine at_ld 24 _ rfl ?_; go_must (refine wpList_ldPT rfl _ rfl g2 rfl gs b21 ?_))
                  | (go_at_call 10; go_must (refine (hLz _ _ T21.st).mono ?_; rintro e w22 ⟨uz, rfl, oz, f22⟩; have z22 := f22.size)))
                obtain ⟨az, cz, huz⟩ := oz.opn
                subst huz
                have b22 := b21.fr0 f22
                have c22 := pr_cell b22
                have s22 := T21.st.fr0 f22
                have T22 := ((T.fr0 f20).trans T5.st.ft T21).fr0 f22
                have hsz : Hid (((S'.L.length : Nat) : Int) = 196) := by show _ = _; rw [hL2]; rfl
                have hfr : Hid (((plFree S'.L : Nat) : Int) = (nf : Int)) := by show _ = _; rw [Hnf.out]
                have hsd := fun n => s22.fr0 ((Fr.refl noB w22).drewN n)
                go_wp2_with fail
                go_quiet ((first
                  | (go_at_call 11; exact Calls.quiet_of_same ((npool_any _ (hsd _)).mono (fun _ _ h => ⟨h.1, h.2.symm⟩)))
                  | (go_at_call 12; exact Calls.quiet_of_same ((psize_any _ _ (hsd _).pl).mono (fun _ _ h => ⟨h.1, h.2.symm⟩)))
                  | (go_at_call 13; exact Calls.quiet_of_same ((free_F (hsd _) hfr.out).mono (fun _ _ h => ⟨h.1, h.2.symm⟩)))))
                go_wp2
                go_roundw
                case rel => exact ⟨j + 1, F21, S', d', l', by omega, by go_num, rfl, (T22.fr0 ((Fr.refl noB w22).drewN nq)).mono (by omega), Ho'.out, hD''.out, hL', hd'⟩
                case measure => simp [intOf]; omega
          · obtain rfl : j = ks.length := by omega
            go_wp2
            go_ret
            exact ⟨rfl, (f0.thenN Aj.fr).below⟩
end Go.Proofs.Ytmkinaijkgkgiaa
