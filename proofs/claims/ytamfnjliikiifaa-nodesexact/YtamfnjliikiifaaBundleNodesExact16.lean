/- Texts X11, V3, V4, V5, V6, V7, V8, V9, V10, V11 of the proof of NodesExact, one behind the other. -/
import Derived.Test.YtamfnjliikiifaaBundleNodesExact1
import Derived.Test.YtamfnjliikiifaaBundleNodesExact2
import Derived.Test.YtamfnjliikiifaaBundleNodesExact3
import Derived.Test.YtamfnjliikiifaaBundleNodesExact4
import Derived.Test.YtamfnjliikiifaaBundleNodesExact5
import Derived.Test.YtamfnjliikiifaaBundleNodesExact6
import Derived.Test.YtamfnjliikiifaaBundleNodesExact7
import Derived.Test.YtamfnjliikiifaaBundleNodesExact8
import Derived.Test.YtamfnjliikiifaaBundleNodesExact9
import Derived.Test.YtamfnjliikiifaaBundleNodesExact10
import Derived.Test.YtamfnjliikiifaaBundleNodesExact11
import Derived.Test.YtamfnjliikiifaaBundleNodesExact12
import Derived.Test.YtamfnjliikiifaaBundleNodesExact13
import Derived.Test.YtamfnjliikiifaaBundleNodesExact14
import Derived.Test.YtamfnjliikiifaaBundleNodesExact15
/- The document's Right and Same. (Written by x11_gen.py.) -/
namespace Go.Proofs.Ytamfnjliikiifaa
open Go.RowKit Go.Proofs.U
set_option linter.unusedSimpArgs false
set_option linter.unusedVariables false

set_option maxRecDepth 100000 in
set_option maxHeartbeats 4000000 in
theorem rright_tree (k : Int) (b : List Int) (es : List (Int × Int)) (v : Value) (w : World) (h : NdS w v ⟨k, b, es⟩) (hk23 : k = 2 ∨ k = 3) :
    Calls Try.prog 21 #[ndV k b v] w fun r w' => r = .returned (.bool ((b == zerB 16) && entsR es)) ∧ Fr noB w w' := by
  obtain ⟨hs, ⟨hb, hy⟩, hm, hwf⟩ := h
  simp only at hs hb hy hm hwf
  obtain ⟨a0, c0, rfl, hc0⟩ := hs.1.opn
  have Hb := show Hid _ from hb
  clear hb
  obtain ⟨B, HB⟩ : ∃ B, Hid ((b == zerB 16) = B) := ⟨_, rfl⟩
  rw [HB.out]
  cases B with
  | false =>
    rw [Bool.false_and]
    rcases hk23 with rfl | rfl
    all_goals
      go_enter Try.func21, Try.ntmps21
      go_wp2_with (first
        | (with_reducible refine at_wpP ?_; refine wpList_boxN rfl _ rfl _ b (.slice a0 es.length c0) rfl ?_; intro g1 w1 hg1 b1 f1 s1; have q0 := NdB.kind b1; have q2 := NdB.ents b1 Hb.out)
        | (with_reducible refine at_wpP ?_; refine at_ld 25 _ rfl ?_; refine wpList_ldBlk rfl _ rfl g1 rfl _ b _ b1 Hb.out ?_)
        | (with_reducible refine at_wpP ?_; refine wpList_buildA arr_block rfl rfl ?_)
        | (with_reducible refine at_wpP ?_; refine wpList_neqA arr_block rfl _ _ _ rfl b (zerB 16) rfl rfl Hb.out (zerB_len 16) ?_; rw [HB.out]))
      go_ret
      exact ⟨rfl, f1⟩
  | true =>
    rw [Bool.true_and]
    by_cases hl : es.length = 0
    · have hno : entsR es = false := by unfold entsR; simp [hl]
      have hd1 : decide ((es.length : Int) < 1) = true := decide_eq_true (by omega)
      rw [hno]
      rcases hk23 with rfl | rfl
      all_goals
        go_enter Try.func21, Try.ntmps21
        go_wp2_with (first
          | (with_reducible refine at_wpP ?_; refine wpList_boxN rfl _ rfl _ b (.slice a0 es.length c0) rfl ?_; intro g1 w1 hg1 b1 f1 s1; have q0 := NdB.kind b1; have q2 := NdB.ents b1 Hb.out)
          | (with_reducible refine at_wpP ?_; refine at_ld 25 _ rfl ?_; refine wpList_ldBlk rfl _ rfl g1 rfl _ b _ b1 Hb.out ?_)
          | (with_reducible refine at_wpP ?_; refine wpList_buildA arr_block rfl rfl ?_)
          | (with_reducible refine at_wpP ?_; refine wpList_neqA arr_block rfl _ _ _ rfl b (zerB 16) rfl rfl Hb.out (zerB_len 16) ?_; rw [HB.out]))
        go_ret
        exact ⟨rfl, f1⟩
    have hd1 : decide ((es.length : Int) < 1) = false := decide_eq_false (by omega)
    by_cases h6 : 6 < es.length
    · have hno : entsR es = false := by unfold entsR; simp; intro _ h; omega
      have hd6 : decide ((6 : Int) < (es.length : Int)) = true := decide_eq_true (by omega)
      rw [hno]
      rcases hk23 with rfl | rfl
      all_goals
        go_enter Try.func21, Try.ntmps21
        go_wp2_with (first
          | (with_reducible refine at_wpP ?_; refine wpList_boxN rfl _ rfl _ b (.slice a0 es.length c0) rfl ?_; intro g1 w1 hg1 b1 f1 s1; have q0 := NdB.kind b1; have q2 := NdB.ents b1 Hb.out)
          | (with_reducible refine at_wpP ?_; refine at_ld 25 _ rfl ?_; refine wpList_ldBlk rfl _ rfl g1 rfl _ b _ b1 Hb.out ?_)
          | (with_reducible refine at_wpP ?_; refine wpList_buildA arr_block rfl rfl ?_)
          | (with_reducible refine at_wpP ?_; refine wpList_neqA arr_block rfl _ _ _ rfl b (zerB 16) rfl rfl Hb.out (zerB_len 16) ?_; rw [HB.out]))
        go_ret
        exact ⟨rfl, f1⟩
    have hd6 : decide ((6 : Int) < (es.length : Int)) = false := decide_eq_false (by omega)
    obtain ⟨l, Hl⟩ : ∃ l, Hid (es = l) := ⟨_, rfl⟩
    have Hl' : es = l := Hl.out
    subst Hl'
    obtain ⟨R, hR0⟩ : ∃ R, Hid (rises (-1) es = R) := ⟨_, rfl⟩
    have hyes0 : entsR es = R := by unfold entsR; rw [hR0.out]; simp; intro _; omega
    rw [hyes0]
    clear hyes0
    rcases hk23 with rfl | rfl
    all_goals
      go_enter Try.func21, Try.ntmps21
      go_wp2_with (first
        | (with_reducible refine at_wpP ?_; refine wpList_boxN rfl _ rfl _ b (.slice a0 es.length c0) rfl ?_; intro g1 w1 hg1 b1 f1 s1; have q0 := NdB.kind b1; have q2 := NdB.ents b1 Hb.out)
        | (with_reducible refine at_wpP ?_; refine at_ld 25 _ rfl ?_; refine wpList_ldBlk rfl _ rfl g1 rfl _ b _ b1 Hb.out ?_)
        | (with_reducible refine at_wpP ?_; refine wpList_buildA arr_block rfl rfl ?_)
        | (with_reducible refine at_wpP ?_; refine wpList_neqA arr_block rfl _ _ _ rfl b (zerB 16) rfl rfl Hb.out (zerB_len 16) ?_; rw [HB.out]))
      go_loopw [3, 42] (fun u i wr => ∃ (k : Nat) (m : Int), k ≤ es.length ∧ i = .int .i64 (k : Int) ∧ u = .int .i64 m ∧ Hid (rises m (es.drop k) = R) ∧ Fr noB w wr) (fun _ i _ => es.length - (intOf i).toNat)
      case atStart => exact ⟨0, -1, by omega, rfl, rfl, by rw [List.drop_zero]; exact hR0, f1⟩
      case round =>
        obtain ⟨k, m, hk, rfl, rfl, hR, hf⟩ := hrel
        have zf := hf.size
        by_cases hlt : k < es.length
        · have hlt' : (k : Int) < (es.length : Int) := by omega
          have hcons : Hid (rises m (es.drop k) = (!decide (es[k].1 ≤ m) && !decide (63 < es[k].1) && !decide (es[k].2 < 0) && !decide (239 < es[k].2) && rises es[k].1 (es.drop (k + 1)))) := by show _ = _; rw [List.drop_eq_getElem_cons hlt, rises_r]
          obtain ⟨x, Hx⟩ : ∃ x, Hid (es[k] = x) := ⟨es[k], (rfl : es[k] = es[k])⟩
          rw [Hx.out] at hcons
          clear b1 q0 q2
          by_cases h1 : x.1 ≤ m
          · have hno : R = false := by rw [← hR.out, hcons.out]; simp [h1]
            subst hno
            go_wp2_with (first
              | (refine at_idx 26 _ _ rfl ?_; go_must (refine wpList_idxR rfl 26 _ _ rfl 51 Try.underlying26 2 en_size _ _ _ rfl (hs.1.fr0 hf) (by decide) _ _ k rfl rfl hlt ?_; rw [Hx.out]; intro ba oa hba hca))
              | (with_reducible refine at_wpP ?_; refine at_ld 51 _ rfl ?_; have q := hca; refine wpList_ldE rfl _ rfl ba oa rfl x hca ?_)
              | (with_reducible refine at_wpP ?_; refine wpList_allocE rfl rfl ?_; intro gl w1 hgl b1 f1 sl; have l1 := b1.lt; have F1 := hf.thenN f1; have z1 := f1.size)
              | (with_reducible refine at_wpP ?_; refine at_st 51 _ _ rfl ?_; go_must (refine wpList_stE rfl _ _ rfl gl rfl (0, 0) x b1 rfl ?_; intro w2 B2 f2; have F2 := Fr.ownX F1 (by omega) f2; have z2 := f2.size; obtain ⟨c0, c1⟩ := B2.all)))
            go_ret
            exact ⟨rfl, F2⟩
          · skip
            by_cases h2 : 63 < x.1
            · have hno : R = false := by rw [← hR.out, hcons.out]; simp [h2]
              subst hno
              go_wp2_with (first
                | (refine at_idx 26 _ _ rfl ?_; go_must (refine wpList_idxR rfl 26 _ _ rfl 51 Try.underlying26 2 en_size _ _ _ rfl (hs.1.fr0 hf) (by decide) _ _ k rfl rfl hlt ?_; rw [Hx.out]; intro ba oa hba hca))
                | (with_reducible refine at_wpP ?_; refine at_ld 51 _ rfl ?_; have q := hca; refine wpList_ldE rfl _ rfl ba oa rfl x hca ?_)
                | (with_reducible refine at_wpP ?_; refine wpList_allocE rfl rfl ?_; intro gl w1 hgl b1 f1 sl; have l1 := b1.lt; have F1 := hf.thenN f1; have z1 := f1.size)
                | (with_reducible refine at_wpP ?_; refine at_st 51 _ _ rfl ?_; go_must (refine wpList_stE rfl _ _ rfl gl rfl (0, 0) x b1 rfl ?_; intro w2 B2 f2; have F2 := Fr.ownX F1 (by omega) f2; have z2 := f2.size; obtain ⟨c0, c1⟩ := B2.all)))
              go_ret
              exact ⟨rfl, F2⟩
            · skip
              by_cases h3 : x.2 < 0
              · have hno : R = false := by rw [← hR.out, hcons.out]; simp [h3]
                subst hno
                go_wp2_with (first
                  | (refine at_idx 26 _ _ rfl ?_; go_must (refine wpList_idxR rfl 26 _ _ rfl 51 Try.underlying26 2 en_size _ _ _ rfl (hs.1.fr0 hf) (by decide) _ _ k rfl rfl hlt ?_; rw [Hx.out]; intro ba oa hba hca))
                  | (with_reducible refine at_wpP ?_; refine at_ld 51 _ rfl ?_; have q := hca; refine wpList_ldE rfl _ rfl ba oa rfl x hca ?_)
                  | (with_reducible refine at_wpP ?_; refine wpList_allocE rfl rfl ?_; intro gl w1 hgl b1 f1 sl; have l1 := b1.lt; have F1 := hf.thenN f1; have z1 := f1.size)
                  | (with_reducible refine at_wpP ?_; refine at_st 51 _ _ rfl ?_; go_must (refine wpList_stE rfl _ _ rfl gl rfl (0, 0) x b1 rfl ?_; intro w2 B2 f2; have F2 := Fr.ownX F1 (by omega) f2; have z2 := f2.size; obtain ⟨c0, c1⟩ := B2.all)))
                go_ret
                exact ⟨rfl, F2⟩
              · skip
                by_cases h4 : 239 < x.2
                · have hno : R = false := by rw [← hR.out, hcons.out]; simp [h4]
                  subst hno
                  go_wp2_with (first
                    | (refine at_idx 26 _ _ rfl ?_; go_must (refine wpList_idxR rfl 26 _ _ rfl 51 Try.underlying26 2 en_size _ _ _ rfl (hs.1.fr0 hf) (by decide) _ _ k rfl rfl hlt ?_; rw [Hx.out]; intro ba oa hba hca))
                    | (with_reducible refine at_wpP ?_; refine at_ld 51 _ rfl ?_; have q := hca; refine wpList_ldE rfl _ rfl ba oa rfl x hca ?_)
                    | (with_reducible refine at_wpP ?_; refine wpList_allocE rfl rfl ?_; intro gl w1 hgl b1 f1 sl; have l1 := b1.lt; have F1 := hf.thenN f1; have z1 := f1.size)
                    | (with_reducible refine at_wpP ?_; refine at_st 51 _ _ rfl ?_; go_must (refine wpList_stE rfl _ _ rfl gl rfl (0, 0) x b1 rfl ?_; intro w2 B2 f2; have F2 := Fr.ownX F1 (by omega) f2; have z2 := f2.size; obtain ⟨c0, c1⟩ := B2.all)))
                  go_ret
                  exact ⟨rfl, F2⟩
                · skip
                  have hyes : Hid (rises x.1 (es.drop (k + 1)) = R) := by show _ = _; rw [← hR.out, hcons.out]; simp [h1, h2, h3, h4]
                  go_wp2_with (first
                    | (refine at_idx 26 _ _ rfl ?_; go_must (refine wpList_idxR rfl 26 _ _ rfl 51 Try.underlying26 2 en_size _ _ _ rfl (hs.1.fr0 hf) (by decide) _ _ k rfl rfl hlt ?_; rw [Hx.out]; intro ba oa hba hca))
                    | (with_reducible refine at_wpP ?_; refine at_ld 51 _ rfl ?_; have q := hca; refine wpList_ldE rfl _ rfl ba oa rfl x hca ?_)
                    | (with_reducible refine at_wpP ?_; refine wpList_allocE rfl rfl ?_; intro gl w1 hgl b1 f1 sl; have l1 := b1.lt; have F1 := hf.thenN f1; have z1 := f1.size)
                    | (with_reducible refine at_wpP ?_; refine at_st 51 _ _ rfl ?_; go_must (refine wpList_stE rfl _ _ rfl gl rfl (0, 0) x b1 rfl ?_; intro w2 B2 f2; have F2 := Fr.ownX F1 (by omega) f2; have z2 := f2.size; obtain ⟨c0, c1⟩ := B2.all)))
                  go_roundw
                  case rel => exact ⟨k + 1, x.1, by omega, by go_num, rfl, hyes, F2⟩
                  case measure => simp [intOf]; omega
        · obtain rfl : k = es.length := by omega
          have hR' : R = true := by rw [← hR.out, List.drop_length]; rfl
          subst hR'
          clear b1 q0 q2
          go_wp2
          go_ret
          exact ⟨rfl, hf⟩

set_option maxRecDepth 100000 in
set_option maxHeartbeats 2000000 in
theorem nrright_any (n : Nd) (v : Value) (w : World) (h : NdS w v n) :
    Calls Try.prog 21 #[ndV n.k n.b v] w fun r w' => r = .returned (.bool n.right) ∧ Fr noB w w' := by
  obtain ⟨k, b, es⟩ := n
  by_cases hk : k = 1
  · obtain ⟨hs, ⟨hb, hy⟩, hm, hwf⟩ := h
    obtain ⟨a0, c0, rfl, hc0⟩ := hs.1.opn
    have Hb := show Hid _ from hb
    clear hb
    subst hk
    simp only at hs Hb ⊢
    obtain ⟨R, HR⟩ : ∃ R, Hid (((es.length : Int) == 0) = R) := ⟨_, rfl⟩
    have hr : (Nd.mk 1 b es).right = R := by rw [← HR.out]; unfold Nd.right; simp; cases es <;> simp; omega
    rw [hr]
    clear hr
    go_enter Try.func21, Try.ntmps21
    go_wp2_with (first
      | (with_reducible refine at_wpP ?_; refine wpList_boxN rfl _ rfl _ b (.slice a0 es.length c0) rfl ?_; intro g1 w1 hg1 b1 f1 s1; have q0 := NdB.kind b1; have q2 := NdB.ents b1 Hb.out))
    go_ret
    exact ⟨by rw [HR.out]; rfl, f1⟩
  · rw [right_tree_eq k b es hk]
    by_cases hk23 : k = 2 ∨ k = 3
    · have hkk : (k == 2 || k == 3) = true := by simpa using hk23
      rw [hkk, Bool.true_and]
      exact rright_tree k b es v w h hk23
    · have hkk : (k == 2 || k == 3) = false := by simp; exact ⟨fun h => hk23 (Or.inl h), fun h => hk23 (Or.inr h)⟩
      rw [hkk, Bool.false_and, Bool.false_and]
      have hk1 : (k == 1) = false := by simpa using hk
      have hk2 : ¬ k = 2 := fun h => hk23 (Or.inl h)
      have hk3 : ¬ k = 3 := fun h => hk23 (Or.inr h)
      obtain ⟨hs, ⟨hb, hy⟩, hm, hwf⟩ := h
      obtain ⟨a0, c0, rfl, hc0⟩ := hs.1.opn
      have Hb := show Hid _ from hb
      clear hb hk23 hkk
      simp only at hs Hb ⊢
      go_enter Try.func21, Try.ntmps21
      go_wp2_with (first
        | (with_reducible refine at_wpP ?_; refine wpList_boxN rfl _ rfl _ b (.slice a0 es.length c0) rfl ?_; intro g1 w1 hg1 b1 f1 s1; have q0 := NdB.kind b1; have q2 := NdB.ents b1 Hb.out))
      go_ret
      exact ⟨rfl, f1⟩

set_option maxRecDepth 100000 in
set_option maxHeartbeats 4000000 in
theorem rsame_any (n m : Nd) (v u : Value) (w : World) (h : NdS w v n) (h' : NdS w u m) :
    Calls Try.prog 22 #[ndV n.k n.b v, ndV m.k m.b u] w fun r w' => r = .returned (.bool (n.same m)) ∧ Fr noB w w' := by
  obtain ⟨k1, b, la⟩ := n
  obtain ⟨k2, b', lb⟩ := m
  obtain ⟨hs, ⟨hb, hy⟩, hm, hwf⟩ := h
  obtain ⟨hs', ⟨hb', hy'⟩, hm', hwf'⟩ := h'
  have hS := hs
  have hS' := hs'
  have Hb := show Hid _ from hb
  have Hb' := show Hid _ from hb'
  clear hb hb'
  unfold Nd.same
  simp only at hS hs hwf Hb hy hm hS' hs' hwf' Hb' hy' hm' ⊢
  by_cases hk : k1 = k2
  · subst hk
    rw [beq_self_eq_true, Bool.true_and]
    obtain ⟨C, HC⟩ : ∃ C, Hid ((b == b') = C) := ⟨_, rfl⟩
    rw [HC.out]
    cases C with
    | false =>
      obtain ⟨a0, c0, rfl, hc0⟩ := hs.1.opn
      obtain ⟨a1, c1, rfl, hc1⟩ := hs'.1.opn
      rw [Bool.false_and]
      go_enter Try.func22, Try.ntmps22
      go_wp2_with (first
        | (with_reducible refine at_wpP ?_; have q := b1; refine wpList_boxN rfl _ rfl _ b' (.slice a1 lb.length c1) rfl ?_; intro g3 w2 hg3 b2 f2 s2; have B1 := b1.fr0 f2; have q0 := NdB.kind B1; have q1 := NdB.kind b2; have q2 := NdB.ents B1 Hb.out; have q3 := NdB.ents b2 Hb'.out)
        | (with_reducible refine at_wpP ?_; refine wpList_boxN rfl _ rfl _ b (.slice a0 la.length c0) rfl ?_; intro g2 w1 hg2 b1 f1 s1)
        | (with_reducible refine at_wpP ?_; refine at_ld 25 _ rfl ?_; first | refine wpList_ldBlk rfl _ rfl g2 rfl _ b _ B1 Hb.out ?_ | refine wpList_ldBlk rfl _ rfl g3 rfl _ b' _ b2 Hb'.out ?_)
        | (with_reducible refine at_wpP ?_; refine wpList_neqA arr_block rfl _ _ _ rfl b b' rfl rfl Hb.out Hb'.out ?_; rw [HC.out]))
      go_ret
      exact ⟨rfl, f1.thenN f2⟩
    | true =>
      rw [Bool.true_and]
      by_cases hne : la.length = lb.length
      · by_cases h0 : la.length = 0
        · have e1 : la = [] := List.eq_nil_of_length_eq_zero h0
          have e2 : lb = [] := List.eq_nil_of_length_eq_zero (by omega)
          subst e1; subst e2
          obtain ⟨a0, c0, rfl, hc0⟩ := hs.1.opn
          obtain ⟨a1, c1, rfl, hc1⟩ := hs'.1.opn
          go_enter Try.func22, Try.ntmps22
          go_wp2_with (first
            | (with_reducible refine at_wpP ?_; have q := b1; refine wpList_boxN rfl _ rfl _ b' (.slice a1 0 c1) rfl ?_; intro g3 w2 hg3 b2 f2 s2; have B1 := b1.fr0 f2; have q0 := NdB.kind B1; have q1 := NdB.kind b2; have q2 := NdB.ents B1 Hb.out; have q3 := NdB.ents b2 Hb'.out)
            | (with_reducible refine at_wpP ?_; refine wpList_boxN rfl _ rfl _ b (.slice a0 0 c0) rfl ?_; intro g2 w1 hg2 b1 f1 s1)
            | (with_reducible refine at_wpP ?_; refine at_ld 25 _ rfl ?_; first | refine wpList_ldBlk rfl _ rfl g2 rfl _ b _ B1 Hb.out ?_ | refine wpList_ldBlk rfl _ rfl g3 rfl _ b' _ b2 Hb'.out ?_)
            | (with_reducible refine at_wpP ?_; refine wpList_neqA arr_block rfl _ _ _ rfl b b' rfl rfl Hb.out Hb'.out ?_; rw [HC.out]))
          go_loop [30] (fun i => i = .int .i64 0) (fun _ => 0)
          case atStart => rfl
          case round =>
            subst hrel
            go_wp2
            go_ret
            exact ⟨rfl, f1.thenN f2⟩
        · obtain ⟨ba, oa, ca, rfl, hca⟩ := SlR.addr hs.1 (by decide) (by omega)
          obtain ⟨bb, ob, cb, rfl, hcb⟩ := SlR.addr hs'.1 (by decide) (by omega)
          rw [← hne]
          have hne := show Hid _ from hne
          go_enter Try.func22, Try.ntmps22
          go_wp2_with (first
            | (with_reducible refine at_wpP ?_; have q := b1; refine wpList_boxN rfl _ rfl _ b' (.slice (some ⟨bb, ob, none⟩) la.length cb) rfl ?_; intro g3 w2 hg3 b2 f2 s2; have B1 := b1.fr0 f2; have q0 := NdB.kind B1; have q1 := NdB.kind b2; have q2 := NdB.ents B1 Hb.out; have q3 := NdB.ents b2 Hb'.out)
            | (with_reducible refine at_wpP ?_; refine wpList_boxN rfl _ rfl _ b (.slice (some ⟨ba, oa, none⟩) la.length ca) rfl ?_; intro g2 w1 hg2 b1 f1 s1)
            | (with_reducible refine at_wpP ?_; refine at_ld 25 _ rfl ?_; first | refine wpList_ldBlk rfl _ rfl g2 rfl _ b _ B1 Hb.out ?_ | refine wpList_ldBlk rfl _ rfl g3 rfl _ b' _ b2 Hb'.out ?_)
            | (with_reducible refine at_wpP ?_; refine wpList_neqA arr_block rfl _ _ _ rfl b b' rfl rfl Hb.out Hb'.out ?_; rw [HC.out]))
          have F2 := f1.thenN f2
          go_loopw [30] (fun i wr => ∃ (k : Nat), k ≤ la.length ∧ i = .int .i64 (k : Int) ∧ la.take k = lb.take k ∧ Fr noB w2 wr) (fun i _ => la.length - (intOf i).toNat)
          case atStart => exact ⟨0, by omega, rfl, rfl, Fr.refl _ _⟩
          case round =>
            obtain ⟨k, hk, rfl, htk, hf⟩ := hrel
            have htk := show Hid _ from htk
            by_cases hlt : k < la.length
            · have hltb : k < lb.length := by rw [← hne.out]; exact hlt
              have hlt' : (k : Int) < (la.length : Int) := by omega
              have hca := hca k hlt
              have hcb := hcb k hltb
              obtain ⟨x, Hx⟩ : ∃ x, Hid (la[k] = x) := ⟨la[k], (rfl : la[k] = la[k])⟩
              obtain ⟨y, Hy⟩ : ∃ y, Hid (lb[k] = y) := ⟨lb[k], (rfl : lb[k] = lb[k])⟩
              rw [Hx.out] at hca
              rw [Hy.out] at hcb
              obtain ⟨B, HB⟩ : ∃ B, Hid ((!(x == y)) = B) := ⟨_, rfl⟩
              go_wp2
              obtain ⟨w0, HW⟩ : ∃ w0, Hid (wr.drew = w0) := ⟨_, rfl⟩
              have f0 : Fr noB wr w0 := by rw [← HW.out]; exact (Fr.refl _ _).drew
              have F0 := hf.thenN f0
              have hq2 := NdB.ents (B1.fr0 F0) Hb.out
              have hq3 := NdB.ents (b2.fr0 F0) Hb'.out
              have hca : ∀ q u, (enC x)[q]? = some u → w0.cell? ⟨ba, oa + k * 2 + q, none⟩ = some u := fun q u hq => (F2.thenN F0).cell (hca q u hq) (fun h => h)
              have hcb : ∀ q u, (enC y)[q]? = some u → w0.cell? ⟨bb, ob + k * 2 + q, none⟩ = some u := fun q u hq => (F2.thenN F0).cell (hcb q u hq) (fun h => h)
              refine wp_region_chain_lay (by kernel_rfl) [] [none, none, none, none, none, none, none, none, none, none, none]
                [fun v => v = .pointer (some ⟨g2, 17, none⟩), fun v => v = .slice (some ⟨ba, oa, none⟩) la.length ca, fun v => v = .int .i64 (k : Int), fun v => v = .pointer (some ⟨ba, oa + k * 2, none⟩), fun v => v = enV x, fun v => v = .pointer (some ⟨g3, 17, none⟩), fun v => v = .slice (some ⟨bb, ob, none⟩) la.length cb, fun v => v = .int .i64 (k : Int), fun v => v = .pointer (some ⟨bb, ob + k * 2, none⟩), fun v => v = enV y, fun v => v = .bool B]
                (JQX w0) (HW.out) (by kernel_rfl) (by kernel_rfl) (by decide) ⟨?o0, ?o1, ?o2, ?o3, ?o4, ?o5, ?o6, ?o7, ?o8, ?o9, ?o10, trivial⟩ ?oe
              case o0 =>
                intro A W hv hlen hJ hbase hdL hdH
                have e2 : A.eval (.tmp 2) = .pointer (some ⟨g2, 0, none⟩) := hbase 2 (by kernel_rfl)
                have f2 : A.tmps[2]?.getD undef = .pointer (some ⟨g2, 0, none⟩) := by simpa [Act.eval] using e2
                exact light_val rfl (v := .pointer (some ⟨g2, 17, none⟩)) (by simp [execOp, go_sem, e2, f2]) hJ rfl
              case o1 =>
                intro A W hv hlen hJ hbase hdL hdH
                have e33 : A.eval (.tmp 33) = .pointer (some ⟨g2, 17, none⟩) := hdL 0 33 (by kernel_rfl) (by kernel_rfl) (by kernel_rfl)
                have f33 : A.tmps[33]?.getD undef = .pointer (some ⟨g2, 17, none⟩) := by simpa [Act.eval] using e33
                have hc : W.cell? ⟨g2, 17, none⟩ = some (.slice (some ⟨ba, oa, none⟩) la.length ca) := by rw [show W = w0 from hJ]; exact hq2
                exact light_val rfl (v := .slice (some ⟨ba, oa, none⟩) la.length ca) (by simp [execOp, go_sem, e33, f33, hc]) hJ rfl
              case o2 =>
                intro A W hv hlen hJ hbase hdL hdH
                have e5 : A.eval (.tmp 5) = .int .i64 (k : Int) := hbase 5 (by kernel_rfl)
                have f5 : A.tmps[5]?.getD undef = .int .i64 (k : Int) := by simpa [Act.eval] using e5
                exact light_val rfl (v := .int .i64 (k : Int)) (by simp [execOp, e5, f5]) hJ rfl
              case o3 =>
                intro A W hv hlen hJ hbase hdL hdH
                have e34 : A.eval (.tmp 34) = .slice (some ⟨ba, oa, none⟩) la.length ca := hdL 1 34 (by kernel_rfl) (by kernel_rfl) (by kernel_rfl)
                have f34 : A.tmps[34]?.getD undef = .slice (some ⟨ba, oa, none⟩) la.length ca := by simpa [Act.eval] using e34
                have e35 : A.eval (.tmp 35) = .int .i64 (k : Int) := hdL 2 35 (by kernel_rfl) (by kernel_rfl) (by kernel_rfl)
                have f35 : A.tmps[35]?.getD undef = .int .i64 (k : Int) := by simpa [Act.eval] using e35
                have hr := run_idxS (P := Try.prog) (w := W) (sz := 2) 26 51 Try.underlying26 en_size ba oa la.length ca .i64 k hlt
                exact light_val rfl (v := .pointer (some ⟨ba, oa + k * 2, none⟩)) (by simp [execOp, e34, e35, hr, Result.andThen]) hJ rfl
              case o4 =>
                intro A W hv hlen hJ hbase hdL hdH
                have e36 : A.eval (.tmp 36) = .pointer (some ⟨ba, oa + k * 2, none⟩) := hdL 3 36 (by kernel_rfl) (by kernel_rfl) (by kernel_rfl)
                have f36 : A.tmps[36]?.getD undef = .pointer (some ⟨ba, oa + k * 2, none⟩) := by simpa [Act.eval] using e36
                have hr := run_ldE W ba (oa + k * 2) x (by rw [show W = w0 from hJ]; exact hca)
                exact light_val rfl (v := enV x) (by simp [execOp, e36, hr, Result.andThen]) hJ rfl
              case o5 =>
                intro A W hv hlen hJ hbase hdL hdH
                have e3 : A.eval (.tmp 3) = .pointer (some ⟨g3, 0, none⟩) := hbase 3 (by kernel_rfl)
                have f3 : A.tmps[3]?.getD undef = .pointer (some ⟨g3, 0, none⟩) := by simpa [Act.eval] using e3
                exact light_val rfl (v := .pointer (some ⟨g3, 17, none⟩)) (by simp [execOp, go_sem, e3, f3]) hJ rfl
              case o6 =>
                intro A W hv hlen hJ hbase hdL hdH
                have e38 : A.eval (.tmp 38) = .pointer (some ⟨g3, 17, none⟩) := hdL 5 38 (by kernel_rfl) (by kernel_rfl) (by kernel_rfl)
                have f38 : A.tmps[38]?.getD undef = .pointer (some ⟨g3, 17, none⟩) := by simpa [Act.eval] using e38
                have hc : W.cell? ⟨g3, 17, none⟩ = some (.slice (some ⟨bb, ob, none⟩) la.length cb) := by rw [show W = w0 from hJ]; exact hq3
                exact light_val rfl (v := .slice (some ⟨bb, ob, none⟩) la.length cb) (by simp [execOp, go_sem, e38, f38, hc]) hJ rfl
              case o7 =>
                intro A W hv hlen hJ hbase hdL hdH
                have e5 : A.eval (.tmp 5) = .int .i64 (k : Int) := hbase 5 (by kernel_rfl)
                have f5 : A.tmps[5]?.getD undef = .int .i64 (k : Int) := by simpa [Act.eval] using e5
                exact light_val rfl (v := .int .i64 (k : Int)) (by simp [execOp, e5, f5]) hJ rfl
              case o8 =>
                intro A W hv hlen hJ hbase hdL hdH
                have e39 : A.eval (.tmp 39) = .slice (some ⟨bb, ob, none⟩) la.length cb := hdL 6 39 (by kernel_rfl) (by kernel_rfl) (by kernel_rfl)
                have f39 : A.tmps[39]?.getD undef = .slice (some ⟨bb, ob, none⟩) la.length cb := by simpa [Act.eval] using e39
                have e40 : A.eval (.tmp 40) = .int .i64 (k : Int) := hdL 7 40 (by kernel_rfl) (by kernel_rfl) (by kernel_rfl)
                have f40 : A.tmps[40]?.getD undef = .int .i64 (k : Int) := by simpa [Act.eval] using e40
                have hr := run_idxS (P := Try.prog) (w := W) (sz := 2) 26 51 Try.underlying26 en_size bb ob la.length cb .i64 k hlt
                exact light_val rfl (v := .pointer (some ⟨bb, ob + k * 2, none⟩)) (by simp [execOp, e39, e40, hr, Result.andThen]) hJ rfl
              case o9 =>
                intro A W hv hlen hJ hbase hdL hdH
                have e41 : A.eval (.tmp 41) = .pointer (some ⟨bb, ob + k * 2, none⟩) := hdL 8 41 (by kernel_rfl) (by kernel_rfl) (by kernel_rfl)
                have f41 : A.tmps[41]?.getD undef = .pointer (some ⟨bb, ob + k * 2, none⟩) := by simpa [Act.eval] using e41
                have hr := run_ldE W bb (ob + k * 2) y (by rw [show W = w0 from hJ]; exact hcb)
                exact light_val rfl (v := enV y) (by simp [execOp, e41, hr, Result.andThen]) hJ rfl
              case o10 =>
                intro A W hv hlen hJ hbase hdL hdH
                have e37 : A.eval (.tmp 37) = enV x := hdL 4 37 (by kernel_rfl) (by kernel_rfl) (by kernel_rfl)
                have f37 : A.tmps[37]?.getD undef = enV x := by simpa [Act.eval] using e37
                have e42 : A.eval (.tmp 42) = enV y := hdL 9 42 (by kernel_rfl) (by kernel_rfl) (by kernel_rfl)
                have f42 : A.tmps[42]?.getD undef = enV y := by simpa [Act.eval] using e42
                have hr := run_neE x y W
                rw [HB.out] at hr
                have hg : (eqGuard .neq 51 (.tmp 37) (.tmp 42) (enV x) (enV y)).run Try.prog W = .ok () W := run_eqGuard_agg W _ _ _ _ _ _ en_eqg
                exact light_val rfl (v := .bool B) (by simp [execOp, e37, e42, hr, hg, Result.andThen]) hJ rfl
              case oe =>
                intro vs W' hv hlen hJ hL' hH
                obtain rfl : W' = w0 := hJ
                have xl := hL' 10 (by decide) (by rfl)
                have xl : vs 10 = .bool B := xl
                simp only [layL, Nat.reduceAdd, Act.put, List.setIfInBounds_toArray, List.set_cons_zero, List.set_cons_succ]
                clear hL' hH
                generalize vs 0 = y100 at *
                generalize vs 1 = y101 at *
                generalize vs 2 = y102 at *
                generalize vs 3 = y103 at *
                generalize vs 4 = y104 at *
                generalize vs 5 = y105 at *
                generalize vs 6 = y106 at *
                generalize vs 7 = y107 at *
                generalize vs 8 = y108 at *
                generalize vs 9 = y109 at *
                rw [xl]
                clear xl
                cases B with
                | true =>
                  have hne : (la == lb) = false := by
                    refine Bool.eq_false_iff.2 fun h => ?_
                    have h' : la = lb := by simpa using h
                    subst h'
                    have := HB.out
                    rw [← Hx.out, ← Hy.out] at this
                    simp at this
                  go_wp2
                  go_ret
                  exact ⟨by rw [hne]; rfl, F2.thenN F0⟩
                | false =>
                  have hxy : x = y := by have := HB.out; simpa using this
                  go_wp2
                  go_roundw
                  case rel => exact ⟨k + 1, by omega, by go_num, take_eq_succ htk hlt hltb (by rw [Hx.out, Hy.out, hxy]), F0⟩
                  case measure => simp [intOf]; omega
            · obtain rfl : k = la.length := by omega
              have heq : (la == lb) = true := by
                have := htk.out
                rw [List.take_length, List.take_of_length_le (by rw [hne.out]; exact Nat.le_refl _)] at this
                rw [this]; exact beq_self_eq_true _
              go_wp2
              go_ret
              exact ⟨by rw [heq]; rfl, F2.thenN hf⟩
      · have hno : (la == lb) = false := by
          refine Bool.eq_false_iff.2 fun h => hne ?_
          have h' : la = lb := by simpa using h
          rw [h']
        rw [hno]
        obtain ⟨a0, c0, rfl, hc0⟩ := hs.1.opn
        obtain ⟨a1, c1, rfl, hc1⟩ := hs'.1.opn
        have hne' : ¬ (la.length : Int) = (lb.length : Int) := by omega
        go_enter Try.func22, Try.ntmps22
        go_wp2_with (first
          | (with_reducible refine at_wpP ?_; have q := b1; refine wpList_boxN rfl _ rfl _ b' (.slice a1 lb.length c1) rfl ?_; intro g3 w2 hg3 b2 f2 s2; have B1 := b1.fr0 f2; have q0 := NdB.kind B1; have q1 := NdB.kind b2; have q2 := NdB.ents B1 Hb.out; have q3 := NdB.ents b2 Hb'.out)
          | (with_reducible refine at_wpP ?_; refine wpList_boxN rfl _ rfl _ b (.slice a0 la.length c0) rfl ?_; intro g2 w1 hg2 b1 f1 s1)
          | (with_reducible refine at_wpP ?_; refine at_ld 25 _ rfl ?_; first | refine wpList_ldBlk rfl _ rfl g2 rfl _ b _ B1 Hb.out ?_ | refine wpList_ldBlk rfl _ rfl g3 rfl _ b' _ b2 Hb'.out ?_)
          | (with_reducible refine at_wpP ?_; refine wpList_neqA arr_block rfl _ _ _ rfl b b' rfl rfl Hb.out Hb'.out ?_; rw [HC.out]))
        go_ret
        exact ⟨rfl, f1.thenN f2⟩
  · obtain ⟨a0, c0, rfl, hc0⟩ := hs.1.opn
    obtain ⟨a1, c1, rfl, hc1⟩ := hs'.1.opn
    have hk' : (k1 == k2) = false := by simpa using hk
    rw [hk', Bool.false_and, Bool.false_and]
    go_enter Try.func22, Try.ntmps22
    go_wp2_with (first
      | (with_reducible refine at_wpP ?_; have q := b1; refine wpList_boxN rfl _ rfl _ b' (.slice a1 lb.length c1) rfl ?_; intro g3 w2 hg3 b2 f2 s2; have B1 := b1.fr0 f2; have q0 := NdB.kind B1; have q1 := NdB.kind b2; have q2 := NdB.ents B1 Hb.out; have q3 := NdB.ents b2 Hb'.out)
      | (with_reducible refine at_wpP ?_; refine wpList_boxN rfl _ rfl _ b (.slice a0 la.length c0) rfl ?_; intro g2 w1 hg2 b1 f1 s1))
    go_ret
    exact ⟨rfl, f1.thenN f2⟩
end Go.Proofs.Ytamfnjliikiifaa
/- streamOf of package root. (Written by v3_gen.py.) -/
namespace Go.Proofs.Ytamfnjliikiifaa
open Go.RowKit Go.Proofs.U
set_option linter.unusedSimpArgs false
set_option linter.unusedVariables false
/-- While bytes are copied into a variable. -/
def JB (w0 : World) (g : Nat) (t : TypeId) (l : List Int) : List Value → World → Prop
  | [], W => W = w0
  | [_], W => BxV W g t (pgv l) ∧ Fr (onB1 g) w0 W
  | _, _ => False

end Go.Proofs.Ytamfnjliikiifaa
/- pageOf of package root. (Written by v3_gen.py.) -/
namespace Go.Proofs.Ytamfnjliikiifaa
open Go.RowKit Go.Proofs.U
set_option linter.unusedSimpArgs false
set_option linter.unusedVariables false
theorem SlB_two (w : World) (t : TypeId) (v u : Value) (l m : List Int) (h : SlI .u8 w v l) (k : SlI .u8 w u m) (b : Nat) (hb : w.heap.size = b) : SlB (w.alloc (.cells #[v, u] t)) (.slice (some ⟨b, 0, none⟩) 2 2) [l, m] := by
  refine ⟨[v, u], by simpa using Sl_made w t #[v, u] 2 b rfl hb, fun j hj x hx => ?_⟩
  have hf : Fr noB w (w.alloc (.cells #[v, u] t)) := (Fr.refl _ _).alloc _
  have hj2 : j = 0 ∨ j = 1 := by simp at hj; omega
  rcases hj2 with rfl | rfl
  · simp at hx; subst hx; exact h.fr0 hf
  · simp at hx; subst hx; exact k.fr0 hf
theorem Sl1b (w : World) (t : TypeId) (k : IntKind) (n : Int) (h : (Lit.int k n).wf = true) (b : Nat) (hb : w.heap.size = b) : SlI k (w.alloc (.cells #[.int k n] t)) (.slice (some ⟨b, 0, none⟩) 1 1) [n] := by
  subst hb; exact Sl1 w t k n h
theorem st192_of (c : List Int) (hc : c.length ≤ 186) : putI (List.replicate 192 0) 0 ((strm c).take 192) = st192 c := by
  have hl := strm_len c
  rw [st192_eq c hc, List.take_of_length_le (by omega)]
  unfold putI
  rw [List.take_zero, List.nil_append, List.drop_replicate, Nat.zero_add, hl]
  congr 2; omega

end Go.Proofs.Ytamfnjliikiifaa
/- rootOf of package root. (Written by v5_gen.py.) -/
namespace Go.Proofs.Ytamfnjliikiifaa
open Go.RowKit Go.Proofs.U
set_option linter.unusedSimpArgs false
set_option linter.unusedVariables false
/-- While one call lays memory and answers V. -/
def JV (w0 : World) (V : Value) : List Value → World → Prop
  | [], W => W = w0
  | [v], W => v = V ∧ Fr noB w0 W
  | _, _ => False
theorem JV.fr {w0 : World} {V : Value} : ∀ {hv : List Value} {W : World}, JV w0 V hv W → Fr noB w0 W
  | [], _, h => by cases h; exact Fr.refl _ _
  | [_], _, h => h.2
  | _ :: _ :: _, _, h => h.elim
abbrev rtL (g : Int) (v : Value) : List Value := [.int .u64 g, v]
abbrev rtV (g : Int) (v : Value) : Value := .agg #[.int .u64 g, v]
theorem isSl_one {v : Value} (h : isSl v) : v.oneCell' = true := by obtain ⟨a, n, c, rfl⟩ := h; rfl
section
variable {w : World} {ops : Array Oper} {rest : List Oper} {o : Oper} {a : Act} {Q : Exit → Act → World → Prop}
end
theorem nm2 (p : List Int) : nmV (strmOf p) 0 false 2 = lenOf p ∧ nmT (strmOf p) 0 false 2 = 2 ∧ nmF (strmOf p) 0 false 2 = false := by
  have e : isW 2 = true := rfl
  have hl := strmOf_len p
  simp [nmV, nmT, nmF, e, tkL, tkT, tkF, tkOk, hl, lenOf]
theorem tk2 (p : List Int) (n : Nat) (hn : lenOf p = (n : Int)) (h : n ≤ 186) : tkL (strmOf p) 2 false (n : Int) = contOf p := by
  have hl := strmOf_len p
  simp [tkL, tkOk, hl, contOf, hn]
  intro hh; omega
/-- What rootOf answers. -/
def RootIs (w w' : World) (p : List Int) (e : Ending) : Prop := ∃ v, e = .returned (rtV (rootOf p).1 v) ∧ SlI .u8 w' v (rootOf p).2 ∧ (∀ q, v.ownBlock = some q → w.heap.size ≤ q ∧ q < w'.heap.size) ∧ Fr noB w w'

end Go.Proofs.Ytamfnjliikiifaa
/- Both slots' pages as one value; newestOf and topOf of package root. -/
namespace Go.Proofs.Ytamfnjliikiifaa
open Go.RowKit Go.Proofs.U
set_option linter.unusedSimpArgs false
set_option linter.unusedVariables false
def pp (p q : List Int) : List Value := pgv p ++ pgv q
/-- Both slots' pages. -/
def ppV (p q : List Int) : Value := .agg (pp p q).toArray
theorem pp_len (p q : List Int) (hp : p.length = 256) (hq : q.length = 256) : (pp p q).length = 512 := by simp only [pp, List.length_append, pgv_len, hp, hq]
theorem pp_one (p q : List Int) : ∀ v ∈ pp p q, v.oneCell' = true := by
  intro v hv
  rcases List.mem_append.1 hv with h | h
  · exact pgv_one p v h
  · exact pgv_one q v h
theorem under_pg : Try.prog.underlying 66 = some (.array 256 5) := by kernel_rfl
def pick2 (p q : List Int) (i : Nat) : List Int := if i = 0 then p else q
theorem pick2_len {p q : List Int} (hp : p.length = 256) (hq : q.length = 256) (i : Nat) : (pick2 p q i).length = 256 := by unfold pick2; split <;> assumption
theorem pick2_byt {p q : List Int} (hp : Byt p) (hq : Byt q) (i : Nat) : Byt (pick2 p q i) := by unfold pick2; split <;> assumption
theorem pp_cut (p q : List Int) (hp : p.length = 256) (hq : q.length = 256) (i : Nat) (hi : i < 2) : ((pp p q).drop (i * 256)).take 256 = pgv (pick2 p q i) := by
  have h1 := pgv_len p
  have h2 := pgv_len q
  have : i = 0 ∨ i = 1 := by omega
  rcases this with rfl | rfl
  · simp only [pp, pick2, Nat.zero_mul, List.drop_zero, if_true]
    rw [List.take_append_of_le_length (by omega), List.take_of_length_le (by omega)]
  · simp only [pp, pick2, Nat.one_mul, Nat.one_ne_zero, if_false]
    rw [List.drop_append_of_le_length (by omega), List.drop_of_length_le (by omega), List.nil_append, List.take_of_length_le (by omega)]
section
variable {w : World} {ops : Array Oper} {rest : List Oper} {o : Oper} {a : Act} {Q : Exit → Act → World → Prop}
end

/-- The root that counts of the first k pages. -/
def nwK (p q : List Int) (k : Nat) : Int × List Int :=
  if k = 0 then (0, []) else if k = 1 then (if (rootOf p).1 % 2 = 0 ∧ 0 < (rootOf p).1 then rootOf p else (0, [])) else newest p q
theorem nwK_succ (p q : List Int) (k : Nat) (hk : k < 2) : nwK p q (k + 1) = if (rootOf (pick2 p q k)).1 % 2 = (k : Int) ∧ (nwK p q k).1 < (rootOf (pick2 p q k)).1 then rootOf (pick2 p q k) else nwK p q k := by
  have : k = 0 ∨ k = 1 := by omega
  rcases this with rfl | rfl
  · simp [nwK, pick2]
  · simp [nwK, pick2, newest]
theorem nwK_bd {p q : List Int} (h : Byt p) (k : Byt q) (n : Nat) : 0 ≤ (nwK p q n).1 ∧ (nwK p q n).1 < 18446744073709551616 := by
  have h1 := rootOf_bd h
  have h3 : 0 ≤ (0 : Int) ∧ (0 : Int) < 18446744073709551616 := by decide
  unfold nwK
  split
  · exact h3
  · split
    · split
      · exact h1
      · exact h3
    · exact newest_bd h k

/-- The greatest generation of the first k pages. -/
def tpK (p q : List Int) (k : Nat) : Int := if k = 0 then 0 else if k = 1 then topK p 0 8 else top p q
theorem tpK_succ (p q : List Int) (k : Nat) (hk : k < 2) : tpK p q (k + 1) = topK (pick2 p q k) (tpK p q k) 8 := by
  have : k = 0 ∨ k = 1 := by omega
  rcases this with rfl | rfl
  · simp [tpK, pick2]
  · simp [tpK, pick2, top]
theorem tpK_bd {p q : List Int} (h : Byt p) (k : Byt q) (n : Nat) : 0 ≤ tpK p q n ∧ tpK p q n < 18446744073709551616 := by
  unfold tpK
  split
  · decide
  · split
    · exact topK_bd h _ (by decide) 8
    · exact top_bd h k

end Go.Proofs.Ytamfnjliikiifaa
/- slots of package root. -/
namespace Go.Proofs.Ytamfnjliikiifaa
open Go.RowKit Go.Proofs.U
set_option linter.unusedSimpArgs false
set_option linter.unusedVariables false
/-- All pages, and all that is pending, are bytes. -/
def DSt.byt (X : DSt) : Prop := (∀ p ∈ X.pages, Byt p) ∧ ∀ x ∈ X.pend, Byt x.2
theorem lastW_byt {l : List (Int × List Int)} (h : ∀ x ∈ l, Byt x.2) (i : Int) {p : List Int} (hp : Byt p) : Byt (lastW l i p) := by
  unfold lastW
  induction l generalizing p with
  | nil => exact hp
  | cons x l ih =>
    rw [List.foldl_cons]
    refine ih (fun y hy => h y (by simp [hy])) ?_
    split
    · exact h x (by simp)
    · exact hp
theorem readP_byt {X : DSt} (h : X.byt) (i : Int) : Byt (readP X i).1 := by
  unfold readP
  split
  · split
    · exact zeroP_byt
    · refine lastW_byt h.2 i ?_
      by_cases hj : i.toNat < X.pages.length
      · have : X.pages.getD i.toNat [] = X.pages[i.toNat] := by simp [List.getD, hj]
        rw [this]; exact h.1 _ (by simp)
      · have : X.pages.getD i.toNat [] = [] := by simp [List.getD, hj]
        rw [this]; intro n hn; simp at hn
  · exact zeroP_byt
theorem readP_err (X : DSt) (i : Int) : (readP X i).2 = 0 ∨ (readP X i).2 = 41 ∨ (readP X i).2 = 43 := by
  unfold readP
  split
  · split <;> simp
  · simp
section
variable {w : World} {ops : Array Oper} {rest : List Oper} {o : Oper} {a : Act} {Q : Exit → Act → World → Prop}
end
section
variable {w : World} {ops : Array Oper} {rest : List Oper} {o : Oper} {a : Act} {Q : Exit → Act → World → Prop}
end
def slA (X : DSt) : List Int := if rdE X = 0 then (readP X 0).1 else zeroP
def slB (X : DSt) : List Int := if rdE X = 0 then (readP X 1).1 else zeroP

end Go.Proofs.Ytamfnjliikiifaa
/- Read and Next of package root. -/
namespace Go.Proofs.Ytamfnjliikiifaa
open Go.RowKit Go.Proofs.U
set_option linter.unusedSimpArgs false
set_option linter.unusedVariables false

/-- What Read answers. -/
def ReadIs (w w' : World) (X : DSt) (e : Ending) : Prop := ∃ v, e = .returned (.tuple #[v, .int .u64 (rRead X).2.1, .int .i64 (rRead X).2.2]) ∧ SlI .u8 w' v (rRead X).1 ∧ (∀ q, v.ownBlock = some q → w.heap.size ≤ q ∧ q < w'.heap.size) ∧ Fr noB w w'

end Go.Proofs.Ytamfnjliikiifaa
/- Next of package root. -/
namespace Go.Proofs.Ytamfnjliikiifaa
open Go.RowKit Go.Proofs.U
set_option linter.unusedSimpArgs false
set_option linter.unusedVariables false

end Go.Proofs.Ytamfnjliikiifaa
/- Write of package root. -/
namespace Go.Proofs.Ytamfnjliikiifaa
open Go.RowKit Go.Proofs.U
set_option linter.unusedSimpArgs false
set_option linter.unusedVariables false
theorem nextG_bd {X : DSt} (hb : X.byt) (h : (rNext X).2 = 0) : 0 ≤ (rNext X).1 ∧ (rNext X).1 < 18446744073709551616 := by
  have ht := top_bd (readP_byt hb 0) (readP_byt hb 1)
  unfold rNext at h ⊢
  split
  · rename_i he
    rw [if_pos he] at h
    split
    · decide
    · rename_i h1
      have h2 : 0 ≤ tp X ∧ tp X < 18446744073709551616 := ht
      simp only [nextG]
      split <;> omega
  · exact ⟨Int.le_refl _, (by decide : (0 : Int) < 18446744073709551616)⟩

theorem write_pend (X : DSt) (i : Int) (p : List Int) {n : Nat} (h : X.pend.length + 1 ≤ n) : (X.write i p).pend.length ≤ n := by
  unfold DSt.write
  split
  · split
    · show (X.pend ++ [(i, p)]).length ≤ n
      rw [List.length_append]; exact h
    · show X.pend.length ≤ n
      omega
  · omega

end Go.Proofs.Ytamfnjliikiifaa
/- Roots, plain: what is written is read; what is torn is no root; the greatest generation. -/
namespace Go.Proofs.Ytamfnjliikiifaa
open Go.RowKit Go.Proofs.U
set_option linter.unusedSimpArgs false
set_option linter.unusedVariables false

theorem sec_root (g : Int) (c : List Int) (s : Nat) (hs : s < 8) : ((rootP g c).drop (s * 32)).take 8 = leB 8 g := by
  have h8 := leB_length 8 g
  apply ext_getD
  · rw [h8, List.length_take, List.length_drop, rootP_len]; omega
  · intro i hi
    have hi8 : i < 8 := by rw [List.length_take] at hi; omega
    rw [drop_take_get _ _ _ _ hi8, rootP_get _ _ _ (by omega), if_pos (by omega)]
    congr 1; omega
theorem genAt_root (g : Int) (hg : 0 ≤ g ∧ g < 18446744073709551616) (c : List Int) (s : Nat) (hs : s < 8) : genAt (rootP g c) s = g := by
  unfold genAt
  rw [sec_root g c s hs, leNum_leB 8 g hg.1 (by have : (256 : Int) ^ 8 = 18446744073709551616 := by decide
                                                omega)]
theorem strmOf_root (g : Int) (c : List Int) : strmOf (rootP g c) = st192 c := by
  apply ext_getD
  · rw [strmOf_len, st192_len]
  · intro i hi
    rw [strmOf_len] at hi
    rw [strmOf, getD_map _ _ _ hi, rootP_get _ _ _ (by omega), if_neg (by omega)]
    congr 1; omega
theorem strm_take2 (c : List Int) : (strm c).take 2 = leB 2 c.length := by
  unfold strm sealI
  rw [List.append_assoc, List.take_append_of_le_length (by rw [leB_length]; decide), List.take_of_length_le (by rw [leB_length]; decide)]
theorem lenOf_root (g : Int) (c : List Int) (hc : c.length ≤ 186) : lenOf (rootP g c) = c.length := by
  unfold lenOf
  rw [strmOf_root, st192_eq c hc, List.take_append_of_le_length (by rw [strm_len]; omega), strm_take2]
  refine leNum_leB 2 _ (by omega) ?_
  have : (256 : Int) ^ 2 = 65536 := by decide
  omega
theorem contOf_root (g : Int) (c : List Int) (hc : c.length ≤ 186) : contOf (rootP g c) = c := by
  unfold contOf
  rw [lenOf_root g c hc, strmOf_root, st192_eq c hc, Int.toNat_natCast]
  unfold strm sealI
  rw [List.append_assoc, List.append_assoc, List.drop_append_of_le_length (by rw [leB_length]; decide), List.drop_of_length_le (by rw [leB_length]; decide), List.nil_append, List.take_append_of_le_length (Nat.le_refl _), List.take_length]
theorem rootOf_root (g : Int) (hg : 0 ≤ g ∧ g < 18446744073709551616) (c : List Int) (hc : c.length ≤ 186) : rootOf (rootP g c) = (g, c) := by
  unfold rootOf
  rw [lenOf_root g c hc, contOf_root g c hc, genAt_root g hg c 0 (by decide), if_neg (by omega)]
  simp
/-- A page that is a root has its generation in all sectors. -/
theorem rootOf_some {p : List Int} (h : (rootOf p).1 ≠ 0) : p = rootP (rootOf p).1 (rootOf p).2 := by
  unfold rootOf at h ⊢
  split
  · rename_i h1; rw [if_pos h1] at h; simp at h
  · rename_i h1
    rw [if_neg h1] at h
    split
    · rename_i h2
      exact (by simpa using h2 : rootP (genAt p 0) (contOf p) = p).symm
    · rename_i h2; rw [if_neg h2] at h; simp at h
theorem rootOf_gen {p : List Int} (hb : Byt p) (h : (rootOf p).1 ≠ 0) (s : Nat) (hs : s < 8) : genAt p s = (rootOf p).1 := by
  have h1 := rootOf_some h
  have h2 := rootOf_bd hb
  conv => lhs; rw [h1]
  exact genAt_root _ h2 _ s hs
theorem rootOf_none {p : List Int} (h : (rootOf p).1 = 0) (hb : Byt p) (h0 : genAt p 0 ≠ 0) : rootOf p = (0, []) := by
  unfold rootOf at h ⊢
  split
  · rfl
  · rename_i h1
    rw [if_neg h1] at h
    split
    · rename_i h2; rw [if_pos h2] at h; exact absurd h h0
    · rfl
/-- Unlike generations: no root. -/
theorem rootOf_unlike {p : List Int} (hb : Byt p) {s t : Nat} (hs : s < 8) (ht : t < 8) (h : genAt p s ≠ genAt p t) : (rootOf p).1 = 0 := by
  apply Decidable.byContradiction
  intro h0
  exact h ((rootOf_gen hb h0 s hs).trans (rootOf_gen hb h0 t ht).symm)

theorem mixS_get (old new : List Int) (st : Nat → Bool) (i : Nat) (h : i < 256) : (mixS old new st 8).getD i 0 = if st (i / 32) = true then new.getD i 0 else old.getD i 0 := by
  unfold mixS
  rw [getD_map _ _ _ h]
  have : i / 32 < 8 := by omega
  simp [this]
theorem sec_mix (old new : List Int) (st : Nat → Bool) (ho : old.length = 256) (hn : new.length = 256) (s : Nat) (hs : s < 8) : ((mixS old new st 8).drop (s * 32)).take 8 = if st s then (new.drop (s * 32)).take 8 else (old.drop (s * 32)).take 8 := by
  apply ext_getD
  · split <;> simp only [List.length_take, List.length_drop, mixS_len, ho, hn]
  · intro i hi
    have hi8 : i < 8 := by rw [List.length_take] at hi; omega
    rw [drop_take_get _ _ _ _ hi8, mixS_get _ _ _ _ (by omega)]
    have : (s * 32 + i) / 32 = s := by omega
    rw [this]
    split <;> rw [drop_take_get _ _ _ _ hi8]
theorem genAt_mix (old new : List Int) (st : Nat → Bool) (ho : old.length = 256) (hn : new.length = 256) (s : Nat) (hs : s < 8) : genAt (mixS old new st 8) s = if st s then genAt new s else genAt old s := by
  unfold genAt
  rw [sec_mix old new st ho hn s hs]
  split <;> rfl
theorem mixS_byt {old new : List Int} (ho : Byt old) (hn : Byt new) (st : Nat → Bool) : Byt (mixS old new st 8) := by
  refine byt_map _ _ fun i _ => ?_
  split
  · exact hn.at i
  · exact ho.at i
theorem mixS_full (old new : List Int) (st : Nat → Bool) (h : new.length = 256) (hs : ∀ s, s < 8 → st s = true) : mixS old new st 8 = new := by
  apply ext_getD
  · rw [mixS_len, h]
  · intro i hi
    rw [mixS_len] at hi
    rw [mixS_get _ _ _ _ hi, hs _ (by omega)]; rfl
theorem mixS_old (old new : List Int) (st : Nat → Bool) (h : old.length = 256) (hs : ∀ s, s < 8 → st s = false) : mixS old new st 8 = old := by
  apply ext_getD
  · rw [mixS_len, h]
  · intro i hi
    rw [mixS_len] at hi
    rw [mixS_get _ _ _ _ hi, hs _ (by omega)]; rfl

theorem topK_le (p : List Int) (t : Int) (k : Nat) : t ≤ topK p t k ∧ ∀ s, s < k → genAt p s ≤ topK p t k := by
  induction k with
  | zero => exact ⟨Int.le_refl _, fun s h => by omega⟩
  | succ k ih =>
    rw [topK_succ]
    refine ⟨by omega, fun s hs => ?_⟩
    by_cases h : s = k
    · subst h; omega
    · have := ih.2 s (by omega); omega
theorem topK_up {p : List Int} {t B : Int} (k : Nat) (ht : t ≤ B) (h : ∀ s, s < k → genAt p s ≤ B) : topK p t k ≤ B := by
  induction k with
  | zero => exact ht
  | succ k ih =>
    rw [topK_succ]
    have h1 := ih (fun s hs => h s (by omega))
    have h2 := h k (by omega)
    omega
theorem top_p (p q : List Int) (s : Nat) (hs : s < 8) : genAt p s ≤ top p q := by
  have h1 := (topK_le p 0 8).2 s hs
  have h2 := (topK_le q (topK p 0 8) 8).1
  unfold top; omega
theorem top_q (p q : List Int) (s : Nat) (hs : s < 8) : genAt q s ≤ top p q := (topK_le q (topK p 0 8) 8).2 s hs
theorem top_up {p q : List Int} {B : Int} (h0 : 0 ≤ B) (hp : ∀ s, s < 8 → genAt p s ≤ B) (hq : ∀ s, s < 8 → genAt q s ≤ B) : top p q ≤ B := topK_up 8 (topK_up 8 h0 hp) hq
theorem top_nn (p q : List Int) : 0 ≤ top p q := by
  have h1 := (topK_le p 0 8).1
  have h2 := (topK_le q (topK p 0 8) 8).1
  unfold top; omega

/-- What newest tells. -/
theorem newest_cases (p q : List Int) :
    ((rootOf q).1 % 2 = 1 ∧ newest p q = rootOf q ∧ (0 ≤ (rootOf p).1 → 0 < (rootOf q).1)) ∨ ((rootOf p).1 % 2 = 0 ∧ 0 < (rootOf p).1 ∧ newest p q = rootOf p) ∨ newest p q = (0, []) := by
  unfold newest
  generalize rootOf p = a
  generalize rootOf q = b
  by_cases c1 : a.1 % 2 = 0 ∧ 0 < a.1
  · by_cases c2 : b.1 % 2 = 1 ∧ a.1 < b.1
    · simp only [c1, c2, and_self, if_true, true_and]
      exact Or.inl (fun h => by omega)
    · simp only [c1, and_self, if_true, if_neg c2, true_and]
      exact Or.inr (Or.inl trivial)
  · by_cases c2 : b.1 % 2 = 1 ∧ (0 : Int) < b.1
    · simp only [if_neg c1, c2, and_self, if_true, true_and]
      exact Or.inl (fun _ => trivial)
    · simp only [if_neg c1, if_neg c2]
      exact Or.inr (Or.inr trivial)
theorem newest_zero {p q : List Int} (h : (newest p q).1 = 0) (hb : Byt p) (hc : Byt q) : newest p q = (0, []) := by
  have h1 := rootOf_bd hb
  rcases newest_cases p q with ⟨_, h2, h3⟩ | ⟨_, h2, h3⟩ | h2
  · rw [h2] at h
    have := h3 h1.1
    omega
  · rw [h3] at h; omega
  · exact h2
theorem newest_even {p q : List Int} (h : (newest p q).1 ≠ 0) (he : (newest p q).1 % 2 = 0) : newest p q = rootOf p := by
  rcases newest_cases p q with ⟨h1, h2, _⟩ | ⟨_, _, h3⟩ | h2
  · rw [h2] at he; omega
  · exact h3
  · rw [h2] at h; exact absurd rfl h
theorem newest_odd {p q : List Int} (h : (newest p q).1 ≠ 0) (he : (newest p q).1 % 2 = 1) : newest p q = rootOf q := by
  rcases newest_cases p q with ⟨_, h2, _⟩ | ⟨h1, _, h3⟩ | h2
  · exact h2
  · rw [h3] at he; omega
  · rw [h2] at h; exact absurd rfl h
theorem newest_top {p q : List Int} (hb : Byt p) (hc : Byt q) : (newest p q).1 ≤ top p q := by
  by_cases h : (newest p q).1 = 0
  · rw [h]; exact top_nn p q
  · have : (newest p q).1 % 2 = 0 ∨ (newest p q).1 % 2 = 1 := by omega
    rcases this with h2 | h2
    · have h3 := newest_even h h2
      rw [h3] at h ⊢
      rw [← rootOf_gen hb h 0 (by decide)]
      exact top_p p q 0 (by decide)
    · have h3 := newest_odd h h2
      rw [h3] at h ⊢
      rw [← rootOf_gen hc h 0 (by decide)]
      exact top_q p q 0 (by decide)
end Go.Proofs.Ytamfnjliikiifaa
