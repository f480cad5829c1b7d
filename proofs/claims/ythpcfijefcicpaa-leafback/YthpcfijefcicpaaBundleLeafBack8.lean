/- Texts X2, X3, X11 of the proof of LeafBack, one behind the other. -/
import Derived.Test.YthpcfijefcicpaaBundleLeafBack1
import Derived.Test.YthpcfijefcicpaaBundleLeafBack2
import Derived.Test.YthpcfijefcicpaaBundleLeafBack3
import Derived.Test.YthpcfijefcicpaaBundleLeafBack4
import Derived.Test.YthpcfijefcicpaaBundleLeafBack5
import Derived.Test.YthpcfijefcicpaaBundleLeafBack6
import Derived.Test.YthpcfijefcicpaaBundleLeafBack7
/- Which nodes can be: rightEntries, Right; slices.Equal of entries; Same: the program's and the document's. (Written by x2_gen.py.) -/
namespace Go.Proofs.Ythpcfijefcicpaa
open Go.RowKit Go.Proofs.U
set_option linter.unusedSimpArgs false
set_option linter.unusedVariables false
def entsR (l : List (Int × Int)) : Bool := decide (1 ≤ l.length) && decide (l.length ≤ 6) && rises (-1) l
theorem rises_p (m : Int) (x : Int × Int) (r : List (Int × Int)) : rises (m - 1) (x :: r) = (!decide (x.1 < m) && !decide (64 ≤ x.1) && !decide (x.2 < 0) && !decide (240 ≤ x.2) && rises x.1 r) := by
  obtain ⟨a, p⟩ := x
  have e1 : decide (m - 1 < a) = !decide (a < m) := by rw [← decide_not]; exact decide_eq_decide.2 (by omega)
  have e2 : decide (a ≤ 63) = !decide (64 ≤ a) := by rw [← decide_not]; exact decide_eq_decide.2 (by omega)
  have e3 : decide (0 ≤ p) = !decide (p < 0) := by rw [← decide_not]; exact decide_eq_decide.2 (by omega)
  have e4 : decide (p ≤ 239) = !decide (240 ≤ p) := by rw [← decide_not]; exact decide_eq_decide.2 (by omega)
  show (decide (m - 1 < a) && decide (a ≤ 63) && decide (0 ≤ p) && decide (p ≤ 239) && rises a r) = _
  rw [e1, e2, e3, e4]
theorem rises_r (m : Int) (x : Int × Int) (r : List (Int × Int)) : rises m (x :: r) = (!decide (x.1 ≤ m) && !decide (63 < x.1) && !decide (x.2 < 0) && !decide (239 < x.2) && rises x.1 r) := by
  obtain ⟨a, p⟩ := x
  have e1 : decide (m < a) = !decide (a ≤ m) := by rw [← decide_not]; exact decide_eq_decide.2 (by omega)
  have e2 : decide (a ≤ 63) = !decide (63 < a) := by rw [← decide_not]; exact decide_eq_decide.2 (by omega)
  have e3 : decide (0 ≤ p) = !decide (p < 0) := by rw [← decide_not]; exact decide_eq_decide.2 (by omega)
  have e4 : decide (p ≤ 239) = !decide (239 < p) := by rw [← decide_not]; exact decide_eq_decide.2 (by omega)
  show (decide (m < a) && decide (a ≤ 63) && decide (0 ≤ p) && decide (p ≤ 239) && rises a r) = _
  rw [e1, e2, e3, e4]
theorem right_tree_eq (k : Int) (b : List Int) (es : List (Int × Int)) (hk : ¬ k = 1) : (Nd.mk k b es).right = ((k == 2 || k == 3) && (b == zerB 16) && entsR es) := by
  unfold Nd.right entsR
  simp only
  rw [if_neg hk]
  simp only [Bool.and_assoc]
theorem take_eq_succ {la lb : List (Int × Int)} {k : Nat} (h : la.take k = lb.take k) (ha : k < la.length) (hb : k < lb.length) (hx : la[k] = lb[k]) : la.take (k + 1) = lb.take (k + 1) := by
  rw [List.take_succ_eq_append_getElem ha, List.take_succ_eq_append_getElem hb, h, hx]

set_option maxRecDepth 100000 in
set_option maxHeartbeats 2000000 in
theorem rightE_any (v : Value) (l : List (Int × Int)) (w : World) (hs : SlP .i64 .i64 w v l) (hm : l.length ≤ 1000) :
    Calls Try.prog 20 #[v] w fun r w' => r = .returned (.bool (entsR l)) ∧ Fr noB w w' := by
  obtain ⟨a0, c0, rfl, hc0⟩ := hs.1.opn
  obtain ⟨R, hR0⟩ : ∃ R, Hid (rises (-1) l = R) := ⟨_, rfl⟩
  by_cases hl : l.length = 0
  · have hno : entsR l = false := by unfold entsR; simp [hl]
    rw [hno, hl]
    go_enter Try.func20, Try.ntmps20
    go_wp2
    go_ret
    exact ⟨rfl, Fr.refl _ _⟩
  have hl0 : ((l.length : Int) == 0) = false := by simp; exact fun h => hl (by rw [h]; rfl)
  by_cases h6 : 6 < l.length
  · have hno : entsR l = false := by unfold entsR; simp; intro _ h; omega
    have h6' : (6 : Int) < (l.length : Int) := by omega
    rw [hno]
    go_enter Try.func20, Try.ntmps20
    go_wp2
    go_ret
    exact ⟨rfl, Fr.refl _ _⟩
  have h6' : ¬ (6 : Int) < (l.length : Int) := by omega
  have hyes0 : entsR l = R := by unfold entsR; rw [hR0.out]; simp; intro _; omega
  rw [hyes0]
  clear hyes0
  go_enter Try.func20, Try.ntmps20
  go_wp2
  go_loopw [3, 16] (fun u i wr => ∃ (k : Nat) (m : Int), k ≤ l.length ∧ i = .int .i64 (k : Int) ∧ u = .int .i64 m ∧ 0 ≤ m ∧ m ≤ 64 ∧ Hid (rises (m - 1) (l.drop k) = R) ∧ Fr noB w wr) (fun _ i _ => l.length - (intOf i).toNat)
  case atStart => exact ⟨0, 0, by omega, rfl, rfl, by omega, by omega, by rw [List.drop_zero]; exact hR0, Fr.refl _ _⟩
  case round =>
    obtain ⟨k, m, hk, rfl, rfl, hm0, hm1, hR, hf⟩ := hrel
    have zf := hf.size
    by_cases hlt : k < l.length
    · have hlt' : (k : Int) < (l.length : Int) := by omega
      have hcons : Hid (rises (m - 1) (l.drop k) = (!decide (l[k].1 < m) && !decide (64 ≤ l[k].1) && !decide (l[k].2 < 0) && !decide (240 ≤ l[k].2) && rises l[k].1 (l.drop (k + 1)))) := by show _ = _; rw [List.drop_eq_getElem_cons hlt, rises_p]
      obtain ⟨x, Hx⟩ : ∃ x, Hid (l[k] = x) := ⟨l[k], (rfl : l[k] = l[k])⟩
      rw [Hx.out] at hcons
      by_cases h1 : x.1 < m
      · have hno : R = false := by rw [← hR.out, hcons.out]; simp [h1]
        subst hno
        go_wp2_with (first
          | (refine at_idx 29 _ _ rfl ?_; go_must (refine wpList_idxR rfl 29 _ _ rfl 43 Try.underlying29 2 en_size _ _ _ rfl (hs.1.fr0 hf) (by decide) _ _ k rfl rfl hlt ?_; rw [Hx.out]; intro ba oa hba hca))
          | (with_reducible refine at_wpP ?_; refine at_ld 43 _ rfl ?_; have q := hca; refine wpList_ldE rfl _ rfl ba oa rfl x hca ?_)
          | (with_reducible refine at_wpP ?_; refine wpList_allocE rfl rfl ?_; intro gl w1 hgl b1 f1 sl; have l1 := b1.lt; have F1 := hf.thenN f1; have z1 := f1.size)
          | (with_reducible refine at_wpP ?_; refine at_st 43 _ _ rfl ?_; go_must (refine wpList_stE rfl _ _ rfl gl rfl (0, 0) x b1 rfl ?_; intro w2 B2 f2; have F2 := Fr.ownX F1 (by omega) f2; have z2 := f2.size; obtain ⟨c0, c1⟩ := B2.all)))
        go_ret
        exact ⟨rfl, F2⟩
      · skip
        by_cases h2 : 64 ≤ x.1
        · have hno : R = false := by rw [← hR.out, hcons.out]; simp [h2]
          subst hno
          go_wp2_with (first
            | (refine at_idx 29 _ _ rfl ?_; go_must (refine wpList_idxR rfl 29 _ _ rfl 43 Try.underlying29 2 en_size _ _ _ rfl (hs.1.fr0 hf) (by decide) _ _ k rfl rfl hlt ?_; rw [Hx.out]; intro ba oa hba hca))
            | (with_reducible refine at_wpP ?_; refine at_ld 43 _ rfl ?_; have q := hca; refine wpList_ldE rfl _ rfl ba oa rfl x hca ?_)
            | (with_reducible refine at_wpP ?_; refine wpList_allocE rfl rfl ?_; intro gl w1 hgl b1 f1 sl; have l1 := b1.lt; have F1 := hf.thenN f1; have z1 := f1.size)
            | (with_reducible refine at_wpP ?_; refine at_st 43 _ _ rfl ?_; go_must (refine wpList_stE rfl _ _ rfl gl rfl (0, 0) x b1 rfl ?_; intro w2 B2 f2; have F2 := Fr.ownX F1 (by omega) f2; have z2 := f2.size; obtain ⟨c0, c1⟩ := B2.all)))
          go_ret
          exact ⟨rfl, F2⟩
        · skip
          by_cases h3 : x.2 < 0
          · have hno : R = false := by rw [← hR.out, hcons.out]; simp [h3]
            subst hno
            go_wp2_with (first
              | (refine at_idx 29 _ _ rfl ?_; go_must (refine wpList_idxR rfl 29 _ _ rfl 43 Try.underlying29 2 en_size _ _ _ rfl (hs.1.fr0 hf) (by decide) _ _ k rfl rfl hlt ?_; rw [Hx.out]; intro ba oa hba hca))
              | (with_reducible refine at_wpP ?_; refine at_ld 43 _ rfl ?_; have q := hca; refine wpList_ldE rfl _ rfl ba oa rfl x hca ?_)
              | (with_reducible refine at_wpP ?_; refine wpList_allocE rfl rfl ?_; intro gl w1 hgl b1 f1 sl; have l1 := b1.lt; have F1 := hf.thenN f1; have z1 := f1.size)
              | (with_reducible refine at_wpP ?_; refine at_st 43 _ _ rfl ?_; go_must (refine wpList_stE rfl _ _ rfl gl rfl (0, 0) x b1 rfl ?_; intro w2 B2 f2; have F2 := Fr.ownX F1 (by omega) f2; have z2 := f2.size; obtain ⟨c0, c1⟩ := B2.all)))
            go_ret
            exact ⟨rfl, F2⟩
          · skip
            by_cases h4 : 240 ≤ x.2
            · have hno : R = false := by rw [← hR.out, hcons.out]; simp [h4]
              subst hno
              go_wp2_with (first
                | (refine at_idx 29 _ _ rfl ?_; go_must (refine wpList_idxR rfl 29 _ _ rfl 43 Try.underlying29 2 en_size _ _ _ rfl (hs.1.fr0 hf) (by decide) _ _ k rfl rfl hlt ?_; rw [Hx.out]; intro ba oa hba hca))
                | (with_reducible refine at_wpP ?_; refine at_ld 43 _ rfl ?_; have q := hca; refine wpList_ldE rfl _ rfl ba oa rfl x hca ?_)
                | (with_reducible refine at_wpP ?_; refine wpList_allocE rfl rfl ?_; intro gl w1 hgl b1 f1 sl; have l1 := b1.lt; have F1 := hf.thenN f1; have z1 := f1.size)
                | (with_reducible refine at_wpP ?_; refine at_st 43 _ _ rfl ?_; go_must (refine wpList_stE rfl _ _ rfl gl rfl (0, 0) x b1 rfl ?_; intro w2 B2 f2; have F2 := Fr.ownX F1 (by omega) f2; have z2 := f2.size; obtain ⟨c0, c1⟩ := B2.all)))
              go_ret
              exact ⟨rfl, F2⟩
            · skip
              have hyes : Hid (rises x.1 (l.drop (k + 1)) = R) := by show _ = _; rw [← hR.out, hcons.out]; simp [h1, h2, h3, h4]
              go_wp2_with (first
                | (refine at_idx 29 _ _ rfl ?_; go_must (refine wpList_idxR rfl 29 _ _ rfl 43 Try.underlying29 2 en_size _ _ _ rfl (hs.1.fr0 hf) (by decide) _ _ k rfl rfl hlt ?_; rw [Hx.out]; intro ba oa hba hca))
                | (with_reducible refine at_wpP ?_; refine at_ld 43 _ rfl ?_; have q := hca; refine wpList_ldE rfl _ rfl ba oa rfl x hca ?_)
                | (with_reducible refine at_wpP ?_; refine wpList_allocE rfl rfl ?_; intro gl w1 hgl b1 f1 sl; have l1 := b1.lt; have F1 := hf.thenN f1; have z1 := f1.size)
                | (with_reducible refine at_wpP ?_; refine at_st 43 _ _ rfl ?_; go_must (refine wpList_stE rfl _ _ rfl gl rfl (0, 0) x b1 rfl ?_; intro w2 B2 f2; have F2 := Fr.ownX F1 (by omega) f2; have z2 := f2.size; obtain ⟨c0, c1⟩ := B2.all)))
              go_roundw
              case rel => exact ⟨k + 1, x.1 + 1, by omega, by go_num, by go_num, by omega, by omega, by rw [show x.1 + 1 - 1 = x.1 by omega]; exact hyes, F2⟩
              case measure => simp [intOf]; omega
    · obtain rfl : k = l.length := by omega
      have hR' : R = true := by rw [← hR.out, List.drop_length]; rfl
      subst hR'
      go_wp2
      go_ret
      exact ⟨rfl, hf⟩

set_option maxRecDepth 100000 in
set_option maxHeartbeats 2000000 in
theorem right_any (n : Nd) (v : Value) (w : World) (h : NdS w v n) :
    Calls Try.prog 13 #[ndV n.k n.b v] w fun r w' => r = .returned (.bool n.right) ∧ Fr noB w w' := by
  obtain ⟨k, b, es⟩ := n
  obtain ⟨hs, ⟨hb, hy⟩, hm, hwf⟩ := h
  have hS := hs
  obtain ⟨a0, c0, rfl, hc0⟩ := hs.1.opn
  have Hb := show Hid _ from hb
  clear hb
  simp only at hS hs hc0 hwf Hb hy hm ⊢
  by_cases hk : k = 1
  · subst hk
    obtain ⟨R, HR⟩ : ∃ R, Hid (((es.length : Int) == 0) = R) := ⟨_, rfl⟩
    have hr : (Nd.mk 1 b es).right = R := by rw [← HR.out]; unfold Nd.right; simp; cases es <;> simp; omega
    rw [hr]
    clear hr
    go_enter Try.func13, Try.ntmps13
    go_wp2_with (first
      | (with_reducible refine at_wpP ?_; refine wpList_boxN rfl _ rfl 1 b (.slice a0 es.length c0) rfl ?_; intro g1 w1 hg1 b1 f1 s1; have q0 := b1.kind; have q2 := b1.ents Hb.out))
    go_ret
    exact ⟨by rw [HR.out]; rfl, f1⟩
  · rw [right_tree_eq k b es hk]
    have hk1 : (k == 1) = false := by simpa using hk
    by_cases hk23 : k = 2 ∨ k = 3
    · have hkk : (k == 2 || k == 3) = true := by simpa using hk23
      rw [hkk, Bool.true_and]
      obtain ⟨B, HB⟩ : ∃ B, Hid ((b == zerB 16) = B) := ⟨_, rfl⟩
      rw [HB.out]
      cases B with
      | false =>
        rcases hk23 with rfl | rfl
        all_goals
          go_enter Try.func13, Try.ntmps13
          go_wp2_with (first
            | (with_reducible refine at_wpP ?_; refine wpList_boxN rfl _ rfl _ b (.slice a0 es.length c0) rfl ?_; intro g1 w1 hg1 b1 f1 s1; have q0 := b1.kind; have q2 := b1.ents Hb.out)
            | (with_reducible refine at_wpP ?_; refine at_ld 28 _ rfl ?_; go_must (refine wpList_ldBlk rfl _ rfl g1 rfl _ b _ b1 Hb.out ?_))
            | (with_reducible refine at_wpP ?_; refine wpList_buildA arr_block rfl rfl ?_)
            | (with_reducible refine at_wpP ?_; refine wpList_eqlA arr_block rfl _ _ _ rfl b (zerB 16) rfl rfl Hb.out (zerB_len 16) ?_; rw [HB.out]))
          go_ret
          exact ⟨rfl, f1⟩
      | true =>
        rw [Bool.true_and]
        rcases hk23 with rfl | rfl
        all_goals
          go_enter Try.func13, Try.ntmps13
          go_wp2_with (first
            | (with_reducible refine at_wpP ?_; refine wpList_boxN rfl _ rfl _ b (.slice a0 es.length c0) rfl ?_; intro g1 w1 hg1 b1 f1 s1; have q0 := b1.kind; have q2 := b1.ents Hb.out)
            | (with_reducible refine at_wpP ?_; refine at_ld 28 _ rfl ?_; go_must (refine wpList_ldBlk rfl _ rfl g1 rfl _ b _ b1 Hb.out ?_))
            | (with_reducible refine at_wpP ?_; refine wpList_buildA arr_block rfl rfl ?_)
            | (with_reducible refine at_wpP ?_; refine wpList_eqlA arr_block rfl _ _ _ rfl b (zerB 16) rfl rfl Hb.out (zerB_len 16) ?_; rw [HB.out])
            | (go_at_call 20; go_must (refine (rightE_any _ es _ ⟨hS.1.fr0 f1, hS.2⟩ hm).mono ?_; rintro e w2 ⟨rfl, f2⟩)))
          go_ret
          exact ⟨rfl, f1.thenN f2⟩
    · have hkk : (k == 2 || k == 3) = false := by simp; exact ⟨fun h => hk23 (Or.inl h), fun h => hk23 (Or.inr h)⟩
      rw [hkk, Bool.false_and, Bool.false_and]
      have hk2 : (k == 2) = false := by simp at hkk; simpa using hkk.1
      have hk3 : (k == 3) = false := by simp at hkk; simpa using hkk.2
      clear hkk
      go_enter Try.func13, Try.ntmps13
      go_wp2_with (first
        | (with_reducible refine at_wpP ?_; refine wpList_boxN rfl _ rfl _ b (.slice a0 es.length c0) rfl ?_; intro g1 w1 hg1 b1 f1 s1; have q0 := b1.kind; have q2 := b1.ents Hb.out))
      go_ret
      exact ⟨rfl, f1⟩

set_option maxRecDepth 100000 in
set_option maxHeartbeats 2000000 in
theorem eqE_any (va vb : Value) (la lb : List (Int × Int)) (w : World) (ha : SlP .i64 .i64 w va la) (hb : SlP .i64 .i64 w vb lb) (hm : la.length ≤ 1000) :
    Calls Try.prog 19 #[va, vb] w fun r w' => r = .returned (.bool (la == lb)) ∧ Fr noB w w' := by
  have hm := show Hid _ from hm
  by_cases hne : la.length = lb.length
  · by_cases h0 : la.length = 0
    · have e1 : la = [] := List.eq_nil_of_length_eq_zero h0
      have e2 : lb = [] := List.eq_nil_of_length_eq_zero (by omega)
      subst e1; subst e2
      obtain ⟨a0, c0, rfl, hc0⟩ := ha.1.opn
      obtain ⟨a1, c1, rfl, hc1⟩ := hb.1.opn
      go_enter Try.func19, Try.ntmps19
      go_wp2
      go_loop [13] (fun i => i = .int .i64 0) (fun _ => 0)
      case atStart => rfl
      case round =>
        subst hrel
        go_wp2
        go_ret
        exact ⟨rfl, Fr.refl _ _⟩
    · obtain ⟨ba, oa, ca, rfl, hca⟩ := SlR.addr ha.1 (by decide) (by omega)
      obtain ⟨bb, ob, cb, rfl, hcb⟩ := SlR.addr hb.1 (by decide) (by omega)
      rw [← hne]
      have hne := show Hid _ from hne
      go_enter Try.func19, Try.ntmps19
      go_wp2
      go_loopw [13] (fun i wr => ∃ (k : Nat), k ≤ la.length ∧ i = .int .i64 (k : Int) ∧ la.take k = lb.take k ∧ Fr noB w wr) (fun i _ => la.length - (intOf i).toNat)
      case atStart => exact ⟨0, by omega, rfl, rfl, Fr.refl _ _⟩
      case round =>
        obtain ⟨k, hk, rfl, htk, hf⟩ := hrel
        have htk := show Hid _ from htk
        by_cases hlt : k < la.length
        · have hltb : k < lb.length := by rw [← hne.out]; exact hlt
          have hlt' : (k : Int) < (la.length : Int) := by omega
          have hca := hca k hlt
          have hcb := hcb k hltb
          obtain ⟨x, Hx⟩ : ∃ x, Hid (la[k] = x) := ⟨la[k], (rfl : la[k] = la[k])⟩
          obtain ⟨y, Hy⟩ : ∃ y, Hid (lb[k] = y) := ⟨lb[k], (rfl : lb[k] = lb[k])⟩
          rw [Hx.out] at hca
          rw [Hy.out] at hcb
          obtain ⟨B, HB⟩ : ∃ B, Hid ((!(x == y)) = B) := ⟨_, rfl⟩
          go_wp2
          obtain ⟨w0, HW⟩ : ∃ w0, Hid (wr.drew = w0) := ⟨_, rfl⟩
          have f0 : Fr noB wr w0 := by rw [← HW.out]; exact (Fr.refl _ _).drew
          have F0 := hf.thenN f0
          have hca : ∀ q u, (enC x)[q]? = some u → w0.cell? ⟨ba, oa + k * 2 + q, none⟩ = some u := fun q u hq => F0.cell (hca q u hq) (fun h => h)
          have hcb : ∀ q u, (enC y)[q]? = some u → w0.cell? ⟨bb, ob + k * 2 + q, none⟩ = some u := fun q u hq => F0.cell (hcb q u hq) (fun h => h)
          refine wp_region_chain_lay (by kernel_rfl) [] [none, none, none, none, none, none, none, none, none]
            [fun v => v = .slice (some ⟨ba, oa, none⟩) la.length ca, fun v => v = .int .i64 (k : Int), fun v => v = .pointer (some ⟨ba, oa + k * 2, none⟩), fun v => v = enV x, fun v => v = .slice (some ⟨bb, ob, none⟩) la.length cb, fun v => v = .int .i64 (k : Int), fun v => v = .pointer (some ⟨bb, ob + k * 2, none⟩), fun v => v = enV y, fun v => v = .bool B]
            (JQX w0) (HW.out) (by kernel_rfl) (by kernel_rfl) (by decide) ⟨?o0, ?o1, ?o2, ?o3, ?o4, ?o5, ?o6, ?o7, ?o8, trivial⟩ ?oe
          case o0 =>
            intro A W hv hlen hJ hbase hdL hdH
            have e0 : A.eval (.tmp 0) = .slice (some ⟨ba, oa, none⟩) la.length ca := hbase 0 (by kernel_rfl)
            have f0 : A.tmps[0]?.getD undef = .slice (some ⟨ba, oa, none⟩) la.length ca := by simpa [Act.eval] using e0
            exact light_val rfl (v := .slice (some ⟨ba, oa, none⟩) la.length ca) (by simp [execOp, e0, f0]) hJ rfl
          case o1 =>
            intro A W hv hlen hJ hbase hdL hdH
            have e5 : A.eval (.tmp 5) = .int .i64 (k : Int) := hbase 5 (by kernel_rfl)
            have f5 : A.tmps[5]?.getD undef = .int .i64 (k : Int) := by simpa [Act.eval] using e5
            exact light_val rfl (v := .int .i64 (k : Int)) (by simp [execOp, e5, f5]) hJ rfl
          case o2 =>
            intro A W hv hlen hJ hbase hdL hdH
            have e16 : A.eval (.tmp 16) = .slice (some ⟨ba, oa, none⟩) la.length ca := hdL 0 16 (by kernel_rfl) (by kernel_rfl) (by kernel_rfl)
            have f16 : A.tmps[16]?.getD undef = .slice (some ⟨ba, oa, none⟩) la.length ca := by simpa [Act.eval] using e16
            have e17 : A.eval (.tmp 17) = .int .i64 (k : Int) := hdL 1 17 (by kernel_rfl) (by kernel_rfl) (by kernel_rfl)
            have f17 : A.tmps[17]?.getD undef = .int .i64 (k : Int) := by simpa [Act.eval] using e17
            have hr := run_idxS (P := Try.prog) (w := W) (sz := 2) 29 43 Try.underlying29 en_size ba oa la.length ca .i64 k hlt
            exact light_val rfl (v := .pointer (some ⟨ba, oa + k * 2, none⟩)) (by simp [execOp, e16, e17, hr, Result.andThen]) hJ rfl
          case o3 =>
            intro A W hv hlen hJ hbase hdL hdH
            have e18 : A.eval (.tmp 18) = .pointer (some ⟨ba, oa + k * 2, none⟩) := hdL 2 18 (by kernel_rfl) (by kernel_rfl) (by kernel_rfl)
            have f18 : A.tmps[18]?.getD undef = .pointer (some ⟨ba, oa + k * 2, none⟩) := by simpa [Act.eval] using e18
            have hr := run_ldE W ba (oa + k * 2) x (by rw [show W = w0 from hJ]; exact hca)
            exact light_val rfl (v := enV x) (by simp [execOp, e18, hr, Result.andThen]) hJ rfl
          case o4 =>
            intro A W hv hlen hJ hbase hdL hdH
            have e1 : A.eval (.tmp 1) = .slice (some ⟨bb, ob, none⟩) la.length cb := hbase 1 (by kernel_rfl)
            have f1 : A.tmps[1]?.getD undef = .slice (some ⟨bb, ob, none⟩) la.length cb := by simpa [Act.eval] using e1
            exact light_val rfl (v := .slice (some ⟨bb, ob, none⟩) la.length cb) (by simp [execOp, e1, f1]) hJ rfl
          case o5 =>
            intro A W hv hlen hJ hbase hdL hdH
            have e5 : A.eval (.tmp 5) = .int .i64 (k : Int) := hbase 5 (by kernel_rfl)
            have f5 : A.tmps[5]?.getD undef = .int .i64 (k : Int) := by simpa [Act.eval] using e5
            exact light_val rfl (v := .int .i64 (k : Int)) (by simp [execOp, e5, f5]) hJ rfl
          case o6 =>
            intro A W hv hlen hJ hbase hdL hdH
            have e20 : A.eval (.tmp 20) = .slice (some ⟨bb, ob, none⟩) la.length cb := hdL 4 20 (by kernel_rfl) (by kernel_rfl) (by kernel_rfl)
            have f20 : A.tmps[20]?.getD undef = .slice (some ⟨bb, ob, none⟩) la.length cb := by simpa [Act.eval] using e20
            have e21 : A.eval (.tmp 21) = .int .i64 (k : Int) := hdL 5 21 (by kernel_rfl) (by kernel_rfl) (by kernel_rfl)
            have f21 : A.tmps[21]?.getD undef = .int .i64 (k : Int) := by simpa [Act.eval] using e21
            have hr := run_idxS (P := Try.prog) (w := W) (sz := 2) 29 43 Try.underlying29 en_size bb ob la.length cb .i64 k hlt
            exact light_val rfl (v := .pointer (some ⟨bb, ob + k * 2, none⟩)) (by simp [execOp, e20, e21, hr, Result.andThen]) hJ rfl
          case o7 =>
            intro A W hv hlen hJ hbase hdL hdH
            have e22 : A.eval (.tmp 22) = .pointer (some ⟨bb, ob + k * 2, none⟩) := hdL 6 22 (by kernel_rfl) (by kernel_rfl) (by kernel_rfl)
            have f22 : A.tmps[22]?.getD undef = .pointer (some ⟨bb, ob + k * 2, none⟩) := by simpa [Act.eval] using e22
            have hr := run_ldE W bb (ob + k * 2) y (by rw [show W = w0 from hJ]; exact hcb)
            exact light_val rfl (v := enV y) (by simp [execOp, e22, hr, Result.andThen]) hJ rfl
          case o8 =>
            intro A W hv hlen hJ hbase hdL hdH
            have e19 : A.eval (.tmp 19) = enV x := hdL 3 19 (by kernel_rfl) (by kernel_rfl) (by kernel_rfl)
            have f19 : A.tmps[19]?.getD undef = enV x := by simpa [Act.eval] using e19
            have e23 : A.eval (.tmp 23) = enV y := hdL 7 23 (by kernel_rfl) (by kernel_rfl) (by kernel_rfl)
            have f23 : A.tmps[23]?.getD undef = enV y := by simpa [Act.eval] using e23
            have hr := run_neE x y W
            rw [HB.out] at hr
            have hg : (eqGuard .neq 43 (.tmp 19) (.tmp 23) (enV x) (enV y)).run Try.prog W = .ok () W := run_eqGuard_agg W _ _ _ _ _ _ en_eqg
            exact light_val rfl (v := .bool B) (by simp [execOp, e19, e23, hr, hg, Result.andThen]) hJ rfl
          case oe =>
            intro vs W' hv hlen hJ hL' hH
            obtain rfl : W' = w0 := hJ
            have xl := hL' 8 (by decide) (by rfl)
            have xl : vs 8 = .bool B := xl
            simp only [layL, Nat.reduceAdd, Act.put, List.setIfInBounds_toArray, List.set_cons_zero, List.set_cons_succ]
            clear hL' hH
            generalize vs 0 = y100 at *
            generalize vs 1 = y101 at *
            generalize vs 2 = y102 at *
            generalize vs 3 = y103 at *
            generalize vs 4 = y104 at *
            generalize vs 5 = y105 at *
            generalize vs 6 = y106 at *
            generalize vs 7 = y107 at *
            rw [xl]
            clear xl
            cases B with
            | true =>
              have hne : (la == lb) = false := by
                refine Bool.eq_false_iff.2 fun h => ?_
                have h' : la = lb := by simpa using h
                subst h'
                have := HB.out
                rw [← Hx.out, ← Hy.out] at this
                simp at this
              go_wp2
              go_ret
              exact ⟨by rw [hne]; rfl, F0⟩
            | false =>
              have hxy : x = y := by have := HB.out; simpa using this
              go_wp2
              go_roundw
              case rel => exact ⟨k + 1, by omega, by go_num, take_eq_succ htk hlt hltb (by rw [Hx.out, Hy.out, hxy]), F0⟩
              case measure => simp [intOf]; omega
        · obtain rfl : k = la.length := by omega
          have heq : (la == lb) = true := by
            have := htk.out
            rw [List.take_length, List.take_of_length_le (by rw [hne.out]; exact Nat.le_refl _)] at this
            rw [this]; exact beq_self_eq_true _
          go_wp2
          go_ret
          exact ⟨by rw [heq]; rfl, hf⟩
  · have hno : (la == lb) = false := by
      refine Bool.eq_false_iff.2 fun h => hne ?_
      have h' : la = lb := by simpa using h
      rw [h']
    rw [hno]
    obtain ⟨a0, c0, rfl, hc0⟩ := ha.1.opn
    obtain ⟨a1, c1, rfl, hc1⟩ := hb.1.opn
    have hne' : ¬ (la.length : Int) = (lb.length : Int) := by omega
    go_enter Try.func19, Try.ntmps19
    go_wp2
    go_ret
    exact ⟨rfl, Fr.refl _ _⟩
end Go.Proofs.Ythpcfijefcicpaa
/- Same: the program's. -/
namespace Go.Proofs.Ythpcfijefcicpaa
open Go.RowKit Go.Proofs.U
set_option linter.unusedSimpArgs false
set_option linter.unusedVariables false
def Nd.same (a b : Nd) : Bool := a.k == b.k && a.b == b.b && a.es == b.es
theorem same_eq {a b : Nd} : a.same b = true ↔ a = b := by
  obtain ⟨k, c, l⟩ := a
  obtain ⟨k', c', l'⟩ := b
  simp [Nd.same, and_assoc]

set_option maxRecDepth 100000 in
set_option maxHeartbeats 2000000 in
theorem same_any (n m : Nd) (v u : Value) (w : World) (h : NdS w v n) (h' : NdS w u m) :
    Calls Try.prog 12 #[ndV n.k n.b v, ndV m.k m.b u] w fun r w' => r = .returned (.bool (n.same m)) ∧ Fr noB w w' := by
  obtain ⟨k, b, es⟩ := n
  obtain ⟨k', b', es'⟩ := m
  obtain ⟨hs, ⟨hb, hy⟩, hm, hwf⟩ := h
  obtain ⟨hs', ⟨hb', hy'⟩, hm', hwf'⟩ := h'
  have hS := hs
  have hS' := hs'
  obtain ⟨a0, c0, rfl, hc0⟩ := hs.1.opn
  obtain ⟨a1, c1, rfl, hc1⟩ := hs'.1.opn
  have Hb := show Hid _ from hb
  have Hb' := show Hid _ from hb'
  clear hb hb'
  unfold Nd.same
  simp only at hS hs hc0 hwf Hb hy hm hS' hs' hc1 hwf' Hb' hy' hm' ⊢
  by_cases hk : k = k'
  · subst hk
    rw [beq_self_eq_true, Bool.true_and]
    obtain ⟨B, HB⟩ : ∃ B, Hid ((b == b') = B) := ⟨_, rfl⟩
    rw [HB.out]
    cases B with
    | false =>
      go_enter Try.func12, Try.ntmps12
      go_wp2_with (first
        | (with_reducible refine at_wpP ?_; have q := b1; refine wpList_boxN rfl _ rfl _ b' (.slice a1 es'.length c1) rfl ?_; intro g2 w2 hg2 b2 f2 s2; have B1 := b1.fr0 f2; have q0 := NdB.kind B1; have q1 := b2.kind; have q2 := NdB.ents B1 Hb.out; have q3 := b2.ents Hb'.out)
        | (with_reducible refine at_wpP ?_; refine wpList_boxN rfl _ rfl _ b (.slice a0 es.length c0) rfl ?_; intro g1 w1 hg1 b1 f1 s1)
        | (with_reducible refine at_wpP ?_; refine at_ld 28 _ rfl ?_; go_must (first | refine wpList_ldBlk rfl _ rfl g1 rfl _ b _ B1 Hb.out ?_ | refine wpList_ldBlk rfl _ rfl g2 rfl _ b' _ b2 Hb'.out ?_))
        | (with_reducible refine at_wpP ?_; refine wpList_eqlA arr_block rfl _ _ _ rfl b b' rfl rfl Hb.out Hb'.out ?_; rw [HB.out]))

      go_ret
      exact ⟨rfl, f1.thenN f2⟩
    | true =>
      rw [Bool.true_and]
      go_enter Try.func12, Try.ntmps12
      go_wp2_with (first
        | (with_reducible refine at_wpP ?_; have q := b1; refine wpList_boxN rfl _ rfl _ b' (.slice a1 es'.length c1) rfl ?_; intro g2 w2 hg2 b2 f2 s2; have B1 := b1.fr0 f2; have q0 := NdB.kind B1; have q1 := b2.kind; have q2 := NdB.ents B1 Hb.out; have q3 := b2.ents Hb'.out; have F2 := f1.thenN f2)
        | (with_reducible refine at_wpP ?_; refine wpList_boxN rfl _ rfl _ b (.slice a0 es.length c0) rfl ?_; intro g1 w1 hg1 b1 f1 s1)
        | (with_reducible refine at_wpP ?_; refine at_ld 28 _ rfl ?_; go_must (first | refine wpList_ldBlk rfl _ rfl g1 rfl _ b _ B1 Hb.out ?_ | refine wpList_ldBlk rfl _ rfl g2 rfl _ b' _ b2 Hb'.out ?_))
        | (with_reducible refine at_wpP ?_; refine wpList_eqlA arr_block rfl _ _ _ rfl b b' rfl rfl Hb.out Hb'.out ?_; rw [HB.out])
        | (go_at_call 19; go_must (refine (eqE_any _ _ es es' _ ⟨hS.1.fr0 F2, hS.2⟩ ⟨hS'.1.fr0 F2, hS'.2⟩ hm).mono ?_; rintro e w3 ⟨rfl, f3⟩)))
      go_ret
      exact ⟨rfl, F2.thenN f3⟩
  · have hk' : (k == k') = false := by simpa using hk
    rw [hk', Bool.false_and, Bool.false_and]
    go_enter Try.func12, Try.ntmps12
    go_wp2_with (first
      | (with_reducible refine at_wpP ?_; have q := b1; refine wpList_boxN rfl _ rfl _ b' (.slice a1 es'.length c1) rfl ?_; intro g2 w2 hg2 b2 f2 s2; have B1 := b1.fr0 f2; have q0 := NdB.kind B1; have q1 := b2.kind; have q2 := NdB.ents B1 Hb.out; have q3 := b2.ents Hb'.out)
      | (with_reducible refine at_wpP ?_; refine wpList_boxN rfl _ rfl _ b (.slice a0 es.length c0) rfl ?_; intro g1 w1 hg1 b1 f1 s1))
    go_ret
    exact ⟨rfl, f1.thenN f2⟩
end Go.Proofs.Ythpcfijefcicpaa
/- The document's Right and Same. (Written by x11_gen.py.) -/
namespace Go.Proofs.Ythpcfijefcicpaa
open Go.RowKit Go.Proofs.U
set_option linter.unusedSimpArgs false
set_option linter.unusedVariables false

set_option maxRecDepth 100000 in
set_option maxHeartbeats 4000000 in
theorem rright_tree (k : Int) (b : List Int) (es : List (Int × Int)) (v : Value) (w : World) (h : NdS w v ⟨k, b, es⟩) (hk23 : k = 2 ∨ k = 3) :
    Calls Try.prog 27 #[ndV k b v] w fun r w' => r = .returned (.bool ((b == zerB 16) && entsR es)) ∧ Fr noB w w' := by
  obtain ⟨hs, ⟨hb, hy⟩, hm, hwf⟩ := h
  simp only at hs hb hy hm hwf
  obtain ⟨a0, c0, rfl, hc0⟩ := hs.1.opn
  have Hb := show Hid _ from hb
  clear hb
  obtain ⟨B, HB⟩ : ∃ B, Hid ((b == zerB 16) = B) := ⟨_, rfl⟩
  rw [HB.out]
  cases B with
  | false =>
    rw [Bool.false_and]
    rcases hk23 with rfl | rfl
    all_goals
      go_enter Try.func27, Try.ntmps27
      go_wp2_with (first
        | (with_reducible refine at_wpP ?_; refine wpList_boxN rfl _ rfl _ b (.slice a0 es.length c0) rfl ?_; intro g1 w1 hg1 b1 f1 s1; have q0 := NdB.kind b1; have q2 := NdB.ents b1 Hb.out)
        | (with_reducible refine at_wpP ?_; refine at_ld 28 _ rfl ?_; refine wpList_ldBlk rfl _ rfl g1 rfl _ b _ b1 Hb.out ?_)
        | (with_reducible refine at_wpP ?_; refine wpList_buildA arr_block rfl rfl ?_)
        | (with_reducible refine at_wpP ?_; refine wpList_neqA arr_block rfl _ _ _ rfl b (zerB 16) rfl rfl Hb.out (zerB_len 16) ?_; rw [HB.out]))
      go_ret
      exact ⟨rfl, f1⟩
  | true =>
    rw [Bool.true_and]
    by_cases hl : es.length = 0
    · have hno : entsR es = false := by unfold entsR; simp [hl]
      have hd1 : decide ((es.length : Int) < 1) = true := decide_eq_true (by omega)
      rw [hno]
      rcases hk23 with rfl | rfl
      all_goals
        go_enter Try.func27, Try.ntmps27
        go_wp2_with (first
          | (with_reducible refine at_wpP ?_; refine wpList_boxN rfl _ rfl _ b (.slice a0 es.length c0) rfl ?_; intro g1 w1 hg1 b1 f1 s1; have q0 := NdB.kind b1; have q2 := NdB.ents b1 Hb.out)
          | (with_reducible refine at_wpP ?_; refine at_ld 28 _ rfl ?_; refine wpList_ldBlk rfl _ rfl g1 rfl _ b _ b1 Hb.out ?_)
          | (with_reducible refine at_wpP ?_; refine wpList_buildA arr_block rfl rfl ?_)
          | (with_reducible refine at_wpP ?_; refine wpList_neqA arr_block rfl _ _ _ rfl b (zerB 16) rfl rfl Hb.out (zerB_len 16) ?_; rw [HB.out]))
        go_ret
        exact ⟨rfl, f1⟩
    have hd1 : decide ((es.length : Int) < 1) = false := decide_eq_false (by omega)
    by_cases h6 : 6 < es.length
    · have hno : entsR es = false := by unfold entsR; simp; intro _ h; omega
      have hd6 : decide ((6 : Int) < (es.length : Int)) = true := decide_eq_true (by omega)
      rw [hno]
      rcases hk23 with rfl | rfl
      all_goals
        go_enter Try.func27, Try.ntmps27
        go_wp2_with (first
          | (with_reducible refine at_wpP ?_; refine wpList_boxN rfl _ rfl _ b (.slice a0 es.length c0) rfl ?_; intro g1 w1 hg1 b1 f1 s1; have q0 := NdB.kind b1; have q2 := NdB.ents b1 Hb.out)
          | (with_reducible refine at_wpP ?_; refine at_ld 28 _ rfl ?_; refine wpList_ldBlk rfl _ rfl g1 rfl _ b _ b1 Hb.out ?_)
          | (with_reducible refine at_wpP ?_; refine wpList_buildA arr_block rfl rfl ?_)
          | (with_reducible refine at_wpP ?_; refine wpList_neqA arr_block rfl _ _ _ rfl b (zerB 16) rfl rfl Hb.out (zerB_len 16) ?_; rw [HB.out]))
        go_ret
        exact ⟨rfl, f1⟩
    have hd6 : decide ((6 : Int) < (es.length : Int)) = false := decide_eq_false (by omega)
    obtain ⟨l, Hl⟩ : ∃ l, Hid (es = l) := ⟨_, rfl⟩
    have Hl' : es = l := Hl.out
    subst Hl'
    obtain ⟨R, hR0⟩ : ∃ R, Hid (rises (-1) es = R) := ⟨_, rfl⟩
    have hyes0 : entsR es = R := by unfold entsR; rw [hR0.out]; simp; intro _; omega
    rw [hyes0]
    clear hyes0
    rcases hk23 with rfl | rfl
    all_goals
      go_enter Try.func27, Try.ntmps27
      go_wp2_with (first
        | (with_reducible refine at_wpP ?_; refine wpList_boxN rfl _ rfl _ b (.slice a0 es.length c0) rfl ?_; intro g1 w1 hg1 b1 f1 s1; have q0 := NdB.kind b1; have q2 := NdB.ents b1 Hb.out)
        | (with_reducible refine at_wpP ?_; refine at_ld 28 _ rfl ?_; refine wpList_ldBlk rfl _ rfl g1 rfl _ b _ b1 Hb.out ?_)
        | (with_reducible refine at_wpP ?_; refine wpList_buildA arr_block rfl rfl ?_)
        | (with_reducible refine at_wpP ?_; refine wpList_neqA arr_block rfl _ _ _ rfl b (zerB 16) rfl rfl Hb.out (zerB_len 16) ?_; rw [HB.out]))
      go_loopw [3, 42] (fun u i wr => ∃ (k : Nat) (m : Int), k ≤ es.length ∧ i = .int .i64 (k : Int) ∧ u = .int .i64 m ∧ Hid (rises m (es.drop k) = R) ∧ Fr noB w wr) (fun _ i _ => es.length - (intOf i).toNat)
      case atStart => exact ⟨0, -1, by omega, rfl, rfl, by rw [List.drop_zero]; exact hR0, f1⟩
      case round =>
        obtain ⟨k, m, hk, rfl, rfl, hR, hf⟩ := hrel
        have zf := hf.size
        by_cases hlt : k < es.length
        · have hlt' : (k : Int) < (es.length : Int) := by omega
          have hcons : Hid (rises m (es.drop k) = (!decide (es[k].1 ≤ m) && !decide (63 < es[k].1) && !decide (es[k].2 < 0) && !decide (239 < es[k].2) && rises es[k].1 (es.drop (k + 1)))) := by show _ = _; rw [List.drop_eq_getElem_cons hlt, rises_r]
          obtain ⟨x, Hx⟩ : ∃ x, Hid (es[k] = x) := ⟨es[k], (rfl : es[k] = es[k])⟩
          rw [Hx.out] at hcons
          clear b1 q0 q2
          by_cases h1 : x.1 ≤ m
          · have hno : R = false := by rw [← hR.out, hcons.out]; simp [h1]
            subst hno
            go_wp2_with (first
              | (refine at_idx 29 _ _ rfl ?_; go_must (refine wpList_idxR rfl 29 _ _ rfl 43 Try.underlying29 2 en_size _ _ _ rfl (hs.1.fr0 hf) (by decide) _ _ k rfl rfl hlt ?_; rw [Hx.out]; intro ba oa hba hca))
              | (with_reducible refine at_wpP ?_; refine at_ld 43 _ rfl ?_; have q := hca; refine wpList_ldE rfl _ rfl ba oa rfl x hca ?_)
              | (with_reducible refine at_wpP ?_; refine wpList_allocE rfl rfl ?_; intro gl w1 hgl b1 f1 sl; have l1 := b1.lt; have F1 := hf.thenN f1; have z1 := f1.size)
              | (with_reducible refine at_wpP ?_; refine at_st 43 _ _ rfl ?_; go_must (refine wpList_stE rfl _ _ rfl gl rfl (0, 0) x b1 rfl ?_; intro w2 B2 f2; have F2 := Fr.ownX F1 (by omega) f2; have z2 := f2.size; obtain ⟨c0, c1⟩ := B2.all)))
            go_ret
            exact ⟨rfl, F2⟩
          · skip
            by_cases h2 : 63 < x.1
            · have hno : R = false := by rw [← hR.out, hcons.out]; simp [h2]
              subst hno
              go_wp2_with (first
                | (refine at_idx 29 _ _ rfl ?_; go_must (refine wpList_idxR rfl 29 _ _ rfl 43 Try.underlying29 2 en_size _ _ _ rfl (hs.1.fr0 hf) (by decide) _ _ k rfl rfl hlt ?_; rw [Hx.out]; intro ba oa hba hca))
                | (with_reducible refine at_wpP ?_; refine at_ld 43 _ rfl ?_; have q := hca; refine wpList_ldE rfl _ rfl ba oa rfl x hca ?_)
                | (with_reducible refine at_wpP ?_; refine wpList_allocE rfl rfl ?_; intro gl w1 hgl b1 f1 sl; have l1 := b1.lt; have F1 := hf.thenN f1; have z1 := f1.size)
                | (with_reducible refine at_wpP ?_; refine at_st 43 _ _ rfl ?_; go_must (refine wpList_stE rfl _ _ rfl gl rfl (0, 0) x b1 rfl ?_; intro w2 B2 f2; have F2 := Fr.ownX F1 (by omega) f2; have z2 := f2.size; obtain ⟨c0, c1⟩ := B2.all)))
              go_ret
              exact ⟨rfl, F2⟩
            · skip
              by_cases h3 : x.2 < 0
              · have hno : R = false := by rw [← hR.out, hcons.out]; simp [h3]
                subst hno
                go_wp2_with (first
                  | (refine at_idx 29 _ _ rfl ?_; go_must (refine wpList_idxR rfl 29 _ _ rfl 43 Try.underlying29 2 en_size _ _ _ rfl (hs.1.fr0 hf) (by decide) _ _ k rfl rfl hlt ?_; rw [Hx.out]; intro ba oa hba hca))
                  | (with_reducible refine at_wpP ?_; refine at_ld 43 _ rfl ?_; have q := hca; refine wpList_ldE rfl _ rfl ba oa rfl x hca ?_)
                  | (with_reducible refine at_wpP ?_; refine wpList_allocE rfl rfl ?_; intro gl w1 hgl b1 f1 sl; have l1 := b1.lt; have F1 := hf.thenN f1; have z1 := f1.size)
                  | (with_reducible refine at_wpP ?_; refine at_st 43 _ _ rfl ?_; go_must (refine wpList_stE rfl _ _ rfl gl rfl (0, 0) x b1 rfl ?_; intro w2 B2 f2; have F2 := Fr.ownX F1 (by omega) f2; have z2 := f2.size; obtain ⟨c0, c1⟩ := B2.all)))
                go_ret
                exact ⟨rfl, F2⟩
              · skip
                by_cases h4 : 239 < x.2
                · have hno : R = false := by rw [← hR.out, hcons.out]; simp [h4]
                  subst hno
                  go_wp2_with (first
                    | (refine at_idx 29 _ _ rfl ?_; go_must (refine wpList_idxR rfl 29 _ _ rfl 43 Try.underlying29 2 en_size _ _ _ rfl (hs.1.fr0 hf) (by decide) _ _ k rfl rfl hlt ?_; rw [Hx.out]; intro ba oa hba hca))
                    | (with_reducible refine at_wpP ?_; refine at_ld 43 _ rfl ?_; have q := hca; refine wpList_ldE rfl _ rfl ba oa rfl x hca ?_)
                    | (with_reducible refine at_wpP ?_; refine wpList_allocE rfl rfl ?_; intro gl w1 hgl b1 f1 sl; have l1 := b1.lt; have F1 := hf.thenN f1; have z1 := f1.size)
                    | (with_reducible refine at_wpP ?_; refine at_st 43 _ _ rfl ?_; go_must (refine wpList_stE rfl _ _ rfl gl rfl (0, 0) x b1 rfl ?_; intro w2 B2 f2; have F2 := Fr.ownX F1 (by omega) f2; have z2 := f2.size; obtain ⟨c0, c1⟩ := B2.all)))
                  go_ret
                  exact ⟨rfl, F2⟩
                · skip
                  have hyes : Hid (rises x.1 (es.drop (k + 1)) = R) := by show _ = _; rw [← hR.out, hcons.out]; simp [h1, h2, h3, h4]
                  go_wp2_with (first
                    | (refine at_idx 29 _ _ rfl ?_; go_must (refine wpList_idxR rfl 29 _ _ rfl 43 Try.underlying29 2 en_size _ _ _ rfl (hs.1.fr0 hf) (by decide) _ _ k rfl rfl hlt ?_; rw [Hx.out]; intro ba oa hba hca))
                    | (with_reducible refine at_wpP ?_; refine at_ld 43 _ rfl ?_; have q := hca; refine wpList_ldE rfl _ rfl ba oa rfl x hca ?_)
                    | (with_reducible refine at_wpP ?_; refine wpList_allocE rfl rfl ?_; intro gl w1 hgl b1 f1 sl; have l1 := b1.lt; have F1 := hf.thenN f1; have z1 := f1.size)
                    | (with_reducible refine at_wpP ?_; refine at_st 43 _ _ rfl ?_; go_must (refine wpList_stE rfl _ _ rfl gl rfl (0, 0) x b1 rfl ?_; intro w2 B2 f2; have F2 := Fr.ownX F1 (by omega) f2; have z2 := f2.size; obtain ⟨c0, c1⟩ := B2.all)))
                  go_roundw
                  case rel => exact ⟨k + 1, x.1, by omega, by go_num, rfl, hyes, F2⟩
                  case measure => simp [intOf]; omega
        · obtain rfl : k = es.length := by omega
          have hR' : R = true := by rw [← hR.out, List.drop_length]; rfl
          subst hR'
          clear b1 q0 q2
          go_wp2
          go_ret
          exact ⟨rfl, hf⟩

set_option maxRecDepth 100000 in
set_option maxHeartbeats 2000000 in
theorem rright_any (n : Nd) (v : Value) (w : World) (h : NdS w v n) :
    Calls Try.prog 27 #[ndV n.k n.b v] w fun r w' => r = .returned (.bool n.right) ∧ Fr noB w w' := by
  obtain ⟨k, b, es⟩ := n
  by_cases hk : k = 1
  · obtain ⟨hs, ⟨hb, hy⟩, hm, hwf⟩ := h
    obtain ⟨a0, c0, rfl, hc0⟩ := hs.1.opn
    have Hb := show Hid _ from hb
    clear hb
    subst hk
    simp only at hs Hb ⊢
    obtain ⟨R, HR⟩ : ∃ R, Hid (((es.length : Int) == 0) = R) := ⟨_, rfl⟩
    have hr : (Nd.mk 1 b es).right = R := by rw [← HR.out]; unfold Nd.right; simp; cases es <;> simp; omega
    rw [hr]
    clear hr
    go_enter Try.func27, Try.ntmps27
    go_wp2_with (first
      | (with_reducible refine at_wpP ?_; refine wpList_boxN rfl _ rfl _ b (.slice a0 es.length c0) rfl ?_; intro g1 w1 hg1 b1 f1 s1; have q0 := NdB.kind b1; have q2 := NdB.ents b1 Hb.out))
    go_ret
    exact ⟨by rw [HR.out]; rfl, f1⟩
  · rw [right_tree_eq k b es hk]
    by_cases hk23 : k = 2 ∨ k = 3
    · have hkk : (k == 2 || k == 3) = true := by simpa using hk23
      rw [hkk, Bool.true_and]
      exact rright_tree k b es v w h hk23
    · have hkk : (k == 2 || k == 3) = false := by simp; exact ⟨fun h => hk23 (Or.inl h), fun h => hk23 (Or.inr h)⟩
      rw [hkk, Bool.false_and, Bool.false_and]
      have hk1 : (k == 1) = false := by simpa using hk
      have hk2 : ¬ k = 2 := fun h => hk23 (Or.inl h)
      have hk3 : ¬ k = 3 := fun h => hk23 (Or.inr h)
      obtain ⟨hs, ⟨hb, hy⟩, hm, hwf⟩ := h
      obtain ⟨a0, c0, rfl, hc0⟩ := hs.1.opn
      have Hb := show Hid _ from hb
      clear hb hk23 hkk
      simp only at hs Hb ⊢
      go_enter Try.func27, Try.ntmps27
      go_wp2_with (first
        | (with_reducible refine at_wpP ?_; refine wpList_boxN rfl _ rfl _ b (.slice a0 es.length c0) rfl ?_; intro g1 w1 hg1 b1 f1 s1; have q0 := NdB.kind b1; have q2 := NdB.ents b1 Hb.out))
      go_ret
      exact ⟨rfl, f1⟩

set_option maxRecDepth 100000 in
set_option maxHeartbeats 4000000 in
theorem rsame_any (n m : Nd) (v u : Value) (w : World) (h : NdS w v n) (h' : NdS w u m) :
    Calls Try.prog 11 #[ndV n.k n.b v, ndV m.k m.b u] w fun r w' => r = .returned (.bool (n.same m)) ∧ Fr noB w w' := by
  obtain ⟨k1, b, la⟩ := n
  obtain ⟨k2, b', lb⟩ := m
  obtain ⟨hs, ⟨hb, hy⟩, hm, hwf⟩ := h
  obtain ⟨hs', ⟨hb', hy'⟩, hm', hwf'⟩ := h'
  have hS := hs
  have hS' := hs'
  have Hb := show Hid _ from hb
  have Hb' := show Hid _ from hb'
  clear hb hb'
  unfold Nd.same
  simp only at hS hs hwf Hb hy hm hS' hs' hwf' Hb' hy' hm' ⊢
  by_cases hk : k1 = k2
  · subst hk
    rw [beq_self_eq_true, Bool.true_and]
    obtain ⟨C, HC⟩ : ∃ C, Hid ((b == b') = C) := ⟨_, rfl⟩
    rw [HC.out]
    cases C with
    | false =>
      obtain ⟨a0, c0, rfl, hc0⟩ := hs.1.opn
      obtain ⟨a1, c1, rfl, hc1⟩ := hs'.1.opn
      rw [Bool.false_and]
      go_enter Try.func11, Try.ntmps11
      go_wp2_with (first
        | (with_reducible refine at_wpP ?_; have q := b1; refine wpList_boxN rfl _ rfl _ b' (.slice a1 lb.length c1) rfl ?_; intro g3 w2 hg3 b2 f2 s2; have B1 := b1.fr0 f2; have q0 := NdB.kind B1; have q1 := NdB.kind b2; have q2 := NdB.ents B1 Hb.out; have q3 := NdB.ents b2 Hb'.out)
        | (with_reducible refine at_wpP ?_; refine wpList_boxN rfl _ rfl _ b (.slice a0 la.length c0) rfl ?_; intro g2 w1 hg2 b1 f1 s1)
        | (with_reducible refine at_wpP ?_; refine at_ld 28 _ rfl ?_; first | refine wpList_ldBlk rfl _ rfl g2 rfl _ b _ B1 Hb.out ?_ | refine wpList_ldBlk rfl _ rfl g3 rfl _ b' _ b2 Hb'.out ?_)
        | (with_reducible refine at_wpP ?_; refine wpList_neqA arr_block rfl _ _ _ rfl b b' rfl rfl Hb.out Hb'.out ?_; rw [HC.out]))
      go_ret
      exact ⟨rfl, f1.thenN f2⟩
    | true =>
      rw [Bool.true_and]
      by_cases hne : la.length = lb.length
      · by_cases h0 : la.length = 0
        · have e1 : la = [] := List.eq_nil_of_length_eq_zero h0
          have e2 : lb = [] := List.eq_nil_of_length_eq_zero (by omega)
          subst e1; subst e2
          obtain ⟨a0, c0, rfl, hc0⟩ := hs.1.opn
          obtain ⟨a1, c1, rfl, hc1⟩ := hs'.1.opn
          go_enter Try.func11, Try.ntmps11
          go_wp2_with (first
            | (with_reducible refine at_wpP ?_; have q := b1; refine wpList_boxN rfl _ rfl _ b' (.slice a1 0 c1) rfl ?_; intro g3 w2 hg3 b2 f2 s2; have B1 := b1.fr0 f2; have q0 := NdB.kind B1; have q1 := NdB.kind b2; have q2 := NdB.ents B1 Hb.out; have q3 := NdB.ents b2 Hb'.out)
            | (with_reducible refine at_wpP ?_; refine wpList_boxN rfl _ rfl _ b (.slice a0 0 c0) rfl ?_; intro g2 w1 hg2 b1 f1 s1)
            | (with_reducible refine at_wpP ?_; refine at_ld 28 _ rfl ?_; first | refine wpList_ldBlk rfl _ rfl g2 rfl _ b _ B1 Hb.out ?_ | refine wpList_ldBlk rfl _ rfl g3 rfl _ b' _ b2 Hb'.out ?_)
            | (with_reducible refine at_wpP ?_; refine wpList_neqA arr_block rfl _ _ _ rfl b b' rfl rfl Hb.out Hb'.out ?_; rw [HC.out]))
          go_loop [30] (fun i => i = .int .i64 0) (fun _ => 0)
          case atStart => rfl
          case round =>
            subst hrel
            go_wp2
            go_ret
            exact ⟨rfl, f1.thenN f2⟩
        · obtain ⟨ba, oa, ca, rfl, hca⟩ := SlR.addr hs.1 (by decide) (by omega)
          obtain ⟨bb, ob, cb, rfl, hcb⟩ := SlR.addr hs'.1 (by decide) (by omega)
          rw [← hne]
          have hne := show Hid _ from hne
          go_enter Try.func11, Try.ntmps11
          go_wp2_with (first
            | (with_reducible refine at_wpP ?_; have q := b1; refine wpList_boxN rfl _ rfl _ b' (.slice (some ⟨bb, ob, none⟩) la.length cb) rfl ?_; intro g3 w2 hg3 b2 f2 s2; have B1 := b1.fr0 f2; have q0 := NdB.kind B1; have q1 := NdB.kind b2; have q2 := NdB.ents B1 Hb.out; have q3 := NdB.ents b2 Hb'.out)
            | (with_reducible refine at_wpP ?_; refine wpList_boxN rfl _ rfl _ b (.slice (some ⟨ba, oa, none⟩) la.length ca) rfl ?_; intro g2 w1 hg2 b1 f1 s1)
            | (with_reducible refine at_wpP ?_; refine at_ld 28 _ rfl ?_; first | refine wpList_ldBlk rfl _ rfl g2 rfl _ b _ B1 Hb.out ?_ | refine wpList_ldBlk rfl _ rfl g3 rfl _ b' _ b2 Hb'.out ?_)
            | (with_reducible refine at_wpP ?_; refine wpList_neqA arr_block rfl _ _ _ rfl b b' rfl rfl Hb.out Hb'.out ?_; rw [HC.out]))
          have F2 := f1.thenN f2
          go_loopw [30] (fun i wr => ∃ (k : Nat), k ≤ la.length ∧ i = .int .i64 (k : Int) ∧ la.take k = lb.take k ∧ Fr noB w2 wr) (fun i _ => la.length - (intOf i).toNat)
          case atStart => exact ⟨0, by omega, rfl, rfl, Fr.refl _ _⟩
          case round =>
            obtain ⟨k, hk, rfl, htk, hf⟩ := hrel
            have htk := show Hid _ from htk
            by_cases hlt : k < la.length
            · have hltb : k < lb.length := by rw [← hne.out]; exact hlt
              have hlt' : (k : Int) < (la.length : Int) := by omega
              have hca := hca k hlt
              have hcb := hcb k hltb
              obtain ⟨x, Hx⟩ : ∃ x, Hid (la[k] = x) := ⟨la[k], (rfl : la[k] = la[k])⟩
              obtain ⟨y, Hy⟩ : ∃ y, Hid (lb[k] = y) := ⟨lb[k], (rfl : lb[k] = lb[k])⟩
              rw [Hx.out] at hca
              rw [Hy.out] at hcb
              obtain ⟨B, HB⟩ : ∃ B, Hid ((!(x == y)) = B) := ⟨_, rfl⟩
              go_wp2
              obtain ⟨w0, HW⟩ : ∃ w0, Hid (wr.drew = w0) := ⟨_, rfl⟩
              have f0 : Fr noB wr w0 := by rw [← HW.out]; exact (Fr.refl _ _).drew
              have F0 := hf.thenN f0
              have hq2 := NdB.ents (B1.fr0 F0) Hb.out
              have hq3 := NdB.ents (b2.fr0 F0) Hb'.out
              have hca : ∀ q u, (enC x)[q]? = some u → w0.cell? ⟨ba, oa + k * 2 + q, none⟩ = some u := fun q u hq => (F2.thenN F0).cell (hca q u hq) (fun h => h)
              have hcb : ∀ q u, (enC y)[q]? = some u → w0.cell? ⟨bb, ob + k * 2 + q, none⟩ = some u := fun q u hq => (F2.thenN F0).cell (hcb q u hq) (fun h => h)
              refine wp_region_chain_lay (by kernel_rfl) [] [none, none, none, none, none, none, none, none, none, none, none]
                [fun v => v = .pointer (some ⟨g2, 17, none⟩), fun v => v = .slice (some ⟨ba, oa, none⟩) la.length ca, fun v => v = .int .i64 (k : Int), fun v => v = .pointer (some ⟨ba, oa + k * 2, none⟩), fun v => v = enV x, fun v => v = .pointer (some ⟨g3, 17, none⟩), fun v => v = .slice (some ⟨bb, ob, none⟩) la.length cb, fun v => v = .int .i64 (k : Int), fun v => v = .pointer (some ⟨bb, ob + k * 2, none⟩), fun v => v = enV y, fun v => v = .bool B]
                (JQX w0) (HW.out) (by kernel_rfl) (by kernel_rfl) (by decide) ⟨?o0, ?o1, ?o2, ?o3, ?o4, ?o5, ?o6, ?o7, ?o8, ?o9, ?o10, trivial⟩ ?oe
              case o0 =>
                intro A W hv hlen hJ hbase hdL hdH
                have e2 : A.eval (.tmp 2) = .pointer (some ⟨g2, 0, none⟩) := hbase 2 (by kernel_rfl)
                have f2 : A.tmps[2]?.getD undef = .pointer (some ⟨g2, 0, none⟩) := by simpa [Act.eval] using e2
                exact light_val rfl (v := .pointer (some ⟨g2, 17, none⟩)) (by simp [execOp, go_sem, e2, f2]) hJ rfl
              case o1 =>
                intro A W hv hlen hJ hbase hdL hdH
                have e33 : A.eval (.tmp 33) = .pointer (some ⟨g2, 17, none⟩) := hdL 0 33 (by kernel_rfl) (by kernel_rfl) (by kernel_rfl)
                have f33 : A.tmps[33]?.getD undef = .pointer (some ⟨g2, 17, none⟩) := by simpa [Act.eval] using e33
                have hc : W.cell? ⟨g2, 17, none⟩ = some (.slice (some ⟨ba, oa, none⟩) la.length ca) := by rw [show W = w0 from hJ]; exact hq2
                exact light_val rfl (v := .slice (some ⟨ba, oa, none⟩) la.length ca) (by simp [execOp, go_sem, e33, f33, hc]) hJ rfl
              case o2 =>
                intro A W hv hlen hJ hbase hdL hdH
                have e5 : A.eval (.tmp 5) = .int .i64 (k : Int) := hbase 5 (by kernel_rfl)
                have f5 : A.tmps[5]?.getD undef = .int .i64 (k : Int) := by simpa [Act.eval] using e5
                exact light_val rfl (v := .int .i64 (k : Int)) (by simp [execOp, e5, f5]) hJ rfl
              case o3 =>
                intro A W hv hlen hJ hbase hdL hdH
                have e34 : A.eval (.tmp 34) = .slice (some ⟨ba, oa, none⟩) la.length ca := hdL 1 34 (by kernel_rfl) (by kernel_rfl) (by kernel_rfl)
                have f34 : A.tmps[34]?.getD undef = .slice (some ⟨ba, oa, none⟩) la.length ca := by simpa [Act.eval] using e34
                have e35 : A.eval (.tmp 35) = .int .i64 (k : Int) := hdL 2 35 (by kernel_rfl) (by kernel_rfl) (by kernel_rfl)
                have f35 : A.tmps[35]?.getD undef = .int .i64 (k : Int) := by simpa [Act.eval] using e35
                have hr := run_idxS (P := Try.prog) (w := W) (sz := 2) 29 43 Try.underlying29 en_size ba oa la.length ca .i64 k hlt
                exact light_val rfl (v := .pointer (some ⟨ba, oa + k * 2, none⟩)) (by simp [execOp, e34, e35, hr, Result.andThen]) hJ rfl
              case o4 =>
                intro A W hv hlen hJ hbase hdL hdH
                have e36 : A.eval (.tmp 36) = .pointer (some ⟨ba, oa + k * 2, none⟩) := hdL 3 36 (by kernel_rfl) (by kernel_rfl) (by kernel_rfl)
                have f36 : A.tmps[36]?.getD undef = .pointer (some ⟨ba, oa + k * 2, none⟩) := by simpa [Act.eval] using e36
                have hr := run_ldE W ba (oa + k * 2) x (by rw [show W = w0 from hJ]; exact hca)
                exact light_val rfl (v := enV x) (by simp [execOp, e36, hr, Result.andThen]) hJ rfl
              case o5 =>
                intro A W hv hlen hJ hbase hdL hdH
                have e3 : A.eval (.tmp 3) = .pointer (some ⟨g3, 0, none⟩) := hbase 3 (by kernel_rfl)
                have f3 : A.tmps[3]?.getD undef = .pointer (some ⟨g3, 0, none⟩) := by simpa [Act.eval] using e3
                exact light_val rfl (v := .pointer (some ⟨g3, 17, none⟩)) (by simp [execOp, go_sem, e3, f3]) hJ rfl
              case o6 =>
                intro A W hv hlen hJ hbase hdL hdH
                have e38 : A.eval (.tmp 38) = .pointer (some ⟨g3, 17, none⟩) := hdL 5 38 (by kernel_rfl) (by kernel_rfl) (by kernel_rfl)
                have f38 : A.tmps[38]?.getD undef = .pointer (some ⟨g3, 17, none⟩) := by simpa [Act.eval] using e38
                have hc : W.cell? ⟨g3, 17, none⟩ = some (.slice (some ⟨bb, ob, none⟩) la.length cb) := by rw [show W = w0 from hJ]; exact hq3
                exact light_val rfl (v := .slice (some ⟨bb, ob, none⟩) la.length cb) (by simp [execOp, go_sem, e38, f38, hc]) hJ rfl
              case o7 =>
                intro A W hv hlen hJ hbase hdL hdH
                have e5 : A.eval (.tmp 5) = .int .i64 (k : Int) := hbase 5 (by kernel_rfl)
                have f5 : A.tmps[5]?.getD undef = .int .i64 (k : Int) := by simpa [Act.eval] using e5
                exact light_val rfl (v := .int .i64 (k : Int)) (by simp [execOp, e5, f5]) hJ rfl
              case o8 =>
                intro A W hv hlen hJ hbase hdL hdH
                have e39 : A.eval (.tmp 39) = .slice (some ⟨bb, ob, none⟩) la.length cb := hdL 6 39 (by kernel_rfl) (by kernel_rfl) (by kernel_rfl)
                have f39 : A.tmps[39]?.getD undef = .slice (some ⟨bb, ob, none⟩) la.length cb := by simpa [Act.eval] using e39
                have e40 : A.eval (.tmp 40) = .int .i64 (k : Int) := hdL 7 40 (by kernel_rfl) (by kernel_rfl) (by kernel_rfl)
                have f40 : A.tmps[40]?.getD undef = .int .i64 (k : Int) := by simpa [Act.eval] using e40
                have hr := run_idxS (P := Try.prog) (w := W) (sz := 2) 29 43 Try.underlying29 en_size bb ob la.length cb .i64 k hlt
                exact light_val rfl (v := .pointer (some ⟨bb, ob + k * 2, none⟩)) (by simp [execOp, e39, e40, hr, Result.andThen]) hJ rfl
              case o9 =>
                intro A W hv hlen hJ hbase hdL hdH
                have e41 : A.eval (.tmp 41) = .pointer (some ⟨bb, ob + k * 2, none⟩) := hdL 8 41 (by kernel_rfl) (by kernel_rfl) (by kernel_rfl)
                have f41 : A.tmps[41]?.getD undef = .pointer (some ⟨bb, ob + k * 2, none⟩) := by simpa [Act.eval] using e41
                have hr := run_ldE W bb (ob + k * 2) y (by rw [show W = w0 from hJ]; exact hcb)
                exact light_val rfl (v := enV y) (by simp [execOp, e41, hr, Result.andThen]) hJ rfl
              case o10 =>
                intro A W hv hlen hJ hbase hdL hdH
                have e37 : A.eval (.tmp 37) = enV x := hdL 4 37 (by kernel_rfl) (by kernel_rfl) (by kernel_rfl)
                have f37 : A.tmps[37]?.getD undef = enV x := by simpa [Act.eval] using e37
                have e42 : A.eval (.tmp 42) = enV y := hdL 9 42 (by kernel_rfl) (by kernel_rfl) (by kernel_rfl)
                have f42 : A.tmps[42]?.getD undef = enV y := by simpa [Act.eval] using e42
                have hr := run_neE x y W
                rw [HB.out] at hr
                have hg : (eqGuard .neq 43 (.tmp 37) (.tmp 42) (enV x) (enV y)).run Try.prog W = .ok () W := run_eqGuard_agg W _ _ _ _ _ _ en_eqg
                exact light_val rfl (v := .bool B) (by simp [execOp, e37, e42, hr, hg, Result.andThen]) hJ rfl
              case oe =>
                intro vs W' hv hlen hJ hL' hH
                obtain rfl : W' = w0 := hJ
                have xl := hL' 10 (by decide) (by rfl)
                have xl : vs 10 = .bool B := xl
                simp only [layL, Nat.reduceAdd, Act.put, List.setIfInBounds_toArray, List.set_cons_zero, List.set_cons_succ]
                clear hL' hH
                generalize vs 0 = y100 at *
                generalize vs 1 = y101 at *
                generalize vs 2 = y102 at *
                generalize vs 3 = y103 at *
                generalize vs 4 = y104 at *
                generalize vs 5 = y105 at *
                generalize vs 6 = y106 at *
                generalize vs 7 = y107 at *
                generalize vs 8 = y108 at *
                generalize vs 9 = y109 at *
                rw [xl]
                clear xl
                cases B with
                | true =>
                  have hne : (la == lb) = false := by
                    refine Bool.eq_false_iff.2 fun h => ?_
                    have h' : la = lb := by simpa using h
                    subst h'
                    have := HB.out
                    rw [← Hx.out, ← Hy.out] at this
                    simp at this
                  go_wp2
                  go_ret
                  exact ⟨by rw [hne]; rfl, F2.thenN F0⟩
                | false =>
                  have hxy : x = y := by have := HB.out; simpa using this
                  go_wp2
                  go_roundw
                  case rel => exact ⟨k + 1, by omega, by go_num, take_eq_succ htk hlt hltb (by rw [Hx.out, Hy.out, hxy]), F0⟩
                  case measure => simp [intOf]; omega
            · obtain rfl : k = la.length := by omega
              have heq : (la == lb) = true := by
                have := htk.out
                rw [List.take_length, List.take_of_length_le (by rw [hne.out]; exact Nat.le_refl _)] at this
                rw [this]; exact beq_self_eq_true _
              go_wp2
              go_ret
              exact ⟨by rw [heq]; rfl, F2.thenN hf⟩
      · have hno : (la == lb) = false := by
          refine Bool.eq_false_iff.2 fun h => hne ?_
          have h' : la = lb := by simpa using h
          rw [h']
        rw [hno]
        obtain ⟨a0, c0, rfl, hc0⟩ := hs.1.opn
        obtain ⟨a1, c1, rfl, hc1⟩ := hs'.1.opn
        have hne' : ¬ (la.length : Int) = (lb.length : Int) := by omega
        go_enter Try.func11, Try.ntmps11
        go_wp2_with (first
          | (with_reducible refine at_wpP ?_; have q := b1; refine wpList_boxN rfl _ rfl _ b' (.slice a1 lb.length c1) rfl ?_; intro g3 w2 hg3 b2 f2 s2; have B1 := b1.fr0 f2; have q0 := NdB.kind B1; have q1 := NdB.kind b2; have q2 := NdB.ents B1 Hb.out; have q3 := NdB.ents b2 Hb'.out)
          | (with_reducible refine at_wpP ?_; refine wpList_boxN rfl _ rfl _ b (.slice a0 la.length c0) rfl ?_; intro g2 w1 hg2 b1 f1 s1)
          | (with_reducible refine at_wpP ?_; refine at_ld 28 _ rfl ?_; first | refine wpList_ldBlk rfl _ rfl g2 rfl _ b _ B1 Hb.out ?_ | refine wpList_ldBlk rfl _ rfl g3 rfl _ b' _ b2 Hb'.out ?_)
          | (with_reducible refine at_wpP ?_; refine wpList_neqA arr_block rfl _ _ _ rfl b b' rfl rfl Hb.out Hb'.out ?_; rw [HC.out]))
        go_ret
        exact ⟨rfl, f1.thenN f2⟩
  · obtain ⟨a0, c0, rfl, hc0⟩ := hs.1.opn
    obtain ⟨a1, c1, rfl, hc1⟩ := hs'.1.opn
    have hk' : (k1 == k2) = false := by simpa using hk
    rw [hk', Bool.false_and, Bool.false_and]
    go_enter Try.func11, Try.ntmps11
    go_wp2_with (first
      | (with_reducible refine at_wpP ?_; have q := b1; refine wpList_boxN rfl _ rfl _ b' (.slice a1 lb.length c1) rfl ?_; intro g3 w2 hg3 b2 f2 s2; have B1 := b1.fr0 f2; have q0 := NdB.kind B1; have q1 := NdB.kind b2; have q2 := NdB.ents B1 Hb.out; have q3 := NdB.ents b2 Hb'.out)
      | (with_reducible refine at_wpP ?_; refine wpList_boxN rfl _ rfl _ b (.slice a0 la.length c0) rfl ?_; intro g2 w1 hg2 b1 f1 s1))
    go_ret
    exact ⟨rfl, f1.thenN f2⟩
end Go.Proofs.Ythpcfijefcicpaa
