/- Texts Y7, Y8, Y5, Y9 of the proof of PoolClones, one behind the other. -/
import Derived.Test.YtghkpeejogldkaaBundlePoolClones1
import Derived.Test.YtghkpeejogldkaaBundlePoolClones2
import Derived.Test.YtghkpeejogldkaaBundlePoolClones3
import Derived.Test.YtghkpeejogldkaaBundlePoolClones4
import Derived.Test.YtghkpeejogldkaaBundlePoolClones5
import Derived.Test.YtghkpeejogldkaaBundlePoolClones6
import Derived.Test.YtghkpeejogldkaaBundlePoolClones7
import Derived.Test.YtghkpeejogldkaaBundlePoolClones8
/- The document's pool: change, held, Take, Hold, Drop. -/
namespace Go.Proofs.Ytghkpeejogldkaa
open Go.RowKit Go.Proofs.U
set_option linter.unusedSimpArgs false
set_option linter.unusedVariables false
set_option maxRecDepth 100000 in
set_option maxHeartbeats 1000000 in
theorem rchange_any {L : List Pg} (v : Value) (j : Nat) (hj : j < L.length) (hm : L.length ≤ 240) (x : Pg) (w : World) (h : SlG w v L) :
    Calls Try.prog 36 #[v, .int .i64 (j : Int), lfV x] w fun r w' => ∃ v', r = .returned v' ∧ OwnG w' w.heap.size v' (L.set j x) ∧ Fr noB w w' := by
  obtain ⟨a0, c0, rfl, hc0⟩ := h.opn
  go_enter Try.func36, Try.ntmps36
  go_wp2_with (first
    | (with_reducible refine at_wpP ?_; refine wpList_boxLf rfl _ rfl x rfl ?_; intro g5 w1 hg5 b1 f1 s5; have h1 := h.fr0 f1; have z1 := f1.size; have l1 := b1.lt)
    | (with_reducible refine at_wpP ?_; refine wpList_mk0 encG 5 rfl 34 rfl 63 Try.underlying34 leaf_size ?_; intro g2 w2 o2 f2 s2 t2; have h2 := h1.fr0 f2; have b2 := b1.fr0 f2; have F2 := f1.thenN f2; have z2 := f2.size)
    | (at_builtin; go_must (refine wpList_appR (ec := encG) (sz := 5) rfl _ _ 34 rfl w1.heap.size 63 _ 16 Try.underlying34 leaf_info rfl (by decide) _ [] rfl o2 _ L rfl h2 (by intro y hy u hu; exact encG_one y u hu) ?hq1 ?hq2 ?hq3 ?_; rotate_left 3; intro v3 w3 o3 hg3; rw [List.nil_append] at o3; have hg3 : w2.grownBy w3 (some g2) := hg3; have f3 : Fr (onB1 g2) w2 w3 := (Fr.refl _ _).grown hg3 (fun k hk _ => (Option.some.inj hk).symm); have b3 := b2.ne f3 (by omega); have F3 := F2.thenT (S := noB) f3 (fun i hi q => by unfold onB1 at q; omega); obtain ⟨g4, c4, cur, rfl, _, _, _, _, _⟩ := o3.bx (by omega); have nb3 := o3.newB g4 rfl))
    | (with_reducible refine at_wpP ?_; refine at_ld 63 _ rfl ?_; go_must (refine wpList_ldLf rfl _ rfl g5 rfl x b3 ?_))
    | (refine at_idx 34 _ _ rfl ?_; go_must (refine wpList_idxO rfl 34 _ _ rfl 63 Try.underlying34 leaf_size g4 _ c4 rfl .i64 _ j rfl rfl hj ?_))
    | (with_reducible refine at_wpP ?_; refine at_st 63 _ _ rfl ?_; go_must (refine wpList_stR rfl 63 _ _ rfl g4 _ c4 o3 j hj rfl x rfl rfl (encG_one x) leaf_size ?_; intro w4 o4 f4)))
  case hq1 => unfold maxLen; simp; omega
  case hq2 => simp; omega
  case hq3 => omega
  go_ret
  refine ⟨_, rfl, o4.rebase (by omega), F3.thenT (S := noB) f4 (fun i hi q => by unfold onB1 at q; omega)⟩
theorem plHeld_out {L : List Pg} {i : Int} (h : ¬ (0 ≤ i ∧ i < (L.length : Int))) : plHeld L i = false := by
  unfold plHeld plIn
  have : (decide (0 ≤ i) && decide (i < (L.length : Int))) = false := by simp; omega
  rw [this]; rfl
theorem plHeld_nat {L : List Pg} {j : Nat} (h : j < L.length) : plHeld L (j : Int) = (plAt L j).held := by
  unfold plHeld plIn
  simp [h]
set_option maxRecDepth 100000 in
set_option maxHeartbeats 1000000 in
theorem rheld_any {L : List Pg} (hL : plOk L) (v : Value) (i : Int) (w : World) (h : SlG w v L) :
    Calls Try.prog 37 #[v, .int .i64 i] w fun r w' => r = .returned (.bool (plHeld L i)) ∧ w = w' := by
  obtain ⟨a0, c0, rfl, hc0⟩ := h.opn
  have hl240 := hL.1
  by_cases h0 : 0 ≤ i
  · by_cases h1 : i < (L.length : Int)
    · obtain ⟨j, rfl⟩ := Int.eq_ofNat_of_zero_le h0
      have hj : j < L.length := by omega
      have hx := hL.2 j
      rw [plHeld_nat hj, held_leaf hx.1]
      rw [plAt_get L j hj] at hx ⊢
      obtain ⟨x, Hx⟩ : ∃ x, Hid (L[j] = x) := ⟨L[j], (rfl : L[j] = L[j])⟩
      rw [Hx.out] at hx ⊢
      by_cases hc : 0 < x.c
      · go_enter Try.func37, Try.ntmps37
        go_wp2_with (first
          | (refine at_idx 34 _ _ rfl ?_; refine wpList_idxR rfl 34 _ _ rfl 63 Try.underlying34 5 leaf_size _ _ _ rfl h (by decide) _ _ j rfl rfl hj ?_; rw [Hx.out]; intro ba oa hba hca; have q0 := hca 0 _ rfl; rw [Nat.add_zero] at q0; have q1 := hca 1 _ rfl; have q2 := hca 2 _ rfl))
        go_ret
        exact ⟨by simp [hc], rfl⟩
      · have hc' : x.c = 0 := by have := hx.1; omega
        by_cases hs : (x.s == 1) = true
        · go_enter Try.func37, Try.ntmps37
          go_wp2_with (first
            | (refine at_idx 34 _ _ rfl ?_; refine wpList_idxR rfl 34 _ _ rfl 63 Try.underlying34 5 leaf_size _ _ _ rfl h (by decide) _ _ j rfl rfl hj ?_; rw [Hx.out]; intro ba oa hba hca; have q0 := hca 0 _ rfl; rw [Nat.add_zero] at q0; have q1 := hca 1 _ rfl; have q2 := hca 2 _ rfl; rw [hs] at q1; rw [hc'] at q0))
          go_ret
          exact ⟨by simp [hs], rfl⟩
        · have hs : (x.s == 1) = false := by simpa using hs
          go_enter Try.func37, Try.ntmps37
          go_wp2_with (first
            | (refine at_idx 34 _ _ rfl ?_; refine wpList_idxR rfl 34 _ _ rfl 63 Try.underlying34 5 leaf_size _ _ _ rfl h (by decide) _ _ j rfl rfl hj ?_; rw [Hx.out]; intro ba oa hba hca; have q0 := hca 0 _ rfl; rw [Nat.add_zero] at q0; have q1 := hca 1 _ rfl; have q2 := hca 2 _ rfl; rw [hs] at q1; rw [hc'] at q0))
          go_ret
          exact ⟨by simp [hs, hc'], rfl⟩
    · rw [plHeld_out (by omega)]
      go_enter Try.func37, Try.ntmps37
      go_wp2
      go_ret
      exact ⟨rfl, rfl⟩
  · rw [plHeld_out (by omega)]
    have h1 : decide (0 ≤ i) = false := by simpa using h0
    go_enter Try.func37, Try.ntmps37
    go_wp2
    go_ret
    exact ⟨rfl, rfl⟩
theorem nwB_own {w w' : World} {v v' : Value} {L : List Pg} (o : OwnG w' w.heap.size v' L) : nwB w w' v v' := fun q h => Or.inr (o.newB q h)
set_option maxRecDepth 100000 in
set_option maxHeartbeats 1000000 in
theorem rtake_any {L : List Pg} (hL : plOk L) (v : Value) (w : World) (h : SlG w v L) :
    Calls Try.prog 16 #[v] w fun r w' => ∃ v', r = .returned (.tuple #[v', .int .i64 (plTake L).2.1, .int .i64 (plTake L).2.2]) ∧ SlG w' v' (plTake L).1 ∧ nwB w w' v v' ∧ Fr noB w w' := by
  obtain ⟨a0, c0, rfl, hc0⟩ := h.opn
  have hl240 := hL.1
  obtain ⟨R, HR⟩ : ∃ R, Hid (plTake L = R) := ⟨_, rfl⟩
  rw [HR.out]
  go_enter Try.func16, Try.ntmps16
  go_wp2
  go_loopw [9] (fun i wr => ∃ (k : Nat), k ≤ L.length ∧ i = .int .i64 (k : Int) ∧ Fr noB w wr ∧ Hid (∀ j, j < k → (plAt L j).free = false)) (fun i _ => L.length - (intOf i).toNat)
  case atStart => exact ⟨0, by omega, rfl, Fr.refl _ _, (show Hid _ from fun j hj => by omega)⟩
  case round =>
    obtain ⟨k, hk, rfl, hf, hn⟩ := hrel
    have zf := hf.size
    by_cases hlt : k < L.length
    · have hx := hL.2 k
      have hg := plAt_get L k hlt
      obtain ⟨x, Hx⟩ : ∃ x, Hid (L[k] = x) := ⟨L[k], (rfl : L[k] = L[k])⟩
      rw [Hx.out] at hg
      rw [hg] at hx
      have hg := show Hid _ from hg
      have hx4 := hx.2.2.1
      cases hb : x.free with
      | false =>
        have hn1 : Hid (∀ j, j < k + 1 → (plAt L j).free = false) := by
          show ∀ j, _
          intro j hj
          by_cases e : j = k
          · rw [e, hg.out]; exact hb
          · exact hn.out j (by omega)
        go_wp2_with (first
          | (refine at_idx 34 _ _ rfl ?_; go_must (refine wpList_idxR rfl 34 _ _ rfl 63 Try.underlying34 5 leaf_size _ _ _ rfl (h.fr0 hf) (by decide) _ _ k rfl rfl hlt ?_; rw [Hx.out]; intro ba oa hba hca))
          | (with_reducible refine at_wpP ?_; refine at_ld 63 _ rfl ?_; refine wpList_ldAt rfl _ rfl ba oa rfl x hca ?_)
          | (with_reducible refine at_wpP ?_; refine wpList_allocLf rfl rfl ?_; intro g6 w1 hg6 b1 f1 s6; have l1 := b1.lt; have F1 := hf.thenN f1)
          | (with_reducible refine at_wpP ?_; refine at_st 63 _ _ rfl ?_; go_must (refine wpList_stLf rfl _ _ rfl g6 rfl Pg0 x b1 rfl ?_; intro w2 b2 f2; have F2 := F1.thenT (S := noB) f2 (fun i hi q => by unfold onB1 at q; omega); obtain ⟨q0, q1, q2, q3, q4⟩ := b2.all))
          | (with_reducible refine at_wpP ?_; refine at_ld 63 _ rfl ?_; go_must (refine wpList_ldLf rfl _ rfl g6 rfl x b2 ?_))
          | (go_at_call 35; go_must (refine (rfree_any x hx4 _).mono ?_; rintro e w3 ⟨rfl, f3⟩; rw [hb]; have F3 := F2.thenN f3)))
        go_roundw
        case rel => exact ⟨k + 1, by omega, by go_num, F3, hn1⟩
        case measure => simp [intOf]; omega
      | true =>
        have hR := show Hid _ from plTake_some L k hlt (by rw [hg.out]; exact hb) hn.out
        go_wp2_with (first
          | (refine at_idx 34 _ _ rfl ?_; go_must (refine wpList_idxR rfl 34 _ _ rfl 63 Try.underlying34 5 leaf_size _ _ _ rfl (h.fr0 hf) (by decide) _ _ k rfl rfl hlt ?_; rw [Hx.out]; intro ba oa hba hca))
          | (with_reducible refine at_wpP ?_; refine at_ld 63 _ rfl ?_; refine wpList_ldAt rfl _ rfl ba oa rfl x hca ?_)
          | (with_reducible refine at_wpP ?_; refine wpList_allocLf rfl rfl ?_; intro g6 w1 hg6 b1 f1 s6; have l1 := b1.lt; have F1 := hf.thenN f1)
          | (with_reducible refine at_wpP ?_; refine at_st 63 _ _ rfl ?_; go_must (refine wpList_stLf rfl _ _ rfl g6 rfl Pg0 x b1 rfl ?_; intro w2 b2 f2; have F2 := F1.thenT (S := noB) f2 (fun i hi q => by unfold onB1 at q; omega); obtain ⟨q0, q1, q2, q3, q4⟩ := b2.all))
          | (with_reducible refine at_wpP ?_; refine at_ld 63 _ rfl ?_; go_must (refine wpList_ldLf rfl _ rfl g6 rfl x b2 ?_))
          | (go_at_call 35; go_must (refine (rfree_any x hx4 _).mono ?_; rintro e w3 ⟨rfl, f3⟩; rw [hb]; have F3 := F2.thenN f3))
          | (with_reducible refine at_wpP ?_; refine wpList_bldLf rfl _ rfl ⟨0, 1⟩ _ rfl built_leaf1 ?_)
          | (go_at_call 36; go_must (refine (rchange_any _ k hlt hl240 ⟨0, 1⟩ _ (h.fr0 F3)).mono ?_; rintro e w4 ⟨v4, rfl, o4, f4⟩; have F4 := F3.thenN f4; have z3 := F3.size)))
        go_ret3
        rw [← HR.out, hR.out]
        exact ⟨_, rfl, o4.sl, nwB_own (o4.rebase z3), F4⟩
    · obtain rfl : k = L.length := by omega
      have hR := show Hid _ from plTake_none L hn.out
      go_wp2
      go_ret3
      rw [← HR.out, hR.out]
      exact ⟨_, rfl, h.fr0 hf, fun q hq => Or.inl hq, hf⟩
set_option maxRecDepth 100000 in
set_option maxHeartbeats 1000000 in
theorem rhold_any {L : List Pg} (hL : plOk L) (v : Value) (i : Int) (w : World) (h : SlG w v L) :
    Calls Try.prog 17 #[v, .int .i64 i] w fun r w' => ∃ v', r = .returned (.tuple #[v', .int .i64 (plHold L i).2]) ∧ SlG w' v' (plHold L i).1 ∧ nwB w w' v v' ∧ Fr noB w w' := by
  have hv := h.opn
  have hl240 := hL.1
  cases hh : plHeld L i with
  | false =>
    obtain ⟨a0, c0, rfl, hc0⟩ := hv
    rw [plHold_not hh]
    go_enter Try.func17, Try.ntmps17
    go_wp2_with (first
      | (go_at_call 37; go_must (refine (rheld_any hL _ i _ h).mono ?_; rintro e w' ⟨rfl, rfl⟩; rw [hh])))
    go_ret2
    exact ⟨_, rfl, h, fun q hq => Or.inl hq, Fr.refl _ _⟩
  | true =>
    obtain ⟨j, rfl, hj⟩ := plHeld_in hh
    have hx := hL.2 j
    have hg := plAt_get L j hj
    have hful := fun hc => show Hid _ from plHold_full (L := L) (j := j) hh hc
    have hyes := fun hc => show Hid _ from plHold_yes (L := L) (j := j) hh hc
    obtain ⟨R, HR⟩ : ∃ R, Hid (plHold L (j : Int) = R) := ⟨_, rfl⟩
    rw [HR.out] at hful hyes ⊢
    obtain ⟨x, Hx⟩ : ∃ x, Hid (L[j] = x) := ⟨L[j], (rfl : L[j] = L[j])⟩
    rw [hg, Hx.out] at hful hyes hx
    obtain ⟨a0, c0, rfl, hc0⟩ := hv
    have x0 := hx.1
    have x1 := hx.2.1
    clear hx hg
    have f0 := Fr.refl noB w
    by_cases h255 : x.c = 255
    · have hR := hful h255
      clear hful hyes
      go_enter Try.func17, Try.ntmps17
      go_wp2_with (first
        | (go_at_call 37; go_must (refine (rheld_any hL _ j _ h).mono ?_; rintro e w' ⟨rfl, rfl⟩; rw [hh]))
        | (refine at_idx 34 _ _ rfl ?_; go_must (refine wpList_idxR rfl 34 _ _ rfl 63 Try.underlying34 5 leaf_size _ _ _ rfl h (by decide) _ _ j rfl rfl hj ?_; rw [Hx.out]; intro ba oa hba hca))
        | (with_reducible refine at_wpP ?_; refine at_ld 63 _ rfl ?_; refine wpList_ldAt rfl _ rfl ba oa rfl x hca ?_)
        | (with_reducible refine at_wpP ?_; refine wpList_allocLf rfl rfl ?_; intro g6 w1 hg6 b1 f1 s6; have l1 := b1.lt; have F1 := f0.thenN f1)
        | (with_reducible refine at_wpP ?_; refine at_st 63 _ _ rfl ?_; go_must (refine wpList_stLf rfl _ _ rfl g6 rfl Pg0 x b1 rfl ?_; intro w2 b2 f2; have F2 := F1.thenT (S := noB) f2 (fun i hi q => by unfold onB1 at q; omega); obtain ⟨q0, q1, q2, q3, q4⟩ := b2.all; rw [h255] at q0)))
      go_ret2
      rw [hR.out]
      exact ⟨_, rfl, h.fr0 F2, fun q hq => Or.inl hq, F2⟩
    · have hR := hyes h255
      have h255' : (x.c == 255) = false := by simpa using h255
      have hwr : IntKind.i64.wrap (x.c + 1) = x.c + 1 := by rw [IntKind.wrap_i64]; omega
      have hy1 : Hid ((encG x).set 0 (.int .i64 (x.c + 1)) = encG ⟨x.c + 1, x.s⟩) := rfl
      clear hful hyes h255
      go_enter Try.func17, Try.ntmps17
      go_wp2_with (first
        | (go_at_call 37; go_must (refine (rheld_any hL _ j _ h).mono ?_; rintro e w' ⟨rfl, rfl⟩; rw [hh]))
        | (refine at_idx 34 _ _ rfl ?_; go_must (refine wpList_idxR rfl 34 _ _ rfl 63 Try.underlying34 5 leaf_size _ _ _ rfl h (by decide) _ _ j rfl rfl hj ?_; rw [Hx.out]; intro ba oa hba hca))
        | (with_reducible refine at_wpP ?_; refine at_ld 63 _ rfl ?_; refine wpList_ldAt rfl _ rfl ba oa rfl x hca ?_)
        | (with_reducible refine at_wpP ?_; refine wpList_allocLf rfl rfl ?_; intro g6 w1 hg6 b1 f1 s6; have l1 := b1.lt; have F1 := f0.thenN f1)
        | (with_reducible refine at_wpP ?_; refine at_st 63 _ _ rfl ?_; go_must (refine wpList_stLf rfl _ _ rfl g6 rfl Pg0 x b1 rfl ?_; intro w2 b2 f2; have F2 := F1.thenT (S := noB) f2 (fun i hi q => by unfold onB1 at q; omega); obtain ⟨q0, q1, q2, q3, q4⟩ := b2.all))
        | (with_reducible refine at_wpP ?_; refine at_st 3 _ _ rfl ?_; go_must (refine wpList_store1 rfl 3 _ _ rfl g6 0 rfl (.int .i64 (x.c + 1)) rfl rfl _ _ b2 size_int (by rw [encG_len]; decide) ?_; intro w3 b3 f3; rw [hy1.out] at b3; have F3 := F2.thenT (S := noB) f3 (fun i hi q => by unfold onB1 at q; omega)))
        | (with_reducible refine at_wpP ?_; refine at_ld 63 _ rfl ?_; go_must (refine wpList_ldLf rfl _ rfl g6 rfl _ b3 ?_))
        | (go_at_call 36; go_must (refine (rchange_any _ j hj hl240 ⟨x.c + 1, x.s⟩ _ (h.fr0 F3)).mono ?_; rintro e w4 ⟨v4, rfl, o4, f4⟩; have F4 := F3.thenN f4; have z3 := F3.size)))
      go_ret2
      rw [hR.out]
      exact ⟨_, rfl, o4.sl, nwB_own (o4.rebase z3), F4⟩
set_option maxRecDepth 100000 in
set_option maxHeartbeats 1000000 in
theorem rdrop_any {L : List Pg} (hL : plOk L) (v : Value) (i : Int) (w : World) (h : SlG w v L) :
    Calls Try.prog 19 #[v, .int .i64 i] w fun r w' => ∃ v', r = .returned (.tuple #[v', .bool (plDrop L i).2.1, .int .i64 (plDrop L i).2.2]) ∧ SlG w' v' (plDrop L i).1 ∧ nwB w w' v v' ∧ Fr noB w w' := by
  have hv := h.opn
  have hl240 := hL.1
  cases hh : plHeld L i with
  | false =>
    obtain ⟨a0, c0, rfl, hc0⟩ := hv
    rw [plDrop_not hh]
    go_enter Try.func19, Try.ntmps19
    go_wp2_with (first
      | (go_at_call 37; go_must (refine (rheld_any hL _ i _ h).mono ?_; rintro e w' ⟨rfl, rfl⟩; rw [hh])))
    go_ret3
    exact ⟨_, rfl, h, fun q hq => Or.inl hq, Fr.refl _ _⟩
  | true =>
    obtain ⟨j, rfl, hj⟩ := plHeld_in hh
    have hx := hL.2 j
    have hg := plAt_get L j hj
    have hless := fun hc => show Hid _ from plDrop_less (L := L) (j := j) hh hc
    have hup := fun hc => show Hid _ from plDrop_up (L := L) (j := j) hh hc
    obtain ⟨R, HR⟩ : ∃ R, Hid (plDrop L (j : Int) = R) := ⟨_, rfl⟩
    rw [HR.out] at hless hup ⊢
    obtain ⟨x, Hx⟩ : ∃ x, Hid (L[j] = x) := ⟨L[j], (rfl : L[j] = L[j])⟩
    rw [hg, Hx.out] at hless hup hx
    obtain ⟨a0, c0, rfl, hc0⟩ := hv
    have x0 := hx.1
    have x1 := hx.2.1
    have hbd := show Hid _ from built_leafD x.s hx.2.2.1
    clear hx hg
    have f0 := Fr.refl noB w
    by_cases h1 : 1 < x.c
    · have hR := hless h1
      have hwr : IntKind.i64.wrap (x.c - 1) = x.c - 1 := by rw [IntKind.wrap_i64]; omega
      have hy1 : Hid ((encG x).set 0 (.int .i64 (x.c - 1)) = encG ⟨x.c - 1, x.s⟩) := rfl
      clear hless hup
      go_enter Try.func19, Try.ntmps19
      go_wp2_with (first
        | (go_at_call 37; go_must (refine (rheld_any hL _ j _ h).mono ?_; rintro e w' ⟨rfl, rfl⟩; rw [hh]))
        | (refine at_idx 34 _ _ rfl ?_; go_must (refine wpList_idxR rfl 34 _ _ rfl 63 Try.underlying34 5 leaf_size _ _ _ rfl h (by decide) _ _ j rfl rfl hj ?_; rw [Hx.out]; intro ba oa hba hca))
        | (with_reducible refine at_wpP ?_; refine at_ld 63 _ rfl ?_; refine wpList_ldAt rfl _ rfl ba oa rfl x hca ?_)
        | (with_reducible refine at_wpP ?_; refine wpList_allocLf rfl rfl ?_; intro g6 w1 hg6 b1 f1 s6; have l1 := b1.lt; have F1 := f0.thenN f1)
        | (with_reducible refine at_wpP ?_; refine at_st 63 _ _ rfl ?_; go_must (refine wpList_stLf rfl _ _ rfl g6 rfl Pg0 x b1 rfl ?_; intro w2 b2 f2; have F2 := F1.thenT (S := noB) f2 (fun i hi q => by unfold onB1 at q; omega); obtain ⟨q0, q1, q2, q3, q4⟩ := b2.all))
        | (with_reducible refine at_wpP ?_; refine at_st 3 _ _ rfl ?_; go_must (refine wpList_store1 rfl 3 _ _ rfl g6 0 rfl (.int .i64 (x.c - 1)) rfl rfl _ _ b2 size_int (by rw [encG_len]; decide) ?_; intro w3 b3 f3; rw [hy1.out] at b3; have F3 := F2.thenT (S := noB) f3 (fun i hi q => by unfold onB1 at q; omega)))
        | (with_reducible refine at_wpP ?_; refine at_ld 63 _ rfl ?_; go_must (refine wpList_ldLf rfl _ rfl g6 rfl _ b3 ?_))
        | (go_at_call 36; go_must (refine (rchange_any _ j hj hl240 ⟨x.c - 1, x.s⟩ _ (h.fr0 F3)).mono ?_; rintro e w4 ⟨v4, rfl, o4, f4⟩; have F4 := F3.thenN f4; have z3 := F3.size)))
      go_ret3
      rw [hR.out]
      exact ⟨_, rfl, o4.sl, nwB_own (o4.rebase z3), F4⟩
    · have hR := hup h1
      clear hless hup
      cases hs1 : (x.s == 1) with
      | true =>
        have hs2 : (x.s == 2) = false := by simp at hs1 ⊢; omega
        have hbd : Hid (Try.prog.built 63 [(3, .bool false), (4, .bool false)] = some (encG ⟨0, dropS x.s⟩).toArray) := by
          have := hbd.out
          rw [hs1, hs2] at this
          exact this
        go_enter Try.func19, Try.ntmps19
        go_wp2_with (first
          | (go_at_call 37; go_must (refine (rheld_any hL _ j _ h).mono ?_; rintro e w' ⟨rfl, rfl⟩; rw [hh]))
          | (refine at_idx 34 _ _ rfl ?_; go_must (refine wpList_idxR rfl 34 _ _ rfl 63 Try.underlying34 5 leaf_size _ _ _ rfl h (by decide) _ _ j rfl rfl hj ?_; rw [Hx.out]; intro ba oa hba hca))
          | (with_reducible refine at_wpP ?_; refine at_ld 63 _ rfl ?_; refine wpList_ldAt rfl _ rfl ba oa rfl x hca ?_)
          | (with_reducible refine at_wpP ?_; refine wpList_allocLf rfl rfl ?_; intro g6 w1 hg6 b1 f1 s6; have l1 := b1.lt; have F1 := f0.thenN f1)
          | (with_reducible refine at_wpP ?_; refine at_st 63 _ _ rfl ?_; go_must (refine wpList_stLf rfl _ _ rfl g6 rfl Pg0 x b1 rfl ?_; intro w2 b2 f2; have F2 := F1.thenT (S := noB) f2 (fun i hi q => by unfold onB1 at q; omega); obtain ⟨q0, q1, q2, q3, q4⟩ := b2.all; rw [hs1] at q1; rw [hs2] at q2))
          | (with_reducible refine at_wpP ?_; refine wpList_bldLf rfl _ rfl ⟨0, dropS x.s⟩ [(3, .bool false), (4, .bool false)] rfl hbd.out ?_)
          | (go_at_call 36; go_must (refine (rchange_any _ j hj hl240 ⟨0, dropS x.s⟩ _ (h.fr0 F2)).mono ?_; rintro e w4 ⟨v4, rfl, o4, f4⟩; have F4 := F2.thenN f4; have z3 := F2.size)))
        go_ret3
        rw [hR.out]
        exact ⟨_, rfl, o4.sl, nwB_own (o4.rebase z3), F4⟩

      | false =>
        have hbd : Hid (Try.prog.built 63 [(3, .bool (x.s == 2)), (4, .bool (!(x.s == 2)))] = some (encG ⟨0, dropS x.s⟩).toArray) := by
          have := hbd.out
          rw [hs1] at this
          exact this
        go_enter Try.func19, Try.ntmps19
        go_wp2_with (first
          | (go_at_call 37; go_must (refine (rheld_any hL _ j _ h).mono ?_; rintro e w' ⟨rfl, rfl⟩; rw [hh]))
          | (refine at_idx 34 _ _ rfl ?_; go_must (refine wpList_idxR rfl 34 _ _ rfl 63 Try.underlying34 5 leaf_size _ _ _ rfl h (by decide) _ _ j rfl rfl hj ?_; rw [Hx.out]; intro ba oa hba hca))
          | (with_reducible refine at_wpP ?_; refine at_ld 63 _ rfl ?_; refine wpList_ldAt rfl _ rfl ba oa rfl x hca ?_)
          | (with_reducible refine at_wpP ?_; refine wpList_allocLf rfl rfl ?_; intro g6 w1 hg6 b1 f1 s6; have l1 := b1.lt; have F1 := f0.thenN f1)
          | (with_reducible refine at_wpP ?_; refine at_st 63 _ _ rfl ?_; go_must (refine wpList_stLf rfl _ _ rfl g6 rfl Pg0 x b1 rfl ?_; intro w2 b2 f2; have F2 := F1.thenT (S := noB) f2 (fun i hi q => by unfold onB1 at q; omega); obtain ⟨q0, q1, q2, q3, q4⟩ := b2.all; rw [hs1] at q1))
          | (with_reducible refine at_wpP ?_; refine wpList_bldLf rfl _ rfl ⟨0, dropS x.s⟩ [(3, .bool (x.s == 2)), (4, .bool (!(x.s == 2)))] rfl hbd.out ?_)
          | (go_at_call 36; go_must (refine (rchange_any _ j hj hl240 ⟨0, dropS x.s⟩ _ (h.fr0 F2)).mono ?_; rintro e w4 ⟨v4, rfl, o4, f4⟩; have F4 := F2.thenN f4; have z3 := F2.size)))
        go_ret3
        rw [hR.out]
        exact ⟨_, rfl, o4.sl, nwB_own (o4.rebase z3), F4⟩
end Go.Proofs.Ytghkpeejogldkaa
/- The document's pool: Mark, Tidy, Commit. (Written by y8_gen.py.) -/
namespace Go.Proofs.Ytghkpeejogldkaa
open Go.RowKit Go.Proofs.U
set_option linter.unusedSimpArgs false
set_option linter.unusedVariables false
theorem size_bool7 : (Try.prog.info? 4).map (·.size) = some 1 := by kernel_rfl
set_option maxRecDepth 100000 in
set_option maxHeartbeats 1000000 in
theorem rcommit_any {L : List Pg} (hL : plOk L) (v : Value) (w : World) (h : SlG w v L) :
    Calls Try.prog 21 #[v] w fun r w' => ∃ v', r = .returned v' ∧ OwnG w' w.heap.size v' (plCommit L) ∧ Fr noB w w' := by
  obtain ⟨a0, c0, rfl, hc0⟩ := h.opn
  have hl240 := hL.1
  obtain ⟨M, HM⟩ : ∃ M, Hid (plCommit L = M) := ⟨_, rfl⟩
  rw [HM.out]
  go_enter Try.func21, Try.ntmps21
  go_wp2_with (first
    | (with_reducible refine at_wpP ?_; refine wpList_mk0 encG 5 rfl 34 rfl 63 Try.underlying34 leaf_size ?_; intro g1 w1 o1 f1 s1 t1))
  go_loopw [3, 9] (fun v i wr => ∃ (k : Nat), k ≤ L.length ∧ i = .int .i64 (k : Int) ∧ OwnG wr w.heap.size v ((L.take k).map commP) ∧ Fr noB w wr) (fun _ i _ => L.length - (intOf i).toNat)
  case atStart => exact ⟨0, Nat.zero_le _, rfl, o1, f1⟩
  case round =>
    obtain ⟨k, hk, rfl, ho, hf⟩ := hrel
    by_cases hlt : k < L.length
    · obtain ⟨x, Hx⟩ : ∃ x, Hid (L[k] = x) := ⟨L[k], (rfl : L[k] = L[k])⟩
      obtain ⟨Y, HY⟩ : ∃ Y, Hid ((L.take k).map commP = Y) := ⟨_, rfl⟩
      have hYl : Hid (Y.length = k) := by show _ = _; rw [← HY.out]; simp; omega
      rw [HY.out] at ho
      obtain ⟨a5, c5, rfl⟩ := ho.opn
      have hnx : Hid ((L.take (k + 1)).map commP = Y ++ [commP x]) := by
        show _ = _
        rw [← HY.out, List.take_succ_eq_append_getElem hlt, List.map_append, Hx.out]; rfl
      have zf := hf.size
      go_wp2_with (first
        | (refine at_idx 34 _ _ rfl ?_; go_must (refine wpList_idxR rfl 34 _ _ rfl 63 Try.underlying34 5 leaf_size _ _ _ rfl (h.fr0 hf) (by decide) _ _ k rfl rfl hlt ?_; rw [Hx.out]; intro ba oa hba hca))
        | (with_reducible refine at_wpP ?_; refine at_ld 63 _ rfl ?_; refine wpList_ldAt rfl _ rfl ba oa rfl x hca ?_)
        | (with_reducible refine at_wpP ?_; refine wpList_allocLf rfl rfl ?_; intro g6 w1 hg6 b1 f1 s6; have l1 := b1.lt; have F1 := hf.thenN f1; have o1 := ho.fr0 f1; have z1 := f1.size; have g6n : ∀ q, (Value.slice a5 Y.length c5).ownBlock = some q → q ≠ g6 := fun q hq => by have := (ho.newB q hq).2; omega)
        | (with_reducible refine at_wpP ?_; refine at_st 63 _ _ rfl ?_; go_must (refine wpList_stLf rfl _ _ rfl g6 rfl Pg0 x b1 rfl ?_; intro w2 b2 f2; have F2 := F1.thenT (S := noB) f2 (fun i hi q => by unfold onB1 at q; omega); have o2 := o1.ne f2 g6n; obtain ⟨q0, q1, q2, q3, q4⟩ := b2.all))
        | (with_reducible refine at_wpP ?_; refine wpList_bldLf rfl _ rfl (commP x) [(0, .int .i64 x.c)] rfl (built_leafC x.c) ?_)
        | (with_reducible refine at_wpP ?_; refine wpList_mk1 (ec := encG) (sz := 5) rfl 34 _ rfl 63 Try.underlying34 _ leaf_info2 (by decide) (by decide) (commP x) _ rfl rfl rfl ?_; intro g7 w7 s7 f7 r7 t7; have o7 := o2.fr0 f7; have F7 := F2.thenN f7)
        | (at_builtin; go_must (refine wpList_appR (ec := encG) (sz := 5) rfl _ _ 34 rfl w.heap.size 63 _ 16 Try.underlying34 leaf_info rfl (by decide) _ Y rfl o7 _ [commP x] rfl s7 (by intro y hy u hu; exact encG_one y u hu) ?hq1 ?hq2 ?hq3 ?_; rotate_left 3; intro v8 w8 o8 hg8; have F8 := o7.grown F7 (Nat.le_refl _) hg8)))
      case hq1 => have := hYl.out; unfold maxLen; simp; omega
      case hq2 => have := hYl.out; simp; omega
      case hq3 => have := F7.size; omega
      go_roundw
      case rel => exact ⟨k + 1, by omega, by go_num, by rw [hnx.out]; exact o8, F8⟩
      case measure => simp [intOf]; omega
    · obtain rfl : k = L.length := by omega
      rw [List.take_length] at ho
      have ho : OwnG _ w.heap.size _ (plCommit L) := ho
      rw [HM.out] at ho
      obtain ⟨a5, c5, rfl⟩ := ho.opn
      go_wp2
      go_ret
      exact ⟨_, rfl, ho, hf⟩
set_option maxRecDepth 100000 in
set_option maxHeartbeats 1000000 in
theorem rtidy_any {L : List Pg} (hL : plOk L) (v : Value) (w : World) (h : SlG w v L) :
    Calls Try.prog 27 #[v] w fun r w' => ∃ v', r = .returned v' ∧ OwnG w' w.heap.size v' (plTidy L) ∧ Fr noB w w' := by
  obtain ⟨a0, c0, rfl, hc0⟩ := h.opn
  have hl240 := hL.1
  obtain ⟨M, HM⟩ : ∃ M, Hid (plTidy L = M) := ⟨_, rfl⟩
  rw [HM.out]
  go_enter Try.func27, Try.ntmps27
  go_wp2_with (first
    | (with_reducible refine at_wpP ?_; refine wpList_mk0 encG 5 rfl 34 rfl 63 Try.underlying34 leaf_size ?_; intro g1 w1 o1 f1 s1 t1))
  go_loopw [3, 9] (fun v i wr => ∃ (k : Nat), k ≤ L.length ∧ i = .int .i64 (k : Int) ∧ OwnG wr w.heap.size v ((L.take k).map tidyP) ∧ Fr noB w wr) (fun _ i _ => L.length - (intOf i).toNat)
  case atStart => exact ⟨0, Nat.zero_le _, rfl, o1, f1⟩
  case round =>
    obtain ⟨k, hk, rfl, ho, hf⟩ := hrel
    by_cases hlt : k < L.length
    · obtain ⟨x, Hx⟩ : ∃ x, Hid (L[k] = x) := ⟨L[k], (rfl : L[k] = L[k])⟩
      obtain ⟨Y, HY⟩ : ∃ Y, Hid ((L.take k).map tidyP = Y) := ⟨_, rfl⟩
      have hYl : Hid (Y.length = k) := by show _ = _; rw [← HY.out]; simp; omega
      rw [HY.out] at ho
      obtain ⟨a5, c5, rfl⟩ := ho.opn
      have hnx : Hid ((L.take (k + 1)).map tidyP = Y ++ [tidyP x]) := by
        show _ = _
        rw [← HY.out, List.take_succ_eq_append_getElem hlt, List.map_append, Hx.out]; rfl
      have zf := hf.size
      have hty : Hid ((encG x).set 3 (.bool false) = encG (tidyP x)) := by show _ = _; rw [tidy_leaf]; rfl
      go_wp2_with (first
        | (refine at_idx 34 _ _ rfl ?_; go_must (refine wpList_idxR rfl 34 _ _ rfl 63 Try.underlying34 5 leaf_size _ _ _ rfl (h.fr0 hf) (by decide) _ _ k rfl rfl hlt ?_; rw [Hx.out]; intro ba oa hba hca))
        | (with_reducible refine at_wpP ?_; refine at_ld 63 _ rfl ?_; refine wpList_ldAt rfl _ rfl ba oa rfl x hca ?_)
        | (with_reducible refine at_wpP ?_; refine wpList_allocLf rfl rfl ?_; intro g6 w1 hg6 b1 f1 s6; have l1 := b1.lt; have F1 := hf.thenN f1; have o1 := ho.fr0 f1; have z1 := f1.size; have g6n : ∀ q, (Value.slice a5 Y.length c5).ownBlock = some q → q ≠ g6 := fun q hq => by have := (ho.newB q hq).2; omega)
        | (with_reducible refine at_wpP ?_; refine at_st 63 _ _ rfl ?_; go_must (refine wpList_stLf rfl _ _ rfl g6 rfl Pg0 x b1 rfl ?_; intro w2 b2 f2; have F2 := F1.thenT (S := noB) f2 (fun i hi q => by unfold onB1 at q; omega); have o2 := o1.ne f2 g6n; obtain ⟨q0, q1, q2, q3, q4⟩ := b2.all))
        | (with_reducible refine at_wpP ?_; refine at_st 4 _ _ rfl ?_; go_must (refine wpList_store1 rfl 4 _ _ rfl g6 3 rfl (.bool false) rfl rfl _ _ b2 size_bool7 (by simp [encG]) ?_; intro w3 b3 f3; have F3 := F2.thenT (S := noB) f3 (fun i hi q => by unfold onB1 at q; omega); have o3 := o2.ne f3 g6n; rw [hty.out] at b3))
        | (with_reducible refine at_wpP ?_; refine at_ld 63 _ rfl ?_; go_must (refine wpList_ldLf rfl _ rfl g6 rfl (tidyP x) b3 ?_))
        | (with_reducible refine at_wpP ?_; refine wpList_mk1 (ec := encG) (sz := 5) rfl 34 _ rfl 63 Try.underlying34 _ leaf_info2 (by decide) (by decide) (tidyP x) _ rfl rfl rfl ?_; intro g7 w7 s7 f7 r7 t7; have o7 := o3.fr0 f7; have F7 := F3.thenN f7)
        | (at_builtin; go_must (refine wpList_appR (ec := encG) (sz := 5) rfl _ _ 34 rfl w.heap.size 63 _ 16 Try.underlying34 leaf_info rfl (by decide) _ Y rfl o7 _ [tidyP x] rfl s7 (by intro y hy u hu; exact encG_one y u hu) ?hq1 ?hq2 ?hq3 ?_; rotate_left 3; intro v8 w8 o8 hg8; have F8 := o7.grown F7 (Nat.le_refl _) hg8)))
      case hq1 => have := hYl.out; unfold maxLen; simp; omega
      case hq2 => have := hYl.out; simp; omega
      case hq3 => have := F7.size; omega
      go_roundw
      case rel => exact ⟨k + 1, by omega, by go_num, by rw [hnx.out]; exact o8, F8⟩
      case measure => simp [intOf]; omega
    · obtain rfl : k = L.length := by omega
      rw [List.take_length] at ho
      have ho : OwnG _ w.heap.size _ (plTidy L) := ho
      rw [HM.out] at ho
      obtain ⟨a5, c5, rfl⟩ := ho.opn
      go_wp2
      go_ret
      exact ⟨_, rfl, ho, hf⟩
set_option maxRecDepth 100000 in
set_option maxHeartbeats 1000000 in
theorem rmark_any {L : List Pg} (hL : plOk L) (v : Value) (w : World) (h : SlG w v L) :
    Calls Try.prog 24 #[v] w fun r w' => ∃ v', r = .returned v' ∧ OwnG w' w.heap.size v' (plMark L) ∧ Fr noB w w' := by
  obtain ⟨a0, c0, rfl, hc0⟩ := h.opn
  have hl240 := hL.1
  obtain ⟨M, HM⟩ : ∃ M, Hid (plMark L = M) := ⟨_, rfl⟩
  rw [HM.out]
  go_enter Try.func24, Try.ntmps24
  go_wp2_with (first
    | (with_reducible refine at_wpP ?_; refine wpList_mk0 encG 5 rfl 34 rfl 63 Try.underlying34 leaf_size ?_; intro g1 w1 o1 f1 s1 t1))
  go_loopw [3, 9] (fun v i wr => ∃ (k : Nat), k ≤ L.length ∧ i = .int .i64 (k : Int) ∧ OwnG wr w.heap.size v ((L.take k).map markP) ∧ Fr noB w wr) (fun _ i _ => L.length - (intOf i).toNat)
  case atStart => exact ⟨0, Nat.zero_le _, rfl, o1, f1⟩
  case round =>
    obtain ⟨k, hk, rfl, ho, hf⟩ := hrel
    by_cases hlt : k < L.length
    · obtain ⟨x, Hx⟩ : ∃ x, Hid (L[k] = x) := ⟨L[k], (rfl : L[k] = L[k])⟩
      obtain ⟨Y, HY⟩ : ∃ Y, Hid ((L.take k).map markP = Y) := ⟨_, rfl⟩
      have hYl : Hid (Y.length = k) := by show _ = _; rw [← HY.out]; simp; omega
      rw [HY.out] at ho
      obtain ⟨a5, c5, rfl⟩ := ho.opn
      have hnx : Hid ((L.take (k + 1)).map markP = Y ++ [markP x]) := by
        show _ = _
        rw [← HY.out, List.take_succ_eq_append_getElem hlt, List.map_append, Hx.out]; rfl
      have zf := hf.size
      cases hs2 : (x.s == 2) with
      | true =>
        have hm1 : Hid (((encG x).set 2 (.bool true)).set 1 (.bool false) = encG (markP x)) := by show _ = _; rw [mark_leaf, hs2]; rfl
        have hm0 : ((encG x).set 2 (.bool true)).length = 5 := by simp [encG]
        go_wp2_with (first
          | (refine at_idx 34 _ _ rfl ?_; go_must (refine wpList_idxR rfl 34 _ _ rfl 63 Try.underlying34 5 leaf_size _ _ _ rfl (h.fr0 hf) (by decide) _ _ k rfl rfl hlt ?_; rw [Hx.out]; intro ba oa hba hca))
          | (with_reducible refine at_wpP ?_; refine at_ld 63 _ rfl ?_; refine wpList_ldAt rfl _ rfl ba oa rfl x hca ?_)
          | (with_reducible refine at_wpP ?_; refine wpList_allocLf rfl rfl ?_; intro g6 w1 hg6 b1 f1 s6; have l1 := b1.lt; have F1 := hf.thenN f1; have o1 := ho.fr0 f1; have z1 := f1.size; have g6n : ∀ q, (Value.slice a5 Y.length c5).ownBlock = some q → q ≠ g6 := fun q hq => by have := (ho.newB q hq).2; omega)
          | (with_reducible refine at_wpP ?_; refine at_st 63 _ _ rfl ?_; go_must (refine wpList_stLf rfl _ _ rfl g6 rfl Pg0 x b1 rfl ?_; intro w2 b2 f2; have F2 := F1.thenT (S := noB) f2 (fun i hi q => by unfold onB1 at q; omega); have o2 := o1.ne f2 g6n; obtain ⟨q0, q1, q2, q3, q4⟩ := b2.all; rw [hs2] at q2))
          | (with_reducible refine at_wpP ?_; refine at_st 4 _ _ rfl ?_; have b3' := b3; go_must (refine wpList_store1 rfl 4 _ _ rfl g6 1 rfl (.bool false) rfl rfl _ _ b3 size_bool7 (by rw [hm0]; decide) ?_; intro w4 b4 f4; rw [hm1.out] at b4; have F4 := F3.thenT (S := noB) f4 (fun i hi q => by unfold onB1 at q; omega); have o4 := o3.ne f4 g6n))
          | (with_reducible refine at_wpP ?_; refine at_st 4 _ _ rfl ?_; go_must (refine wpList_store1 rfl 4 _ _ rfl g6 2 rfl (.bool true) rfl rfl _ _ b2 size_bool7 (by simp [encG]) ?_; intro w3 b3 f3; have F3 := F2.thenT (S := noB) f3 (fun i hi q => by unfold onB1 at q; omega); have o3 := o2.ne f3 g6n))
          | (with_reducible refine at_wpP ?_; refine at_ld 63 _ rfl ?_; go_must (refine wpList_ldLf rfl _ rfl g6 rfl (markP x) b4 ?_))
          | (with_reducible refine at_wpP ?_; refine wpList_mk1 (ec := encG) (sz := 5) rfl 34 _ rfl 63 Try.underlying34 _ leaf_info2 (by decide) (by decide) (markP x) _ rfl rfl rfl ?_; intro g7 w7 s7 f7 r7 t7; have o7 := o4.fr0 f7; have F7 := F4.thenN f7)
          | (at_builtin; go_must (refine wpList_appR (ec := encG) (sz := 5) rfl _ _ 34 rfl w.heap.size 63 _ 16 Try.underlying34 leaf_info rfl (by decide) _ Y rfl o7 _ [markP x] rfl s7 (by intro y hy u hu; exact encG_one y u hu) ?hq1 ?hq2 ?hq3 ?_; rotate_left 3; intro v8 w8 o8 hg8; have F8 := o7.grown F7 (Nat.le_refl _) hg8)))
        case hq1 => have := hYl.out; unfold maxLen; simp; omega
        case hq2 => have := hYl.out; simp; omega
        case hq3 => have := F7.size; omega
        go_roundw
        case rel => exact ⟨k + 1, by omega, by go_num, by rw [hnx.out]; exact o8, F8⟩
        case measure => simp [intOf]; omega
      | false =>
        have hm1 : Hid (((encG x).set 2 (.bool (x.s == 1))).set 1 (.bool false) = encG (markP x)) := by show _ = _; rw [mark_leaf, hs2]; rfl
        have hm0 : ((encG x).set 2 (.bool (x.s == 1))).length = 5 := by simp [encG]
        go_wp2_with (first
          | (refine at_idx 34 _ _ rfl ?_; go_must (refine wpList_idxR rfl 34 _ _ rfl 63 Try.underlying34 5 leaf_size _ _ _ rfl (h.fr0 hf) (by decide) _ _ k rfl rfl hlt ?_; rw [Hx.out]; intro ba oa hba hca))
          | (with_reducible refine at_wpP ?_; refine at_ld 63 _ rfl ?_; refine wpList_ldAt rfl _ rfl ba oa rfl x hca ?_)
          | (with_reducible refine at_wpP ?_; refine wpList_allocLf rfl rfl ?_; intro g6 w1 hg6 b1 f1 s6; have l1 := b1.lt; have F1 := hf.thenN f1; have o1 := ho.fr0 f1; have z1 := f1.size; have g6n : ∀ q, (Value.slice a5 Y.length c5).ownBlock = some q → q ≠ g6 := fun q hq => by have := (ho.newB q hq).2; omega)
          | (with_reducible refine at_wpP ?_; refine at_st 63 _ _ rfl ?_; go_must (refine wpList_stLf rfl _ _ rfl g6 rfl Pg0 x b1 rfl ?_; intro w2 b2 f2; have F2 := F1.thenT (S := noB) f2 (fun i hi q => by unfold onB1 at q; omega); have o2 := o1.ne f2 g6n; obtain ⟨q0, q1, q2, q3, q4⟩ := b2.all; rw [hs2] at q2))
          | (with_reducible refine at_wpP ?_; refine at_st 4 _ _ rfl ?_; have b3' := b3; go_must (refine wpList_store1 rfl 4 _ _ rfl g6 1 rfl (.bool false) rfl rfl _ _ b3 size_bool7 (by rw [hm0]; decide) ?_; intro w4 b4 f4; rw [hm1.out] at b4; have F4 := F3.thenT (S := noB) f4 (fun i hi q => by unfold onB1 at q; omega); have o4 := o3.ne f4 g6n))
          | (with_reducible refine at_wpP ?_; refine at_st 4 _ _ rfl ?_; go_must (refine wpList_store1 rfl 4 _ _ rfl g6 2 rfl (.bool (x.s == 1)) rfl rfl _ _ b2 size_bool7 (by simp [encG]) ?_; intro w3 b3 f3; have F3 := F2.thenT (S := noB) f3 (fun i hi q => by unfold onB1 at q; omega); have o3 := o2.ne f3 g6n))
          | (with_reducible refine at_wpP ?_; refine at_ld 63 _ rfl ?_; go_must (refine wpList_ldLf rfl _ rfl g6 rfl (markP x) b4 ?_))
          | (with_reducible refine at_wpP ?_; refine wpList_mk1 (ec := encG) (sz := 5) rfl 34 _ rfl 63 Try.underlying34 _ leaf_info2 (by decide) (by decide) (markP x) _ rfl rfl rfl ?_; intro g7 w7 s7 f7 r7 t7; have o7 := o4.fr0 f7; have F7 := F4.thenN f7)
          | (at_builtin; go_must (refine wpList_appR (ec := encG) (sz := 5) rfl _ _ 34 rfl w.heap.size 63 _ 16 Try.underlying34 leaf_info rfl (by decide) _ Y rfl o7 _ [markP x] rfl s7 (by intro y hy u hu; exact encG_one y u hu) ?hq1 ?hq2 ?hq3 ?_; rotate_left 3; intro v8 w8 o8 hg8; have F8 := o7.grown F7 (Nat.le_refl _) hg8)))
        case hq1 => have := hYl.out; unfold maxLen; simp; omega
        case hq2 => have := hYl.out; simp; omega
        case hq3 => have := F7.size; omega
        go_roundw
        case rel => exact ⟨k + 1, by omega, by go_num, by rw [hnx.out]; exact o8, F8⟩
        case measure => simp [intOf]; omega
    · obtain rfl : k = L.length := by omega
      rw [List.take_length] at ho
      have ho : OwnG _ w.heap.size _ (plMark L) := ho
      rw [HM.out] at ho
      obtain ⟨a5, c5, rfl⟩ := ho.opn
      go_wp2
      go_ret
      exact ⟨_, rfl, ho, hf⟩
end Go.Proofs.Ytghkpeejogldkaa
/- A pool in memory: Load. -/
namespace Go.Proofs.Ytghkpeejogldkaa
open Go.RowKit Go.Proofs.U
set_option linter.unusedSimpArgs false
set_option linter.unusedVariables false
theorem plLoad_zero {n : Int} {c : List Int} {L : List Pg} (h : plLoad n c = some L) (j : Nat) : (c.drop (plN n)).getD j 0 = 0 := by
  unfold plLoad at h
  split at h
  · rename_i hz
    by_cases hj : j < (c.drop (plN n)).length
    · have := List.all_eq_true.1 hz _ (List.getElem_mem hj)
      simp only [List.getD, List.getElem?_eq_getElem hj]
      simpa using this
    · rw [List.getD_eq_getElem?_getD, List.getElem?_eq_none (by omega)]; rfl
  · cases h
theorem plLoad_first {n : Int} {c : List Int} (h : plLoad n c = none) : ∃ m, m < (c.drop (plN n)).length ∧ (c.drop (plN n)).getD m 0 ≠ 0 ∧ ∀ j, j < m → (c.drop (plN n)).getD j 0 = 0 := by
  unfold plLoad at h
  split at h
  · cases h
  · rename_i hz
    generalize c.drop (plN n) = D at hz
    have : ∃ x ∈ D, (fun x : Int => !(x == 0)) x = true := by
      have := mt List.all_eq_true.2 hz
      simp at this
      obtain ⟨x, hx, h0⟩ := this
      exact ⟨x, hx, by simpa using h0⟩
    have hl : D.findIdx (fun x => !(x == 0)) < D.length := List.findIdx_lt_length.2 (by simpa using this)
    refine ⟨_, hl, ?_, fun j hj => ?_⟩
    · have := List.findIdx_getElem (w := hl)
      simp only [List.getD, List.getElem?_eq_getElem hl]
      simpa using this
    · have := List.not_of_lt_findIdx hj
      simp only [List.getD, List.getElem?_eq_getElem (show j < D.length by omega)]
      simpa using this
section
variable {t : TypeId} {n : Nat} {w : World} {ops : Array Oper} {rest : List Oper} {o : Oper} {a : Act} {Q : Exit → Act → World → Prop}
/-- p[i:], p an array of bytes, whatever of it is left. -/
theorem wpList_fromD (T : ArrT t n) (hgd : Region.wanted o (yielded ops a.tmps) = true) (x lo : Operand) (ho : o.op = .slice t x (some lo) none none) (g : Nat) (hx : a.eval x = .pointer (some ⟨g, 0, none⟩)) (p : List Int) (hp : p.length = n) (hb : Byt p) (t' : TypeId) (hB : BxV w g t' (pgv p)) (i : Nat) (zl : Int) (hlo : a.eval lo = .int .i64 zl) (hzl : zl = (i : Int)) (hi : i ≤ n)
    (h : ∀ g', SlI .u8 w (.slice (some ⟨g, g', none⟩) (n - i) (n - i)) (p.drop i) → wpList Try.prog ops Q rest (a.put o.dst (.slice (some ⟨g, g', none⟩) (n - i) (n - i))) w) : wpList Try.prog ops Q (o :: rest) a w := by
  refine wpList_wanted hgd fun K hK => ?_
  subst hzl
  have h0 := run_sliceAt_array_l (P := Try.prog) w t ⟨g, 0, none⟩ T.undL .i64 (i : Int) (by omega) (by rw [T.len]; omega)
  obtain ⟨ii, hii, hsz⟩ := Option.map_eq_some_iff.1 size_u8
  simp only [T.elem, sizeOf, typeInfo, T.len, slicedAt, Int.toNat_natCast] at h0
  by_cases e : n = i
  · have hr : (Instr.sliceAt t (.pointer (some ⟨g, 0, none⟩)) (some (.int .i64 (i : Int))) none none).run Try.prog w = .ok (.slice (some ⟨g, 0, none⟩) (n - i) (n - i)) w := by
      rw [h0]; simp [hii, hsz, go_sem, Addr.plain, e]
    unfold Oper.wp
    simp [execOp, ho, hx, hlo, hr, Result.andThen]
    refine hK _ _ (h 0 ?_)
    have := BxV.slI hB hb 0 0 0 (by omega) (by omega)
    rw [List.take_zero] at this
    rw [List.drop_eq_nil_of_le (by omega), show n - i = 0 by omega]
    exact this
  · have hr : (Instr.sliceAt t (.pointer (some ⟨g, 0, none⟩)) (some (.int .i64 (i : Int))) none none).run Try.prog w = .ok (.slice (some ⟨g, i, none⟩) (n - i) (n - i)) w := by
      rw [h0]; simp [hii, hsz, go_sem, Addr.plain, e]
    unfold Oper.wp
    simp [execOp, ho, hx, hlo, hr, Result.andThen]
    refine hK _ _ (h i ?_)
    have := BxV.slI hB hb i (n - i) (n - i) (by omega) (by omega)
    rwa [List.take_of_length_le (by simp; omega)] at this
end
/-- What Load answers: no pool, or one. -/
def LoadIs (R : Option (List Pg)) (r : Ending) (n : Nat) (w' : World) : Prop :=
  match R with
  | none => r = .returned (.tuple #[.pointer none, .int .i64 61])
  | some L => ∃ g, r = .returned (.tuple #[ptr g, .int .i64 0]) ∧ n ≤ g ∧ PoolB w' g L
set_option maxRecDepth 100000 in
set_option maxHeartbeats 1000000 in
theorem pload_any (n : Int) (c : List Int) (hc : c.length = 240) (hb : Byt c) (R : Option (List Pg)) (hR : plLoad n c = R) (w : World) :
    Calls Try.prog 12 #[.int .i64 n, pgV c] w fun r w' => Fr noB w w' ∧ LoadIs R r w.heap.size w' := by
  have Hc := show Hid _ from hc
  have hN := plN_le n
  obtain ⟨N, HN⟩ : ∃ N, Hid (plN n = N) := ⟨_, rfl⟩
  rw [HN.out] at hN
  have hnl : Hid ((plNew n).length = N) := by show _ = _; rw [plNew_len]; exact HN.out
  have hz : R ≠ none → ∀ j, Hid ((c.drop N).getD j 0 = 0) := by
    intro h j
    cases R with
    | none => exact absurd rfl h
    | some L => rw [← HN.out]; exact plLoad_zero hR j
  have hfst : R = none → ∃ m, m < 240 - N ∧ (c.drop N).getD m 0 ≠ 0 ∧ ∀ j, j < m → (c.drop N).getD j 0 = 0 := by
    intro h
    rw [h] at hR
    have := plLoad_first hR
    rw [HN.out, List.length_drop, hc] at this
    exact this
  have hput : ∀ L, R = some L → Hid (putAt (poolL (plNew n)) 1 (pgv c) = poolL L) := fun L h => by rw [h] at hR; exact poolL_load hc hR
  obtain ⟨D, HD⟩ : ∃ D, Hid (c.drop N = D) := ⟨_, rfl⟩
  have hDl : Hid (D.length = 240 - N) := by show _ = _; rw [← HD.out, List.length_drop, hc]
  rw [HD.out] at hz hfst
  clear hc hR
  go_enter Try.func12, Try.ntmps12
  go_wp2_with (first
    | (with_reducible refine at_wpP ?_; refine wpList_boxV rfl 50 _ rfl (pgv c) rfl ?_; intro g3 w1 hg3 b1 f1 s1; have l1 := b1.lt; have z1 := f1.size)
    | (go_at_call 9; go_must (refine (pnew_any n _).mono ?_; rintro e w2 ⟨g6, rfl, s6, p2, f2⟩; have b2 := b1.fr0 f2; have z2 := f2.size; have l6 := p2.lt; have k0 := p2.size; rw [hnl.out] at k0))
    | (refine at_cut 50 _ _ _ _ rfl ?_; go_must (refine wpList_fromD arr_counts rfl _ _ rfl g3 rfl c Hc.out hb _ b2 N _ rfl rfl hN ?_; rw [HD.out]; intro go sD)))
  go_loop [17] (fun i => ∃ (k : Nat), k ≤ 240 - N ∧ i = .int .i64 (k : Int) ∧ Hid (∀ j, j < k → D.getD j 0 = 0)) (fun i => 240 - N - (intOf i).toNat)
  case atStart => exact ⟨0, by omega, rfl, (show Hid _ from fun j hj => by omega)⟩
  case round =>
    obtain ⟨k, hk, rfl, hn⟩ := hrel
    by_cases hlt : k < 240 - N
    · obtain ⟨y, Hy⟩ : ∃ y, Hid (D.getD k 0 = y) := ⟨_, rfl⟩
      by_cases hy : y = 0
      · subst hy
        have hn1 : Hid (∀ j, j < k + 1 → D.getD j 0 = 0) := by
          show ∀ j, _
          intro j hj
          by_cases e : j = k
          · rw [e]; exact Hy.out
          · exact hn.out j (by omega)
        go_wp2_with (first
          | (refine at_idx 60 _ _ rfl ?_; go_must (refine wpList_idx1 rfl 60 _ _ rfl 5 Try.underlying60 size_u8 _ _ _ rfl sD.1 _ _ k rfl rfl (by rw [hDl.out]; exact hlt) ?_; intro p u hu hcu; rw [getu _ _ _ _ hu, Hy.out] at hcu; clear hu)))
        go_round
        case rel => exact ⟨k + 1, by omega, by go_num, hn1⟩
        case measure => simp [intOf]; omega
      · have hRn : R = none := by
          cases R with
          | none => rfl
          | some L => exact absurd (Hy.out.symm.trans (hz (by simp) k).out) hy
        go_wp2_with (first
          | (refine at_idx 60 _ _ rfl ?_; go_must (refine wpList_idx1 rfl 60 _ _ rfl 5 Try.underlying60 size_u8 _ _ _ rfl sD.1 _ _ k rfl rfl (by rw [hDl.out]; exact hlt) ?_; intro p u hu hcu; rw [getu _ _ _ _ hu, Hy.out] at hcu; clear hu)))
        go_ret2
        subst hRn
        exact ⟨f1.thenN f2, rfl⟩
    · obtain rfl : k = 240 - N := by omega
      cases R with
      | none =>
        obtain ⟨m, hm, h1, _⟩ := hfst rfl
        exact absurd (hn.out m hm) h1
      | some L =>
        have hp := hput L rfl
        obtain ⟨X, HX⟩ : ∃ X, Hid (poolL (plNew n) = X) := ⟨_, rfl⟩
        have hXl : Hid (X.length = 481) := by show _ = _; rw [← HX.out, poolL_len]
        unfold PoolB at p2
        rw [HX.out] at p2 hp
        clear hz hfst hput hn
        go_wp2_with (first
          | (with_reducible refine at_wpP ?_; refine at_ld 50 _ rfl ?_; go_must (refine wpList_loadA arr_counts rfl _ rfl g3 rfl c b2 Hc.out ?_))
          | (with_reducible refine at_wpP ?_; refine at_st 50 _ _ rfl ?_; go_must (refine wpList_storeV rfl 50 _ _ rfl g6 1 rfl (pgv c) rfl _ _ p2 (by rw [arr_counts.size, pgv_len, Hc.out]) (by rw [pgv_len, Hc.out, hXl.out]; decide) (pgv_one c) ?_; intro w3 b3 f3; rw [hp.out] at b3)))
        go_ret2
        exact ⟨(f1.thenN f2).thenT f3 (fun i hi q => by unfold onB1 at q; omega), g6, rfl, by omega, b3⟩
end Go.Proofs.Ytghkpeejogldkaa
/- The document's pool: Load. -/
namespace Go.Proofs.U
open Go.RowKit
/-- One cell of an element is put. -/
theorem wpList_stMid1 {α : Type} {ec : α → List Value} {sz : Nat} {e : TypeId} {base : Nat} {l : List α} {P : Program} {w : World} {ops : Array Oper} {rest : List Oper} {o : Oper} {a : Act} {Q : Exit → Act → World → Prop} (hgd : o.guard = none) (t : TypeId) (x y : Operand) (ho : o.op = .store t x y) (g n cap : Nat) (hO : OwnR ec sz e w base (.slice (some ⟨g, 0, none⟩) n cap) l) (j : Nat) (hj : j < l.length) (off : Nat) (hx : a.eval x = .pointer (some ⟨g, j * sz + off, none⟩))
    (v : Value) (hy : a.eval y = v) (hv : v.oneCell' = true) (b : α) (hb : ec b = (ec l[j]).set off v) (hoff : off < sz) (hi : (P.info? t).map (·.size) = some 1)
    (h : ∀ w', OwnR ec sz e w' base (.slice (some ⟨g, 0, none⟩) n cap) (l.set j b) → Fr (onB1 g) w w' → wpList P ops Q rest (a.put o.dst undef) w') : wpList P ops Q (o :: rest) a w := by
  refine wpList_wanted (by simp [Region.wanted, hgd]) fun K hK => ?_
  have hlj : (ec l[j]).length = sz := hO.1 _ (by simp)
  have hp : ec b = putAt (ec l[j]) off [v] := by
    rw [hb]; unfold putAt
    rw [List.set_eq_take_append_cons_drop, if_pos (by omega)]; simp
  obtain ⟨hO', _⟩ := OwnR.putMid hO j hj off [v] b hp (by simp; omega)
  obtain ⟨g', cap', cur, hv', h1, hB, h3, h4, h5⟩ := hO.bx (by omega)
  cases hv'
  have hle : j * sz + off < cur.length := by
    have : (j + 1) * sz ≤ l.length * sz := Nat.mul_le_mul_right _ (by omega)
    rw [Nat.add_mul, Nat.one_mul] at this; omega
  have hr := run_st1 (P := P) (off := j * sz + off) t hi v hv _ _ hB hle
  unfold Oper.wp execOp
  simp only [ho, hx, hy, Sem.run_bind, hr, Result.andThen_ok]
  exact hK _ _ (h _ hO' (Fr.setCell (S := onB1 g) (Fr.refl _ _) _ _ (fun _ => rfl)))
end Go.Proofs.U
namespace Go.Proofs.Ytghkpeejogldkaa
open Go.RowKit Go.Proofs.U
set_option linter.unusedSimpArgs false
set_option linter.unusedVariables false
theorem enc_set0 (y : Int) : encG ⟨y, 0⟩ = (encG Pg0).set 0 (.int .i64 y) := rfl
/-- The first k counts are told. -/
def loadK (N : Nat) (c : List Int) (k : Nat) : List Pg := (List.range N).map fun i => if i < k then ⟨c.getD i 0, 0⟩ else Pg0
theorem loadK_len (N : Nat) (c : List Int) (k : Nat) : (loadK N c k).length = N := by simp [loadK]
theorem loadK_get (N : Nat) (c : List Int) (k i : Nat) (h : i < (loadK N c k).length) : (loadK N c k)[i] = if i < k then ⟨c.getD i 0, 0⟩ else Pg0 := by simp [loadK]
theorem loadK_zero (N : Nat) (c : List Int) : loadK N c 0 = List.replicate N Pg0 := by
  refine List.ext_getElem (by rw [loadK_len, List.length_replicate]) fun i h1 h2 => ?_
  rw [loadK_get, if_neg (by omega), List.getElem_replicate]
theorem loadK_yes (N : Nat) (c : List Int) (k : Nat) (h : k < N) : (loadK N c k).set k ⟨c.getD k 0, 0⟩ = loadK N c (k + 1) := by
  refine List.ext_getElem (by rw [List.length_set, loadK_len, loadK_len]) fun i h1 h2 => ?_
  rw [List.getElem_set, loadK_get, loadK_get]
  by_cases e : k = i
  · subst e; rw [if_pos rfl, if_pos (by omega)]
  · rw [if_neg e]
    by_cases h3 : i < k
    · rw [if_pos h3, if_pos (by omega)]
    · rw [if_neg h3, if_neg (by omega)]
theorem loadK_no (N : Nat) (c : List Int) (k : Nat) (h : N ≤ k) : loadK N c (k + 1) = loadK N c k := by
  refine List.ext_getElem (by rw [loadK_len, loadK_len]) fun i h1 h2 => ?_
  rw [loadK_len] at h1
  rw [loadK_get, loadK_get, if_pos (by omega), if_pos (by omega)]
theorem loadK_all {n : Int} {c : List Int} (hc : c.length = 240) {L : List Pg} (h : plLoad n c = some L) : loadK (plN n) c 240 = L := by
  have hN := plN_le n
  refine plExt (by rw [loadK_len, plLoad_len hc h]) fun i hi => ?_
  rw [loadK_len] at hi
  rw [plLoad_at hc h, plAt_get _ _ (by rw [loadK_len]; exact hi), loadK_get, if_pos (by omega)]
/-- What the document's Load answers. -/
def RLoadIs (R : Option (List Pg)) (r : Ending) (w w' : World) : Prop :=
  match R with
  | none => r = .returned (.tuple #[.slice none 0 0, .int .i64 61])
  | some L => ∃ v, r = .returned (.tuple #[v, .int .i64 0]) ∧ OwnG w' w.heap.size v L
set_option maxRecDepth 100000 in
set_option maxHeartbeats 1000000 in
theorem rload_any (n : Int) (c : List Int) (hc : c.length = 240) (hb : Byt c) (R : Option (List Pg)) (hR : plLoad n c = R) (w : World) :
    Calls Try.prog 15 #[.int .i64 n, pgV c] w fun r w' => Fr noB w w' ∧ RLoadIs R r w w' := by
  have Hc := show Hid _ from hc
  have hN := plN_le n
  have hgz : ∀ j, plN n ≤ j → (c.drop (plN n)).getD (j - plN n) 0 = c.getD j 0 := by
    intro j hj
    simp only [List.getD_eq_getElem?_getD, List.getElem?_drop]
    rw [show plN n + (j - plN n) = j by omega]
  have hz : R ≠ none → Hid (∀ j, plN n ≤ j → c.getD j 0 = 0) := by
    intro h
    show ∀ j, _
    intro j hj
    cases R with
    | none => exact absurd rfl h
    | some L => rw [← hgz j hj]; exact plLoad_zero hR _
  have hfst : R = none → ∃ m, plN n ≤ m ∧ m < 240 ∧ c.getD m 0 ≠ 0 := by
    intro h
    rw [h] at hR
    obtain ⟨m, h1, h2, _⟩ := plLoad_first hR
    rw [List.length_drop, hc] at h1
    refine ⟨plN n + m, by omega, by omega, ?_⟩
    rw [← hgz _ (by omega), Nat.add_sub_cancel_left]; exact h2
  have hall : ∀ L, R = some L → Hid (loadK (plN n) c 240 = L) := fun L h => by rw [h] at hR; exact loadK_all hc hR
  have hnew : Hid (plNew n = List.replicate (plN n) Pg0) := rfl
  obtain ⟨N, HN⟩ : ∃ N, Hid (plN n = N) := ⟨_, rfl⟩
  rw [HN.out] at hN hz hfst hall hnew
  clear hc hR hgz
  go_enter Try.func15, Try.ntmps15
  go_wp2_with (first
    | (with_reducible refine at_wpP ?_; refine wpList_boxV rfl 30 _ rfl (pgv c) rfl ?_; intro g3 w1 hg3 b1 f1 s1; have l1 := b1.lt; have z1 := f1.size)
    | (go_at_call 34; go_must (refine (rnew_any n _).mono ?_; rintro e w2 ⟨v2, rfl, o2, f2⟩; have b2 := b1.fr0 f2; have z2 := f2.size; rw [hnew.out, ← loadK_zero N c] at o2; have F2 := f1.thenN f2; obtain ⟨a6, c6, rfl⟩ := o2.opn; rw [loadK_len] at o2 ⊢))
    | (with_reducible refine at_wpP ?_; refine at_ld 30 _ rfl ?_; go_must (refine wpList_loadA arr_240 rfl _ rfl g3 rfl c b2 Hc.out ?_)))
  go_loopw [12] (fun i wr => ∃ (k : Nat), k ≤ 240 ∧ i = .int .i64 (k : Int) ∧ OwnG wr w1.heap.size (.slice a6 N c6) (loadK N c k) ∧ Fr noB w wr ∧ Hid (∀ j, N ≤ j → j < k → c.getD j 0 = 0)) (fun i _ => 240 - (intOf i).toNat)
  case atStart => exact ⟨0, by omega, rfl, o2, F2, (show Hid _ from fun j _ hj => by omega)⟩
  case round =>
    obtain ⟨k, hk, rfl, ho, hf, hn⟩ := hrel
    have zf := hf.size
    by_cases hlt : k < 240
    · obtain ⟨y, Hy⟩ : ∃ y, Hid (c.getD k 0 = y) := ⟨_, rfl⟩
      have hyb : 0 ≤ y ∧ y < 256 := by rw [← Hy.out]; exact hb.at k
      by_cases hkN : k < N
      · have hnk : ¬ ((N : Int) ≤ (k : Int)) := by omega
        have hnk' : decide ((N : Int) ≤ (k : Int)) = false := by simpa using hnk
        have hkN' : (k : Int) < (N : Int) := by omega
        have hcv : IntKind.i64.wrap y = y := by rw [IntKind.wrap_i64]; omega
        have hyes := show Hid _ from loadK_yes N c k hkN
        rw [Hy.out] at hyes
        obtain ⟨X, HX⟩ : ∃ X, Hid (loadK N c k = X) := ⟨_, rfl⟩
        have hXl : Hid (X.length = N) := by show _ = _; rw [← HX.out, loadK_len]
        have hXk : ∀ h : k < X.length, Hid (X[k] = Pg0) := by
          intro h; show _ = _
          simp only [← HX.out]
          rw [loadK_get, if_neg (by omega)]
        rw [HX.out] at ho hyes
        obtain ⟨g4, c4, cur, hv4, _, _, _, _, _⟩ := ho.bx (by rw [hXl.out]; omega)
        rw [hXl.out] at hv4
        cases hv4
        have hg4 := ho.newB g4 rfl
        have hn1 : Hid (∀ j, N ≤ j → j < k + 1 → c.getD j 0 = 0) := by
          show ∀ j, _
          intro j h1 h2
          exact hn.out j h1 (by omega)
        have hkX : k < X.length := by rw [hXl.out]; exact hkN
        have hXk := hXk hkX
        clear hnk
        go_wp2_with (first
          | (refine at_index 30 _ _ rfl ?_; go_must (refine wpList_indexA arr_240 rfl _ _ rfl c rfl Hc.out k rfl hlt ?_; rw [Hy.out]))
          | (refine at_idx 34 _ _ rfl ?_; go_must (refine wpList_idxO rfl 34 _ _ rfl 63 Try.underlying34 leaf_size g4 _ c6 rfl .i64 _ k rfl rfl hkN ?_))
          | (with_reducible refine at_wpP ?_; refine at_st 3 _ _ rfl ?_; go_must (refine wpList_stMid1 rfl 3 _ _ rfl g4 _ c6 ho k hkX 0 rfl (.int .i64 y) rfl rfl ⟨y, 0⟩ (by rw [hXk.out]; exact enc_set0 y) (by decide) size_int ?_; intro w4 o4 f4; rw [hyes.out] at o4; have F4 := hf.thenT (S := noB) f4 (fun i hi q => by unfold onB1 at q; omega))))
        go_roundw
        case rel => exact ⟨k + 1, by omega, by go_num, o4, F4, hn1⟩
        case measure => simp [intOf]; omega
      · have hNk : (N : Int) ≤ (k : Int) := by omega
        have hnk : ¬ (k : Int) < (N : Int) := by omega
        by_cases hy : y = 0
        · subst hy
          have hno := show Hid _ from loadK_no N c k (by omega)
          have hn1 : Hid (∀ j, N ≤ j → j < k + 1 → c.getD j 0 = 0) := by
            show ∀ j, _
            intro j h1 h2
            by_cases e : j = k
            · rw [e]; exact Hy.out
            · exact hn.out j h1 (by omega)
          go_wp2_with (first
            | (refine at_index 30 _ _ rfl ?_; go_must (refine wpList_indexA arr_240 rfl _ _ rfl c rfl Hc.out k rfl hlt ?_; rw [Hy.out])))
          go_roundw
          case rel => exact ⟨k + 1, by omega, by go_num, by rw [hno.out]; exact ho, hf, hn1⟩
          case measure => simp [intOf]; omega
        · have hRn : R = none := by
            cases R with
            | none => rfl
            | some L => exact absurd (Hy.out.symm.trans ((hz (by simp)).out k (by omega))) hy
          have hy0 : 0 < y := by omega
          go_wp2_with (first
            | (refine at_index 30 _ _ rfl ?_; go_must (refine wpList_indexA arr_240 rfl _ _ rfl c rfl Hc.out k rfl hlt ?_; rw [Hy.out])))
          go_ret2
          subst hRn
          exact ⟨hf, rfl⟩
    · obtain rfl : k = 240 := by omega
      cases R with
      | none =>
        obtain ⟨m, h1, h2, h3⟩ := hfst rfl
        exact absurd (hn.out m h1 h2) h3
      | some L =>
        have hL := hall L rfl
        rw [hL.out] at ho
        clear hz hfst hall hn
        go_wp2
        go_ret2
        exact ⟨hf, _, rfl, ho.rebase (by omega)⟩
end Go.Proofs.Ytghkpeejogldkaa
