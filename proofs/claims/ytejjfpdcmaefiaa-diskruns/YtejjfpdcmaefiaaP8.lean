/- The document's disk: Crash and Sync. -/
import Derived.Test.YtejjfpdcmaefiaaP7
namespace Go.Proofs.Ytejjfpdcmaefiaa
open Go.RowKit Go.Proofs.U
set_option linter.unusedSimpArgs false
set_option linter.unusedVariables false

set_option maxRecDepth 100000 in
set_option maxHeartbeats 2000000 in
theorem rcrash_any (v1 v2 v3 vk : Value) (hsl2 : isSl v2) (pages : List (List Int)) (pend : List (Int × List Int)) (keep : List Int) (c : Bool) (l : Int) (d : Bool) (w : World)
    (h1 : SlPg w v1 pages) (h3 : SlWr w v3 pend) (hk0 : SlI .u8 w vk keep) (hin : ∀ x ∈ pend, 0 ≤ x.1 ∧ x.1 < (pages.length : Int)) (hm : pages.length ≤ 100000) (hm3 : pend.length ≤ 100000) :
    Calls Try.prog 24 #[dkV v1 v2 v3 c l d, vk] w fun r w' => ∃ v1', r = .returned (dkV v1' v2 (.slice none 0 0) false 0 false) ∧ SlPg w' v1' (setlK pages pend keep pend.length) ∧ Fr noB w w' ∧ ∀ q, v1'.ownBlock = some q → w.heap.size ≤ q ∧ q < w'.heap.size := by
  have hsl1 := SlR.isSl h1
  have hsl3 := SlR.isSl h3
  obtain ⟨a2, n2, c2, rfl⟩ := hsl2
  have hsl2 := isSl_mk a2 n2 c2
  go_enter Try.func24, Try.ntmps24
  go_wp2_with (first
    | (with_reducible refine at_wpP ?_; refine wpList_boxV rfl 39 _ rfl (dkL v1 (.slice a2 n2 c2) v3 c l d) rfl ?_; intro g1 w1 hg1 b1 f1 s1; have z1 := f1.size)
    | (with_reducible refine at_wpP ?_; refine wpList_allocD rfl rfl ?_; intro g2 w2 hg2 b2 f2 s2; have e2 := b1.fr0 f2; have l1 := b1.lt; have l2 := b2.lt; have F2 := f1.thenN f2)
    | (with_reducible refine at_wpP ?_; refine wpList_ldD rfl _ rfl g1 rfl _ _ _ c l d e2 ?_)
    | (go_at_call 37; go_must (refine (settle_any _ _ _ _ hsl2 pages pend keep c l d _ (h1.fr0 F2) (h3.fr0 F2) (hk0.fr0 F2) hin hm hm3).mono ?_; rintro e w3 ⟨v1', rfl, s3, f3, n3⟩; have e3 := e2.fr0 f3; have b3 := b2.fr0 f3; have F3 := F2.thenN f3; have hs1 := SlR.isSl s3; obtain ⟨a9, c9, rfl, _⟩ := s3.opn))
    | (with_reducible refine at_wpP ?_; refine at_st 39 _ _ rfl ?_; refine wpList_stD rfl _ _ rfl g1 rfl _ _ _ c l d rfl _ e3 rfl hs1 hsl2 (isSl_mk _ _ _) ?_; intro w4 e4 f4; have b4 := b3.ne f4 (by omega); have F4 := F3.thenT (S := noB) f4 (fun i hi q => by unfold onB1 at q; omega); obtain ⟨k0, k1, k2, k3, k4, k5⟩ := e4.six)
    | (with_reducible refine at_wpP ?_; refine at_st 39 _ _ rfl ?_; refine wpList_stD rfl _ _ rfl g2 rfl _ _ _ false 0 false rfl _ b4 rfl hs1 hsl2 (isSl_mk _ _ _) ?_; intro w5 b5 f5))
  have F5 := F4.thenT (S := noB) f5 (fun i hi q => by unfold onB1 at q; omega)
  refine bodyPost_ret (v := dkV _ (.slice a2 n2 c2) (.slice none 0 0) false 0 false) (results_disk1 Try.results24 _ w5 g2 _ _ _ false 0 false rfl b5) rfl ⟨_, rfl, ?_, F5, fun q h => by have := n3 q h; have := F2.size; have := f4.size; have := f5.size; omega⟩
  exact (s3.fr f4 (fun k hk q => by have := n3 k hk; unfold onB1 at q; omega)).fr f5 (fun k hk q => by have := n3 k hk; unfold onB1 at q; omega)

abbrev en8 (z : Int) : List Value := [Value.int .u8 z]
theorem info_u8 : (Try.prog.info? 5).map (fun i => (i.zero, i.size)) = some (some (.int .u8 0), 1) := by kernel_rfl
theorem info_u8b : (Try.prog.info? 5).map (fun i => (i.zero, i.size, i.bytes)) = some (some (.int .u8 0), 1, 1) := by kernel_rfl
theorem flat_en8 (l : List Int) : l.flatMap en8 = l.map (Value.int .u8) := by
  induction l with
  | nil => rfl
  | cons x l ih => rw [List.flatMap_cons, ih]; rfl
theorem slI_of_ownR {e : TypeId} {w : World} {base : Nat} {v : Value} {l : List Int} (h : OwnR en8 1 e w base v l) (hw : ∀ n ∈ l, (Lit.int .u8 n).wf = true) : SlI .u8 w v l := ⟨by rw [← flat_en8]; exact h.sl.2, hw⟩

set_option maxRecDepth 100000 in
set_option maxHeartbeats 2000000 in
theorem rsync_any (v1 v2 v3 : Value) (hsl2 : isSl v2) (pages : List (List Int)) (pend : List (Int × List Int)) (c : Bool) (l : Int) (hl : c = true → -9223372036854775808 < l ∧ l ≤ 9223372036854775807) (d : Bool) (w : World)
    (h1 : SlPg w v1 pages) (h3 : SlWr w v3 pend) (hin : ∀ x ∈ pend, 0 ≤ x.1 ∧ x.1 < (pages.length : Int)) (hm : pages.length ≤ 100000) (hm3 : pend.length ≤ 100000) :
    Calls Try.prog 21 #[dkV v1 v2 v3 c l d] w fun r w' => ∃ v1' v3', r = .returned (.tuple #[dkV v1' v2 v3' c (actR c l d).1 (actR c l d).2.1, .int .i64 (actR c l d).2.2]) ∧
      SlPg w' v1' (if (actR c l d).2.2 == 0 then setlK pages pend (List.replicate pend.length 255) pend.length else pages) ∧ SlWr w' v3' (if (actR c l d).2.2 == 0 then [] else pend) ∧ Fr noB w w' ∧ nwB w w' v1 v1' ∧ nwB w w' v3 v3' := by
  have hsl1 := SlR.isSl h1
  have hsl3 := SlR.isSl h3
  obtain ⟨a1, c1', rfl, _⟩ := h1.opn
  obtain ⟨a3, c3', rfl, _⟩ := h3.opn
  obtain ⟨⟨L', D', E'⟩, Hact⟩ : ∃ t, Hid (actR c l d = t) := ⟨_, rfl⟩
  rw [Hact.out]
  simp only
  by_cases he : E' = 0
  · subst he
    simp only [BEq.rfl, if_true]
    obtain ⟨R, HR⟩ : ∃ R, Hid (setlK pages pend (List.replicate pend.length 255) pend.length = R) := ⟨_, rfl⟩
    rw [HR.out]
    go_enter Try.func21, Try.ntmps21
    go_wp2_with (first
      | (with_reducible refine at_wpP ?_; refine wpList_boxV rfl 39 _ rfl (dkL (.slice a1 pages.length c1') v2 (.slice a3 pend.length c3') c l d) rfl ?_; intro g1 w1 hg1 b1 f1 s1; have z1 := f1.size)
      | (with_reducible refine at_wpP ?_; refine wpList_allocD rfl rfl ?_; intro g2 w2 hg2 b2 f2 s2; have e2 := b1.fr0 f2; have l1 := b1.lt; have l2 := b2.lt; have F2 := f1.thenN f2)
      | (with_reducible refine at_wpP ?_; refine wpList_ldD rfl _ rfl g1 rfl _ _ _ c l d e2 ?_)
      | (go_at_call 36; go_must (refine (ract_any _ _ _ hsl1 hsl2 hsl3 c l hl d _).mono ?_; rw [Hact.out]; rintro e w3 ⟨rfl, f3⟩; have b3 := b2.fr0 f3; have e3 := e2.fr0 f3; have F3 := F2.thenN f3))
      | (with_reducible refine at_wpP ?_; refine at_st 39 _ _ rfl ?_; refine wpList_stD rfl _ _ rfl g1 rfl _ _ _ c L' D' rfl _ e3 rfl hsl1 hsl2 hsl3 ?_; intro w4 e4 f4; have b4 := b3.ne f4 (by omega); have F4 := F3.thenT (S := noB) f4 (fun i hi q => by unfold onB1 at q; omega))
      | (with_reducible refine at_wpP ?_; refine wpList_mk0 en8 1 rfl 41 rfl 5 Try.underlying41 size_u8 ?_; intro g5 w5 o5 f5 s5 t5; have b5 := b4.fr0 f5; have e5 := e4.fr0 f5; have F5 := F4.thenN f5; have z4 := F4.size; have m1 := e4.lt; have m2 := b4.lt; obtain ⟨k0, k1, k2, k3, k4, k5⟩ := e5.six))
    go_loopw [5, 19] (fun out i wr => ∃ k : Nat, k ≤ pend.length ∧ i = .int .i64 (k : Int) ∧ OwnR en8 1 5 wr w4.heap.size out (List.replicate k 255) ∧ BxV wr g1 39 (dkL (.slice a1 pages.length c1') v2 (.slice a3 pend.length c3') c L' D') ∧ BxV wr g2 39 (dkL (.slice none 0 0) (.slice none 0 0) (.slice none 0 0) false 0 false) ∧ Fr noB w wr ∧ w4.heap.size ≤ wr.heap.size) (fun _ i _ => pend.length - (intOf i).toNat)
    case atStart => exact ⟨0, Nat.zero_le _, rfl, o5, e5, b5, F5, f5.size⟩
    case round =>
      obtain ⟨k, hk, rfl, ho, he', hb, hf, h4z⟩ := hrel
      have hle := he'.lt
      have hlb := hb.lt
      obtain ⟨Y, HY⟩ : ∃ Y, Hid (List.replicate k (255 : Int) = Y) := ⟨_, rfl⟩
      have hYl : Hid (Y.length = k) := by show _ = _; rw [← HY.out, List.length_replicate]
      rw [HY.out] at ho
      obtain ⟨a6, c6, rfl⟩ := ho.opn
      by_cases hlt : k < pend.length
      · go_wp2_with (first
          | (with_reducible refine at_wpP ?_; refine wpList_mk1 (ec := en8) (sz := 1) rfl 41 _ rfl 5 Try.underlying41 _ info_u8 (by decide) (by decide) (255 : Int) _ rfl rfl rfl ?_; intro g7 w7 s7 f7 r7 t7; have o7 := ho.fr0 f7; have e7 := he'.fr0 f7; have b7 := hb.fr0 f7; have F7 := hf.thenN f7)
          | (at_builtin; go_must (refine wpList_appR (ec := en8) (sz := 1) rfl _ _ 41 rfl w4.heap.size 5 _ 1 Try.underlying41 info_u8b rfl (by decide) _ Y rfl o7 _ [255] rfl s7 (by intro y hy u hu; simp [en8] at hu; subst hu; rfl) ?hq1 ?hq2 ?hq3 ?_; rotate_left 3; intro v8 w8 o8 hg8; have hg8 : w7.grownBy w8 (Value.slice a6 Y.length c6).ownBlock := hg8; have f8 : Fr (fun k => (Value.slice a6 Y.length c6).ownBlock = some k) w7 w8 := (Fr.refl _ _).grown hg8 (fun k hk _ => hk); have e8 := e7.fr f8 (fun q => by have := (o7.newB g1 q).1; omega); have b8 := b7.fr f8 (fun q => by have := (o7.newB g2 q).1; omega); have F8 := F7.thenT (S := noB) f8 (fun k hk q => by have := (o7.newB k q).1; omega))))
        case hq1 => have := hYl.out; unfold maxLen; simp; omega
        case hq2 => have := hYl.out; simp; omega
        case hq3 => have := f7.size; omega
        have o9 : OwnR en8 1 5 w8 w4.heap.size v8 (List.replicate (k + 1) 255) := by rw [List.replicate_succ', HY.out]; exact o8
        obtain ⟨a9, c9, rfl⟩ := o9.opn
        go_roundw
        case rel => exact ⟨k + 1, by omega, by go_num, o9, e8, b8, F8, by have := f7.size; have := f8.size; omega⟩
        case measure => simp [intOf]; omega
      · obtain rfl : k = pend.length := by omega
        have hkS : SlI .u8 _ (.slice a6 Y.length c6) Y := slI_of_ownR ho (by rw [← HY.out]; intro z hz; rw [List.eq_of_mem_replicate hz]; rfl)
        have hst := fun w h1 h3 hkk => settle_any (.slice a1 pages.length c1') v2 (.slice a3 pend.length c3') (.slice a6 Y.length c6) hsl2 pages pend Y c L' D' w h1 h3 hkk hin hm hm3
        rw [← HY.out, HR.out, HY.out] at hst
        go_wp2_with (first
          | (with_reducible refine at_wpP ?_; refine wpList_ldD rfl _ rfl g1 rfl _ _ _ c L' D' he' ?_)
          | (go_at_call 37; go_must (refine (hst _ (h1.fr0 hf) (h3.fr0 hf) hkS).mono ?_; rintro e w8 ⟨v1', rfl, s8, f8, n8⟩; have b8 := hb.fr0 f8; have F8 := hf.thenN f8; have hs1 := SlR.isSl s8))
          | (with_reducible refine at_wpP ?_; refine at_st 39 _ _ rfl ?_; go_must (refine wpList_stD rfl _ _ rfl g2 rfl _ _ _ c L' D' rfl _ b8 rfl hs1 hsl2 (isSl_mk _ _ _) ?_; intro w9 b9 f9)))
        have F9 := F8.thenT (S := noB) f9 (fun i hi q => by unfold onB1 at q; omega)
        refine bodyPost_ret (v := .tuple #[dkV v1' v2 (.slice none 0 0) c L' D', .int .i64 0]) (results_disk2 Try.results21 _ w9 g2 _ _ _ c L' D' rfl b9) rfl ⟨_, _, rfl, ?_, ⟨by simp, Sl.nil _ _⟩, F9, fun q h => Or.inr (by have := n8 q h; have := hf.size; have := f9.size; omega), fun q h => by simp [Value.ownBlock] at h⟩
        exact s8.fr f9 (fun k hk q => by have := n8 k hk; unfold onB1 at q; omega)
  · have heb : (E' == 0) = false := by simpa using he
    rw [heb]
    simp only [Bool.false_eq_true, if_false]
    go_enter Try.func21, Try.ntmps21
    go_wp2_with (first
      | (with_reducible refine at_wpP ?_; refine wpList_boxV rfl 39 _ rfl (dkL (.slice a1 pages.length c1') v2 (.slice a3 pend.length c3') c l d) rfl ?_; intro g1 w1 hg1 b1 f1 s1; have z1 := f1.size)
      | (with_reducible refine at_wpP ?_; refine wpList_allocD rfl rfl ?_; intro g2 w2 hg2 b2 f2 s2; have e2 := b1.fr0 f2; have l1 := b1.lt; have l2 := b2.lt; have F2 := f1.thenN f2)
      | (with_reducible refine at_wpP ?_; refine wpList_ldD rfl _ rfl g1 rfl _ _ _ c l d e2 ?_)
      | (go_at_call 36; go_must (refine (ract_any _ _ _ hsl1 hsl2 hsl3 c l hl d _).mono ?_; rw [Hact.out]; rintro e w3 ⟨rfl, f3⟩; have b3 := b2.fr0 f3; have e3 := e2.fr0 f3; have F3 := F2.thenN f3))
      | (with_reducible refine at_wpP ?_; refine at_st 39 _ _ rfl ?_; refine wpList_stD rfl _ _ rfl g1 rfl _ _ _ c L' D' rfl _ e3 rfl hsl1 hsl2 hsl3 ?_; intro w4 e4 f4; have b4 := b3.ne f4 (by omega); have F4 := F3.thenT (S := noB) f4 (fun i hi q => by unfold onB1 at q; omega))
      | (with_reducible refine at_wpP ?_; refine wpList_ldD rfl _ rfl g1 rfl _ _ _ c L' D' e4 ?_)
      | (with_reducible refine at_wpP ?_; refine at_st 39 _ _ rfl ?_; refine wpList_stD rfl _ _ rfl g2 rfl _ _ _ c L' D' rfl _ b4 rfl hsl1 hsl2 hsl3 ?_; intro w8 b8 f8))
    have F8 := F4.thenT (S := noB) f8 (fun i hi q => by unfold onB1 at q; omega)
    exact bodyPost_ret (v := .tuple #[dkV (.slice a1 pages.length c1') v2 (.slice a3 pend.length c3') c L' D', .int .i64 E']) (results_disk2 Try.results21 _ w8 g2 _ _ _ c L' D' rfl b8) rfl ⟨_, _, rfl, h1.fr0 F8, h3.fr0 F8, F8, fun q h => Or.inl h, fun q h => Or.inl h⟩
end Go.Proofs.Ytejjfpdcmaefiaa
