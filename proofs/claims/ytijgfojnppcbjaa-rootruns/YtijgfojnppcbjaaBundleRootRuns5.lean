/- Texts P8, P9, K1, K2, K3, K4 of the proof of RootRuns, one behind the other. -/
import Derived.Maps.OwnSet
import Derived.Maps.Range
import Derived.Lib.SlBuf
import Derived.Laws.IdiomCopy
import Derived.Test.YtijgfojnppcbjaaBundleRootRuns1
import Derived.Test.YtijgfojnppcbjaaBundleRootRuns2
import Derived.Test.YtijgfojnppcbjaaBundleRootRuns3
import Derived.Test.YtijgfojnppcbjaaBundleRootRuns4
/- The document's disk: Crash and Sync. -/
namespace Go.Proofs.Ytijgfojnppcbjaa
open Go.RowKit Go.Proofs.U
set_option linter.unusedSimpArgs false
set_option linter.unusedVariables false

set_option maxRecDepth 100000 in
set_option maxHeartbeats 2000000 in
theorem rcrash_any (v1 v2 v3 vk : Value) (hsl2 : isSl v2) (pages : List (List Int)) (pend : List (Int × List Int)) (keep : List Int) (c : Bool) (l : Int) (d : Bool) (w : World)
    (h1 : SlPg w v1 pages) (h3 : SlWr w v3 pend) (hk0 : SlI .u8 w vk keep) (hin : ∀ x ∈ pend, 0 ≤ x.1 ∧ x.1 < (pages.length : Int)) (hm : pages.length ≤ 100000) (hm3 : pend.length ≤ 100000) :
    Calls Try.prog 22 #[dkV v1 v2 v3 c l d, vk] w fun r w' => ∃ v1', r = .returned (dkV v1' v2 (.slice none 0 0) false 0 false) ∧ SlPg w' v1' (setlK pages pend keep pend.length) ∧ Fr noB w w' ∧ ∀ q, v1'.ownBlock = some q → w.heap.size ≤ q ∧ q < w'.heap.size := by
  have hsl1 := SlR.isSl h1
  have hsl3 := SlR.isSl h3
  obtain ⟨a2, n2, c2, rfl⟩ := hsl2
  have hsl2 := isSl_mk a2 n2 c2
  go_enter Try.func22, Try.ntmps22
  go_wp2_with (first
    | (with_reducible refine at_wpP ?_; refine wpList_boxV rfl 39 _ rfl (dkL v1 (.slice a2 n2 c2) v3 c l d) rfl ?_; intro g1 w1 hg1 b1 f1 s1; have z1 := f1.size)
    | (with_reducible refine at_wpP ?_; refine wpList_allocD rfl rfl ?_; intro g2 w2 hg2 b2 f2 s2; have e2 := b1.fr0 f2; have l1 := b1.lt; have l2 := b2.lt; have F2 := f1.thenN f2)
    | (with_reducible refine at_wpP ?_; refine wpList_ldD rfl _ rfl g1 rfl _ _ _ c l d e2 ?_)
    | (go_at_call 44; go_must (refine (settle_any _ _ _ _ hsl2 pages pend keep c l d _ (h1.fr0 F2) (h3.fr0 F2) (hk0.fr0 F2) hin hm hm3).mono ?_; rintro e w3 ⟨v1', rfl, s3, f3, n3⟩; have e3 := e2.fr0 f3; have b3 := b2.fr0 f3; have F3 := F2.thenN f3; have hs1 := SlR.isSl s3; obtain ⟨a9, c9, rfl, _⟩ := s3.opn))
    | (with_reducible refine at_wpP ?_; refine at_st 39 _ _ rfl ?_; refine wpList_stD rfl _ _ rfl g1 rfl _ _ _ c l d rfl _ e3 rfl hs1 hsl2 (isSl_mk _ _ _) ?_; intro w4 e4 f4; have b4 := b3.ne f4 (by omega); have F4 := F3.thenT (S := noB) f4 (fun i hi q => by unfold onB1 at q; omega); obtain ⟨k0, k1, k2, k3, k4, k5⟩ := e4.six)
    | (with_reducible refine at_wpP ?_; refine at_st 39 _ _ rfl ?_; refine wpList_stD rfl _ _ rfl g2 rfl _ _ _ false 0 false rfl _ b4 rfl hs1 hsl2 (isSl_mk _ _ _) ?_; intro w5 b5 f5))
  have F5 := F4.thenT (S := noB) f5 (fun i hi q => by unfold onB1 at q; omega)
  refine bodyPost_ret (v := dkV _ (.slice a2 n2 c2) (.slice none 0 0) false 0 false) (results_disk1 Try.results22 _ w5 g2 _ _ _ false 0 false rfl b5) rfl ⟨_, rfl, ?_, F5, fun q h => by have := n3 q h; have := F2.size; have := f4.size; have := f5.size; omega⟩
  exact (s3.fr f4 (fun k hk q => by have := n3 k hk; unfold onB1 at q; omega)).fr f5 (fun k hk q => by have := n3 k hk; unfold onB1 at q; omega)

abbrev en8 (z : Int) : List Value := [Value.int .u8 z]
theorem info_u8 : (Try.prog.info? 5).map (fun i => (i.zero, i.size)) = some (some (.int .u8 0), 1) := by kernel_rfl
theorem info_u8b : (Try.prog.info? 5).map (fun i => (i.zero, i.size, i.bytes)) = some (some (.int .u8 0), 1, 1) := by kernel_rfl
theorem flat_en8 (l : List Int) : l.flatMap en8 = l.map (Value.int .u8) := by
  induction l with
  | nil => rfl
  | cons x l ih => rw [List.flatMap_cons, ih]; rfl
theorem slI_of_ownR {e : TypeId} {w : World} {base : Nat} {v : Value} {l : List Int} (h : OwnR en8 1 e w base v l) (hw : ∀ n ∈ l, (Lit.int .u8 n).wf = true) : SlI .u8 w v l := ⟨by rw [← flat_en8]; exact h.sl.2, hw⟩

set_option maxRecDepth 100000 in
set_option maxHeartbeats 2000000 in
theorem rsync_any (v1 v2 v3 : Value) (hsl2 : isSl v2) (pages : List (List Int)) (pend : List (Int × List Int)) (c : Bool) (l : Int) (hl : c = true → -9223372036854775808 < l ∧ l ≤ 9223372036854775807) (d : Bool) (w : World)
    (h1 : SlPg w v1 pages) (h3 : SlWr w v3 pend) (hin : ∀ x ∈ pend, 0 ≤ x.1 ∧ x.1 < (pages.length : Int)) (hm : pages.length ≤ 100000) (hm3 : pend.length ≤ 100000) :
    Calls Try.prog 35 #[dkV v1 v2 v3 c l d] w fun r w' => ∃ v1' v3', r = .returned (.tuple #[dkV v1' v2 v3' c (actR c l d).1 (actR c l d).2.1, .int .i64 (actR c l d).2.2]) ∧
      SlPg w' v1' (if (actR c l d).2.2 == 0 then setlK pages pend (List.replicate pend.length 255) pend.length else pages) ∧ SlWr w' v3' (if (actR c l d).2.2 == 0 then [] else pend) ∧ Fr noB w w' ∧ nwB w w' v1 v1' ∧ nwB w w' v3 v3' := by
  have hsl1 := SlR.isSl h1
  have hsl3 := SlR.isSl h3
  obtain ⟨a1, c1', rfl, _⟩ := h1.opn
  obtain ⟨a3, c3', rfl, _⟩ := h3.opn
  obtain ⟨⟨L', D', E'⟩, Hact⟩ : ∃ t, Hid (actR c l d = t) := ⟨_, rfl⟩
  rw [Hact.out]
  simp only
  by_cases he : E' = 0
  · subst he
    simp only [BEq.rfl, if_true]
    obtain ⟨R, HR⟩ : ∃ R, Hid (setlK pages pend (List.replicate pend.length 255) pend.length = R) := ⟨_, rfl⟩
    rw [HR.out]
    go_enter Try.func35, Try.ntmps35
    go_wp2_with (first
      | (with_reducible refine at_wpP ?_; refine wpList_boxV rfl 39 _ rfl (dkL (.slice a1 pages.length c1') v2 (.slice a3 pend.length c3') c l d) rfl ?_; intro g1 w1 hg1 b1 f1 s1; have z1 := f1.size)
      | (with_reducible refine at_wpP ?_; refine wpList_allocD rfl rfl ?_; intro g2 w2 hg2 b2 f2 s2; have e2 := b1.fr0 f2; have l1 := b1.lt; have l2 := b2.lt; have F2 := f1.thenN f2)
      | (with_reducible refine at_wpP ?_; refine wpList_ldD rfl _ rfl g1 rfl _ _ _ c l d e2 ?_)
      | (go_at_call 41; go_must (refine (ract_any _ _ _ hsl1 hsl2 hsl3 c l hl d _).mono ?_; rw [Hact.out]; rintro e w3 ⟨rfl, f3⟩; have b3 := b2.fr0 f3; have e3 := e2.fr0 f3; have F3 := F2.thenN f3))
      | (with_reducible refine at_wpP ?_; refine at_st 39 _ _ rfl ?_; refine wpList_stD rfl _ _ rfl g1 rfl _ _ _ c L' D' rfl _ e3 rfl hsl1 hsl2 hsl3 ?_; intro w4 e4 f4; have b4 := b3.ne f4 (by omega); have F4 := F3.thenT (S := noB) f4 (fun i hi q => by unfold onB1 at q; omega))
      | (with_reducible refine at_wpP ?_; refine wpList_mk0 en8 1 rfl 24 rfl 5 Try.underlying24 size_u8 ?_; intro g5 w5 o5 f5 s5 t5; have b5 := b4.fr0 f5; have e5 := e4.fr0 f5; have F5 := F4.thenN f5; have z4 := F4.size; have m1 := e4.lt; have m2 := b4.lt; obtain ⟨k0, k1, k2, k3, k4, k5⟩ := e5.six))
    go_loopw [5, 19] (fun out i wr => ∃ k : Nat, k ≤ pend.length ∧ i = .int .i64 (k : Int) ∧ OwnR en8 1 5 wr w4.heap.size out (List.replicate k 255) ∧ BxV wr g1 39 (dkL (.slice a1 pages.length c1') v2 (.slice a3 pend.length c3') c L' D') ∧ BxV wr g2 39 (dkL (.slice none 0 0) (.slice none 0 0) (.slice none 0 0) false 0 false) ∧ Fr noB w wr ∧ w4.heap.size ≤ wr.heap.size) (fun _ i _ => pend.length - (intOf i).toNat)
    case atStart => exact ⟨0, Nat.zero_le _, rfl, o5, e5, b5, F5, f5.size⟩
    case round =>
      obtain ⟨k, hk, rfl, ho, he', hb, hf, h4z⟩ := hrel
      have hle := he'.lt
      have hlb := hb.lt
      obtain ⟨Y, HY⟩ : ∃ Y, Hid (List.replicate k (255 : Int) = Y) := ⟨_, rfl⟩
      have hYl : Hid (Y.length = k) := by show _ = _; rw [← HY.out, List.length_replicate]
      rw [HY.out] at ho
      obtain ⟨a6, c6, rfl⟩ := ho.opn
      by_cases hlt : k < pend.length
      · go_wp2_with (first
          | (with_reducible refine at_wpP ?_; refine wpList_mk1 (ec := en8) (sz := 1) rfl 24 _ rfl 5 Try.underlying24 _ info_u8 (by decide) (by decide) (255 : Int) _ rfl rfl rfl ?_; intro g7 w7 s7 f7 r7 t7; have o7 := ho.fr0 f7; have e7 := he'.fr0 f7; have b7 := hb.fr0 f7; have F7 := hf.thenN f7)
          | (at_builtin; go_must (refine wpList_appR (ec := en8) (sz := 1) rfl _ _ 24 rfl w4.heap.size 5 _ 1 Try.underlying24 info_u8b rfl (by decide) _ Y rfl o7 _ [255] rfl s7 (by intro y hy u hu; simp [en8] at hu; subst hu; rfl) ?hq1 ?hq2 ?hq3 ?_; rotate_left 3; intro v8 w8 o8 hg8; have hg8 : w7.grownBy w8 (Value.slice a6 Y.length c6).ownBlock := hg8; have f8 : Fr (fun k => (Value.slice a6 Y.length c6).ownBlock = some k) w7 w8 := (Fr.refl _ _).grown hg8 (fun k hk _ => hk); have e8 := e7.fr f8 (fun q => by have := (o7.newB g1 q).1; omega); have b8 := b7.fr f8 (fun q => by have := (o7.newB g2 q).1; omega); have F8 := F7.thenT (S := noB) f8 (fun k hk q => by have := (o7.newB k q).1; omega))))
        case hq1 => have := hYl.out; unfold maxLen; simp; omega
        case hq2 => have := hYl.out; simp; omega
        case hq3 => have := f7.size; omega
        have o9 : OwnR en8 1 5 w8 w4.heap.size v8 (List.replicate (k + 1) 255) := by rw [List.replicate_succ', HY.out]; exact o8
        obtain ⟨a9, c9, rfl⟩ := o9.opn
        go_roundw
        case rel => exact ⟨k + 1, by omega, by go_num, o9, e8, b8, F8, by have := f7.size; have := f8.size; omega⟩
        case measure => simp [intOf]; omega
      · obtain rfl : k = pend.length := by omega
        have hkS : SlI .u8 _ (.slice a6 Y.length c6) Y := slI_of_ownR ho (by rw [← HY.out]; intro z hz; rw [List.eq_of_mem_replicate hz]; rfl)
        have hst := fun w h1 h3 hkk => settle_any (.slice a1 pages.length c1') v2 (.slice a3 pend.length c3') (.slice a6 Y.length c6) hsl2 pages pend Y c L' D' w h1 h3 hkk hin hm hm3
        rw [← HY.out, HR.out, HY.out] at hst
        go_wp2_with (first
          | (with_reducible refine at_wpP ?_; refine wpList_ldD rfl _ rfl g1 rfl _ _ _ c L' D' he' ?_)
          | (go_at_call 44; go_must (refine (hst _ (h1.fr0 hf) (h3.fr0 hf) hkS).mono ?_; rintro e w8 ⟨v1', rfl, s8, f8, n8⟩; have b8 := hb.fr0 f8; have F8 := hf.thenN f8; have hs1 := SlR.isSl s8))
          | (with_reducible refine at_wpP ?_; refine at_st 39 _ _ rfl ?_; go_must (refine wpList_stD rfl _ _ rfl g2 rfl _ _ _ c L' D' rfl _ b8 rfl hs1 hsl2 (isSl_mk _ _ _) ?_; intro w9 b9 f9)))
        have F9 := F8.thenT (S := noB) f9 (fun i hi q => by unfold onB1 at q; omega)
        refine bodyPost_ret (v := .tuple #[dkV v1' v2 (.slice none 0 0) c L' D', .int .i64 0]) (results_disk2 Try.results35 _ w9 g2 _ _ _ c L' D' rfl b9) rfl ⟨_, _, rfl, ?_, ⟨by simp, Sl.nil _ _⟩, F9, fun q h => Or.inr (by have := n8 q h; have := hf.size; have := f9.size; omega), fun q h => by simp [Value.ownBlock] at h⟩
        exact s8.fr f9 (fun k hk q => by have := n8 k hk; unfold onB1 at q; omega)
  · have heb : (E' == 0) = false := by simpa using he
    rw [heb]
    simp only [Bool.false_eq_true, if_false]
    go_enter Try.func35, Try.ntmps35
    go_wp2_with (first
      | (with_reducible refine at_wpP ?_; refine wpList_boxV rfl 39 _ rfl (dkL (.slice a1 pages.length c1') v2 (.slice a3 pend.length c3') c l d) rfl ?_; intro g1 w1 hg1 b1 f1 s1; have z1 := f1.size)
      | (with_reducible refine at_wpP ?_; refine wpList_allocD rfl rfl ?_; intro g2 w2 hg2 b2 f2 s2; have e2 := b1.fr0 f2; have l1 := b1.lt; have l2 := b2.lt; have F2 := f1.thenN f2)
      | (with_reducible refine at_wpP ?_; refine wpList_ldD rfl _ rfl g1 rfl _ _ _ c l d e2 ?_)
      | (go_at_call 41; go_must (refine (ract_any _ _ _ hsl1 hsl2 hsl3 c l hl d _).mono ?_; rw [Hact.out]; rintro e w3 ⟨rfl, f3⟩; have b3 := b2.fr0 f3; have e3 := e2.fr0 f3; have F3 := F2.thenN f3))
      | (with_reducible refine at_wpP ?_; refine at_st 39 _ _ rfl ?_; refine wpList_stD rfl _ _ rfl g1 rfl _ _ _ c L' D' rfl _ e3 rfl hsl1 hsl2 hsl3 ?_; intro w4 e4 f4; have b4 := b3.ne f4 (by omega); have F4 := F3.thenT (S := noB) f4 (fun i hi q => by unfold onB1 at q; omega))
      | (with_reducible refine at_wpP ?_; refine wpList_ldD rfl _ rfl g1 rfl _ _ _ c L' D' e4 ?_)
      | (with_reducible refine at_wpP ?_; refine at_st 39 _ _ rfl ?_; refine wpList_stD rfl _ _ rfl g2 rfl _ _ _ c L' D' rfl _ b4 rfl hsl1 hsl2 hsl3 ?_; intro w8 b8 f8))
    have F8 := F4.thenT (S := noB) f8 (fun i hi q => by unfold onB1 at q; omega)
    exact bodyPost_ret (v := .tuple #[dkV (.slice a1 pages.length c1') v2 (.slice a3 pend.length c3') c L' D', .int .i64 E']) (results_disk2 Try.results35 _ w8 g2 _ _ _ c L' D' rfl b8) rfl ⟨_, _, rfl, h1.fr0 F8, h3.fr0 F8, F8, fun q h => Or.inl h, fun q h => Or.inl h⟩
end Go.Proofs.Ytijgfojnppcbjaa
/- The document's disk: New. -/
namespace Go.Proofs.Ytijgfojnppcbjaa
open Go.RowKit Go.Proofs.U
set_option linter.unusedSimpArgs false
set_option linter.unusedVariables false

def newN (n : Int) : Nat := min n.toNat 244
theorem info_page2 : (Try.prog.info? 46).map (fun i => (i.zero, i.size)) = some (some (.agg (pgv zeroP).toArray), 256) := by kernel_rfl
theorem info_bool2 : (Try.prog.info? 4).map (fun i => (i.zero, i.size)) = some (some (.bool false), 1) := by kernel_rfl
theorem built_disk0 : Try.prog.built 39 [] = some (dkL (.slice none 0 0) (.slice none 0 0) (.slice none 0 0) false 0 false).toArray := by kernel_rfl

set_option maxRecDepth 100000 in
set_option maxHeartbeats 2000000 in
theorem rnew_any (n : Int) (hn : -9223372036854775808 ≤ n ∧ n ≤ 9223372036854775807) (w : World) :
    Calls Try.prog 14 #[.int .i64 n] w fun r w' => ∃ v1 v2, r = .returned (dkV v1 v2 (.slice none 0 0) false 0 false) ∧ SlPg w' v1 (List.replicate (newN n) zeroP) ∧ SlBo w' v2 (List.replicate (newN n) false) ∧ Fr noB w w' ∧ (∀ q, v1.ownBlock = some q → w.heap.size ≤ q ∧ q < w'.heap.size) ∧ (∀ q, v2.ownBlock = some q → w.heap.size ≤ q ∧ q < w'.heap.size) := by
  obtain ⟨Z, HZ⟩ : ∃ Z, Hid (zeroP = Z) := ⟨_, rfl⟩
  have hZl : Hid (Z.length = 256) := by show _ = _; rw [← HZ.out]; exact zeroP_len
  rw [HZ.out]
  go_enter Try.func14, Try.ntmps14
  go_wp2_with (first
    | (with_reducible refine at_wpP ?_; refine wpList_allocD rfl rfl ?_; intro g3 w3 hg3 b3 f3 s3; have e3 := b2.fr0 f3; have l3 := b3.lt; have F3 := f2.thenN f3)
    | (with_reducible refine at_wpP ?_; refine wpList_allocD rfl rfl ?_; intro g2 w2 hg2 b2 f2 s2; have l2 := b2.lt; have z2 := f2.size)
    | (with_reducible refine at_wpP ?_; refine at_st 39 _ _ rfl ?_; go_must (refine wpList_stD rfl _ _ rfl g3 rfl _ _ _ false 0 false rfl _ b3 rfl (isSl_mk _ _ _) (isSl_mk _ _ _) (isSl_mk _ _ _) ?_; intro w4 b4 f4; have e4 := e3.ne f4 (by omega); have F4 := F3.thenT (S := noB) f4 (fun i hi q => by unfold onB1 at q; omega))))
  go_loopw [4] (fun i wr => ∃ (k : Nat) (v1 v2 : Value), (k : Int) ≤ max n 0 ∧ k ≤ 244 ∧ i = .int .i64 (k : Int) ∧ OwnR pgv 256 46 wr w4.heap.size v1 (List.replicate k Z) ∧ OwnR encB 1 4 wr w4.heap.size v2 (List.replicate k false) ∧ BxV wr g3 39 (dkL v1 v2 (.slice none 0 0) false 0 false) ∧ BxV wr g2 39 (dkL (.slice none 0 0) (.slice none 0 0) (.slice none 0 0) false 0 false) ∧ Fr noB w wr ∧ w4.heap.size ≤ wr.heap.size) (fun i _ => 244 - (intOf i).toNat)
  case atStart => exact ⟨0, .slice none 0 0, .slice none 0 0, by omega, by omega, rfl, OwnR.none _ _, OwnR.none _ _, b4, e4, F4, Nat.le_refl _⟩
  case round =>
    obtain ⟨k, v1, v2, hk1, hk2, rfl, o1, o2, hb, he, hf, hz⟩ := hrel
    have hlb := hb.lt
    have hle := he.lt
    have m2 := b4.lt
    have m3 := e4.lt
    obtain ⟨P1, HP1⟩ : ∃ Y, Hid (List.replicate k Z = Y) := ⟨_, rfl⟩
    obtain ⟨P2, HP2⟩ : ∃ Y, Hid (List.replicate k false = Y) := ⟨_, rfl⟩
    have hP1 : Hid (P1.length = k) := by show _ = _; rw [← HP1.out, List.length_replicate]
    have hP2 : Hid (P2.length = k) := by show _ = _; rw [← HP2.out, List.length_replicate]
    rw [HP1.out] at o1
    rw [HP2.out] at o2
    obtain ⟨a1, c1, rfl⟩ := o1.opn
    obtain ⟨a2, c2, rfl⟩ := o2.opn
    obtain ⟨k0, k1, k2, k3, k4, k5⟩ := hb.six
    by_cases hlt : (k : Int) < n ∧ k < 244
    · have d1 : (k : Int) < n := hlt.1
      have d2 : (k : Int) < 244 := by omega
      go_wp2_with (first
        | (with_reducible refine at_wpP ?_; refine wpList_buildP rfl rfl ?_; rw [HZ.out])
        | (with_reducible refine at_wpP ?_; refine wpList_mk1 (ec := pgv) (sz := 256) rfl 35 _ rfl 46 Try.underlying35 _ info_page2 (by decide) (by decide) Z _ rfl rfl (by rw [pgv_len, hZl.out]) ?_; intro g5 w5 s5 f5 r5 t5; have p1 := o1.fr0 f5; have p2 := o2.fr0 f5; have b5 := hb.fr0 f5; have e5 := he.fr0 f5; have F5 := hf.thenN f5; have z5 := f5.size)
        | (at_builtin; have x2' := x2; go_must (refine wpList_appR (ec := encB) (sz := 1) rfl _ _ 36 rfl w4.heap.size 4 _ 1 Try.underlying36 info_bool rfl (by decide) _ P2 rfl x2 _ [false] rfl s8 (by intro y hy u hu; simp at hu; subst hu; rfl) ?hr1 ?hr2 ?hr3 ?_; rotate_left 3; intro v9 w9 o9 hg9; have hg9 : w8.grownBy w9 (Value.slice a2 P2.length c2).ownBlock := hg9; have f9 : Fr (fun q => (Value.slice a2 P2.length c2).ownBlock = some q) w8 w9 := (Fr.refl _ _).grown hg9 (fun k hk _ => hk); have b9 := b8.fr f9 (fun q => by have := (x2.newB g3 q).1; omega); have e9 := e8.fr f9 (fun q => by have := (x2.newB g2 q).1; omega); have y1 := o8.fr f9 (fun q hq hq' => o8.apart x2 (by decide) q hq hq'); have F9 := F8.thenT (S := noB) f9 (fun k hk q => by have := (x2.newB k q).1; omega); have z9 := f9.size; obtain ⟨X2, HX2⟩ : ∃ X, Hid (P2 ++ [false] = X) := ⟨_, rfl⟩; rw [HX2.out] at o9; obtain ⟨a9, c9, rfl⟩ := o9.opn))
        | (at_builtin; go_must (refine wpList_appR (ec := pgv) (sz := 256) rfl _ _ 35 rfl w4.heap.size 46 _ 256 Try.underlying35 info_page (by simp [Value.cells, pgv_len, zeroP_len]) (by decide) _ P1 rfl p1 _ [Z] rfl s5 (by intro y hy u hu; exact pgv_one y u hu) ?hq1 ?hq2 ?hq3 ?_; rotate_left 3; intro v6 w6 o6 hg6; have hg6 : w5.grownBy w6 (Value.slice a1 P1.length c1).ownBlock := hg6; have f6 : Fr (fun q => (Value.slice a1 P1.length c1).ownBlock = some q) w5 w6 := (Fr.refl _ _).grown hg6 (fun k hk _ => hk); have b6 := b5.fr f6 (fun q => by have := (p1.newB g3 q).1; omega); have e6 := e5.fr f6 (fun q => by have := (p1.newB g2 q).1; omega); have q2 := p2.fr f6 (fun q hq hq' => p1.apart p2 (by decide) q hq' hq); have F6 := F5.thenT (S := noB) f6 (fun k hk q => by have := (p1.newB k q).1; omega); have z6 := f6.size; obtain ⟨X1, HX1⟩ : ∃ X, Hid (P1 ++ [Z] = X) := ⟨_, rfl⟩; rw [HX1.out] at o6; obtain ⟨a6, c6, rfl⟩ := o6.opn))
        | (with_reducible refine at_wpP ?_; refine at_st 35 _ _ rfl ?_; go_must (refine wpList_store1 rfl 35 _ _ rfl g3 0 rfl (.slice a6 X1.length c6) rfl rfl _ _ b6 size_spage (by simp) ?_; intro w7 b7 f7; have b7 : BxV w7 g3 39 (dkL (.slice a6 X1.length c6) (.slice a2 P2.length c2) (.slice none 0 0) false 0 false) := (by simpa using b7); have e7 := e6.ne f7 (by omega); have o7 := o6.ne f7 (fun k hk => by have := (o6.newB k hk).1; omega); have r2 := q2.ne f7 (fun k hk => by have := (q2.newB k hk).1; omega); have F7 := F6.thenT (S := noB) f7 (fun i hi q => by unfold onB1 at q; omega); have z7 := f7.size; obtain ⟨k0, k1, k2, k3, k4, k5⟩ := b7.six))
        | (with_reducible refine at_wpP ?_; refine wpList_mk1 (ec := encB) (sz := 1) rfl 36 _ rfl 4 Try.underlying36 _ info_bool2 (by decide) (by decide) false _ rfl rfl rfl ?_; intro g8 w8 s8 f8 r8 t8; have o8 := o7.fr0 f8; have x2 := r2.fr0 f8; have b8 := b7.fr0 f8; have e8 := e7.fr0 f8; have F8 := F7.thenN f8; have z8 := f8.size)
        | (with_reducible refine at_wpP ?_; refine at_st 36 _ _ rfl ?_; go_must (refine wpList_store1 rfl 36 _ _ rfl g3 1 rfl (.slice a9 X2.length c9) rfl rfl _ _ b9 size_sbool (by simp) ?_; intro w10 b10 f10; have b10 : BxV w10 g3 39 (dkL (.slice a6 X1.length c6) (.slice a9 X2.length c9) (.slice none 0 0) false 0 false) := (by simpa using b10); have e10 := e9.ne f10 (by omega); have y2 := y1.ne f10 (fun k hk => by have := (y1.newB k hk).1; omega); have y3 := o9.ne f10 (fun k hk => by have := (o9.newB k hk).1; omega); have F10 := F9.thenT (S := noB) f10 (fun i hi q => by unfold onB1 at q; omega); have z10 := f10.size)))
      case hq1 => have := hP1.out; unfold maxLen; simp; omega
      case hq2 => have := hP1.out; simp; omega
      case hq3 => omega
      case hr1 => have := hP2.out; unfold maxLen; simp; omega
      case hr2 => have := hP2.out; simp; omega
      case hr3 => omega
      have y2' : OwnR pgv 256 46 w10 w4.heap.size (.slice a6 X1.length c6) (List.replicate (k + 1) Z) := by rw [List.replicate_succ', HP1.out, HX1.out]; exact y2
      have y3' : OwnR encB 1 4 w10 w4.heap.size (.slice a9 X2.length c9) (List.replicate (k + 1) false) := by rw [List.replicate_succ', HP2.out, HX2.out]; exact y3
      go_roundw
      case rel => exact ⟨k + 1, _, _, by omega, by omega, by go_num, y2', y3', b10, e10, F10, by omega⟩
      case measure => simp [intOf]; omega
    · have hkn : k = newN n := by unfold newN; omega
      by_cases d1 : (k : Int) < n
      · have d2 : ¬ (k : Int) < 244 := by omega
        go_wp2_with (first
          | (with_reducible refine at_wpP ?_; refine wpList_ldD rfl _ rfl g3 rfl _ _ _ false 0 false hb ?_)
          | (with_reducible refine at_wpP ?_; refine at_st 39 _ _ rfl ?_; go_must (refine wpList_stD rfl _ _ rfl g2 rfl _ _ _ false 0 false rfl _ he rfl (isSl_mk _ _ _) (isSl_mk _ _ _) (isSl_mk _ _ _) ?_; intro w8 b8 f8)))
        have F8 := hf.thenT (S := noB) f8 (fun i hi q => by unfold onB1 at q; omega)
        refine bodyPost_ret (v := dkV _ _ (.slice none 0 0) false 0 false) (results_disk1 Try.results14 _ w8 g2 _ _ _ false 0 false rfl b8) rfl ⟨_, _, rfl, ?_, ?_, F8, fun q h => by have := o1.newB q h; have := F4.size; have := f8.size; omega, fun q h => by have := o2.newB q h; have := F4.size; have := f8.size; omega⟩
        · rw [← hkn, HP1.out]; exact (o1.ne f8 (fun k hk => by have := (o1.newB k hk).1; omega)).sl
        · rw [← hkn, HP2.out]; exact (o2.ne f8 (fun k hk => by have := (o2.newB k hk).1; omega)).sl
      · go_wp2_with (first
          | (with_reducible refine at_wpP ?_; refine wpList_ldD rfl _ rfl g3 rfl _ _ _ false 0 false hb ?_)
          | (with_reducible refine at_wpP ?_; refine at_st 39 _ _ rfl ?_; go_must (refine wpList_stD rfl _ _ rfl g2 rfl _ _ _ false 0 false rfl _ he rfl (isSl_mk _ _ _) (isSl_mk _ _ _) (isSl_mk _ _ _) ?_; intro w8 b8 f8)))
        have F8 := hf.thenT (S := noB) f8 (fun i hi q => by unfold onB1 at q; omega)
        refine bodyPost_ret (v := dkV _ _ (.slice none 0 0) false 0 false) (results_disk1 Try.results14 _ w8 g2 _ _ _ false 0 false rfl b8) rfl ⟨_, _, rfl, ?_, ?_, F8, fun q h => by have := o1.newB q h; have := F4.size; have := f8.size; omega, fun q h => by have := o2.newB q h; have := F4.size; have := f8.size; omega⟩
        · rw [← hkn, HP1.out]; exact (o1.ne f8 (fun k hk => by have := (o1.newB k hk).1; omega)).sl
        · rw [← hkn, HP2.out]; exact (o2.ne f8 (fun k hk => by have := (o2.newB k hk).1; omega)).sl
end Go.Proofs.Ytijgfojnppcbjaa
/- The program's disk: what it is in memory; has, Len, Down, Cut, act. -/
namespace Go.Proofs.Ytijgfojnppcbjaa
open Go.RowKit Go.Proofs.U Go.Maps
set_option linter.unusedSimpArgs false
set_option linter.unusedVariables false

/-- What a disk holds. -/
structure DSt where
  pages : List (List Int)
  bad : Int → Bool
  pend : List (Int × List Int)
  down : Bool
  left : Int

abbrev pdL (v1 : Value) (m : Nat) (v3 : Value) (d : Bool) (l : Int) : List Value := [v1, .map (some m), v3, .bool d, .int .i64 l]
def badK (bad : Int → Bool) : Lit → Bool
  | .int .i64 x => bad x
  | _ => false
/-- Block m is a map whose keys are those that are bad. -/
def MapI (w : World) (m : Nat) (bad : Int → Bool) : Prop := ∃ (n : Nat) (D : DataW Unit), w.ownsMap Try.prog 3 unitElem m n D ∧ ∀ kl, Maps.has D kl = badK bad kl
theorem MapI.lt {w : World} {m : Nat} {bad : Int → Bool} (h : MapI w m bad) : m < w.heap.size := by
  obtain ⟨n, D, h, _⟩ := h; exact h.lt
theorem MapI.fr {S : Nat → Prop} {w w' : World} {m : Nat} {bad : Int → Bool} (h : MapI w m bad) (f : Fr S w w') (hs : ¬ S m) : MapI w' m bad := by
  have hl := h.lt
  obtain ⟨n, D, ⟨es, clock, hb, h1, h2, h3⟩, h4⟩ := h
  exact ⟨n, D, ⟨es, clock, (f.block m hl hs).trans hb, h1, h2, h3⟩, h4⟩
theorem MapI.notCells {w : World} {m : Nat} {bad : Int → Bool} (h : MapI w m bad) {cs : Array Value} {t : TypeId} {o : Nat × Nat} : w.heap[m]? ≠ some (.cells cs t o) := by
  obtain ⟨n, D, ⟨es, clock, hb, h1, h2, h3⟩, h4⟩ := h
  rw [hb]; simp
theorem keyI : Keyed Try.prog 3 := int_keyed Try.underlying3

theorem ints_length : ∀ (n : Nat) (l : List Int), l.Pairwise (· ≠ ·) → (∀ x ∈ l, 0 ≤ x ∧ x < (n : Int)) → l.length ≤ n
  | 0, l, _, h => by
    cases l with
    | nil => simp
    | cons x l => have := h x (by simp); omega
  | n + 1, l, hp, h => by
    have h1 : (l.filter (fun x => x != (n : Int))).length ≤ n := by
      refine ints_length n _ (hp.sublist List.filter_sublist) ?_
      intro x hx
      have h2 := List.mem_filter.1 hx
      have h3 := h x h2.1
      have h4 : x ≠ (n : Int) := by simpa using h2.2
      omega
    have h2 : l.length ≤ (l.filter (fun x => x != (n : Int))).length + 1 := by
      clear h1 h
      induction l with
      | nil => simp
      | cons x l ih =>
        have hp' := List.pairwise_cons.1 hp
        by_cases hx : x = (n : Int)
        · subst hx
          have : l.filter (fun x => x != (n : Int)) = l := by
            rw [List.filter_eq_self]
            intro y hy
            have := hp'.1 y hy
            simpa using fun e => this e.symm
          simp [this]
        · have := ih hp'.2
          simp [List.filter_cons, hx]; omega
    omega

/-- As many keys as can be. -/
theorem MapI.tight {w : World} {m : Nat} {bad : Int → Bool} {N : Nat} (h : MapI w m bad) (hb : ∀ x, bad x = true → 0 ≤ x ∧ x < (N : Int)) :
    ∃ (D : DataW Unit), w.ownsMap Try.prog 3 unitElem m N D ∧ ∀ kl, Maps.has D kl = badK bad kl := by
  obtain ⟨n, D, ho, hh⟩ := h
  have hent := ho.entries keyI
  obtain ⟨es, clock, hm, hF, hn, hD⟩ := ho
  have hlen : es.size ≤ N := by
    obtain ⟨ds, hds, hpw, hkey⟩ := hent
    have e1 : ds.length = es.size := by
      have : DataW.map ds = .map ((es.toList.map (WideElems.rg Try.prog 3 unitElem)).foldr DataW.insert []) := by rw [← hds, ← hD]
      injection this with this
      rw [this, length_read]
    rw [← e1]
    have hk : ∀ p ∈ ds, ∃ x, p.1 = .int .i64 x ∧ 0 ≤ x ∧ x < (N : Int) := by
      intro p hp
      have h1 : Maps.has D p.1 = true := by
        rw [hds, has_eq, List.any_eq_true]
        exact ⟨p, hp, WideAt.sameKey_self (hkey p hp)⟩
      rw [hh] at h1
      unfold badK at h1
      split at h1
      · rename_i x hx; exact ⟨x, hx, hb x h1⟩
      · simp at h1
    have h2 := ints_length N (ds.map fun p => match p.1 with | .int .i64 x => x | _ => 0) ?_ ?_
    · simpa using h2
    · rw [List.pairwise_map]
      refine hpw.imp_of_mem ?_
      intro p q hp hq hne
      obtain ⟨x, hx, _⟩ := hk p hp
      obtain ⟨y, hy, _⟩ := hk q hq
      rw [hx, hy]
      intro e
      simp only at e
      exact hne (by rw [hx, hy, e])
    · intro z hz
      obtain ⟨p, hp, rfl⟩ := List.mem_map.1 hz
      obtain ⟨x, hx, hr⟩ := hk p hp
      rw [hx]; exact hr
  exact ⟨D, ⟨es, clock, hm, hF, hlen, hD⟩, hh⟩

structure DK (w : World) (F : Nat → Prop) (g : Nat) (X : DSt) (v1 : Value) (m : Nat) (v3 : Value) : Prop where
  bx : BxV w g 72 (pdL v1 m v3 X.down X.left)
  st : OwnR pgv 256 46 w 0 v1 X.pages
  mp : MapI w m X.bad
  pd : OwnR encW 257 88 w 0 v3 X.pend
  fg : F g
  fm : F m
  f1 : ∀ k, v1.ownBlock = some k → F k
  f3 : ∀ k, v3.ownBlock = some k → F k
  lft : -9223372036854775808 ≤ X.left ∧ X.left ≤ 9223372036854775807
  len : X.pages.length ≤ 244
  bin : ∀ x, X.bad x = true → 0 ≤ x ∧ x < (X.pages.length : Int)
  pin : ∀ x ∈ X.pend, 0 ≤ x.1 ∧ x.1 < (X.pages.length : Int)
/-- A disk lies at g, in the blocks F, and holds X. -/
def Disk (w : World) (F : Nat → Prop) (g : Nat) (X : DSt) : Prop := ∃ v1 m v3, DK w F g X v1 m v3

section
variable {w w' : World} {F S : Nat → Prop} {g m : Nat} {X : DSt} {v1 v3 : Value}
theorem OwnR.blk {α : Type} {ec : α → List Value} {sz : Nat} {e : TypeId} {base : Nat} {v : Value} {l : List α} (h : OwnR ec sz e w base v l) : ∀ q, v.ownBlock = some q → ∃ cs, w.heap[q]? = some (.cells cs e (0, 0)) := by
  intro q hq
  rcases h.2.2 with ⟨rfl, _⟩ | ⟨g, cap, cur, rfl, _, h2, _⟩
  · simp [Value.ownBlock] at hq
  · simp [Value.ownBlock] at hq
    subst hq; exact ⟨cur, h2⟩
theorem DK.g1 (h : DK w F g X v1 m v3) : ∀ k, v1.ownBlock = some k → k ≠ g := by
  intro k hk e; subst e
  obtain ⟨cs, hc⟩ := OwnR.blk h.st k hk
  have := h.bx; unfold BxV at this; rw [hc] at this; simp at this
theorem DK.g3 (h : DK w F g X v1 m v3) : ∀ k, v3.ownBlock = some k → k ≠ g := by
  intro k hk e; subst e
  obtain ⟨cs, hc⟩ := OwnR.blk h.pd k hk
  have := h.bx; unfold BxV at this; rw [hc] at this; simp at this
theorem DK.gm (h : DK w F g X v1 m v3) : m ≠ g := by
  intro e; subst e; exact h.mp.notCells h.bx
theorem DK.m1 (h : DK w F g X v1 m v3) : ∀ k, v1.ownBlock = some k → k ≠ m := by
  intro k hk e; subst e
  obtain ⟨cs, hc⟩ := OwnR.blk h.st k hk
  exact h.mp.notCells hc
theorem DK.m3 (h : DK w F g X v1 m v3) : ∀ k, v3.ownBlock = some k → k ≠ m := by
  intro k hk e; subst e
  obtain ⟨cs, hc⟩ := OwnR.blk h.pd k hk
  exact h.mp.notCells hc
theorem DK.k13 (h : DK w F g X v1 m v3) : ∀ k, v1.ownBlock = some k → v3.ownBlock = some k → False := OwnR.apart h.st h.pd (by decide)
theorem DK.mono {G : Nat → Prop} (h : DK w F g X v1 m v3) (hG : ∀ k, k < w.heap.size → F k → G k) : DK w G g X v1 m v3 :=
  { h with fg := hG _ h.bx.lt h.fg, fm := hG _ h.mp.lt h.fm, f1 := fun k hk => hG _ (h.st.newB k hk).2 (h.f1 k hk), f3 := fun k hk => hG _ (h.pd.newB k hk).2 (h.f3 k hk) }
theorem DK.fr (h : DK w F g X v1 m v3) (f : Fr S w w') (hs : ∀ k, k < w.heap.size → F k → ¬ S k) : DK w' F g X v1 m v3 :=
  { h with bx := h.bx.fr f (hs _ h.bx.lt h.fg), mp := h.mp.fr f (hs _ h.mp.lt h.fm), st := h.st.fr f (fun k hk => hs _ (h.st.newB k hk).2 (h.f1 k hk)), pd := h.pd.fr f (fun k hk => hs _ (h.pd.newB k hk).2 (h.f3 k hk)) }
theorem DK.fr0 (h : DK w F g X v1 m v3) (f : Fr noB w w') : DK w' F g X v1 m v3 := h.fr f (fun _ _ _ q => q)
/-- down and left turned. -/
theorem DK.put (h : DK w F g X v1 m v3) {d : Bool} {l : Int} (f : Fr (onB1 g) w w') (hb : BxV w' g 72 (pdL v1 m v3 d l)) (hl : -9223372036854775808 ≤ l ∧ l ≤ 9223372036854775807) : DK w' F g { X with down := d, left := l } v1 m v3 :=
  { h with bx := hb, mp := h.mp.fr f (fun q => h.gm q), st := h.st.ne f h.g1, pd := h.pd.ne f h.g3, lft := hl }
theorem Disk.mono {G : Nat → Prop} (h : Disk w F g X) (hG : ∀ k, k < w.heap.size → F k → G k) : Disk w G g X := by
  obtain ⟨v1, m, v3, h⟩ := h; exact ⟨v1, m, v3, h.mono hG⟩
theorem Disk.fr (h : Disk w F g X) (f : Fr S w w') (hs : ∀ k, k < w.heap.size → F k → ¬ S k) : Disk w' F g X := by
  obtain ⟨v1, m, v3, h⟩ := h; exact ⟨v1, m, v3, h.fr f hs⟩
theorem Disk.fr0 (h : Disk w F g X) (f : Fr noB w w') : Disk w' F g X := h.fr f (fun _ _ _ q => q)
theorem Disk.lt (h : Disk w F g X) : g < w.heap.size := by
  obtain ⟨v1, m, v3, h⟩ := h; exact h.bx.lt
theorem onB1_F (h : F g) (f : Fr (onB1 g) w w') : Fr F w w' := f.mono (fun k _ q => by unfold onB1 at q; exact q ▸ h)
end
theorem _root_.Go.Proofs.U.BxV.five {w : World} {g : Nat} {t : TypeId} {x0 x1 x2 x3 x4 : Value} (h : BxV w g t [x0, x1, x2, x3, x4]) :
    (w.cell? ⟨g, 0, none⟩ = some x0 ∧ w.cell? ⟨g, 1, none⟩ = some x1 ∧ w.cell? ⟨g, 2, none⟩ = some x2 ∧ w.cell? ⟨g, 3, none⟩ = some x3 ∧ w.cell? ⟨g, 4, none⟩ = some x4) :=
  ⟨(h.cell 0 _ rfl).1, (h.cell 1 _ rfl).1, (h.cell 2 _ rfl).1, (h.cell 3 _ rfl).1, (h.cell 4 _ rfl).1⟩

abbrev ptr (g : Nat) : Value := .pointer (some ⟨g, 0, none⟩)

theorem has_any {F : Nat → Prop} {X : DSt} (g : Nat) (i : Int) (w : World) (h : Disk w F g X) :
    Calls Try.prog 38 #[ptr g, .int .i64 i] w fun r w' => r = .returned (.bool (inR X.pages.length i)) ∧ w = w' := by
  obtain ⟨v1, m, v3, h⟩ := h
  obtain ⟨a1, c1, rfl⟩ := h.st.opn
  obtain ⟨k0, k1, k2, k3, k4⟩ := h.bx.five
  clear h
  by_cases h0 : 0 ≤ i
  · go_enter Try.func38, Try.ntmps38
    go_wp2
    go_ret
    exact ⟨by simp [h0, inR], rfl⟩
  · have h1 : decide (0 ≤ i) = false := by simpa using h0
    go_enter Try.func38, Try.ntmps38
    go_wp2
    go_ret
    exact ⟨by simp [inR, h1], rfl⟩

theorem pcut_any {F : Nat → Prop} {X : DSt} (g : Nat) (n : Int) (hn : -9223372036854775808 ≤ n ∧ n ≤ 9223372036854775807) (w : World) (h : Disk w F g X) :
    Calls Try.prog 19 #[ptr g, .int .i64 n] w fun r w' => r = .returned (.tuple #[]) ∧ Disk w' F g { X with left := n } ∧ Fr F w w' := by
  obtain ⟨v1, m, v3, h⟩ := h
  have hbx := h.bx
  go_enter Try.func19, Try.ntmps19
  go_wp2_with (first
    | (with_reducible refine at_wpP ?_; refine at_st 3 _ _ rfl ?_; go_must (refine wpList_store1 rfl 3 _ _ rfl g 4 rfl (.int .i64 n) rfl rfl _ _ hbx size_int (by simp) ?_; intro w1 b1 f1; have b1 : BxV w1 g 72 (pdL v1 m v3 X.down n) := (by simpa using b1))))
  go_end0
  exact ⟨rfl, ⟨v1, m, v3, h.put f1 b1 hn⟩, onB1_F h.fg f1⟩

/-- What an act does: left, down, error. -/
def actP (l : Int) (d : Bool) : Int × Bool × Int := if d || l == 0 then (l, true, 42) else (if l > 0 then l - 1 else l, d, 0)
def DSt.act (X : DSt) : DSt := { X with left := (actP X.left X.down).1, down := (actP X.left X.down).2.1 }
def DSt.actE (X : DSt) : Int := (actP X.left X.down).2.2

theorem act_any {F : Nat → Prop} {X : DSt} (g : Nat) (w : World) (h : Disk w F g X) :
    Calls Try.prog 39 #[ptr g] w fun r w' => r = .returned (.int .i64 X.actE) ∧ Disk w' F g X.act ∧ Fr F w w' := by
  obtain ⟨v1, m, v3, h⟩ := h
  have hbx := h.bx
  obtain ⟨pages, bad, pend, d, l⟩ := X
  have hlft := h.lft
  simp only [DSt.actE, DSt.act] at *
  by_cases h0 : l = 0
  · subst h0
    obtain ⟨k0, k1, k2, k3, k4⟩ := hbx.five
    have hr : actP 0 d = (0, true, 42) := by simp [actP]
    rw [hr]
    go_enter Try.func39, Try.ntmps39
    go_wp2_with (first
      | (with_reducible refine at_wpP ?_; refine at_st 4 _ _ rfl ?_; go_must (refine wpList_store1 rfl 4 _ _ rfl g 3 rfl (.bool true) rfl rfl _ _ hbx size_bool (by simp) ?_; intro w1 b1 f1; have b1 : BxV w1 g 72 (pdL v1 m v3 true 0) := (by simpa using b1); obtain ⟨q0, q1, q2, q3, q4⟩ := b1.five)))
    go_ret
    exact ⟨rfl, ⟨v1, m, v3, h.put f1 b1 (by decide)⟩, onB1_F h.fg f1⟩
  · have hb : (l == 0) = false := by simpa using h0
    obtain ⟨k0, k1, k2, k3, k4⟩ := hbx.five
    cases d with
    | true =>
      have hr : actP l true = (l, true, 42) := by simp [actP]
      rw [hr]
      go_enter Try.func39, Try.ntmps39
      go_wp2
      go_ret
      exact ⟨rfl, ⟨v1, m, v3, h⟩, Fr.refl _ _⟩
    | false =>
      by_cases hp : 0 < l
      · have hr : actP l false = (l - 1, false, 0) := by simp [actP, hb, hp]
        rw [hr]
        go_enter Try.func39, Try.ntmps39
        go_wp2_with (first
          | (with_reducible refine at_wpP ?_; refine at_st 3 _ _ rfl ?_; go_must (refine wpList_store1 rfl 3 _ _ rfl g 4 rfl (.int .i64 (l - 1)) rfl rfl _ _ hbx size_int (by simp) ?_; intro w1 b1 f1; have b1 : BxV w1 g 72 (pdL v1 m v3 false (l - 1)) := (by simpa using b1))))
        go_ret
        exact ⟨rfl, ⟨v1, m, v3, h.put f1 b1 (by omega)⟩, onB1_F h.fg f1⟩
      · have hr : actP l false = (l, false, 0) := by simp [actP, hb, hp]
        rw [hr]
        go_enter Try.func39, Try.ntmps39
        go_wp2
        go_ret
        exact ⟨rfl, ⟨v1, m, v3, h⟩, Fr.refl _ _⟩
end Go.Proofs.Ytijgfojnppcbjaa
/- The program's disk: New, Stable, Spoil, Pending. -/
namespace Go.Proofs.U
open Go.RowKit
set_option linter.unusedSimpArgs false
set_option linter.unusedVariables false
theorem madeCells_flat {α : Type} (ec : α → List Value) (sz : Nat) (x : α) (cs : Array Value) (hc : cs.toList = ec x) (hs : (ec x).length = sz) (hz : 0 < sz) (n : Nat) : (madeCells cs (n * sz)).toList = (List.replicate n x).flatMap ec := by
  have hsz : cs.size = sz := by rw [← hs, ← hc, Array.length_toList]
  have h1 : ∀ m, (madeCells cs m).toList = (List.range m).map (fun i => cs[i % sz]!) := by
    intro m; simp [madeCells, hsz]
  rw [h1]
  induction n with
  | zero => simp
  | succ n ih =>
    rw [List.replicate_succ', List.flatMap_append, ← ih, Nat.succ_mul, List.range_add, List.map_append]
    congr 1
    simp only [List.flatMap_cons, List.flatMap_nil, List.append_nil, List.map_map]
    rw [← hc]
    apply List.ext_getElem
    · simp [hsz]
    · intro i h2 h3
      have h4 : i < sz := by simpa using h2
      simp
      rw [Nat.mod_eq_of_lt h4, getElem!_pos cs i (by omega)]
section
variable {α : Type} {P : Program} {w : World} {ops : Array Oper} {rest : List Oper} {o : Oper} {a : Act} {Q : Exit → Act → World → Prop}
/-- make([]T, n): n elements x, x the zero value. -/
theorem wpList_makeR (ec : α → List Value) (sz : Nat) (hg : o.guard = none) (l c : Operand) (t : TypeId) (hop : o.op = Op.makeSlice t l c)
    (base : Nat) (e : TypeId) (z : Value) (bytes : Nat) (h1 : P.underlying t = some (.slice e)) (hinfo : (P.info? e).map (fun i => (i.zero, i.size, i.bytes)) = some (some z, sz, bytes)) (x : α) (hx : z.cells.toList = ec x) (hs : (ec x).length = sz) (hz : 0 < sz)
    (kl kc : IntKind) (L C : Int) (n : Nat) (hl : a.eval l = .int kl L) (hc : a.eval c = .int kc C) (hL : L = (n : Int)) (hC : C = (n : Int)) (b2 : bytes * n ≤ 281474976710656) (b3 : n ≤ maxLen) (b4 : base ≤ w.heap.size)
    (hK : ∀ g w', OwnR ec sz e w' base (.slice (some ⟨g, 0, none⟩) n n) (List.replicate n x) → Fr noB w w' → w.heap.size ≤ g → g < w'.heap.size → wpList P ops Q rest (a.put o.dst (.slice (some ⟨g, 0, none⟩) n n)) w') :
    wpList P ops Q (o :: rest) a w := by
  obtain ⟨i0, hi, hz0, hz1, hz2⟩ := info_parts hinfo
  refine wpList_make_full w hg l c t hop base e i0 z sz h1 hi hz0 hz1 kl kc L C n hl hc hL hC (by rw [hz2]; exact b2) b3 b4 ?_
  intro w' ho hgr
  have ho' : w'.ownsRow base e sz (.slice (some ⟨w.heap.size, 0, none⟩) n n) (List.replicate n x).length ((List.replicate n x).flatMap ec) := by
    rw [← madeCells_flat ec sz x z.cells hx hs hz n, List.length_replicate]; exact ho
  have hlt := (World.ownsRow.lt ho' w.heap.size rfl).2
  refine hK w.heap.size w' ⟨?_, ho'⟩ (Fr.of_grown hgr) (Nat.le_refl _) hlt
  intro y hy
  rw [List.eq_of_mem_replicate hy]; exact hs
/-- make([]T, 0, n). -/
theorem wpList_make0R (ec : α → List Value) (sz : Nat) (hg : o.guard = none) (l c : Operand) (t : TypeId) (hop : o.op = Op.makeSlice t l c)
    (base : Nat) (e : TypeId) (z : Value) (bytes : Nat) (h1 : P.underlying t = some (.slice e)) (hinfo : (P.info? e).map (fun i => (i.zero, i.size, i.bytes)) = some (some z, sz, bytes))
    (kl kc : IntKind) (C : Int) (n : Nat) (hl : a.eval l = .int kl 0) (hc : a.eval c = .int kc C) (hC : C = (n : Int)) (b2 : bytes * n ≤ 281474976710656) (b3 : n ≤ maxLen) (b4 : base ≤ w.heap.size)
    (hK : ∀ g w', OwnR ec sz e w' base (.slice (some ⟨g, 0, none⟩) 0 n) ([] : List α) → Fr noB w w' → w.heap.size ≤ g → g < w'.heap.size → wpList P ops Q rest (a.put o.dst (.slice (some ⟨g, 0, none⟩) 0 n)) w') :
    wpList P ops Q (o :: rest) a w := by
  obtain ⟨i0, hi, hz0, hz1, hz2⟩ := info_parts hinfo
  refine wpList_make_own w hg l c t hop base e i0 z sz h1 hi hz0 hz1 kl kc C n hl hc hC (by rw [hz2]; exact b2) b3 b4 ?_
  intro w' ho hgr
  exact hK w.heap.size w' ⟨by simp, ho⟩ (Fr.of_grown hgr) (Nat.le_refl _) (World.ownsRow.lt ho w.heap.size rfl).2
end
end Go.Proofs.U
namespace Go.Proofs.Ytijgfojnppcbjaa
open Go.RowKit Go.Proofs.U Go.Maps
set_option linter.unusedSimpArgs false
set_option linter.unusedVariables false

def newD (n : Int) : DSt := ⟨List.replicate (newN n) zeroP, fun _ => false, [], false, -1⟩

theorem newD_mk {w w1 w2 : World} {g1 g2 N : Nat} {Z : List Int} (o1 : OwnR pgv 256 46 w1 0 (.slice (some ⟨g1, 0, none⟩) N N) (List.replicate N Z))
    (b2 : BxV w2 g2 72 (pdL (.slice (some ⟨g1, 0, none⟩) N N) w1.heap.size (.slice none 0 0) false (-1))) (f1 : Fr noB w w1) (f2 : Fr noB (w1.alloc (.map #[] 0)) w2) (s1 : w.heap.size ≤ g1) (s2 : (w1.alloc (.map #[] 0)).heap.size ≤ g2) (hN4 : N ≤ 244) :
    Disk w2 (fun k => w.heap.size ≤ k) g2 ⟨List.replicate N Z, fun _ => false, [], false, -1⟩ := by
  have fm : Fr noB w1 (w1.alloc (.map #[] 0)) := (Fr.refl _ _).alloc _
  have z1 := f1.size
  have z2 := f2.size
  have hmz : (w1.alloc (.map #[] 0)).heap.size = w1.heap.size + 1 := by simp
  exact ⟨.slice (some ⟨g1, 0, none⟩) N N, w1.heap.size, .slice none 0 0, {
    bx := b2
    st := (o1.fr0 fm).fr0 f2
    mp := MapI.fr ⟨0, .map [], World.ownsMap_made w1 Try.prog 3 unitElem, fun kl => by cases kl with | int k x => cases k <;> rfl | _ => rfl⟩ f2 (fun q => q)
    pd := OwnR.none _ _
    fg := by omega
    fm := by omega
    f1 := fun k hk => by simp [Value.ownBlock] at hk; omega
    f3 := fun k hk => by simp [Value.ownBlock] at hk
    lft := by simp only; omega
    len := by simpa using hN4
    bin := fun x hx => by simp at hx
    pin := fun x hx => by simp at hx }⟩

set_option maxRecDepth 100000 in
set_option maxHeartbeats 1000000 in
theorem new_any (n : Int) (hn : -9223372036854775808 ≤ n ∧ n ≤ 9223372036854775807) (w : World) :
    Calls Try.prog 8 #[.int .i64 n] w fun r w' => ∃ g, r = .returned (ptr g) ∧ Disk w' (fun k => w.heap.size ≤ k) g (newD n) ∧ Fr noB w w' := by
  have hmm := @run_makeMap Try.prog
  obtain ⟨Z, HZ⟩ : ∃ Z, Hid (zeroP = Z) := ⟨_, rfl⟩
  have hZl : Hid (Z.length = 256) := by show _ = _; rw [← HZ.out]; exact zeroP_len
  have hi : (Try.prog.info? 46).map (fun i => (i.zero, i.size, i.bytes)) = some (some (.agg (pgv Z).toArray), 256, 256) := by rw [← HZ.out]; exact info_page
  obtain ⟨N, HN⟩ : ∃ N, Hid (newN n = N) := ⟨_, rfl⟩
  have hN4 : N ≤ 244 := by rw [← HN.out]; unfold newN; omega
  have hN : min (max n 0) 244 = (N : Int) := by rw [← HN.out]; unfold newN; omega
  unfold newD
  rw [HN.out, HZ.out]
  go_enter Try.func8, Try.ntmps8
  go_wp2_with (first
    | (refine at_make 35 _ _ rfl ?_; go_must (refine wpList_makeR pgv 256 rfl _ _ 35 rfl 0 46 _ 256 Try.underlying35 hi Z (by simp [Value.cells]) (by rw [pgv_len, hZl.out]) (by decide) .i64 .i64 _ _ N rfl rfl ?hL ?hC ?hb2 ?hb3 (Nat.zero_le _) ?_; rotate_left 4; intro g1 w1 o1 f1 s1 t1))
    | (with_reducible refine at_wpP ?_; refine wpList_boxV rfl 72 _ rfl (pdL (.slice (some ⟨g1, 0, none⟩) N N) w1.heap.size (.slice none 0 0) false (-1)) rfl ?_; intro g2 w2 hg2 b2 f2 s2))
  all_goals first
    | omega
    | (unfold maxLen; omega)
    | (go_ret; exact ⟨g2, rfl, newD_mk o1 b2 f1 f2 s1 s2 hN4, (f1.thenN ((Fr.refl _ _).alloc _)).thenN f2⟩)

/-- Stable's answer. -/
def stabR (X : DSt) (i : Int) : List Int × Int := if inR X.pages.length i then (X.pages.getD i.toNat [], 0) else (zeroP, 41)

set_option maxRecDepth 100000 in
set_option maxHeartbeats 1000000 in
theorem stable_any {F : Nat → Prop} {X : DSt} (g : Nat) (i : Int) (w : World) (h : Disk w F g X) :
    Calls Try.prog 27 #[ptr g, .int .i64 i] w fun r w' => r = .returned (.tuple #[pgV (stabR X i).1, .int .i64 (stabR X i).2]) ∧ Fr noB w w' := by
  have hD := h
  obtain ⟨v1, m, v3, h⟩ := h
  obtain ⟨a1, c1, rfl⟩ := h.st.opn
  obtain ⟨pages, bad, pend, d, l⟩ := X
  simp only at *
  cases hin : inR pages.length i with
  | false =>
    have hs : stabR ⟨pages, bad, pend, d, l⟩ i = (zeroP, 41) := by simp [stabR, hin]
    rw [hs]
    go_enter Try.func27, Try.ntmps27
    go_wp2_with (first
      | (with_reducible refine at_wpP ?_; refine wpList_allocP rfl rfl ?_; intro g4 w4 hg4 b4 f4 s4; have l4 := b4.lt)
      | (go_at_call 38; go_must (refine (has_any g i _ (hD.fr0 f4)).mono ?_; rintro e w' ⟨rfl, rfl⟩; rw [hin]))
      | (with_reducible refine at_wpP ?_; refine wpList_buildP rfl rfl ?_)
      | (with_reducible refine at_wpP ?_; refine at_st 46 _ _ rfl ?_; go_must (refine wpList_storeP rfl _ _ rfl g4 rfl zeroP rfl _ b4 zeroP_len zeroP_len ?_; intro w5 b5 f5)))
    have F5 := f4.thenT (S := noB) f5 (fun i hi q => by unfold onB1 at q; omega)
    exact bodyPost_ret (v := .tuple #[pgV zeroP, .int .i64 41]) (results_page2 Try.results27 _ w5 g4 zeroP rfl b5 zeroP_len) rfl ⟨rfl, F5⟩
  | true =>
    obtain ⟨j, rfl⟩ : ∃ j : Nat, i = j := ⟨i.toNat, by simp [inR] at hin; omega⟩
    have hj : j < pages.length := by simp [inR] at hin; omega
    obtain ⟨p, Hp⟩ : ∃ p, Hid (pages.getD j [] = p) := ⟨_, rfl⟩
    have hs : stabR ⟨pages, bad, pend, d, l⟩ (j : Int) = (p, 0) := by simp [stabR, hin, ← Hp.out]
    have hpj : pages[j] = p := by rw [← Hp.out]; simp [List.getD, hj]
    have hpl : Hid (p.length = 256) := by have := h.st.1 pages[j] (by simp); rwa [hpj, pgv_len] at this
    rw [hs]
    have hO := h.st
    simp only at hO
    obtain ⟨b, cap', cur, hv, _, _, _, _, _⟩ := hO.bx (by omega)
    obtain ⟨rfl, rfl⟩ : a1 = some ⟨b, 0, none⟩ ∧ c1 = cap' := by simpa using hv
    clear hv
    have hrg := OwnR.rangeK hO j hj
    rw [hpj] at hrg
    obtain ⟨k0, k1, k2, k3, k4⟩ := h.bx.five
    go_enter Try.func27, Try.ntmps27
    go_wp2_with (first
      | (with_reducible refine at_wpP ?_; refine wpList_allocP rfl rfl ?_; intro g4 w4 hg4 b4 f4 s4; have l4 := b4.lt; have k0 := f4.cell k0 (fun q => q); have hrg := OwnR.rangeK (hO.fr0 f4) j hj; rw [hpj] at hrg)
      | (go_at_call 38; go_must (refine (has_any g j _ (hD.fr0 f4)).mono ?_; rintro e w' ⟨rfl, rfl⟩; rw [hin]))
      | (refine at_idx 35 _ _ rfl ?_; go_must (refine wpList_idxO (sz := 256) rfl 35 _ _ rfl 46 Try.underlying35 size_page b _ _ rfl .i64 _ j rfl rfl hj ?_))
      | (with_reducible refine at_wpP ?_; refine wpList_ldPm rfl _ rfl b (j * 256) rfl p hrg hpl.out ?_)
      | (with_reducible refine at_wpP ?_; refine at_st 46 _ _ rfl ?_; go_must (refine wpList_storeP rfl _ _ rfl g4 rfl p rfl _ b4 hpl.out zeroP_len ?_; intro w5 b5 f5)))
    have F5 := f4.thenT (S := noB) f5 (fun i hi q => by unfold onB1 at q; omega)
    exact bodyPost_ret (v := .tuple #[pgV p, .int .i64 0]) (results_page2 Try.results27 _ w5 g4 p rfl b5 hpl.out) rfl ⟨rfl, F5⟩

end Go.Proofs.Ytijgfojnppcbjaa
/- The program's disk: Spoil, Pending. -/
namespace Go.Proofs.Ytijgfojnppcbjaa
open Go.RowKit Go.Proofs.U Go.Maps
set_option linter.unusedSimpArgs false
set_option linter.unusedVariables false

def DSt.spoil (X : DSt) (i : Int) (b : Bool) : DSt := if inR X.pages.length i then { X with bad := fun x => if x == i then b else X.bad x } else X
theorem badK_put (bad : Int → Bool) (i : Int) (b : Bool) (kl : Lit) (h : kl ≠ .int .i64 i) : badK (fun x => if x == i then b else bad x) kl = badK bad kl := by
  unfold badK
  split
  · rename_i x
    have : x ≠ i := fun e => h (by rw [e])
    simp [this]
  · rfl

set_option maxRecDepth 100000 in
set_option maxHeartbeats 1000000 in
theorem spoil_any {F : Nat → Prop} {X : DSt} (g : Nat) (i : Int) (hi : -9223372036854775808 ≤ i ∧ i ≤ 9223372036854775807) (b : Bool) (w : World) (h : Disk w F g X) :
    Calls Try.prog 23 #[ptr g, .int .i64 i, .bool b] w fun r w' => r = .returned (.int .i64 (if inR X.pages.length i then 0 else 41)) ∧ Disk w' F g (X.spoil i b) ∧ Fr F w w' := by
  have hD := h
  unfold DSt.spoil
  cases hin : inR X.pages.length i with
  | false =>
    go_enter Try.func23, Try.ntmps23
    go_wp2_with (first
      | (go_at_call 38; go_must (refine (has_any g i _ hD).mono ?_; rintro e w' ⟨rfl, rfl⟩; rw [hin])))
    go_ret
    exact ⟨rfl, hD, Fr.refl _ _⟩
  | true =>
    obtain ⟨v1, m, v3, h⟩ := h
    have hir : 0 ≤ i ∧ i < (X.pages.length : Int) := by simpa [inR] using hin
    have hwf : (Lit.int .i64 i).wf = true := WalkArith.wf_i64 hi
    obtain ⟨D, ho, hh⟩ := h.mp.tight h.bin
    have hlen := h.len
    have hD2 : ∀ (w' : World) (n : Nat) (D' : DataW Unit), w'.ownsMap Try.prog 3 unitElem m n D' → w.mapTurned w' m → (∀ kl, kl ≠ .int .i64 i → Maps.has D' kl = Maps.has D kl) → Maps.has D' (.int .i64 i) = b →
        Disk w' F g { X with bad := fun x => if x == i then b else X.bad x } ∧ Fr F w w' := by
      intro w' n D' ho' ht h1 h2
      have f1 : Fr (onB1 m) w w' := (Fr.refl _ _).grown ht.grown (fun k hk _ => (Option.some.inj hk).symm)
      refine ⟨⟨v1, m, v3, ?_⟩, f1.mono (fun k _ q => by unfold onB1 at q; exact q ▸ h.fm)⟩
      exact { h with
        bx := h.bx.ne f1 (fun e => h.gm e.symm)
        st := h.st.ne f1 h.m1
        pd := h.pd.ne f1 h.m3
        mp := ⟨n, D', ho', fun kl => by
          by_cases hk : kl = .int .i64 i
          · subst hk; rw [h2]; simp [badK]
          · rw [h1 kl hk, hh, badK_put _ _ _ _ hk]⟩
        bin := fun x hx => by
          by_cases hk : x = i
          · subst hk; exact hir
          · simp [hk] at hx; exact h.bin x hx }
    obtain ⟨k0, k1, k2, k3, k4⟩ := h.bx.five
    obtain ⟨Y, HY⟩ : ∃ Y, Hid (({ X with bad := fun x => if x == i then b else X.bad x } : DSt) = Y) := ⟨_, rfl⟩
    rw [HY.out] at hD2
    simp only [if_true]
    rw [HY.out]
    cases b with
    | true =>
      go_enter Try.func23, Try.ntmps23
      go_wp2_with (first
        | (go_at_call 38; go_must (refine (has_any g i _ hD).mono ?_; rintro e w' ⟨rfl, rfl⟩; rw [hin]))
        | (at_mapUpdate; go_must (refine wpList_mapUpdate_in _ rfl _ _ _ 69 rfl 3 94 keyI Try.underlying69 _ m _ D rfl ho (by unfold maxLen; omega) _ _ _ rfl rfl (keyOf_int_mk Try.underlying3 hwf) _ [] unitElem_mk ?_; intro w1 ho1 ht1)))
      go_ret
      have := hD2 w1 _ _ ho1 ht1 (fun kl hk => has_put_other hk _) (has_put_same ho.isMap (by trivial) _)
      exact ⟨rfl, this.1, this.2⟩
    | false =>
      go_enter Try.func23, Try.ntmps23
      go_wp2_with (first
        | (go_at_call 38; go_must (refine (has_any g i _ hD).mono ?_; rintro e w' ⟨rfl, rfl⟩; rw [hin]))
        | (at_delete; go_must (refine wpList_delete_own _ rfl _ _ 69 3 rfl 94 keyI Try.underlying69 _ m _ D rfl ho _ _ rfl (keyOf_int_mk Try.underlying3 hwf) ?_; intro w1 ho1 ht1)))
      go_ret
      have := hD2 w1 _ _ ho1 ht1 (fun kl hk => has_del_other hk) has_del_same
      exact ⟨rfl, this.1, this.2⟩

abbrev en64 (z : Int) : List Value := [Value.int .i64 z]
theorem info_int : (Try.prog.info? 3).map (fun i => (i.zero, i.size, i.bytes)) = some (some (.int .i64 0), 1, 8) := by kernel_rfl
theorem info_int2 : (Try.prog.info? 3).map (fun i => (i.zero, i.size)) = some (some (.int .i64 0), 1) := by kernel_rfl
theorem pwrite_size : (Try.prog.info? 88).map (·.size) = some 257 := by kernel_rfl
theorem pzero_write : (Try.prog.info? 88).map (·.zero) = some (some (.agg (encW (0, zeroP)).toArray)) := by kernel_rfl
theorem punder_write : Try.prog.underlying 88 = some (.struct (Try.prog.fieldsOf 88)) := by kernel_rfl

end Go.Proofs.Ytijgfojnppcbjaa
/- A part of an element of an own row written by copy; pages mixed by sectors. -/
namespace Go.Proofs.U
open Go.RowKit
set_option linter.unusedSimpArgs false
set_option linter.unusedVariables false
theorem putAt_mid (A B C ds : List Value) (off : Nat) (h : off + ds.length ≤ B.length) : putAt (A ++ (B ++ C)) (A.length + off) ds = A ++ (putAt B off ds ++ C) := by
  unfold putAt
  rw [List.take_append, List.take_of_length_le (by omega), Nat.add_sub_cancel_left, List.take_append_of_le_length (by omega)]
  rw [Nat.add_assoc, List.drop_append, List.drop_eq_nil_of_le (by omega), Nat.add_sub_cancel_left, List.nil_append, List.drop_append_of_le_length (by omega)]
  simp
theorem putAt_whole (A B C D : List Value) (h : D.length = B.length) : putAt (A ++ (B ++ C)) A.length D = A ++ (D ++ C) := by
  have := putAt_mid A B C D 0 (by omega)
  rw [Nat.add_zero, putAt_all _ _ h] at this
  exact this
theorem putAt_len (B ds : List Value) (off : Nat) (h : off + ds.length ≤ B.length) : (putAt B off ds).length = B.length := by
  unfold putAt; simp; omega
section
variable {α : Type} {ec : α → List Value} {sz : Nat} {e : TypeId} {w : World} {base : Nat} {l : List α}
theorem OwnR.putMid {g n cap : Nat} (hO : OwnR ec sz e w base (.slice (some ⟨g, 0, Option.none⟩) n cap) l) (j : Nat) (hj : j < l.length) (off : Nat) (ds : List Value) (b : α) (hb : ec b = putAt (ec l[j]) off ds) (hd : off + ds.length ≤ sz) :
    OwnR ec sz e (w.setCells g (j * sz + off) ds) base (.slice (some ⟨g, 0, Option.none⟩) n cap) (l.set j b) ∧ (∀ i, i < ds.length → (w.cell? ⟨g, j * sz + off + i, Option.none⟩).isSome = true ∧ w.frozen? ⟨g, j * sz + off + i, Option.none⟩ = false) := by
  have hrg := OwnR.rangeK hO j hj
  have hlj : (ec l[j]).length = sz := hO.1 _ (by simp)
  obtain ⟨g', cap', cur, hv, h1, hB, h3, h4, h5⟩ := hO.bx (by omega)
  cases hv
  have hle : j * sz + sz ≤ cur.length := by
    have : (j + 1) * sz ≤ l.length * sz := Nat.mul_le_mul_right _ (by omega)
    rw [Nat.add_mul, Nat.one_mul] at this; omega
  have hseg : (cur.drop (j * sz)).take sz = ec l[j] := by
    apply List.ext_getElem
    · simp [hlj]; omega
    · intro i h6 h7
      have h8 := hrg i (ec l[j])[i] (List.getElem?_eq_getElem h7)
      have h9 := (hB.cell (j * sz + i) cur[j * sz + i] (List.getElem?_eq_getElem (by omega))).1
      rw [h9] at h8
      simpa using h8
  have hcur : cur = cur.take (j * sz) ++ (ec l[j] ++ cur.drop (j * sz + sz)) := by
    rw [← hseg, ← List.drop_drop, List.take_append_drop, List.take_append_drop]
  have hbl : (ec b).length = sz := by rw [hb, putAt_len _ _ _ (by omega), hlj]
  have htl : (cur.take (j * sz)).length = j * sz := by simp; omega
  have heq : putAt cur (j * sz + off) ds = putAt cur (j * sz) (ec b) := by
    have e1 := putAt_mid (cur.take (j * sz)) (ec l[j]) (cur.drop (j * sz + sz)) ds off (by omega)
    have e2 := putAt_whole (cur.take (j * sz)) (ec l[j]) (cur.drop (j * sz + sz)) (ec b) (by omega)
    rw [← hcur, htl] at e1 e2
    rw [e1, e2, hb]
  refine ⟨?_, ?_⟩
  · have hB' := setCells_bx ds (j * sz + off) w cur hB (by omega)
    rw [heq] at hB'
    refine h5 _ _ _ hB' ?_ (by simp) ?_ (flat_put l hO.1 j hj b hbl cur h3 h4)
    · rw [← heq, putAt_len _ _ _ (by omega)]
    · intro z hz
      rcases List.mem_or_eq_of_mem_set hz with hz | rfl
      · exact hO.1 z hz
      · exact hbl
  · intro i hi
    have := hB.cell (j * sz + off + i) cur[j * sz + off + i] (List.getElem?_eq_getElem (by omega))
    exact ⟨by rw [this.1]; rfl, this.2⟩
end
end Go.Proofs.U
namespace Go.Proofs.Ytijgfojnppcbjaa
open Go.RowKit Go.Proofs.U Go.Maps
set_option linter.unusedSimpArgs false
set_option linter.unusedVariables false

/-- The first s sectors, as far as they stay, in the place of the old ones. -/
def mixS (old new : List Int) (st : Nat → Bool) (s : Nat) : List Int := (List.range 256).map fun i => if i / 32 < s && st (i / 32) then new.getD i 0 else old.getD i 0
theorem mixS_len (old new : List Int) (st : Nat → Bool) (s : Nat) : (mixS old new st s).length = 256 := by simp [mixS]
theorem mixS_zero (old new : List Int) (st : Nat → Bool) (h : old.length = 256) : mixS old new st 0 = old := by
  apply List.ext_getElem
  · simp [mixS, h]
  · intro i h1 h2
    simp [mixS, List.getD, h2]
theorem mixS_no (old new : List Int) (st : Nat → Bool) (s : Nat) (h : st s = false) : mixS old new st (s + 1) = mixS old new st s := by
  unfold mixS
  apply List.map_congr_left
  intro i _
  by_cases h1 : i / 32 = s
  · rw [h1, h]; simp
  · have : (decide (i / 32 < s + 1)) = decide (i / 32 < s) := by
      rw [decide_eq_decide]; omega
    rw [this]
theorem mixS_yes (old new : List Int) (st : Nat → Bool) (s : Nat) (hs : s < 8) (hn : new.length = 256) (h : st s = true) :
    pgv (mixS old new st (s + 1)) = putAt (pgv (mixS old new st s)) (s * 32) (pgv ((new.drop (s * 32)).take 32)) := by
  have hl : ((new.drop (s * 32)).take 32).length = 32 := by simp; omega
  have key : mixS old new st (s + 1) = (mixS old new st s).take (s * 32) ++ ((new.drop (s * 32)).take 32 ++ (mixS old new st s).drop (s * 32 + 32)) := by
    apply List.ext_getElem
    · simp [mixS]; omega
    · intro i h1 h2
      have hi : i < 256 := by simpa [mixS] using h1
      by_cases c1 : i < s * 32
      · rw [List.getElem_append_left (by simp [mixS]; omega)]
        have d1 : i / 32 < s := by omega
        simp [mixS, d1, show i / 32 < s + 1 by omega]
      · by_cases c2 : i < s * 32 + 32
        · rw [List.getElem_append_right (by simp [mixS]; omega), List.getElem_append_left (by simp [mixS]; omega)]
          have d1 : i / 32 = s := by omega
          have d2 : s * 32 + (i - min (s * 32) 256) = i := by omega
          simp [mixS, d1, h, List.getD, d2, show i < new.length by omega]
        · rw [List.getElem_append_right (by simp [mixS]; omega), List.getElem_append_right (by simp [mixS]; omega)]
          have d1 : ¬ i / 32 < s + 1 := by omega
          have d2 : s * 32 + 32 + (i - min (s * 32) 256 - min 32 (new.length - s * 32)) = i := by omega
          simp [mixS, d1, d2, show ¬ i / 32 < s by omega]
  rw [key]
  simp [putAt, pgv, hl, List.map_take, List.map_drop]
  omega

/-- The writes one by one. -/
def setS1 (pend : List (Int × List Int)) (stay : Nat → Nat → Bool) (ps : List (List Int)) (j : Nat) : List (List Int) :=
  ps.set (pend.getD j (0, [])).1.toNat (mixS (ps.getD (pend.getD j (0, [])).1.toNat []) (pend.getD j (0, [])).2 (stay j) 8)
def setS (pages : List (List Int)) (pend : List (Int × List Int)) (stay : Nat → Nat → Bool) (k : Nat) : List (List Int) := (List.range k).foldl (setS1 pend stay) pages
theorem setS_succ (pages : List (List Int)) (pend : List (Int × List Int)) (stay : Nat → Nat → Bool) (k : Nat) : setS pages pend stay (k + 1) = setS1 pend stay (setS pages pend stay k) k := by
  unfold setS; rw [List.range_succ, List.foldl_append]; rfl
theorem setS_len (pages : List (List Int)) (pend : List (Int × List Int)) (stay : Nat → Nat → Bool) (k : Nat) : (setS pages pend stay k).length = pages.length := by
  induction k with
  | zero => rfl
  | succ k ih => rw [setS_succ]; unfold setS1; simp [ih]
def DSt.settle (X : DSt) (stay : Nat → Nat → Bool) : DSt := { X with pages := setS X.pages X.pend stay X.pend.length, pend := [] }
end Go.Proofs.Ytijgfojnppcbjaa
