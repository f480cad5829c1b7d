/- Texts Y4, G0, G1 of the proof of PruneTrims, one behind the other. -/
import Derived.Test.YtmkinaijkgkgiaaGreatBundlePruneTrims1
import Derived.Test.YtmkinaijkgkgiaaGreatBundlePruneTrims2
import Derived.Test.YtmkinaijkgkgiaaGreatBundlePruneTrims3
import Derived.Test.YtmkinaijkgkgiaaGreatBundlePruneTrims4
import Derived.Test.YtmkinaijkgkgiaaGreatBundlePruneTrims5
import Derived.Test.YtmkinaijkgkgiaaGreatBundlePruneTrims6
import Derived.Test.YtmkinaijkgkgiaaGreatBundlePruneTrims7
import Derived.Test.YtmkinaijkgkgiaaGreatBundlePruneTrims8
import Derived.Test.YtmkinaijkgkgiaaGreatBundlePruneTrims9
/- A pool in memory: Take, Hold, Drop, Load. -/
namespace Go.Proofs.YtmkinaijkgkgiaaGreat
open Go.RowKit Go.Proofs.U
set_option linter.unusedSimpArgs false
set_option linter.unusedVariables false
set_option maxRecDepth 100000 in
set_option maxHeartbeats 1000000 in
theorem ptake_any {L : List Pg} (hL : plOk L) (g : Nat) (w : World) (h : PoolB w g L) :
    Calls Tryz.prog 71 #[ptr g] w fun r w' => r = .returned (.tuple #[.int .i64 (plTake L).2.1, .int .i64 (plTake L).2.2]) ∧ PoolB w' g (plTake L).1 ∧ Fr (onB1 g) w w' := by
  have k0 := h.size
  have hl240 := hL.1
  obtain ⟨R, HR⟩ : ∃ R, Hid (plTake L = R) := ⟨_, rfl⟩
  rw [HR.out]
  go_enter Tryz.func71, Tryz.ntmps71
  go_wp2
  go_loop [9] (fun i => ∃ (k : Nat), k ≤ L.length ∧ i = .int .i64 (k : Int) ∧ ∀ j, j < k → (plAt L j).free = false) (fun i => L.length - (intOf i).toNat)
  case atStart => exact ⟨0, by omega, rfl, fun j hj => by omega⟩
  case round =>
    obtain ⟨k, hk, rfl, hn⟩ := hrel
    by_cases hlt : k < L.length
    · cases hb : (plAt L k).free with
      | false =>
        go_wp2_with (first
          | (go_at_call 43; go_must (refine (pfree_any hL g k (by omega) _ h).mono ?_; rintro e w' ⟨rfl, rfl⟩; rw [hb])))
        go_round
        case rel => exact ⟨k + 1, by omega, by go_num, fun j hj => by
          by_cases e : j = k
          · rw [e]; exact hb
          · exact hn j (by omega)⟩
        case measure => simp [intOf]; omega
      | true =>
        have hR := show Hid _ from plTake_some L k hlt hb hn
        have hst := show Hid _ from poolL_setK L k hlt hl240 1 1 rfl
        have hc0 : (plAt L k).c = 0 := by
          unfold Pg.free at hb; simp at hb; exact hb.1
        rw [hc0] at hst
        obtain ⟨X, HX⟩ : ∃ X, Hid (poolL L = X) := ⟨_, rfl⟩
        have hXl : Hid (X.length = 481) := by show _ = _; rw [← HX.out, poolL_len]
        have h' : BxV w g 88 X := by rw [← HX.out]; exact h
        rw [HX.out] at hst
        go_wp2_with (first
          | (go_at_call 43; go_must (refine (pfree_any hL g k (by omega) _ h).mono ?_; rintro e w' ⟨rfl, rfl⟩; rw [hb]))
          | (refine at_idx 86 _ _ rfl ?_; go_must (refine wpList_idxOff arr1_kinds rfl _ _ rfl g 241 rfl .i64 _ k rfl rfl (by omega) ?_))
          | (with_reducible refine at_wpP ?_; refine at_st 85 _ _ rfl ?_; go_must (refine wpList_store1 rfl 85 _ _ rfl g (241 + k) rfl (.int .u8 1) rfl rfl _ _ h' kind_size (by rw [hXl.out]; omega) ?_; intro w1 b1 f1; rw [hst.out] at b1)))
        go_ret2
        rw [← HR.out, hR.out]
        exact ⟨rfl, b1, f1⟩
    · obtain rfl : k = L.length := by omega
      have hR := show Hid _ from plTake_none L hn
      go_wp2
      go_ret2
      rw [← HR.out, hR.out]
      exact ⟨rfl, h, Fr.refl _ _⟩
/-- While one cell is turned: what it was, what it will be, and it is. -/
def JPl (w0 : World) (g : Nat) (x y : Value) (cs : List Value) : List Value → World → Prop
  | [], W => W = w0
  | [a], W => W = w0 ∧ a = x
  | [_, b], W => W = w0 ∧ b = y
  | [_, _, _], W => BxV W g 88 cs ∧ Fr (onB1 g) w0 W
  | _, _ => False
theorem plHold_not {L : List Pg} {i : Int} (h : plHeld L i = false) : plHold L i = (L, 73) := by
  unfold plHold; unfold plHeld at h; rw [h]; rfl
theorem plHold_full {L : List Pg} {j : Nat} (h : plHeld L (j : Int) = true) (hc : (plAt L j).c = 255) : plHold L (j : Int) = (L, 72) := by
  unfold plHold; unfold plHeld at h; rw [h, Int.toNat_natCast, hc]; rfl
theorem plHold_yes {L : List Pg} {j : Nat} (h : plHeld L (j : Int) = true) (hc : ¬ (plAt L j).c = 255) : plHold L (j : Int) = (L.set j ⟨(plAt L j).c + 1, (plAt L j).s⟩, 0) := by
  unfold plHold; unfold plHeld at h; rw [h, Int.toNat_natCast, if_pos rfl, if_neg hc]
theorem plDrop_not {L : List Pg} {i : Int} (h : plHeld L i = false) : plDrop L i = (L, false, 73) := by
  unfold plDrop; unfold plHeld at h; rw [h]; rfl
theorem plDrop_less {L : List Pg} {j : Nat} (h : plHeld L (j : Int) = true) (hc : 1 < (plAt L j).c) : plDrop L (j : Int) = (L.set j ⟨(plAt L j).c - 1, (plAt L j).s⟩, false, 0) := by
  unfold plDrop; unfold plHeld at h; rw [h, Int.toNat_natCast, if_pos rfl, if_pos hc]
theorem plDrop_up {L : List Pg} {j : Nat} (h : plHeld L (j : Int) = true) (hc : ¬ 1 < (plAt L j).c) : plDrop L (j : Int) = (L.set j ⟨0, dropS (plAt L j).s⟩, true, 0) := by
  unfold plDrop; unfold plHeld at h; rw [h, Int.toNat_natCast, if_pos rfl, if_neg hc]
theorem plHeld_in {L : List Pg} {i : Int} (h : plHeld L i = true) : ∃ j : Nat, i = (j : Int) ∧ j < L.length := by
  unfold plHeld at h
  simp only [Bool.and_eq_true] at h
  obtain ⟨h1, h2⟩ := plIn_lt h.1
  exact ⟨_, h2.symm, h1⟩
set_option maxRecDepth 100000 in
set_option maxHeartbeats 1000000 in
theorem phold_any {L : List Pg} (hL : plOk L) (g : Nat) (i : Int) (w : World) (h : PoolB w g L) :
    Calls Tryz.prog 51 #[ptr g, .int .i64 i] w fun r w' => r = .returned (.int .i64 (plHold L i).2) ∧ PoolB w' g (plHold L i).1 ∧ Fr (onB1 g) w w' := by
  cases hh : plHeld L i with
  | false =>
    rw [plHold_not hh]
    go_enter Tryz.func51, Tryz.ntmps51
    go_wp2_with (first
      | (go_at_call 73; go_must (refine (pheld_any hL g i _ h).mono ?_; rintro e w' ⟨rfl, rfl⟩; rw [hh])))
    go_ret
    exact ⟨rfl, h, Fr.refl _ _⟩
  | true =>
    obtain ⟨j, rfl, hj⟩ := plHeld_in hh
    have hj2 : j < 240 := by have := hL.1; omega
    have k1 := h.cnt j hj2
    by_cases h255 : (plAt L j).c = 255
    · rw [plHold_full hh h255]
      rw [h255] at k1
      go_enter Tryz.func51, Tryz.ntmps51
      go_wp2_with (first
        | (go_at_call 73; go_must (refine (pheld_any hL g j _ h).mono ?_; rintro e w' ⟨rfl, rfl⟩; rw [hh]))
        | (refine at_idx 84 _ _ rfl ?_; go_must (refine wpList_idxOff arr1_counts rfl _ _ rfl g 1 rfl .i64 _ j rfl rfl hj2 ?_)))
      go_ret
      exact ⟨rfl, h, Fr.refl _ _⟩
    · rw [plHold_yes hh h255]
      have hx := hL.2 j
      have hst := show Hid _ from poolL_setC L j hj hL.1 ((plAt L j).c + 1)
      obtain ⟨x, Hx⟩ : ∃ x, Hid (plAt L j = x) := ⟨_, rfl⟩
      rw [Hx.out] at k1 h255 hst hx ⊢
      have h255' : (x.c == 255) = false := by simpa using h255
      have hw : IntKind.u8.wrap (x.c + 1) = x.c + 1 := by rw [IntKind.wrap_u8]; have := hx.1; have := hx.2.1; omega
      obtain ⟨X, HX⟩ : ∃ X, Hid (poolL L = X) := ⟨_, rfl⟩
      have hXl : Hid (X.length = 481) := by show _ = _; rw [← HX.out, poolL_len]
      have h' : BxV w g 88 X := by rw [← HX.out]; exact h
      rw [HX.out] at hst
      go_enter Tryz.func51, Tryz.ntmps51
      go_wp2_with (first
        | (go_at_call 73; go_must (refine (pheld_any hL g j _ h).mono ?_; rintro e w' ⟨rfl, rfl⟩; rw [hh]))
        | (refine at_idx 84 _ _ rfl ?_; go_must (refine wpList_idxOff arr1_counts rfl _ _ rfl g 1 rfl .i64 _ j rfl rfl hj2 ?_)))
      have B := h'
      have kc := k1
      obtain ⟨w0, HW⟩ : ∃ w0, Hid (w.drew = w0) := ⟨_, rfl⟩
      have f0 : Fr noB w w0 := by rw [← HW.out]; exact (Fr.refl _ _).drew
      have B0 := B.fr0 f0
      have kd := f0.cell kc (fun q => q)
      refine wp_region_chain_lay (by kernel_rfl) [5, 6, 10] [none, none, none, none, none, some 0, some 1, none, none, none, some 2]
        [fun v => v = ptr g, fun v => v = .int .i64 (j : Int), fun v => v = ptr g, fun v => v = .pointer (some ⟨g, 1, none⟩), fun v => v = .pointer (some ⟨g, 1 + j, none⟩), fun _ => True, fun _ => True, fun v => v = ptr g, fun v => v = .pointer (some ⟨g, 1, none⟩), fun v => v = .pointer (some ⟨g, 1 + j, none⟩), fun _ => True]
        (JPl w0 g (.int .u8 x.c) (.int .u8 (x.c + 1)) (X.set (1 + j) (.int .u8 (x.c + 1)))) (HW.out) (by kernel_rfl) (by kernel_rfl) (by decide) ⟨?o0, ?o1, ?o2, ?o3, ?o4, ?o5, ?o6, ?o7, ?o8, ?o9, ?o10, trivial⟩ ?oe
      case o0 =>
        intro A W hv hlen hJ hbase hdL hdH
        have e0 : A.eval (.tmp 0) = ptr g := hbase 0 (by kernel_rfl)
        have f0 : A.tmps[0]?.getD undef = ptr g := by simpa [Act.eval] using e0
        exact light_val rfl (v := ptr g) (by simp [execOp, e0, f0]) hJ rfl
      case o1 =>
        intro A W hv hlen hJ hbase hdL hdH
        have e1 : A.eval (.tmp 1) = .int .i64 (j : Int) := hbase 1 (by kernel_rfl)
        have f1 : A.tmps[1]?.getD undef = .int .i64 (j : Int) := by simpa [Act.eval] using e1
        exact light_val rfl (v := .int .i64 (j : Int)) (by simp [execOp, e1, f1]) hJ rfl
      case o2 =>
        intro A W hv hlen hJ hbase hdL hdH
        have e16 : A.eval (.tmp 16) = ptr g := hdL 0 16 (by kernel_rfl) (by kernel_rfl) (by kernel_rfl)
        have f16 : A.tmps[16]?.getD undef = ptr g := by simpa [Act.eval] using e16
        exact light_val rfl (v := ptr g) (by simp [execOp, go_sem, e16, f16]) hJ rfl
      case o3 =>
        intro A W hv hlen hJ hbase hdL hdH
        have e18 : A.eval (.tmp 18) = ptr g := hdL 2 18 (by kernel_rfl) (by kernel_rfl) (by kernel_rfl)
        have f18 : A.tmps[18]?.getD undef = ptr g := by simpa [Act.eval] using e18
        exact light_val rfl (v := .pointer (some ⟨g, 1, none⟩)) (by simp [execOp, go_sem, e18, f18]) hJ rfl
      case o4 =>
        intro A W hv hlen hJ hbase hdL hdH
        have e19 : A.eval (.tmp 19) = .pointer (some ⟨g, 1, none⟩) := hdL 3 19 (by kernel_rfl) (by kernel_rfl) (by kernel_rfl)
        have f19 : A.tmps[19]?.getD undef = .pointer (some ⟨g, 1, none⟩) := by simpa [Act.eval] using e19
        have e17 : A.eval (.tmp 17) = .int .i64 (j : Int) := hdL 1 17 (by kernel_rfl) (by kernel_rfl) (by kernel_rfl)
        have f17 : A.tmps[17]?.getD undef = .int .i64 (j : Int) := by simpa [Act.eval] using e17
        have hr := run_idxOff arr1_counts W g 1 j hj2 .i64
        exact light_val rfl (v := .pointer (some ⟨g, 1 + j, none⟩)) (by simp [execOp, e19, e17, hr, Result.andThen]) hJ rfl
      case o5 =>
        intro A W hv hlen hJ hbase hdL hdH
        have e20 : A.eval (.tmp 20) = .pointer (some ⟨g, 1 + j, none⟩) := hdL 4 20 (by kernel_rfl) (by kernel_rfl) (by kernel_rfl)
        have f20 : A.tmps[20]?.getD undef = .pointer (some ⟨g, 1 + j, none⟩) := by simpa [Act.eval] using e20
        obtain rfl : hv = [] := List.eq_nil_of_length_eq_zero hlen
        obtain rfl := hJ
        exact heavy_val rfl (v := .int .u8 x.c) (by simp [execOp, go_sem, e20, f20, kd]) ⟨rfl, rfl⟩
      case o6 =>
        intro A W hv hlen hJ hbase hdL hdH
        obtain ⟨v0, rfl⟩ := List.length_eq_one_iff.1 hlen
        obtain ⟨rfl, rfl⟩ := hJ
        have ey : A.eval (.tmp 21) = .int .u8 x.c := by have := hdH 5 21 0 (by kernel_rfl) rfl (by kernel_rfl); simpa using this.symm
        have fy : A.tmps[21]?.getD undef = .int .u8 x.c := by simpa [Act.eval] using ey
        exact heavy_val rfl (v := .int .u8 (x.c + 1)) (by simp [execOp, go_sem, ey, fy, hw]) ⟨rfl, rfl⟩
      case o7 =>
        intro A W hv hlen hJ hbase hdL hdH
        have e16 : A.eval (.tmp 16) = ptr g := hdL 0 16 (by kernel_rfl) (by kernel_rfl) (by kernel_rfl)
        have f16 : A.tmps[16]?.getD undef = ptr g := by simpa [Act.eval] using e16
        exact light_val rfl (v := ptr g) (by simp [execOp, go_sem, e16, f16]) hJ rfl
      case o8 =>
        intro A W hv hlen hJ hbase hdL hdH
        have e23 : A.eval (.tmp 23) = ptr g := hdL 7 23 (by kernel_rfl) (by kernel_rfl) (by kernel_rfl)
        have f23 : A.tmps[23]?.getD undef = ptr g := by simpa [Act.eval] using e23
        exact light_val rfl (v := .pointer (some ⟨g, 1, none⟩)) (by simp [execOp, go_sem, e23, f23]) hJ rfl
      case o9 =>
        intro A W hv hlen hJ hbase hdL hdH
        have e24 : A.eval (.tmp 24) = .pointer (some ⟨g, 1, none⟩) := hdL 8 24 (by kernel_rfl) (by kernel_rfl) (by kernel_rfl)
        have f24 : A.tmps[24]?.getD undef = .pointer (some ⟨g, 1, none⟩) := by simpa [Act.eval] using e24
        have e17 : A.eval (.tmp 17) = .int .i64 (j : Int) := hdL 1 17 (by kernel_rfl) (by kernel_rfl) (by kernel_rfl)
        have f17 : A.tmps[17]?.getD undef = .int .i64 (j : Int) := by simpa [Act.eval] using e17
        have hr := run_idxOff arr1_counts W g 1 j hj2 .i64
        exact light_val rfl (v := .pointer (some ⟨g, 1 + j, none⟩)) (by simp [execOp, e24, e17, hr, Result.andThen]) hJ rfl
      case o10 =>
        intro A W hv hlen hJ hbase hdL hdH
        have e25 : A.eval (.tmp 25) = .pointer (some ⟨g, 1 + j, none⟩) := hdL 9 25 (by kernel_rfl) (by kernel_rfl) (by kernel_rfl)
        have f25 : A.tmps[25]?.getD undef = .pointer (some ⟨g, 1 + j, none⟩) := by simpa [Act.eval] using e25
        match hv, hlen with
        | [v0, v1], _ =>
          obtain ⟨rfl, rfl⟩ := hJ
          have e1 : A.eval (.tmp 22) = .int .u8 (x.c + 1) := by have := hdH 6 22 1 (by kernel_rfl) rfl (by kernel_rfl); simpa using this.symm
          have hr := run_st1 (P := Tryz.prog) (off := 1 + j) 5 size_u8 (.int .u8 (x.c + 1)) rfl _ _ B0 (by rw [hXl.out]; omega)
          have hb2 := B0.set (1 + j) (.int .u8 (x.c + 1))
          refine heavy_wp rfl ?_
          unfold Oper.wp execOp
          simp only [e1, e25, Sem.run_bind, hr, Result.andThen_ok]
          exact ⟨_, rfl, hb2, (Fr.refl _ _).setCell _ _ (fun _ => rfl)⟩
      case oe =>
        intro vs W' hv hlen hJ hL hH
        match hv, hlen with
        | [z0, z1, z2], _ =>
          obtain ⟨b2, f2⟩ := hJ
          rw [hst.out] at b2
          simp only [layL, Nat.reduceAdd, Act.put, List.setIfInBounds_toArray, List.set_cons_zero, List.set_cons_succ]
          clear hL hH
          generalize vs 0 = y100 at *
          generalize vs 1 = y101 at *
          generalize vs 2 = y102 at *
          generalize vs 3 = y103 at *
          generalize vs 4 = y104 at *
          generalize vs 5 = y105 at *
          generalize vs 6 = y106 at *
          generalize vs 7 = y107 at *
          generalize vs 8 = y108 at *
          generalize vs 9 = y109 at *
          generalize vs 10 = y110 at *
          go_wp2
          go_ret
          exact ⟨rfl, b2, (f0.mono (fun _ _ q => q.elim)).trans f2⟩

set_option maxRecDepth 100000 in
set_option maxHeartbeats 1000000 in
theorem pdrop_any {L : List Pg} (hL : plOk L) (g : Nat) (i : Int) (w : World) (h : PoolB w g L) :
    Calls Tryz.prog 59 #[ptr g, .int .i64 i] w fun r w' => r = .returned (.tuple #[.bool (plDrop L i).2.1, .int .i64 (plDrop L i).2.2]) ∧ PoolB w' g (plDrop L i).1 ∧ Fr (onB1 g) w w' := by
  cases hh : plHeld L i with
  | false =>
    rw [plDrop_not hh]
    go_enter Tryz.func59, Tryz.ntmps59
    go_wp2_with (first
      | (go_at_call 73; go_must (refine (pheld_any hL g i _ h).mono ?_; rintro e w' ⟨rfl, rfl⟩; rw [hh])))
    go_ret2
    exact ⟨rfl, h, Fr.refl _ _⟩
  | true =>
    obtain ⟨j, rfl, hj⟩ := plHeld_in hh
    have hj2 : j < 240 := by have := hL.1; omega
    have k1 := h.cnt j hj2
    have k2 := h.knd j hj2
    have hx := hL.2 j
    obtain ⟨x, Hx⟩ : ∃ x, Hid (plAt L j = x) := ⟨_, rfl⟩
    rw [Hx.out] at k1 k2 hx
    have hxc := hx.1
    have hxd := hx.2.1
    clear hx
    by_cases hc0 : x.c = 0
    · have hpd := show Hid _ from plDrop_up hh (by rw [Hx.out, hc0]; decide)
      rw [Hx.out] at hpd
      rw [hpd.out]
      rw [hc0] at k1
      obtain ⟨s, Hs⟩ : ∃ s, Hid (x.s = s) := ⟨_, rfl⟩
      have hst := show Hid _ from poolL_setK L j hj hL.1 (dropS s) ((dropS s : Nat) : Int) rfl
      rw [Hx.out, hc0] at hst
      rw [Hs.out] at k2 ⊢
      obtain ⟨X, HX⟩ : ∃ X, Hid (poolL L = X) := ⟨_, rfl⟩
      have hXl : Hid (X.length = 481) := by show _ = _; rw [← HX.out, poolL_len]
      have B : BxV w g 88 X := by rw [← HX.out]; exact h
      rw [HX.out] at hst
      have kc := k2
      clear hc0 hxc hxd
      go_enter Tryz.func59, Tryz.ntmps59
      go_wp2_with (first
        | (go_at_call 73; go_must (refine (pheld_any hL g j _ h).mono ?_; rintro e w' ⟨rfl, rfl⟩; rw [hh]))
        | (refine at_idx 84 _ _ rfl ?_; go_must (refine wpList_idxOff arr1_counts rfl _ _ rfl g 1 rfl .i64 _ j rfl rfl hj2 ?_)))
      obtain ⟨w0, HW⟩ : ∃ w0, Hid (w.drew = w0) := ⟨_, rfl⟩
      have f0 : Fr noB w w0 := by rw [← HW.out]; exact (Fr.refl _ _).drew
      have B0 := B.fr0 f0
      have kd := f0.cell kc (fun q => q)
      refine wp_region_chain_lay (by kernel_rfl) [7, 8, 12] [none, none, none, none, none, none, none, some 0, some 1, none, none, none, some 2]
        [fun v => v = ptr g, fun v => v = .int .i64 (j : Int), fun v => v = ptr g, fun v => v = .int .i64 (j : Int), fun v => v = ptr g, fun v => v = .pointer (some ⟨g, 241, none⟩), fun v => v = .pointer (some ⟨g, 241 + j, none⟩), fun _ => True, fun _ => True, fun v => v = ptr g, fun v => v = .pointer (some ⟨g, 241, none⟩), fun v => v = .pointer (some ⟨g, 241 + j, none⟩), fun _ => True]
        (JPl w0 g (.int .u8 (s : Int)) (.int .u8 ((dropS s : Nat) : Int)) (X.set (241 + j) (.int .u8 ((dropS s : Nat) : Int)))) (HW.out) (by kernel_rfl) (by kernel_rfl) (by decide) ⟨?o0, ?o1, ?o2, ?o3, ?o4, ?o5, ?o6, ?o7, ?o8, ?o9, ?o10, ?o11, ?o12, trivial⟩ ?oe
      case o0 =>
        intro A W hv hlen hJ hbase hdL hdH
        have e0 : A.eval (.tmp 0) = ptr g := hbase 0 (by kernel_rfl)
        have f0 : A.tmps[0]?.getD undef = ptr g := by simpa [Act.eval] using e0
        exact light_val rfl (v := ptr g) (by simp [execOp, e0, f0]) hJ rfl
      case o1 =>
        intro A W hv hlen hJ hbase hdL hdH
        have e1 : A.eval (.tmp 1) = .int .i64 (j : Int) := hbase 1 (by kernel_rfl)
        have f1 : A.tmps[1]?.getD undef = .int .i64 (j : Int) := by simpa [Act.eval] using e1
        exact light_val rfl (v := .int .i64 (j : Int)) (by simp [execOp, e1, f1]) hJ rfl
      case o2 =>
        intro A W hv hlen hJ hbase hdL hdH
        have e0 : A.eval (.tmp 0) = ptr g := hbase 0 (by kernel_rfl)
        have f0 : A.tmps[0]?.getD undef = ptr g := by simpa [Act.eval] using e0
        exact light_val rfl (v := ptr g) (by simp [execOp, e0, f0]) hJ rfl
      case o3 =>
        intro A W hv hlen hJ hbase hdL hdH
        have e1 : A.eval (.tmp 1) = .int .i64 (j : Int) := hbase 1 (by kernel_rfl)
        have f1 : A.tmps[1]?.getD undef = .int .i64 (j : Int) := by simpa [Act.eval] using e1
        exact light_val rfl (v := .int .i64 (j : Int)) (by simp [execOp, e1, f1]) hJ rfl
      case o4 =>
        intro A W hv hlen hJ hbase hdL hdH
        have e36 : A.eval (.tmp 36) = ptr g := hdL 2 36 (by kernel_rfl) (by kernel_rfl) (by kernel_rfl)
        have f36 : A.tmps[36]?.getD undef = ptr g := by simpa [Act.eval] using e36
        exact light_val rfl (v := ptr g) (by simp [execOp, go_sem, e36, f36]) hJ rfl
      case o5 =>
        intro A W hv hlen hJ hbase hdL hdH
        have e38 : A.eval (.tmp 38) = ptr g := hdL 4 38 (by kernel_rfl) (by kernel_rfl) (by kernel_rfl)
        have f38 : A.tmps[38]?.getD undef = ptr g := by simpa [Act.eval] using e38
        exact light_val rfl (v := .pointer (some ⟨g, 241, none⟩)) (by simp [execOp, go_sem, e38, f38]) hJ rfl
      case o6 =>
        intro A W hv hlen hJ hbase hdL hdH
        have e39 : A.eval (.tmp 39) = .pointer (some ⟨g, 241, none⟩) := hdL 5 39 (by kernel_rfl) (by kernel_rfl) (by kernel_rfl)
        have f39 : A.tmps[39]?.getD undef = .pointer (some ⟨g, 241, none⟩) := by simpa [Act.eval] using e39
        have e37 : A.eval (.tmp 37) = .int .i64 (j : Int) := hdL 3 37 (by kernel_rfl) (by kernel_rfl) (by kernel_rfl)
        have f37 : A.tmps[37]?.getD undef = .int .i64 (j : Int) := by simpa [Act.eval] using e37
        have hr := run_idxOff arr1_kinds W g 241 j hj2 .i64
        exact light_val rfl (v := .pointer (some ⟨g, 241 + j, none⟩)) (by simp [execOp, e39, e37, hr, Result.andThen]) hJ rfl
      case o7 =>
        intro A W hv hlen hJ hbase hdL hdH
        have e40 : A.eval (.tmp 40) = .pointer (some ⟨g, 241 + j, none⟩) := hdL 6 40 (by kernel_rfl) (by kernel_rfl) (by kernel_rfl)
        have f40 : A.tmps[40]?.getD undef = .pointer (some ⟨g, 241 + j, none⟩) := by simpa [Act.eval] using e40
        obtain rfl : hv = [] := List.eq_nil_of_length_eq_zero hlen
        obtain rfl := hJ
        exact heavy_val rfl (v := .int .u8 (s : Int)) (by simp [execOp, go_sem, e40, f40, kd]) ⟨rfl, rfl⟩
      case o8 =>
        intro A W hv hlen hJ hbase hdL hdH
        obtain ⟨v0, rfl⟩ := List.length_eq_one_iff.1 hlen
        obtain ⟨rfl, rfl⟩ := hJ
        have ey : A.eval (.tmp 41) = .int .u8 (s : Int) := by have := hdH 7 41 0 (by kernel_rfl) rfl (by kernel_rfl); simpa using this.symm
        have fy : A.tmps[41]?.getD undef = .int .u8 (s : Int) := by simpa [Act.eval] using ey
        refine heavy_call rfl (args := #[.int .u8 (s : Int)]) (f := 81) (by simp [execOp, resolve, invoke, go_sem, ey, fy]) ?_
        refine (givenUp_any s _).mono ?_
        rintro e w' ⟨rfl, rfl⟩
        exact ⟨_, rfl, rfl, rfl⟩
      case o9 =>
        intro A W hv hlen hJ hbase hdL hdH
        have e34 : A.eval (.tmp 34) = ptr g := hdL 0 34 (by kernel_rfl) (by kernel_rfl) (by kernel_rfl)
        have f34 : A.tmps[34]?.getD undef = ptr g := by simpa [Act.eval] using e34
        exact light_val rfl (v := ptr g) (by simp [execOp, go_sem, e34, f34]) hJ rfl
      case o10 =>
        intro A W hv hlen hJ hbase hdL hdH
        have e43 : A.eval (.tmp 43) = ptr g := hdL 9 43 (by kernel_rfl) (by kernel_rfl) (by kernel_rfl)
        have f43 : A.tmps[43]?.getD undef = ptr g := by simpa [Act.eval] using e43
        exact light_val rfl (v := .pointer (some ⟨g, 241, none⟩)) (by simp [execOp, go_sem, e43, f43]) hJ rfl
      case o11 =>
        intro A W hv hlen hJ hbase hdL hdH
        have e44 : A.eval (.tmp 44) = .pointer (some ⟨g, 241, none⟩) := hdL 10 44 (by kernel_rfl) (by kernel_rfl) (by kernel_rfl)
        have f44 : A.tmps[44]?.getD undef = .pointer (some ⟨g, 241, none⟩) := by simpa [Act.eval] using e44
        have e35 : A.eval (.tmp 35) = .int .i64 (j : Int) := hdL 1 35 (by kernel_rfl) (by kernel_rfl) (by kernel_rfl)
        have f35 : A.tmps[35]?.getD undef = .int .i64 (j : Int) := by simpa [Act.eval] using e35
        have hr := run_idxOff arr1_kinds W g 241 j hj2 .i64
        exact light_val rfl (v := .pointer (some ⟨g, 241 + j, none⟩)) (by simp [execOp, e44, e35, hr, Result.andThen]) hJ rfl
      case o12 =>
        intro A W hv hlen hJ hbase hdL hdH
        have e45 : A.eval (.tmp 45) = .pointer (some ⟨g, 241 + j, none⟩) := hdL 11 45 (by kernel_rfl) (by kernel_rfl) (by kernel_rfl)
        have f45 : A.tmps[45]?.getD undef = .pointer (some ⟨g, 241 + j, none⟩) := by simpa [Act.eval] using e45
        match hv, hlen with
        | [v0, v1], _ =>
          obtain ⟨rfl, rfl⟩ := hJ
          have e1 : A.eval (.tmp 42) = .int .u8 ((dropS s : Nat) : Int) := by have := hdH 8 42 1 (by kernel_rfl) rfl (by kernel_rfl); simpa using this.symm
          have hr := run_st1 (P := Tryz.prog) (off := 241 + j) 85 kind_size (.int .u8 ((dropS s : Nat) : Int)) rfl _ _ B0 (by rw [hXl.out]; omega)
          have hb2 := B0.set (241 + j) (.int .u8 ((dropS s : Nat) : Int))
          refine heavy_wp rfl ?_
          unfold Oper.wp execOp
          simp only [e1, e45, Sem.run_bind, hr, Result.andThen_ok]
          exact ⟨_, rfl, hb2, (Fr.refl _ _).setCell _ _ (fun _ => rfl)⟩
      case oe =>
        intro vs W' hv hlen hJ hL hH
        match hv, hlen with
        | [z0, z1, z2], _ =>
          obtain ⟨b2, f2⟩ := hJ
          rw [hst.out] at b2
          simp only [layL, Nat.reduceAdd, Act.put, List.setIfInBounds_toArray, List.set_cons_zero, List.set_cons_succ]
          clear hL hH
          generalize vs 0 = y100 at *
          generalize vs 1 = y101 at *
          generalize vs 2 = y102 at *
          generalize vs 3 = y103 at *
          generalize vs 4 = y104 at *
          generalize vs 5 = y105 at *
          generalize vs 6 = y106 at *
          generalize vs 7 = y107 at *
          generalize vs 8 = y108 at *
          generalize vs 9 = y109 at *
          generalize vs 10 = y110 at *
          generalize vs 11 = y111 at *
          generalize vs 12 = y112 at *
          go_wp2
          go_ret2
          exact ⟨rfl, b2, (f0.mono (fun _ _ q => q.elim)).trans f2⟩
    · have hgt : (0 : Int) < x.c := by omega
      have hw : IntKind.u8.wrap (x.c - 1) = x.c - 1 := by rw [IntKind.wrap_u8]; omega
      have hst := show Hid _ from poolL_setC L j hj hL.1 (x.c - 1)
      rw [Hx.out] at hst
      obtain ⟨X, HX⟩ : ∃ X, Hid (poolL L = X) := ⟨_, rfl⟩
      have hXl : Hid (X.length = 481) := by show _ = _; rw [← HX.out, poolL_len]
      have B : BxV w g 88 X := by rw [← HX.out]; exact h
      rw [HX.out] at hst
      have kc := k1
      obtain ⟨M, HM⟩ : ∃ M, Hid (L.set j ⟨x.c - 1, x.s⟩ = M) := ⟨_, rfl⟩
      rw [HM.out] at hst
      have hMj : Hid (plAt M j = ⟨x.c - 1, x.s⟩) := by show _ = _; rw [← HM.out, plAt_set _ _ _ _ hj, if_pos rfl]
      have hMl : Hid (M.length = L.length) := by show _ = _; rw [← HM.out, List.length_set]
      have hless : 1 < x.c → Hid (plDrop L (j : Int) = (M, false, 0)) := fun h1 => by show _ = _; rw [plDrop_less hh (by rw [Hx.out]; exact h1), Hx.out, HM.out]
      have hup : ¬ 1 < x.c → Hid (plDrop L (j : Int) = (M.set j ⟨0, dropS x.s⟩, true, 0)) := fun h1 => by show _ = _; rw [plDrop_up hh (by rw [Hx.out]; exact h1), Hx.out, ← HM.out, List.set_set]
      obtain ⟨R, HR⟩ : ∃ R, Hid (plDrop L (j : Int) = R) := ⟨_, rfl⟩
      rw [HR.out] at hless hup ⊢
      clear hc0
      go_enter Tryz.func59, Tryz.ntmps59
      go_wp2_with (first
        | (go_at_call 73; go_must (refine (pheld_any hL g j _ h).mono ?_; rintro e w' ⟨rfl, rfl⟩; rw [hh]))
        | (refine at_idx 84 _ _ rfl ?_; go_must (refine wpList_idxOff arr1_counts rfl _ _ rfl g 1 rfl .i64 _ j rfl rfl hj2 ?_)))
      obtain ⟨w0, HW⟩ : ∃ w0, Hid (w.drew = w0) := ⟨_, rfl⟩
      have f0 : Fr noB w w0 := by rw [← HW.out]; exact (Fr.refl _ _).drew
      have B0 := B.fr0 f0
      have kd := f0.cell kc (fun q => q)
      refine wp_region_chain_lay (by kernel_rfl) [5, 6, 10] [none, none, none, none, none, some 0, some 1, none, none, none, some 2]
        [fun v => v = ptr g, fun v => v = .int .i64 (j : Int), fun v => v = ptr g, fun v => v = .pointer (some ⟨g, 1, none⟩), fun v => v = .pointer (some ⟨g, 1 + j, none⟩), fun _ => True, fun _ => True, fun v => v = ptr g, fun v => v = .pointer (some ⟨g, 1, none⟩), fun v => v = .pointer (some ⟨g, 1 + j, none⟩), fun _ => True]
        (JPl w0 g (.int .u8 x.c) (.int .u8 (x.c - 1)) (X.set (1 + j) (.int .u8 (x.c - 1)))) (HW.out) (by kernel_rfl) (by kernel_rfl) (by decide) ⟨?o0, ?o1, ?o2, ?o3, ?o4, ?o5, ?o6, ?o7, ?o8, ?o9, ?o10, trivial⟩ ?oe
      case o0 =>
        intro A W hv hlen hJ hbase hdL hdH
        have e0 : A.eval (.tmp 0) = ptr g := hbase 0 (by kernel_rfl)
        have f0 : A.tmps[0]?.getD undef = ptr g := by simpa [Act.eval] using e0
        exact light_val rfl (v := ptr g) (by simp [execOp, e0, f0]) hJ rfl
      case o1 =>
        intro A W hv hlen hJ hbase hdL hdH
        have e1 : A.eval (.tmp 1) = .int .i64 (j : Int) := hbase 1 (by kernel_rfl)
        have f1 : A.tmps[1]?.getD undef = .int .i64 (j : Int) := by simpa [Act.eval] using e1
        exact light_val rfl (v := .int .i64 (j : Int)) (by simp [execOp, e1, f1]) hJ rfl
      case o2 =>
        intro A W hv hlen hJ hbase hdL hdH
        have e17 : A.eval (.tmp 17) = ptr g := hdL 0 17 (by kernel_rfl) (by kernel_rfl) (by kernel_rfl)
        have f17 : A.tmps[17]?.getD undef = ptr g := by simpa [Act.eval] using e17
        exact light_val rfl (v := ptr g) (by simp [execOp, go_sem, e17, f17]) hJ rfl
      case o3 =>
        intro A W hv hlen hJ hbase hdL hdH
        have e19 : A.eval (.tmp 19) = ptr g := hdL 2 19 (by kernel_rfl) (by kernel_rfl) (by kernel_rfl)
        have f19 : A.tmps[19]?.getD undef = ptr g := by simpa [Act.eval] using e19
        exact light_val rfl (v := .pointer (some ⟨g, 1, none⟩)) (by simp [execOp, go_sem, e19, f19]) hJ rfl
      case o4 =>
        intro A W hv hlen hJ hbase hdL hdH
        have e20 : A.eval (.tmp 20) = .pointer (some ⟨g, 1, none⟩) := hdL 3 20 (by kernel_rfl) (by kernel_rfl) (by kernel_rfl)
        have f20 : A.tmps[20]?.getD undef = .pointer (some ⟨g, 1, none⟩) := by simpa [Act.eval] using e20
        have e18 : A.eval (.tmp 18) = .int .i64 (j : Int) := hdL 1 18 (by kernel_rfl) (by kernel_rfl) (by kernel_rfl)
        have f18 : A.tmps[18]?.getD undef = .int .i64 (j : Int) := by simpa [Act.eval] using e18
        have hr := run_idxOff arr1_counts W g 1 j hj2 .i64
        exact light_val rfl (v := .pointer (some ⟨g, 1 + j, none⟩)) (by simp [execOp, e20, e18, hr, Result.andThen]) hJ rfl
      case o5 =>
        intro A W hv hlen hJ hbase hdL hdH
        have e21 : A.eval (.tmp 21) = .pointer (some ⟨g, 1 + j, none⟩) := hdL 4 21 (by kernel_rfl) (by kernel_rfl) (by kernel_rfl)
        have f21 : A.tmps[21]?.getD undef = .pointer (some ⟨g, 1 + j, none⟩) := by simpa [Act.eval] using e21
        obtain rfl : hv = [] := List.eq_nil_of_length_eq_zero hlen
        obtain rfl := hJ
        exact heavy_val rfl (v := .int .u8 x.c) (by simp [execOp, go_sem, e21, f21, kd]) ⟨rfl, rfl⟩
      case o6 =>
        intro A W hv hlen hJ hbase hdL hdH
        obtain ⟨v0, rfl⟩ := List.length_eq_one_iff.1 hlen
        obtain ⟨rfl, rfl⟩ := hJ
        have ey : A.eval (.tmp 22) = .int .u8 x.c := by have := hdH 5 22 0 (by kernel_rfl) rfl (by kernel_rfl); simpa using this.symm
        have fy : A.tmps[22]?.getD undef = .int .u8 x.c := by simpa [Act.eval] using ey
        exact heavy_val rfl (v := .int .u8 (x.c - 1)) (by simp [execOp, go_sem, ey, fy, hw]) ⟨rfl, rfl⟩
      case o7 =>
        intro A W hv hlen hJ hbase hdL hdH
        have e17 : A.eval (.tmp 17) = ptr g := hdL 0 17 (by kernel_rfl) (by kernel_rfl) (by kernel_rfl)
        have f17 : A.tmps[17]?.getD undef = ptr g := by simpa [Act.eval] using e17
        exact light_val rfl (v := ptr g) (by simp [execOp, go_sem, e17, f17]) hJ rfl
      case o8 =>
        intro A W hv hlen hJ hbase hdL hdH
        have e24 : A.eval (.tmp 24) = ptr g := hdL 7 24 (by kernel_rfl) (by kernel_rfl) (by kernel_rfl)
        have f24 : A.tmps[24]?.getD undef = ptr g := by simpa [Act.eval] using e24
        exact light_val rfl (v := .pointer (some ⟨g, 1, none⟩)) (by simp [execOp, go_sem, e24, f24]) hJ rfl
      case o9 =>
        intro A W hv hlen hJ hbase hdL hdH
        have e25 : A.eval (.tmp 25) = .pointer (some ⟨g, 1, none⟩) := hdL 8 25 (by kernel_rfl) (by kernel_rfl) (by kernel_rfl)
        have f25 : A.tmps[25]?.getD undef = .pointer (some ⟨g, 1, none⟩) := by simpa [Act.eval] using e25
        have e18 : A.eval (.tmp 18) = .int .i64 (j : Int) := hdL 1 18 (by kernel_rfl) (by kernel_rfl) (by kernel_rfl)
        have f18 : A.tmps[18]?.getD undef = .int .i64 (j : Int) := by simpa [Act.eval] using e18
        have hr := run_idxOff arr1_counts W g 1 j hj2 .i64
        exact light_val rfl (v := .pointer (some ⟨g, 1 + j, none⟩)) (by simp [execOp, e25, e18, hr, Result.andThen]) hJ rfl
      case o10 =>
        intro A W hv hlen hJ hbase hdL hdH
        have e26 : A.eval (.tmp 26) = .pointer (some ⟨g, 1 + j, none⟩) := hdL 9 26 (by kernel_rfl) (by kernel_rfl) (by kernel_rfl)
        have f26 : A.tmps[26]?.getD undef = .pointer (some ⟨g, 1 + j, none⟩) := by simpa [Act.eval] using e26
        match hv, hlen with
        | [v0, v1], _ =>
          obtain ⟨rfl, rfl⟩ := hJ
          have e1 : A.eval (.tmp 23) = .int .u8 (x.c - 1) := by have := hdH 6 23 1 (by kernel_rfl) rfl (by kernel_rfl); simpa using this.symm
          have hr := run_st1 (P := Tryz.prog) (off := 1 + j) 5 size_u8 (.int .u8 (x.c - 1)) rfl _ _ B0 (by rw [hXl.out]; omega)
          have hb2 := B0.set (1 + j) (.int .u8 (x.c - 1))
          refine heavy_wp rfl ?_
          unfold Oper.wp execOp
          simp only [e1, e26, Sem.run_bind, hr, Result.andThen_ok]
          exact ⟨_, rfl, hb2, (Fr.refl _ _).setCell _ _ (fun _ => rfl)⟩
      case oe =>
        intro vs W' hv hlen hJ hL hH
        match hv, hlen with
        | [z0, z1, z2], _ =>
          obtain ⟨b2, f2⟩ := hJ
          rw [hst.out] at b2
          simp only [layL, Nat.reduceAdd, Act.put, List.setIfInBounds_toArray, List.set_cons_zero, List.set_cons_succ]
          clear hL hH
          generalize vs 0 = y100 at *
          generalize vs 1 = y101 at *
          generalize vs 2 = y102 at *
          generalize vs 3 = y103 at *
          generalize vs 4 = y104 at *
          generalize vs 5 = y105 at *
          generalize vs 6 = y106 at *
          generalize vs 7 = y107 at *
          generalize vs 8 = y108 at *
          generalize vs 9 = y109 at *
          generalize vs 10 = y110 at *
          have kM := PoolB.cnt b2 j hj2
          have kM2 := PoolB.knd b2 j hj2
          rw [hMj.out] at kM kM2
          simp only at kM kM2
          have F2 := (f0.mono (T := onB1 g) (fun _ _ q => q.elim)).trans f2
          by_cases h1 : 1 < x.c
          · have hR := hless h1
            have h1' : (0 : Int) < x.c - 1 := by omega
            go_wp2_with (first
              | (refine at_idx 84 _ _ rfl ?_; go_must (refine wpList_idxOff arr1_counts rfl _ _ rfl g 1 rfl .i64 _ j rfl rfl hj2 ?_)))
            go_ret2
            rw [hR.out]
            exact ⟨rfl, b2, F2⟩
          · have hR := hup (by omega)
            have hc1 : x.c - 1 = 0 := by omega
            rw [hc1] at kM hMj
            have hst := show Hid _ from poolL_setK M j (by rw [hMl.out]; exact hj) (by rw [hMl.out]; exact hL.1) (dropS x.s) ((dropS x.s : Nat) : Int) rfl
            rw [hMj.out] at hst
            simp only at hst
            obtain ⟨s, Hs⟩ : ∃ s, Hid (x.s = s) := ⟨_, rfl⟩
            rw [Hs.out] at kM2 hst hR
            obtain ⟨X, HX⟩ : ∃ X, Hid (poolL M = X) := ⟨_, rfl⟩
            have hXl : Hid (X.length = 481) := by show _ = _; rw [← HX.out, poolL_len]
            have B : BxV W' g 88 X := by rw [← HX.out]; exact b2
            rw [HX.out] at hst
            have kc := kM2
            clear hc1 h1 hgt hxc hxd hw hless hup
            go_wp2_with (first
              | (refine at_idx 84 _ _ rfl ?_; go_must (refine wpList_idxOff arr1_counts rfl _ _ rfl g 1 rfl .i64 _ j rfl rfl hj2 ?_)))
            obtain ⟨w0q, HW⟩ : ∃ w0q, Hid (W'.drew = w0q) := ⟨_, rfl⟩
            have f0q : Fr noB W' w0q := by rw [← HW.out]; exact (Fr.refl _ _).drew
            have B0 := B.fr0 f0q
            have kd := f0q.cell kc (fun q => q)
            refine wp_region_chain_lay (by kernel_rfl) [7, 8, 12] [none, none, none, none, none, none, none, some 0, some 1, none, none, none, some 2]
              [fun v => v = ptr g, fun v => v = .int .i64 (j : Int), fun v => v = ptr g, fun v => v = .int .i64 (j : Int), fun v => v = ptr g, fun v => v = .pointer (some ⟨g, 241, none⟩), fun v => v = .pointer (some ⟨g, 241 + j, none⟩), fun _ => True, fun _ => True, fun v => v = ptr g, fun v => v = .pointer (some ⟨g, 241, none⟩), fun v => v = .pointer (some ⟨g, 241 + j, none⟩), fun _ => True]
              (JPl w0q g (.int .u8 (s : Int)) (.int .u8 ((dropS s : Nat) : Int)) (X.set (241 + j) (.int .u8 ((dropS s : Nat) : Int)))) (HW.out) (by kernel_rfl) (by kernel_rfl) (by decide) ⟨?o0, ?o1, ?o2, ?o3, ?o4, ?o5, ?o6, ?o7, ?o8, ?o9, ?o10, ?o11, ?o12, trivial⟩ ?oe
            case o0 =>
              intro A W hv hlen hJ hbase hdL hdH
              have e0 : A.eval (.tmp 0) = ptr g := hbase 0 (by kernel_rfl)
              have f0q : A.tmps[0]?.getD undef = ptr g := by simpa [Act.eval] using e0
              exact light_val rfl (v := ptr g) (by simp [execOp, e0, f0]) hJ rfl
            case o1 =>
              intro A W hv hlen hJ hbase hdL hdH
              have e1 : A.eval (.tmp 1) = .int .i64 (j : Int) := hbase 1 (by kernel_rfl)
              have f1 : A.tmps[1]?.getD undef = .int .i64 (j : Int) := by simpa [Act.eval] using e1
              exact light_val rfl (v := .int .i64 (j : Int)) (by simp [execOp, e1, f1]) hJ rfl
            case o2 =>
              intro A W hv hlen hJ hbase hdL hdH
              have e0 : A.eval (.tmp 0) = ptr g := hbase 0 (by kernel_rfl)
              have f0q : A.tmps[0]?.getD undef = ptr g := by simpa [Act.eval] using e0
              exact light_val rfl (v := ptr g) (by simp [execOp, e0, f0]) hJ rfl
            case o3 =>
              intro A W hv hlen hJ hbase hdL hdH
              have e1 : A.eval (.tmp 1) = .int .i64 (j : Int) := hbase 1 (by kernel_rfl)
              have f1 : A.tmps[1]?.getD undef = .int .i64 (j : Int) := by simpa [Act.eval] using e1
              exact light_val rfl (v := .int .i64 (j : Int)) (by simp [execOp, e1, f1]) hJ rfl
            case o4 =>
              intro A W hv hlen hJ hbase hdL hdH
              have e36 : A.eval (.tmp 36) = ptr g := hdL 2 36 (by kernel_rfl) (by kernel_rfl) (by kernel_rfl)
              have f36 : A.tmps[36]?.getD undef = ptr g := by simpa [Act.eval] using e36
              exact light_val rfl (v := ptr g) (by simp [execOp, go_sem, e36, f36]) hJ rfl
            case o5 =>
              intro A W hv hlen hJ hbase hdL hdH
              have e38 : A.eval (.tmp 38) = ptr g := hdL 4 38 (by kernel_rfl) (by kernel_rfl) (by kernel_rfl)
              have f38 : A.tmps[38]?.getD undef = ptr g := by simpa [Act.eval] using e38
              exact light_val rfl (v := .pointer (some ⟨g, 241, none⟩)) (by simp [execOp, go_sem, e38, f38]) hJ rfl
            case o6 =>
              intro A W hv hlen hJ hbase hdL hdH
              have e39 : A.eval (.tmp 39) = .pointer (some ⟨g, 241, none⟩) := hdL 5 39 (by kernel_rfl) (by kernel_rfl) (by kernel_rfl)
              have f39 : A.tmps[39]?.getD undef = .pointer (some ⟨g, 241, none⟩) := by simpa [Act.eval] using e39
              have e37 : A.eval (.tmp 37) = .int .i64 (j : Int) := hdL 3 37 (by kernel_rfl) (by kernel_rfl) (by kernel_rfl)
              have f37 : A.tmps[37]?.getD undef = .int .i64 (j : Int) := by simpa [Act.eval] using e37
              have hr := run_idxOff arr1_kinds W g 241 j hj2 .i64
              exact light_val rfl (v := .pointer (some ⟨g, 241 + j, none⟩)) (by simp [execOp, e39, e37, hr, Result.andThen]) hJ rfl
            case o7 =>
              intro A W hv hlen hJ hbase hdL hdH
              have e40 : A.eval (.tmp 40) = .pointer (some ⟨g, 241 + j, none⟩) := hdL 6 40 (by kernel_rfl) (by kernel_rfl) (by kernel_rfl)
              have f40 : A.tmps[40]?.getD undef = .pointer (some ⟨g, 241 + j, none⟩) := by simpa [Act.eval] using e40
              obtain rfl : hv = [] := List.eq_nil_of_length_eq_zero hlen
              obtain rfl := hJ
              exact heavy_val rfl (v := .int .u8 (s : Int)) (by simp [execOp, go_sem, e40, f40, kd]) ⟨rfl, rfl⟩
            case o8 =>
              intro A W hv hlen hJ hbase hdL hdH
              obtain ⟨v0, rfl⟩ := List.length_eq_one_iff.1 hlen
              obtain ⟨rfl, rfl⟩ := hJ
              have ey : A.eval (.tmp 41) = .int .u8 (s : Int) := by have := hdH 7 41 0 (by kernel_rfl) rfl (by kernel_rfl); simpa using this.symm
              have fy : A.tmps[41]?.getD undef = .int .u8 (s : Int) := by simpa [Act.eval] using ey
              refine heavy_call rfl (args := #[.int .u8 (s : Int)]) (f := 81) (by simp [execOp, resolve, invoke, go_sem, ey, fy]) ?_
              refine (givenUp_any s _).mono ?_
              rintro e w' ⟨rfl, rfl⟩
              exact ⟨_, rfl, rfl, rfl⟩
            case o9 =>
              intro A W hv hlen hJ hbase hdL hdH
              have e34 : A.eval (.tmp 34) = ptr g := hdL 0 34 (by kernel_rfl) (by kernel_rfl) (by kernel_rfl)
              have f34 : A.tmps[34]?.getD undef = ptr g := by simpa [Act.eval] using e34
              exact light_val rfl (v := ptr g) (by simp [execOp, go_sem, e34, f34]) hJ rfl
            case o10 =>
              intro A W hv hlen hJ hbase hdL hdH
              have e43 : A.eval (.tmp 43) = ptr g := hdL 9 43 (by kernel_rfl) (by kernel_rfl) (by kernel_rfl)
              have f43 : A.tmps[43]?.getD undef = ptr g := by simpa [Act.eval] using e43
              exact light_val rfl (v := .pointer (some ⟨g, 241, none⟩)) (by simp [execOp, go_sem, e43, f43]) hJ rfl
            case o11 =>
              intro A W hv hlen hJ hbase hdL hdH
              have e44 : A.eval (.tmp 44) = .pointer (some ⟨g, 241, none⟩) := hdL 10 44 (by kernel_rfl) (by kernel_rfl) (by kernel_rfl)
              have f44 : A.tmps[44]?.getD undef = .pointer (some ⟨g, 241, none⟩) := by simpa [Act.eval] using e44
              have e35 : A.eval (.tmp 35) = .int .i64 (j : Int) := hdL 1 35 (by kernel_rfl) (by kernel_rfl) (by kernel_rfl)
              have f35 : A.tmps[35]?.getD undef = .int .i64 (j : Int) := by simpa [Act.eval] using e35
              have hr := run_idxOff arr1_kinds W g 241 j hj2 .i64
              exact light_val rfl (v := .pointer (some ⟨g, 241 + j, none⟩)) (by simp [execOp, e44, e35, hr, Result.andThen]) hJ rfl
            case o12 =>
              intro A W hv hlen hJ hbase hdL hdH
              have e45 : A.eval (.tmp 45) = .pointer (some ⟨g, 241 + j, none⟩) := hdL 11 45 (by kernel_rfl) (by kernel_rfl) (by kernel_rfl)
              have f45 : A.tmps[45]?.getD undef = .pointer (some ⟨g, 241 + j, none⟩) := by simpa [Act.eval] using e45
              match hv, hlen with
              | [v0, v1], _ =>
                obtain ⟨rfl, rfl⟩ := hJ
                have e1 : A.eval (.tmp 42) = .int .u8 ((dropS s : Nat) : Int) := by have := hdH 8 42 1 (by kernel_rfl) rfl (by kernel_rfl); simpa using this.symm
                have hr := run_st1 (P := Tryz.prog) (off := 241 + j) 85 kind_size (.int .u8 ((dropS s : Nat) : Int)) rfl _ _ B0 (by rw [hXl.out]; omega)
                have hb2q := B0.set (241 + j) (.int .u8 ((dropS s : Nat) : Int))
                refine heavy_wp rfl ?_
                unfold Oper.wp execOp
                simp only [e1, e45, Sem.run_bind, hr, Result.andThen_ok]
                exact ⟨_, rfl, hb2q, (Fr.refl _ _).setCell _ _ (fun _ => rfl)⟩
            case oe =>
              intro vs W'q hv hlen hJ hL hH
              match hv, hlen with
              | [z0, z1, z2], _ =>
                obtain ⟨b2q, f2q⟩ := hJ
                rw [hst.out] at b2q
                simp only [layL, Nat.reduceAdd, Act.put, List.setIfInBounds_toArray, List.set_cons_zero, List.set_cons_succ]
                clear hL hH
                generalize vs 0 = y100 at *
                generalize vs 1 = y101 at *
                generalize vs 2 = y102 at *
                generalize vs 3 = y103 at *
                generalize vs 4 = y104 at *
                generalize vs 5 = y105 at *
                generalize vs 6 = y106 at *
                generalize vs 7 = y107 at *
                generalize vs 8 = y108 at *
                generalize vs 9 = y109 at *
                generalize vs 10 = y110 at *
                generalize vs 11 = y111 at *
                generalize vs 12 = y112 at *
                go_wp2
                go_ret2
                rw [hR.out]
                exact ⟨rfl, b2q, (F2.thenN f0q).trans f2q⟩
end Go.Proofs.YtmkinaijkgkgiaaGreat
/- Pages held as often as they are needed, plain: counts, children, what is held from outside; no condition. -/
namespace Go.Proofs.U
set_option linter.unusedSimpArgs false
set_option linter.unusedVariables false
def updG {α : Type} (f : Nat → α) (p : Nat) (x : α) : Nat → α := fun q => if q = p then x else f q
theorem updG_at {α : Type} (f : Nat → α) (p : Nat) (x : α) : updG f p x p = x := by simp [updG]
theorem updG_ne {α : Type} (f : Nat → α) {p q : Nat} (x : α) (h : q ≠ p) : updG f p x q = f q := by simp [updG, h]
theorem le_sumG {l : List Nat} {x : Nat} (h : x ∈ l) : x ≤ l.sum := by
  induction l with
  | nil => simp at h
  | cons y l ih =>
    rw [List.sum_cons]
    rcases List.mem_cons.1 h with rfl | h
    · omega
    · have := ih h; omega
/-- The pages that are held. -/
def live (n : Nat) (c : Nat → Nat) : List Nat := (List.range n).filter fun q => decide (0 < c q)
/-- How often p is among the children of what is held. -/
def byCh (ch : Nat → List Nat) (l : List Nat) (p : Nat) : Nat := (l.map fun q => (ch q).count p).sum
theorem mem_live {n : Nat} {c : Nat → Nat} {q : Nat} : q ∈ live n c ↔ q < n ∧ 0 < c q := by simp [live]
theorem live_nodup (n : Nat) (c : Nat → Nat) : (live n c).Nodup := List.Pairwise.filter _ List.nodup_range
/-- Each page is held as often as it is among R and the children of what is held. -/
structure Exact (n : Nat) (c : Nat → Nat) (ch : Nat → List Nat) (R : List Nat) : Prop where
  cnt : ∀ p, c p = R.count p + byCh ch (live n c) p
  out : ∀ p, n ≤ p → c p = 0
theorem Exact.perm {n : Nat} {c : Nat → Nat} {ch : Nat → List Nat} {R R' : List Nat} (h : Exact n c ch R) (hp : ∀ p, R.count p = R'.count p) : Exact n c ch R' := ⟨fun p => by rw [h.cnt p, hp p], h.out⟩
theorem Exact.pos {n : Nat} {c : Nat → Nat} {ch : Nat → List Nat} {R : List Nat} (h : Exact n c ch R) {p : Nat} (hp : p ∈ R) : 0 < c p := by
  have h1 := h.cnt p
  have := List.count_pos_iff.2 hp
  omega
theorem Exact.lt {n : Nat} {c : Nat → Nat} {ch : Nat → List Nat} {R : List Nat} (h : Exact n c ch R) {p : Nat} (hp : 0 < c p) : p < n := by
  rcases Nat.lt_or_ge p n with h1 | h1
  · exact h1
  · have := h.out p h1; omega
theorem byCh_pos {ch : Nat → List Nat} {l : List Nat} {p : Nat} : 0 < byCh ch l p ↔ ∃ q ∈ l, p ∈ ch q := by
  unfold byCh
  induction l with
  | nil => simp
  | cons q l ih =>
    rw [List.map_cons, List.sum_cons]
    constructor
    · intro h
      by_cases hq : 0 < (ch q).count p
      · exact ⟨q, by simp, List.count_pos_iff.1 hq⟩
      · obtain ⟨q', h1, h2⟩ := ih.1 (by omega)
        exact ⟨q', by simp [h1], h2⟩
    · rintro ⟨q', h1, h2⟩
      rcases List.mem_cons.1 h1 with rfl | h1
      · have := List.count_pos_iff.2 h2; omega
      · have := ih.2 ⟨q', h1, h2⟩; omega
theorem Exact.child {n : Nat} {c : Nat → Nat} {ch : Nat → List Nat} {R : List Nat} (h : Exact n c ch R) {p q : Nat} (hq : 0 < c q) (hp : p ∈ ch q) : 0 < c p := by
  have h1 := h.cnt p
  have := byCh_pos.2 ⟨q, mem_live.2 ⟨h.lt hq, hq⟩, hp⟩
  omega
theorem live_same {n : Nat} {c c' : Nat → Nat} (h : ∀ q, 0 < c q ↔ 0 < c' q) : live n c = live n c' := by
  unfold live
  exact List.filter_congr fun q _ => decide_eq_decide.2 (h q)
/-- One of several holds is given up. -/
theorem Exact.less {n : Nat} {c : Nat → Nat} {ch : Nat → List Nat} {p : Nat} {R : List Nat} (h : Exact n c ch (p :: R)) (h2 : 2 ≤ c p) : Exact n (updG c p (c p - 1)) ch R := by
  have hl : live n c = live n (updG c p (c p - 1)) := live_same fun q => by
    by_cases hq : q = p
    · subst hq; rw [updG_at]; omega
    · rw [updG_ne _ _ hq]
  refine ⟨fun q => ?_, fun q hq => ?_⟩
  · rw [← hl]
    have h1 := h.cnt q
    rw [List.count_cons] at h1
    by_cases hq : q = p
    · subst hq; rw [updG_at]; simp at h1; omega
    · rw [updG_ne _ _ hq]
      have : ¬ (p == q) = true := by simp; exact fun h => hq h.symm
      simp [this] at h1; exact h1
  · have h1 := h.out q hq
    by_cases hqp : q = p
    · subst hqp; omega
    · rw [updG_ne _ _ hqp]; exact h1
theorem byCh_take {n : Nat} {c : Nat → Nat} {ch : Nat → List Nat} {p : Nat} (hp : p < n) (h1 : 0 < c p) (q : Nat) : byCh ch (live n c) q = (ch p).count q + byCh ch (live n (updG c p 0)) q := by
  have hf : live n (updG c p 0) = (live n c).erase p := by
    rw [List.Nodup.erase_eq_filter (live_nodup n c)]
    unfold live
    rw [List.filter_filter]
    refine List.filter_congr fun q _ => ?_
    by_cases hq : q = p
    · subst hq; rw [updG_at]; simp
    · rw [updG_ne _ _ hq]; simp [hq]
  rw [hf]
  unfold byCh
  have hm : p ∈ live n c := mem_live.2 ⟨hp, h1⟩
  have hperm := List.perm_cons_erase hm
  have := (hperm.map fun q' => (ch q').count q).sum_nat
  rw [this, List.map_cons, List.sum_cons]
/-- The last hold is given up: the children's holds are left to be given up. -/
theorem Exact.last {n : Nat} {c : Nat → Nat} {ch : Nat → List Nat} {p : Nat} {R : List Nat} (h : Exact n c ch (p :: R)) (h1 : c p = 1) : Exact n (updG c p 0) ch (ch p ++ R) := by
  have hp : p < n := h.lt (by omega)
  refine ⟨fun q => ?_, fun q hq => ?_⟩
  · have h2 := h.cnt q
    rw [byCh_take hp (by omega) q, List.count_cons] at h2
    rw [List.count_append]
    by_cases hq : q = p
    · subst hq; rw [updG_at]; simp at h2; omega
    · rw [updG_ne _ _ hq]
      have : ¬ (p == q) = true := by simp; exact fun h => hq h.symm
      simp [this] at h2; omega
  · have h2 := h.out q hq
    by_cases hqp : q = p
    · subst hqp; rw [updG_at]
    · rw [updG_ne _ _ hqp]; exact h2
/-- A page that is held is held once more. -/
theorem Exact.more {n : Nat} {c : Nat → Nat} {ch : Nat → List Nat} {p : Nat} {R : List Nat} (h : Exact n c ch R) (h1 : 0 < c p) : Exact n (updG c p (c p + 1)) ch (R ++ [p]) := by
  have hl : live n c = live n (updG c p (c p + 1)) := live_same fun q => by
    by_cases hq : q = p
    · subst hq; rw [updG_at]; omega
    · rw [updG_ne _ _ hq]
  have hp := h.lt h1
  refine ⟨fun q => ?_, fun q hq => ?_⟩
  · rw [← hl, List.count_append]
    have h2 := h.cnt q
    by_cases hq : q = p
    · subst hq; rw [updG_at]; simp; omega
    · rw [updG_ne _ _ hq]
      have : [p].count q = 0 := List.count_eq_zero.2 (by simp [hq])
      omega
  · have h2 := h.out q hq
    rw [updG_ne _ _ (by omega)]; exact h2
/-- A page that isn't held, whose children's holds are laid ready, is held for the first time. -/
theorem Exact.adopt {n : Nat} {c : Nat → Nat} {ch : Nat → List Nat} {p : Nat} {l R : List Nat} (h : Exact n c ch (R ++ l)) (h0 : c p = 0) (hp : p < n) : Exact n (updG c p 1) (updG ch p l) (R ++ [p]) := by
  have hc : updG (updG c p 1) p 0 = c := by
    funext q
    by_cases hq : q = p
    · subst hq; rw [updG_at, h0]
    · rw [updG_ne _ _ hq, updG_ne _ _ hq]
  have hb : ∀ q, byCh (updG ch p l) (live n c) q = byCh ch (live n c) q := by
    intro q
    unfold byCh
    congr 1
    refine List.map_congr_left fun q' hq' => ?_
    have hne : q' ≠ p := fun e => by subst e; have := (mem_live.1 hq').2; omega
    rw [updG_ne _ _ hne]
  refine ⟨fun q => ?_, fun q hq => ?_⟩
  · have h2 := h.cnt q
    have h3 := byCh_take (ch := updG ch p l) (c := updG c p 1) hp (by rw [updG_at]; omega) q
    rw [hc, hb, updG_at] at h3
    rw [h3, List.count_append]
    rw [List.count_append] at h2
    by_cases hq : q = p
    · subst hq; rw [updG_at]; simp; omega
    · rw [updG_ne _ _ hq]
      have : [p].count q = 0 := List.count_eq_zero.2 (by simp [hq])
      omega
  · have h2 := h.out q hq
    rw [updG_ne _ _ (by omega)]; exact h2
/-- What can be reached from R. -/
inductive Rch (ch : Nat → List Nat) (R : List Nat) : Nat → Prop
  | root {p : Nat} : p ∈ R → Rch ch R p
  | child {p q : Nat} : Rch ch R q → p ∈ ch q → Rch ch R p
theorem Exact.reached {n : Nat} {c : Nat → Nat} {ch : Nat → List Nat} {R : List Nat} (h : Exact n c ch R) {p : Nat} (hr : Rch ch R p) : 0 < c p := by
  induction hr with
  | root hp => exact h.pos hp
  | child _ hp ih => exact h.child ih hp
/-- Children lie below. -/
def Falls (c : Nat → Nat) (ch : Nat → List Nat) (rk : Nat → Nat) : Prop := ∀ q, 0 < c q → ∀ p ∈ ch q, rk p < rk q
theorem Exact.reach {n : Nat} {c : Nat → Nat} {ch : Nat → List Nat} {R : List Nat} (h : Exact n c ch R) {rk : Nat → Nat} (hf : Falls c ch rk) {M : Nat} (hM : ∀ q, 0 < c q → rk q ≤ M) : ∀ (d p : Nat), 0 < c p → M - rk p = d → Rch ch R p := by
  intro d
  induction d using Nat.strongRecOn with
  | ind d ih =>
    intro p hp hd
    by_cases hr : 0 < R.count p
    · exact .root (List.count_pos_iff.1 hr)
    · have h1 := h.cnt p
      obtain ⟨q, hq, hpq⟩ := byCh_pos.1 (show 0 < byCh ch (live n c) p by omega)
      have hq0 := (mem_live.1 hq).2
      have h2 := hf q hq0 p hpq
      have h3 := hM q hq0
      exact .child (ih (M - rk q) (by omega) q hq0 rfl) hpq
/-- What is held is what can be reached. -/
theorem Exact.live_iff {n : Nat} {c : Nat → Nat} {ch : Nat → List Nat} {R : List Nat} (h : Exact n c ch R) {rk : Nat → Nat} (hf : Falls c ch rk) {p : Nat} : 0 < c p ↔ Rch ch R p := by
  refine ⟨fun hp => ?_, fun hr => h.reached hr⟩
  exact h.reach hf (M := ((List.range n).map rk).sum) (fun q hq => by
    have := le_sumG (List.mem_map.2 ⟨q, List.mem_range.2 (h.lt hq), rfl⟩ : rk q ∈ (List.range n).map rk)
    exact this) _ p hp rfl
theorem Falls.less {c c' : Nat → Nat} {ch : Nat → List Nat} {rk : Nat → Nat} (h : Falls c ch rk) (hc : ∀ q, 0 < c' q → 0 < c q) : Falls c' ch rk := fun q hq => h q (hc q hq)
theorem Falls.adopt {n : Nat} {c : Nat → Nat} {ch : Nat → List Nat} {rk : Nat → Nat} {R l : List Nat} {p : Nat} (h : Falls c ch rk) (hE : Exact n c ch (R ++ l)) (h0 : c p = 0) : Falls (updG c p 1) (updG ch p l) (updG rk p ((l.map rk).sum + 1)) := by
  have hpl : p ∉ l := fun hm => by have := hE.pos (List.mem_append_right R hm); omega
  intro q hq x hx
  by_cases hqp : q = p
  · subst hqp
    rw [updG_at] at hx ⊢
    have hne : x ≠ q := fun e => by subst e; exact hpl hx
    rw [updG_ne _ _ hne]
    have := le_sumG (List.mem_map.2 ⟨x, hx, rfl⟩ : rk x ∈ l.map rk)
    omega
  · rw [updG_ne _ _ hqp] at hq hx
    have hx0 := hE.child hq hx
    have hne : x ≠ p := fun e => by subst e; omega
    rw [updG_ne _ _ hne, updG_ne _ _ hqp]
    exact h q hq x hx
end Go.Proofs.U
/- The pool's counts are exact, plain: what Take, Hold, Drop, Mark, Tidy and Commit make of it; no condition. -/
namespace Go.Proofs.YtmkinaijkgkgiaaGreat
open Go.RowKit Go.Proofs.U
set_option linter.unusedSimpArgs false
set_option linter.unusedVariables false
def cntL (L : List Pg) (p : Nat) : Nat := (plAt L p).c.toNat
/-- Each page of a pool is held as often as it is among R and the children of what is held. -/
def PlEx (L : List Pg) (ch : Nat → List Nat) (R : List Nat) : Prop := Exact L.length (cntL L) ch R
theorem cntL_set (L : List Pg) (p : Nat) (x : Pg) (h : p < L.length) : cntL (L.set p x) = updG (cntL L) p x.c.toNat := by
  funext q
  unfold cntL
  rw [plAt_set L p x q h]
  by_cases hq : q = p
  · subst hq; rw [updG_at, if_pos rfl]
  · rw [updG_ne _ _ hq, if_neg hq]
theorem cntL_congr {L L' : List Pg} (hl : L'.length = L.length) (h : ∀ i, (plAt L' i).c = (plAt L i).c) {ch : Nat → List Nat} {R : List Nat} (hE : PlEx L ch R) : PlEx L' ch R := by
  have : cntL L' = cntL L := by funext q; unfold cntL; rw [h q]
  unfold PlEx at *
  rw [hl, this]; exact hE
theorem PlEx.pos {L : List Pg} {ch : Nat → List Nat} {R : List Nat} (h : PlEx L ch R) (ho : plOk L) {p : Nat} (hp : p ∈ R) : p < L.length ∧ 0 < (plAt L p).c ∧ (plAt L p).held = true := by
  have h1 := Exact.pos h hp
  have h2 := Exact.lt h h1
  have h3 : 0 < (plAt L p).c := by unfold cntL at h1; omega
  refine ⟨h2, h3, ?_⟩
  unfold Pg.held
  have : ((plAt L p).c == 0) = false := by simp; omega
  rw [this]; rfl
/-- One more step of giving up. -/
theorem PlEx.drop {L : List Pg} {ch : Nat → List Nat} {p : Nat} {R : List Nat} (h : PlEx L ch (p :: R)) (ho : plOk L) :
    (1 < (plAt L p).c ∧ plDrop L (p : Int) = (L.set p ⟨(plAt L p).c - 1, (plAt L p).s⟩, false, 0) ∧ PlEx (L.set p ⟨(plAt L p).c - 1, (plAt L p).s⟩) ch R) ∨
    ((plAt L p).c = 1 ∧ plDrop L (p : Int) = (L.set p ⟨0, dropS (plAt L p).s⟩, true, 0) ∧ PlEx (L.set p ⟨0, dropS (plAt L p).s⟩) ch (ch p ++ R)) := by
  obtain ⟨hp, hc, hh⟩ := h.pos ho (List.mem_cons_self)
  have hin : plIn L (p : Int) = true := by unfold plIn; simp; omega
  by_cases h1 : 1 < (plAt L p).c
  · refine Or.inl ⟨h1, ?_, ?_⟩
    · unfold plDrop
      simp [hin, hh, h1]
    · unfold PlEx
      rw [List.length_set, cntL_set L p _ hp]
      have := Exact.less h (show 2 ≤ cntL L p by unfold cntL; omega)
      have e : (⟨(plAt L p).c - 1, (plAt L p).s⟩ : Pg).c.toNat = cntL L p - 1 := by unfold cntL; simp
      rw [e]; exact this
  · have h1' : (plAt L p).c = 1 := by omega
    refine Or.inr ⟨h1', ?_, ?_⟩
    · unfold plDrop
      simp [hin, hh, h1]
    · unfold PlEx
      rw [List.length_set, cntL_set L p _ hp]
      exact Exact.last h (show cntL L p = 1 by unfold cntL; rw [h1']; rfl)
theorem PlEx.hold {L : List Pg} {ch : Nat → List Nat} {p : Nat} {R : List Nat} (h : PlEx L ch R) (hc : 0 < (plAt L p).c) : PlEx (L.set p ⟨(plAt L p).c + 1, (plAt L p).s⟩) ch (R ++ [p]) := by
  have h1 : 0 < cntL L p := by unfold cntL; omega
  have hp := Exact.lt h h1
  unfold PlEx
  rw [List.length_set, cntL_set L p _ hp]
  have := Exact.more h h1
  have e : (⟨(plAt L p).c + 1, (plAt L p).s⟩ : Pg).c.toNat = cntL L p + 1 := by unfold cntL; simp; omega
  rw [e]; exact this
theorem PlEx.adopt {L : List Pg} {ch : Nat → List Nat} {p : Nat} {l R : List Nat} (h : PlEx L ch (R ++ l)) (hc : (plAt L p).c = 0) (hp : p < L.length) (s : Nat) : PlEx (L.set p ⟨1, s⟩) (updG ch p l) (R ++ [p]) := by
  unfold PlEx
  rw [List.length_set, cntL_set L p _ hp]
  exact Exact.adopt h (show cntL L p = 0 by unfold cntL; rw [hc]; rfl) hp
theorem PlEx.take {L : List Pg} {ch : Nat → List Nat} {R : List Nat} (h : PlEx L ch R) : PlEx (plTake L).1 ch R := by
  refine cntL_congr (take_len L) (fun i => ?_) h
  rcases plTake_cases L with ⟨k, hk, hf, _, e⟩ | ⟨_, e⟩
  · rw [e]
    simp only
    rw [plAt_set L k _ i hk]
    by_cases hi : i = k
    · subst hi
      rw [if_pos rfl]
      unfold Pg.free at hf
      simp at hf
      exact hf.1.symm
    · rw [if_neg hi]
  · rw [e]
theorem PlEx.mark {L : List Pg} {ch : Nat → List Nat} {R : List Nat} (h : PlEx L ch R) : PlEx (plMark L) ch R :=
  cntL_congr (mark_len L) (fun i => by unfold plMark; rw [plAt_map _ _ mark0]; unfold markP; split <;> rfl) h
theorem PlEx.tidy {L : List Pg} {ch : Nat → List Nat} {R : List Nat} (h : PlEx L ch R) : PlEx (plTidy L) ch R :=
  cntL_congr (tidy_len L) (fun i => by unfold plTidy; rw [plAt_map _ _ tidy0]; unfold tidyP; split <;> rfl) h
end Go.Proofs.YtmkinaijkgkgiaaGreat
