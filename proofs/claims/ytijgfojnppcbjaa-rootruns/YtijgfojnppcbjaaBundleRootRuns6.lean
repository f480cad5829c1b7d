/- Texts K5, K6 of the proof of RootRuns, one behind the other. -/
import Derived.Maps.AppendAt
import Derived.Test.YtijgfojnppcbjaaBundleRootRuns1
import Derived.Test.YtijgfojnppcbjaaBundleRootRuns2
import Derived.Test.YtijgfojnppcbjaaBundleRootRuns3
import Derived.Test.YtijgfojnppcbjaaBundleRootRuns4
import Derived.Test.YtijgfojnppcbjaaBundleRootRuns5
/- The program's disk: settle, for both of its closures. (Written by settle_gen.py.) -/
namespace Go.Proofs.Ytijgfojnppcbjaa
open Go.RowKit Go.Proofs.U Go.Maps
set_option linter.unusedSimpArgs false
set_option linter.unusedVariables false
theorem run_sector (W : World) (b off s : Nat) (hs : s < 8) : (Instr.sliceAt 46 (.pointer (some ⟨b, off, none⟩)) (some (.int .i64 ((s : Int) * 32))) (some (.int .i64 (((s : Int) + 1) * 32))) none).run Try.prog W = .ok (.slice (some ⟨b, off + s * 32, none⟩) 32 (256 - s * 32)) W := by
  have h := run_sliceAt_array_lh W 46 ⟨b, off, none⟩ (P := Try.prog) (by kernel_rfl) .i64 .i64 ((s : Int) * 32) (((s : Int) + 1) * 32) (by omega) (by omega) (by rw [len_page]; omega)
  rw [h]
  have he : Try.prog.elem 46 = 5 := by kernel_rfl
  obtain ⟨i, hi, hsz⟩ := Option.map_eq_some_iff.1 size_u8
  simp only [he, sizeOf, typeInfo, len_page, slicedAt]
  have h1 : ((s : Int) * 32).toNat = s * 32 := by omega
  have h2 : (((s : Int) + 1) * 32).toNat = s * 32 + 32 := by omega
  rw [h1, h2]
  have h3 : ¬ (256 = s * 32) := by omega
  have h4 : s * 32 + 32 - s * 32 = 32 := by omega
  simp [hi, hsz, go_sem, Addr.plain, h3, h4]
def JC (w0 : World) (b off : Nat) (ds : List Value) : List Value → World → Prop
  | [], W => W = w0
  | [_], W => W = w0.setCells b off ds
  | _, _ => False
theorem size_spwrite : (Try.prog.info? 70).map (·.size) = some 1 := by kernel_rfl

set_option maxRecDepth 100000 in
set_option maxHeartbeats 4000000 in
theorem settle_sync {F : Nat → Prop} {X : DSt} (g : Nat) (stay : Nat → Nat → Bool) (w : World) (h : Disk w F g X) (hm : X.pend.length ≤ 100000)
    (hst : ∀ W, Fr F w W → ∀ k s : Nat, k < X.pend.length → s < 8 → Calls Try.prog 52 #[.int .i64 (k : Int), .int .i64 (s : Int)] W fun r W' => r = .returned (.bool (stay k s)) ∧ W = W') :
    Calls Try.prog 42 #[ptr g, .func (.func 52) #[] #[]] w fun r w' => r = .returned (.tuple #[]) ∧ Disk w' F g (X.settle stay) ∧ Fr F w w' := by
  obtain ⟨v1, m, v3, h⟩ := h
  obtain ⟨a3, c3, rfl⟩ := h.pd.opn
  obtain ⟨a1, c1, rfl⟩ := h.st.opn
  obtain ⟨k0, k1, k2, k3, k4⟩ := h.bx.five
  obtain ⟨pages, bad, pend, d, l⟩ := X
  have hO1 := h.st
  have hO3 := h.pd
  have hbx := h.bx
  have hg1 := h.g1
  have hk13 := h.k13
  have hpin := h.pin
  have hlen := h.len
  simp only [DSt.settle] at *
  go_enter Try.func42, Try.ntmps42
  go_wp2
  go_loopw [15] (fun i wr => ∃ (k : Nat) (ps : List (List Int)), k ≤ pend.length ∧ i = .int .i64 (k : Int) ∧ Hid (ps = setS pages pend stay k) ∧ OwnR pgv 256 46 wr 0 (.slice a1 pages.length c1) ps ∧ Fr (fun q => (Value.slice a1 pages.length c1).ownBlock = some q) w wr) (fun i _ => pend.length - (intOf i).toNat)
  case atStart => exact ⟨0, pages, Nat.zero_le _, rfl, (rfl : pages = pages), hO1, Fr.refl _ _⟩
  case round =>
    obtain ⟨k, ps, hk, rfl, hps, ho, hf⟩ := hrel
    have hpl : Hid (ps.length = pages.length) := by show _ = _; rw [hps.out, setS_len]
    have hfz := hf.size
    have hbx' := hbx.fr hf (fun q => absurd rfl (hg1 g q))
    have hO3' := hO3.fr hf (fun q hq hq' => hk13 q hq' hq)
    obtain ⟨k0, k1, k2, k3, k4⟩ := hbx'.five
    by_cases hlt : k < pend.length
    · obtain ⟨Y, HY⟩ : ∃ X, Hid (pend[k] = X) := ⟨pend[k], (rfl : pend[k] = pend[k])⟩
      have hrX := hpin pend[k] (by simp)
      have hlX := hO3.1 pend[k] (by simp)
      rw [HY.out] at hrX hlX
      obtain ⟨x1, pg⟩ := Y
      obtain ⟨at', rfl⟩ : ∃ n : Nat, x1 = n := ⟨x1.toNat, by have := hrX.1; simp only at this; omega⟩
      have hat : at' < pages.length := by have := hrX.2; simp only at this; omega
      have hpgH : Hid (pg.length = 256) := by show _ = _; simpa [encW, pgv_len] using hlX
      clear hrX hlX
      obtain ⟨b, cap', cur, hv, _, _, _, _, _⟩ := ho.bx (by rw [hpl.out]; omega)
      obtain ⟨rfl, hx9, rfl⟩ : a1 = some ⟨b, 0, none⟩ ∧ pages.length = ps.length ∧ c1 = cap' := by simpa using hv
      clear hv hx9
      have hS : ∀ q, (Value.slice (some ⟨b, 0, none⟩) pages.length c1).ownBlock = some q ↔ q = b := by intro q; simp [Value.ownBlock]; exact eq_comm
      have hbg : b ≠ g := hg1 b rfl
      have hFb : F b := h.f1 b rfl
      have hbw := (hO1.newB b rfl).2
      have hgw := hbx.lt
      have hatp : at' < ps.length := by rw [hpl.out]; exact hat
      obtain ⟨old, Hold⟩ : ∃ o, Hid (ps[at'] = o) := ⟨ps[at'], (rfl : ps[at'] = ps[at'])⟩
      have hold := Hold.out
      have holdH : Hid (old.length = 256) := by show _ = _; have := ho.1 ps[at'] (by simp); rwa [hold, pgv_len] at this
      have hnx : Hid (setS pages pend stay (k + 1) = ps.set at' (mixS old pg (stay k) 8)) := by
        show _ = _
        rw [setS_succ, ← hps.out]; unfold setS1
        have e8 : pend.getD k (0, []) = ((at' : Int), pg) := by rw [← HY.out]; simp [List.getD, hlt]
        rw [e8]
        simp only [Int.toNat_natCast]
        congr 2
        rw [← hold]; simp [List.getD, hatp]
      have hri : ∀ W, (Instr.indexAt 35 (.slice (some ⟨b, 0, none⟩) pages.length c1) (.int .i64 (at' : Int))).run Try.prog W = .ok (.pointer (some ⟨b, at' * 256, none⟩)) W := fun W => run_idxO _ 46 Try.underlying35 size_page b pages.length c1 .i64 at' hat
      go_wp2_with (first
        | (refine at_idx 70 _ _ rfl ?_; go_must (refine wpList_idxR rfl 70 _ _ rfl 88 Try.underlying70 257 pwrite_size _ _ _ rfl hO3'.sl (by decide) _ _ k rfl rfl hlt ?_; rw [HY.out]; intro ba oa hba hca))
        | (with_reducible refine at_wpP ?_; refine at_ld 88 _ rfl ?_; go_must (refine wpList_load_mid rfl 88 _ rfl ba oa rfl (encW ((at' : Int), pg)) _ (range_of fun j v hj => hca j v hj) punder_write rfl (by rw [pwrite_size, encW_len _ hpgH.out]) ?_))
        | (with_reducible refine at_wpP ?_; refine wpList_allocV rfl 88 rfl _ pzero_write ?_; intro g7 w6 hg7 b6 f6 s6; have o6 := ho.fr0 f6; have F6 := hf.thenN f6; have l7 := b6.lt)
        | (with_reducible refine at_wpP ?_; refine at_st 88 _ _ rfl ?_; go_must (refine wpList_storeV rfl 88 _ _ rfl g7 0 rfl (encW ((at' : Int), pg)) rfl _ _ b6 (by rw [pwrite_size, encW_len _ hpgH.out]) (by rw [encW_len _ hpgH.out, encW_len _ zeroP_len]; decide) (encW_one _) ?_; intro w7 b7 f7; rw [putAt_all _ _ (by rw [encW_len _ hpgH.out, encW_len _ zeroP_len])] at b7; have o7 := o6.ne f7 (fun k hk => by have := (hS k).1 hk; omega); have F7 := F6.thenT f7 (fun i hi q => by unfold onB1 at q; omega); obtain ⟨k0, _, _, _, _⟩ := (hbx.fr F7 (fun q => absurd rfl (hg1 g q))).five; obtain ⟨q1, _⟩ := b7.cell 0 _ rfl)))
      go_quiet (fail)
      go_wp2
      have o7d : OwnR pgv 256 46 (w7.drewN nq) 0 (.slice (some ⟨b, 0, none⟩) pages.length c1) (ps.set at' (mixS old pg (stay k) 0)) := by
        rw [mixS_zero _ _ _ holdH.out, ← hold, List.set_getElem_self]; exact o7.fr0 ((Fr.refl _ _).drewN nq)
      have b7d : BxV (w7.drewN nq) g7 88 (encW ((at' : Int), pg)) := b7
      have F7d := F7.drewN nq
      have hg7w : w.heap.size ≤ g7 := by omega
      have hg7b : g7 ≠ b := by omega
      go_loopw [27] (fun i wr => ∃ (s : Nat), s ≤ 8 ∧ i = .int .i64 (s : Int) ∧ OwnR pgv 256 46 wr 0 (.slice (some ⟨b, 0, none⟩) pages.length c1) (ps.set at' (mixS old pg (stay k) s)) ∧ BxV wr g7 88 (encW ((at' : Int), pg)) ∧ Fr (fun q => (Value.slice (some ⟨b, 0, none⟩) pages.length c1).ownBlock = some q) w wr) (fun i _ => 8 - (intOf i).toNat)
      case atStart => exact ⟨0, Nat.zero_le _, rfl, o7d, b7d, F7d⟩
      case round =>

        obtain ⟨s, hs8, rfl, hoS, hbS, hfS⟩ := hrel
        by_cases hs : s < 8
        · have hs' : (s : Int) < 8 := by omega
          cases hsy : stay k s with
          | false =>
            go_wp2_with (first
              | (go_at_call 52; go_must (refine (hst _ (hfS.mono (fun q _ hq => h.f1 q hq)) k s hlt hs).mono ?_; rintro e w' ⟨rfl, rfl⟩; rw [hsy])))
            go_roundw
            case rel => exact ⟨s + 1, by omega, by go_num, by rw [mixS_no _ _ _ _ hsy]; exact hoS, hbS, hfS⟩
            case measure => simp [intOf]; omega
          | true =>
            go_wp2_with (first
              | (go_at_call 52; go_must (refine (hst _ (hfS.mono (fun q _ hq => h.f1 q hq)) k s hlt hs).mono ?_; rintro e w' ⟨rfl, rfl⟩; rw [hsy])))
            have hnew := mixS_yes old pg (stay k) s hs hpgH.out hsy
            obtain ⟨ds, Hds⟩ : ∃ ds, Hid ((pg.drop (s * 32)).take 32 = ds) := ⟨_, rfl⟩
            have hdsl : ds.length = 32 := by rw [← Hds.out]; have := hpgH.out; simp; omega
            rw [Hds.out] at hnew
            have hatS : at' < (ps.set at' (mixS old pg (stay k) s)).length := by rw [List.length_set]; exact hatp
            have hget : (ps.set at' (mixS old pg (stay k) s))[at'] = mixS old pg (stay k) s := by simp
            have hpm := OwnR.putMid (w := wr.drew) (hoS.fr0 ((Fr.refl _ _).drew)) at' hatS (s * 32) (pgv ds) (mixS old pg (stay k) (s + 1)) (by rw [hget]; exact hnew) (by rw [pgv_len, hdsl]; omega)
            rw [List.set_set] at hpm
            have hsrc : ∀ j v, (pgv ds)[j]? = some v → wr.drew.cell? ((⟨g7, 1 + s * 32, none⟩ : Addr).add j) = some v := by
              intro j v hj
              rw [Addr.plain]
              have hjl : j < 32 := by have := (List.getElem?_eq_some_iff.1 hj).1; rwa [pgv_len, hdsl] at this
              refine ((show BxV wr.drew g7 _ _ from hbS).cell (1 + s * 32 + j) v ?_).1
              rw [← hj, ← Hds.out]
              simp only [encW]
              rw [show 1 + s * 32 + j = (s * 32 + j) + 1 by omega, List.getElem?_cons_succ]
              simp [pgv, List.getElem?_take, hjl, List.getElem?_drop]
            have hcp := run_copy_cells (P := Try.prog) wr.drew 24 24 3 5 b (at' * 256 + s * 32) 32 (256 - s * 32) ⟨g7, 1 + s * 32, none⟩ 32 (256 - s * 32) (pgv ds) Try.underlying24 size_u8 (by rw [pgv_len, hdsl]; rfl) hsrc
              (fun j hj => (hpm.2 j hj).1) (fun j hj => (hpm.2 j hj).2) (pgv_one ds)
            refine wp_region_chain_lay (by kernel_rfl) [9] [none, none, none, none, none, none, none, none, none, some 0]
              [fun v => v = .pointer (some ⟨b, at' * 256, none⟩), fun v => v = .pointer (some ⟨b, at' * 256, none⟩), fun v => v = .int .i64 ((s : Int) * 32), fun v => v = .int .i64 (((s : Int) + 1) * 32), fun v => v = .slice (some ⟨b, at' * 256 + s * 32, none⟩) 32 (256 - s * 32), fun v => v = .pointer (some ⟨g7, 1, none⟩), fun v => v = .int .i64 ((s : Int) * 32), fun v => v = .int .i64 (((s : Int) + 1) * 32), fun v => v = .slice (some ⟨g7, 1 + s * 32, none⟩) 32 (256 - s * 32), fun _ => True]
              (JC wr.drew b (at' * 256 + s * 32) (pgv ds)) (rfl) (by kernel_rfl) (by kernel_rfl) (by decide) ⟨?o0, ?o1, ?o2, ?o3, ?o4, ?o5, ?o6, ?o7, ?o8, ?o9, trivial⟩ ?oe
            case o0 =>
              intro A W hv hlen hJ hbase hdL hdH
              have e6 : A.eval (.tmp 6) = .pointer (some ⟨b, at' * 256, none⟩) := hbase 6 (by kernel_rfl)
              have f6 : A.tmps[6]?.getD undef = .pointer (some ⟨b, at' * 256, none⟩) := by simpa [Act.eval] using e6
              exact light_val rfl (v := .pointer (some ⟨b, at' * 256, none⟩)) (by simp [execOp, e6, f6]) hJ rfl
            case o1 =>
              intro A W hv hlen hJ hbase hdL hdH
              have e40 : A.eval (.tmp 40) = .pointer (some ⟨b, at' * 256, none⟩) := hdL 0 40 (by kernel_rfl) (by kernel_rfl) (by kernel_rfl)
              have f40 : A.tmps[40]?.getD undef = .pointer (some ⟨b, at' * 256, none⟩) := by simpa [Act.eval] using e40
              exact light_val rfl (v := .pointer (some ⟨b, at' * 256, none⟩)) (by simp [execOp, go_sem, e40, f40]) hJ rfl
            case o2 =>
              intro A W hv hlen hJ hbase hdL hdH
              have e8 : A.eval (.tmp 8) = .int .i64 ((s : Int) * 32) := hbase 8 (by kernel_rfl)
              have f8 : A.tmps[8]?.getD undef = .int .i64 ((s : Int) * 32) := by simpa [Act.eval] using e8
              exact light_val rfl (v := .int .i64 ((s : Int) * 32)) (by simp [execOp, e8, f8]) hJ rfl
            case o3 =>
              intro A W hv hlen hJ hbase hdL hdH
              have e9 : A.eval (.tmp 9) = .int .i64 (((s : Int) + 1) * 32) := hbase 9 (by kernel_rfl)
              have f9 : A.tmps[9]?.getD undef = .int .i64 (((s : Int) + 1) * 32) := by simpa [Act.eval] using e9
              exact light_val rfl (v := .int .i64 (((s : Int) + 1) * 32)) (by simp [execOp, e9, f9]) hJ rfl
            case o4 =>
              intro A W hv hlen hJ hbase hdL hdH
              have e41 : A.eval (.tmp 41) = .pointer (some ⟨b, at' * 256, none⟩) := hdL 1 41 (by kernel_rfl) (by kernel_rfl) (by kernel_rfl)
              have f41 : A.tmps[41]?.getD undef = .pointer (some ⟨b, at' * 256, none⟩) := by simpa [Act.eval] using e41
              have e42 : A.eval (.tmp 42) = .int .i64 ((s : Int) * 32) := hdL 2 42 (by kernel_rfl) (by kernel_rfl) (by kernel_rfl)
              have f42 : A.tmps[42]?.getD undef = .int .i64 ((s : Int) * 32) := by simpa [Act.eval] using e42
              have e43 : A.eval (.tmp 43) = .int .i64 (((s : Int) + 1) * 32) := hdL 3 43 (by kernel_rfl) (by kernel_rfl) (by kernel_rfl)
              have f43 : A.tmps[43]?.getD undef = .int .i64 (((s : Int) + 1) * 32) := by simpa [Act.eval] using e43
              have hr := run_sector W b (at' * 256) s hs
              exact light_val rfl (v := .slice (some ⟨b, at' * 256 + s * 32, none⟩) 32 (256 - s * 32)) (by simp [execOp, e41, e42, e43, hr, Result.andThen]) hJ rfl
            case o5 =>
              intro A W hv hlen hJ hbase hdL hdH
              have e5 : A.eval (.tmp 5) = .pointer (some ⟨g7, 0, none⟩) := hbase 5 (by kernel_rfl)
              have f5 : A.tmps[5]?.getD undef = .pointer (some ⟨g7, 0, none⟩) := by simpa [Act.eval] using e5
              exact light_val rfl (v := .pointer (some ⟨g7, 1, none⟩)) (by simp [execOp, go_sem, e5, f5]) hJ rfl
            case o6 =>
              intro A W hv hlen hJ hbase hdL hdH
              have e8 : A.eval (.tmp 8) = .int .i64 ((s : Int) * 32) := hbase 8 (by kernel_rfl)
              have f8 : A.tmps[8]?.getD undef = .int .i64 ((s : Int) * 32) := by simpa [Act.eval] using e8
              exact light_val rfl (v := .int .i64 ((s : Int) * 32)) (by simp [execOp, e8, f8]) hJ rfl
            case o7 =>
              intro A W hv hlen hJ hbase hdL hdH
              have e9 : A.eval (.tmp 9) = .int .i64 (((s : Int) + 1) * 32) := hbase 9 (by kernel_rfl)
              have f9 : A.tmps[9]?.getD undef = .int .i64 (((s : Int) + 1) * 32) := by simpa [Act.eval] using e9
              exact light_val rfl (v := .int .i64 (((s : Int) + 1) * 32)) (by simp [execOp, e9, f9]) hJ rfl
            case o8 =>
              intro A W hv hlen hJ hbase hdL hdH
              have e45 : A.eval (.tmp 45) = .pointer (some ⟨g7, 1, none⟩) := hdL 5 45 (by kernel_rfl) (by kernel_rfl) (by kernel_rfl)
              have f45 : A.tmps[45]?.getD undef = .pointer (some ⟨g7, 1, none⟩) := by simpa [Act.eval] using e45
              have e46 : A.eval (.tmp 46) = .int .i64 ((s : Int) * 32) := hdL 6 46 (by kernel_rfl) (by kernel_rfl) (by kernel_rfl)
              have f46 : A.tmps[46]?.getD undef = .int .i64 ((s : Int) * 32) := by simpa [Act.eval] using e46
              have e47 : A.eval (.tmp 47) = .int .i64 (((s : Int) + 1) * 32) := hdL 7 47 (by kernel_rfl) (by kernel_rfl) (by kernel_rfl)
              have f47 : A.tmps[47]?.getD undef = .int .i64 (((s : Int) + 1) * 32) := by simpa [Act.eval] using e47
              have hr := run_sector W g7 1 s hs
              exact light_val rfl (v := .slice (some ⟨g7, 1 + s * 32, none⟩) 32 (256 - s * 32)) (by simp [execOp, e45, e46, e47, hr, Result.andThen]) hJ rfl
            case o9 =>
              intro A W hv hlen hJ hbase hdL hdH
              have e44 : A.eval (.tmp 44) = .slice (some ⟨b, at' * 256 + s * 32, none⟩) 32 (256 - s * 32) := hdL 4 44 (by kernel_rfl) (by kernel_rfl) (by kernel_rfl)
              have f44 : A.tmps[44]?.getD undef = .slice (some ⟨b, at' * 256 + s * 32, none⟩) 32 (256 - s * 32) := by simpa [Act.eval] using e44
              have e48 : A.eval (.tmp 48) = .slice (some ⟨g7, 1 + s * 32, none⟩) 32 (256 - s * 32) := hdL 8 48 (by kernel_rfl) (by kernel_rfl) (by kernel_rfl)
              have f48 : A.tmps[48]?.getD undef = .slice (some ⟨g7, 1 + s * 32, none⟩) 32 (256 - s * 32) := by simpa [Act.eval] using e48
              obtain rfl : hv = [] := List.eq_nil_of_length_eq_zero hlen
              obtain rfl := hJ
              refine heavy_wp rfl ?_
              refine Lib.wp_copy_run _ (.tmp 44) (.tmp 48) 24 24 rfl _ _ e44 e48 hcp ?_
              exact ⟨_, rfl, rfl⟩
            case oe =>
              intro vs W' hv hlen hJ hL hH
              match hv, hlen with
              | [y1], _ =>
                obtain rfl := hJ
                simp only [layL, Nat.reduceAdd, Act.put, List.setIfInBounds_toArray, List.set_cons_zero, List.set_cons_succ]
                clear hL hH
                generalize vs 0 = y100 at *
                generalize vs 1 = y101 at *
                generalize vs 2 = y102 at *
                generalize vs 3 = y103 at *
                generalize vs 4 = y104 at *
                generalize vs 5 = y105 at *
                generalize vs 6 = y106 at *
                generalize vs 7 = y107 at *
                generalize vs 8 = y108 at *
                generalize vs 9 = y109 at *
                have F8 : Fr (fun q => (Value.slice (some ⟨b, 0, none⟩) pages.length c1).ownBlock = some q) w (wr.drew.setCells b (at' * 256 + s * 32) (pgv ds)) := hfS.drew.thenT (setCells_fr1 wr.drew b _ _) (fun q _ hq => (hS q).2 hq)
                have b8 := (show BxV wr.drew g7 _ _ from hbS).ne (setCells_fr1 wr.drew b (pgv ds) (at' * 256 + s * 32)) hg7b
                go_wp2
                go_roundw
                case rel => exact ⟨s + 1, by omega, by go_num, hpm.1, b8, F8⟩
                case measure => simp [intOf]; omega
        · obtain rfl : s = 8 := by omega
          go_wp2
          go_roundw
          case rel => exact ⟨k + 1, _, by omega, by go_num, show _ = _ from hnx.out.symm, hoS, hfS⟩
          case measure => simp [intOf]; omega
    · obtain rfl : k = pend.length := by omega
      go_wp2_with (first
        | (with_reducible refine at_wpP ?_; refine at_st 70 _ _ rfl ?_; go_must (refine wpList_store1 rfl 70 _ _ rfl g 2 rfl (.slice none 0 0) rfl rfl _ _ hbx' size_spwrite (by simp) ?_; intro w8 b8 f8; have b8 : BxV w8 g 72 (pdL (.slice a1 pages.length c1) m (.slice none 0 0) d l) := (by simpa using b8))))
      go_end0
      rw [← hps.out]
      have hF8 : Fr F w w8 := (hf.mono (fun q _ hq => h.f1 q hq)).thenT f8 (fun q _ hq => by unfold onB1 at hq; exact hq ▸ h.fg)
      refine ⟨rfl, ⟨.slice a1 pages.length c1, m, .slice none 0 0, ?_⟩, hF8⟩
      exact { h with
        bx := b8
        st := ho.ne f8 hg1
        pd := OwnR.none _ _
        mp := (h.mp.fr hf (fun q => h.m1 _ q rfl)).fr f8 (fun q => h.gm q)
        f3 := fun q hq => by simp [Value.ownBlock] at hq
        len := by simp only; rw [hpl.out]; exact hlen
        bin := fun x hx => by simp only; rw [hpl.out]; exact h.bin x hx
        pin := fun x hx => by simp at hx }

set_option maxRecDepth 100000 in
set_option maxHeartbeats 4000000 in
theorem settle_crash {F : Nat → Prop} {X : DSt} (g : Nat) (kb : Nat) (stay : Nat → Nat → Bool) (w : World) (h : Disk w F g X) (hm : X.pend.length ≤ 100000)
    (hst : ∀ W, Fr F w W → ∀ k s : Nat, k < X.pend.length → s < 8 → Calls Try.prog 43 #[.int .i64 (k : Int), .int .i64 (s : Int), ptr kb] W fun r W' => r = .returned (.bool (stay k s)) ∧ W = W') :
    Calls Try.prog 42 #[ptr g, .func (.func 43) #[] #[ptr kb]] w fun r w' => r = .returned (.tuple #[]) ∧ Disk w' F g (X.settle stay) ∧ Fr F w w' := by
  obtain ⟨v1, m, v3, h⟩ := h
  obtain ⟨a3, c3, rfl⟩ := h.pd.opn
  obtain ⟨a1, c1, rfl⟩ := h.st.opn
  obtain ⟨k0, k1, k2, k3, k4⟩ := h.bx.five
  obtain ⟨pages, bad, pend, d, l⟩ := X
  have hO1 := h.st
  have hO3 := h.pd
  have hbx := h.bx
  have hg1 := h.g1
  have hk13 := h.k13
  have hpin := h.pin
  have hlen := h.len
  simp only [DSt.settle] at *
  go_enter Try.func42, Try.ntmps42
  go_wp2
  go_loopw [15] (fun i wr => ∃ (k : Nat) (ps : List (List Int)), k ≤ pend.length ∧ i = .int .i64 (k : Int) ∧ Hid (ps = setS pages pend stay k) ∧ OwnR pgv 256 46 wr 0 (.slice a1 pages.length c1) ps ∧ Fr (fun q => (Value.slice a1 pages.length c1).ownBlock = some q) w wr) (fun i _ => pend.length - (intOf i).toNat)
  case atStart => exact ⟨0, pages, Nat.zero_le _, rfl, (rfl : pages = pages), hO1, Fr.refl _ _⟩
  case round =>
    obtain ⟨k, ps, hk, rfl, hps, ho, hf⟩ := hrel
    have hpl : Hid (ps.length = pages.length) := by show _ = _; rw [hps.out, setS_len]
    have hfz := hf.size
    have hbx' := hbx.fr hf (fun q => absurd rfl (hg1 g q))
    have hO3' := hO3.fr hf (fun q hq hq' => hk13 q hq' hq)
    obtain ⟨k0, k1, k2, k3, k4⟩ := hbx'.five
    by_cases hlt : k < pend.length
    · obtain ⟨Y, HY⟩ : ∃ X, Hid (pend[k] = X) := ⟨pend[k], (rfl : pend[k] = pend[k])⟩
      have hrX := hpin pend[k] (by simp)
      have hlX := hO3.1 pend[k] (by simp)
      rw [HY.out] at hrX hlX
      obtain ⟨x1, pg⟩ := Y
      obtain ⟨at', rfl⟩ : ∃ n : Nat, x1 = n := ⟨x1.toNat, by have := hrX.1; simp only at this; omega⟩
      have hat : at' < pages.length := by have := hrX.2; simp only at this; omega
      have hpgH : Hid (pg.length = 256) := by show _ = _; simpa [encW, pgv_len] using hlX
      clear hrX hlX
      obtain ⟨b, cap', cur, hv, _, _, _, _, _⟩ := ho.bx (by rw [hpl.out]; omega)
      obtain ⟨rfl, hx9, rfl⟩ : a1 = some ⟨b, 0, none⟩ ∧ pages.length = ps.length ∧ c1 = cap' := by simpa using hv
      clear hv hx9
      have hS : ∀ q, (Value.slice (some ⟨b, 0, none⟩) pages.length c1).ownBlock = some q ↔ q = b := by intro q; simp [Value.ownBlock]; exact eq_comm
      have hbg : b ≠ g := hg1 b rfl
      have hFb : F b := h.f1 b rfl
      have hbw := (hO1.newB b rfl).2
      have hgw := hbx.lt
      have hatp : at' < ps.length := by rw [hpl.out]; exact hat
      obtain ⟨old, Hold⟩ : ∃ o, Hid (ps[at'] = o) := ⟨ps[at'], (rfl : ps[at'] = ps[at'])⟩
      have hold := Hold.out
      have holdH : Hid (old.length = 256) := by show _ = _; have := ho.1 ps[at'] (by simp); rwa [hold, pgv_len] at this
      have hnx : Hid (setS pages pend stay (k + 1) = ps.set at' (mixS old pg (stay k) 8)) := by
        show _ = _
        rw [setS_succ, ← hps.out]; unfold setS1
        have e8 : pend.getD k (0, []) = ((at' : Int), pg) := by rw [← HY.out]; simp [List.getD, hlt]
        rw [e8]
        simp only [Int.toNat_natCast]
        congr 2
        rw [← hold]; simp [List.getD, hatp]
      have hri : ∀ W, (Instr.indexAt 35 (.slice (some ⟨b, 0, none⟩) pages.length c1) (.int .i64 (at' : Int))).run Try.prog W = .ok (.pointer (some ⟨b, at' * 256, none⟩)) W := fun W => run_idxO _ 46 Try.underlying35 size_page b pages.length c1 .i64 at' hat
      go_wp2_with (first
        | (refine at_idx 70 _ _ rfl ?_; go_must (refine wpList_idxR rfl 70 _ _ rfl 88 Try.underlying70 257 pwrite_size _ _ _ rfl hO3'.sl (by decide) _ _ k rfl rfl hlt ?_; rw [HY.out]; intro ba oa hba hca))
        | (with_reducible refine at_wpP ?_; refine at_ld 88 _ rfl ?_; go_must (refine wpList_load_mid rfl 88 _ rfl ba oa rfl (encW ((at' : Int), pg)) _ (range_of fun j v hj => hca j v hj) punder_write rfl (by rw [pwrite_size, encW_len _ hpgH.out]) ?_))
        | (with_reducible refine at_wpP ?_; refine wpList_allocV rfl 88 rfl _ pzero_write ?_; intro g7 w6 hg7 b6 f6 s6; have o6 := ho.fr0 f6; have F6 := hf.thenN f6; have l7 := b6.lt)
        | (with_reducible refine at_wpP ?_; refine at_st 88 _ _ rfl ?_; go_must (refine wpList_storeV rfl 88 _ _ rfl g7 0 rfl (encW ((at' : Int), pg)) rfl _ _ b6 (by rw [pwrite_size, encW_len _ hpgH.out]) (by rw [encW_len _ hpgH.out, encW_len _ zeroP_len]; decide) (encW_one _) ?_; intro w7 b7 f7; rw [putAt_all _ _ (by rw [encW_len _ hpgH.out, encW_len _ zeroP_len])] at b7; have o7 := o6.ne f7 (fun k hk => by have := (hS k).1 hk; omega); have F7 := F6.thenT f7 (fun i hi q => by unfold onB1 at q; omega); obtain ⟨k0, _, _, _, _⟩ := (hbx.fr F7 (fun q => absurd rfl (hg1 g q))).five; obtain ⟨q1, _⟩ := b7.cell 0 _ rfl)))
      go_quiet (fail)
      go_wp2
      have o7d : OwnR pgv 256 46 (w7.drewN nq) 0 (.slice (some ⟨b, 0, none⟩) pages.length c1) (ps.set at' (mixS old pg (stay k) 0)) := by
        rw [mixS_zero _ _ _ holdH.out, ← hold, List.set_getElem_self]; exact o7.fr0 ((Fr.refl _ _).drewN nq)
      have b7d : BxV (w7.drewN nq) g7 88 (encW ((at' : Int), pg)) := b7
      have F7d := F7.drewN nq
      have hg7w : w.heap.size ≤ g7 := by omega
      have hg7b : g7 ≠ b := by omega
      go_loopw [27] (fun i wr => ∃ (s : Nat), s ≤ 8 ∧ i = .int .i64 (s : Int) ∧ OwnR pgv 256 46 wr 0 (.slice (some ⟨b, 0, none⟩) pages.length c1) (ps.set at' (mixS old pg (stay k) s)) ∧ BxV wr g7 88 (encW ((at' : Int), pg)) ∧ Fr (fun q => (Value.slice (some ⟨b, 0, none⟩) pages.length c1).ownBlock = some q) w wr) (fun i _ => 8 - (intOf i).toNat)
      case atStart => exact ⟨0, Nat.zero_le _, rfl, o7d, b7d, F7d⟩
      case round =>

        obtain ⟨s, hs8, rfl, hoS, hbS, hfS⟩ := hrel
        by_cases hs : s < 8
        · have hs' : (s : Int) < 8 := by omega
          cases hsy : stay k s with
          | false =>
            go_wp2_with (first
              | (go_at_call 43; go_must (refine (hst _ (hfS.mono (fun q _ hq => h.f1 q hq)) k s hlt hs).mono ?_; rintro e w' ⟨rfl, rfl⟩; rw [hsy])))
            go_roundw
            case rel => exact ⟨s + 1, by omega, by go_num, by rw [mixS_no _ _ _ _ hsy]; exact hoS, hbS, hfS⟩
            case measure => simp [intOf]; omega
          | true =>
            go_wp2_with (first
              | (go_at_call 43; go_must (refine (hst _ (hfS.mono (fun q _ hq => h.f1 q hq)) k s hlt hs).mono ?_; rintro e w' ⟨rfl, rfl⟩; rw [hsy])))
            have hnew := mixS_yes old pg (stay k) s hs hpgH.out hsy
            obtain ⟨ds, Hds⟩ : ∃ ds, Hid ((pg.drop (s * 32)).take 32 = ds) := ⟨_, rfl⟩
            have hdsl : ds.length = 32 := by rw [← Hds.out]; have := hpgH.out; simp; omega
            rw [Hds.out] at hnew
            have hatS : at' < (ps.set at' (mixS old pg (stay k) s)).length := by rw [List.length_set]; exact hatp
            have hget : (ps.set at' (mixS old pg (stay k) s))[at'] = mixS old pg (stay k) s := by simp
            have hpm := OwnR.putMid (w := wr.drew) (hoS.fr0 ((Fr.refl _ _).drew)) at' hatS (s * 32) (pgv ds) (mixS old pg (stay k) (s + 1)) (by rw [hget]; exact hnew) (by rw [pgv_len, hdsl]; omega)
            rw [List.set_set] at hpm
            have hsrc : ∀ j v, (pgv ds)[j]? = some v → wr.drew.cell? ((⟨g7, 1 + s * 32, none⟩ : Addr).add j) = some v := by
              intro j v hj
              rw [Addr.plain]
              have hjl : j < 32 := by have := (List.getElem?_eq_some_iff.1 hj).1; rwa [pgv_len, hdsl] at this
              refine ((show BxV wr.drew g7 _ _ from hbS).cell (1 + s * 32 + j) v ?_).1
              rw [← hj, ← Hds.out]
              simp only [encW]
              rw [show 1 + s * 32 + j = (s * 32 + j) + 1 by omega, List.getElem?_cons_succ]
              simp [pgv, List.getElem?_take, hjl, List.getElem?_drop]
            have hcp := run_copy_cells (P := Try.prog) wr.drew 24 24 3 5 b (at' * 256 + s * 32) 32 (256 - s * 32) ⟨g7, 1 + s * 32, none⟩ 32 (256 - s * 32) (pgv ds) Try.underlying24 size_u8 (by rw [pgv_len, hdsl]; rfl) hsrc
              (fun j hj => (hpm.2 j hj).1) (fun j hj => (hpm.2 j hj).2) (pgv_one ds)
            refine wp_region_chain_lay (by kernel_rfl) [9] [none, none, none, none, none, none, none, none, none, some 0]
              [fun v => v = .pointer (some ⟨b, at' * 256, none⟩), fun v => v = .pointer (some ⟨b, at' * 256, none⟩), fun v => v = .int .i64 ((s : Int) * 32), fun v => v = .int .i64 (((s : Int) + 1) * 32), fun v => v = .slice (some ⟨b, at' * 256 + s * 32, none⟩) 32 (256 - s * 32), fun v => v = .pointer (some ⟨g7, 1, none⟩), fun v => v = .int .i64 ((s : Int) * 32), fun v => v = .int .i64 (((s : Int) + 1) * 32), fun v => v = .slice (some ⟨g7, 1 + s * 32, none⟩) 32 (256 - s * 32), fun _ => True]
              (JC wr.drew b (at' * 256 + s * 32) (pgv ds)) (rfl) (by kernel_rfl) (by kernel_rfl) (by decide) ⟨?o0, ?o1, ?o2, ?o3, ?o4, ?o5, ?o6, ?o7, ?o8, ?o9, trivial⟩ ?oe
            case o0 =>
              intro A W hv hlen hJ hbase hdL hdH
              have e6 : A.eval (.tmp 6) = .pointer (some ⟨b, at' * 256, none⟩) := hbase 6 (by kernel_rfl)
              have f6 : A.tmps[6]?.getD undef = .pointer (some ⟨b, at' * 256, none⟩) := by simpa [Act.eval] using e6
              exact light_val rfl (v := .pointer (some ⟨b, at' * 256, none⟩)) (by simp [execOp, e6, f6]) hJ rfl
            case o1 =>
              intro A W hv hlen hJ hbase hdL hdH
              have e40 : A.eval (.tmp 40) = .pointer (some ⟨b, at' * 256, none⟩) := hdL 0 40 (by kernel_rfl) (by kernel_rfl) (by kernel_rfl)
              have f40 : A.tmps[40]?.getD undef = .pointer (some ⟨b, at' * 256, none⟩) := by simpa [Act.eval] using e40
              exact light_val rfl (v := .pointer (some ⟨b, at' * 256, none⟩)) (by simp [execOp, go_sem, e40, f40]) hJ rfl
            case o2 =>
              intro A W hv hlen hJ hbase hdL hdH
              have e8 : A.eval (.tmp 8) = .int .i64 ((s : Int) * 32) := hbase 8 (by kernel_rfl)
              have f8 : A.tmps[8]?.getD undef = .int .i64 ((s : Int) * 32) := by simpa [Act.eval] using e8
              exact light_val rfl (v := .int .i64 ((s : Int) * 32)) (by simp [execOp, e8, f8]) hJ rfl
            case o3 =>
              intro A W hv hlen hJ hbase hdL hdH
              have e9 : A.eval (.tmp 9) = .int .i64 (((s : Int) + 1) * 32) := hbase 9 (by kernel_rfl)
              have f9 : A.tmps[9]?.getD undef = .int .i64 (((s : Int) + 1) * 32) := by simpa [Act.eval] using e9
              exact light_val rfl (v := .int .i64 (((s : Int) + 1) * 32)) (by simp [execOp, e9, f9]) hJ rfl
            case o4 =>
              intro A W hv hlen hJ hbase hdL hdH
              have e41 : A.eval (.tmp 41) = .pointer (some ⟨b, at' * 256, none⟩) := hdL 1 41 (by kernel_rfl) (by kernel_rfl) (by kernel_rfl)
              have f41 : A.tmps[41]?.getD undef = .pointer (some ⟨b, at' * 256, none⟩) := by simpa [Act.eval] using e41
              have e42 : A.eval (.tmp 42) = .int .i64 ((s : Int) * 32) := hdL 2 42 (by kernel_rfl) (by kernel_rfl) (by kernel_rfl)
              have f42 : A.tmps[42]?.getD undef = .int .i64 ((s : Int) * 32) := by simpa [Act.eval] using e42
              have e43 : A.eval (.tmp 43) = .int .i64 (((s : Int) + 1) * 32) := hdL 3 43 (by kernel_rfl) (by kernel_rfl) (by kernel_rfl)
              have f43 : A.tmps[43]?.getD undef = .int .i64 (((s : Int) + 1) * 32) := by simpa [Act.eval] using e43
              have hr := run_sector W b (at' * 256) s hs
              exact light_val rfl (v := .slice (some ⟨b, at' * 256 + s * 32, none⟩) 32 (256 - s * 32)) (by simp [execOp, e41, e42, e43, hr, Result.andThen]) hJ rfl
            case o5 =>
              intro A W hv hlen hJ hbase hdL hdH
              have e5 : A.eval (.tmp 5) = .pointer (some ⟨g7, 0, none⟩) := hbase 5 (by kernel_rfl)
              have f5 : A.tmps[5]?.getD undef = .pointer (some ⟨g7, 0, none⟩) := by simpa [Act.eval] using e5
              exact light_val rfl (v := .pointer (some ⟨g7, 1, none⟩)) (by simp [execOp, go_sem, e5, f5]) hJ rfl
            case o6 =>
              intro A W hv hlen hJ hbase hdL hdH
              have e8 : A.eval (.tmp 8) = .int .i64 ((s : Int) * 32) := hbase 8 (by kernel_rfl)
              have f8 : A.tmps[8]?.getD undef = .int .i64 ((s : Int) * 32) := by simpa [Act.eval] using e8
              exact light_val rfl (v := .int .i64 ((s : Int) * 32)) (by simp [execOp, e8, f8]) hJ rfl
            case o7 =>
              intro A W hv hlen hJ hbase hdL hdH
              have e9 : A.eval (.tmp 9) = .int .i64 (((s : Int) + 1) * 32) := hbase 9 (by kernel_rfl)
              have f9 : A.tmps[9]?.getD undef = .int .i64 (((s : Int) + 1) * 32) := by simpa [Act.eval] using e9
              exact light_val rfl (v := .int .i64 (((s : Int) + 1) * 32)) (by simp [execOp, e9, f9]) hJ rfl
            case o8 =>
              intro A W hv hlen hJ hbase hdL hdH
              have e45 : A.eval (.tmp 45) = .pointer (some ⟨g7, 1, none⟩) := hdL 5 45 (by kernel_rfl) (by kernel_rfl) (by kernel_rfl)
              have f45 : A.tmps[45]?.getD undef = .pointer (some ⟨g7, 1, none⟩) := by simpa [Act.eval] using e45
              have e46 : A.eval (.tmp 46) = .int .i64 ((s : Int) * 32) := hdL 6 46 (by kernel_rfl) (by kernel_rfl) (by kernel_rfl)
              have f46 : A.tmps[46]?.getD undef = .int .i64 ((s : Int) * 32) := by simpa [Act.eval] using e46
              have e47 : A.eval (.tmp 47) = .int .i64 (((s : Int) + 1) * 32) := hdL 7 47 (by kernel_rfl) (by kernel_rfl) (by kernel_rfl)
              have f47 : A.tmps[47]?.getD undef = .int .i64 (((s : Int) + 1) * 32) := by simpa [Act.eval] using e47
              have hr := run_sector W g7 1 s hs
              exact light_val rfl (v := .slice (some ⟨g7, 1 + s * 32, none⟩) 32 (256 - s * 32)) (by simp [execOp, e45, e46, e47, hr, Result.andThen]) hJ rfl
            case o9 =>
              intro A W hv hlen hJ hbase hdL hdH
              have e44 : A.eval (.tmp 44) = .slice (some ⟨b, at' * 256 + s * 32, none⟩) 32 (256 - s * 32) := hdL 4 44 (by kernel_rfl) (by kernel_rfl) (by kernel_rfl)
              have f44 : A.tmps[44]?.getD undef = .slice (some ⟨b, at' * 256 + s * 32, none⟩) 32 (256 - s * 32) := by simpa [Act.eval] using e44
              have e48 : A.eval (.tmp 48) = .slice (some ⟨g7, 1 + s * 32, none⟩) 32 (256 - s * 32) := hdL 8 48 (by kernel_rfl) (by kernel_rfl) (by kernel_rfl)
              have f48 : A.tmps[48]?.getD undef = .slice (some ⟨g7, 1 + s * 32, none⟩) 32 (256 - s * 32) := by simpa [Act.eval] using e48
              obtain rfl : hv = [] := List.eq_nil_of_length_eq_zero hlen
              obtain rfl := hJ
              refine heavy_wp rfl ?_
              refine Lib.wp_copy_run _ (.tmp 44) (.tmp 48) 24 24 rfl _ _ e44 e48 hcp ?_
              exact ⟨_, rfl, rfl⟩
            case oe =>
              intro vs W' hv hlen hJ hL hH
              match hv, hlen with
              | [y1], _ =>
                obtain rfl := hJ
                simp only [layL, Nat.reduceAdd, Act.put, List.setIfInBounds_toArray, List.set_cons_zero, List.set_cons_succ]
                clear hL hH
                generalize vs 0 = y100 at *
                generalize vs 1 = y101 at *
                generalize vs 2 = y102 at *
                generalize vs 3 = y103 at *
                generalize vs 4 = y104 at *
                generalize vs 5 = y105 at *
                generalize vs 6 = y106 at *
                generalize vs 7 = y107 at *
                generalize vs 8 = y108 at *
                generalize vs 9 = y109 at *
                have F8 : Fr (fun q => (Value.slice (some ⟨b, 0, none⟩) pages.length c1).ownBlock = some q) w (wr.drew.setCells b (at' * 256 + s * 32) (pgv ds)) := hfS.drew.thenT (setCells_fr1 wr.drew b _ _) (fun q _ hq => (hS q).2 hq)
                have b8 := (show BxV wr.drew g7 _ _ from hbS).ne (setCells_fr1 wr.drew b (pgv ds) (at' * 256 + s * 32)) hg7b
                go_wp2
                go_roundw
                case rel => exact ⟨s + 1, by omega, by go_num, hpm.1, b8, F8⟩
                case measure => simp [intOf]; omega
        · obtain rfl : s = 8 := by omega
          go_wp2
          go_roundw
          case rel => exact ⟨k + 1, _, by omega, by go_num, show _ = _ from hnx.out.symm, hoS, hfS⟩
          case measure => simp [intOf]; omega
    · obtain rfl : k = pend.length := by omega
      go_wp2_with (first
        | (with_reducible refine at_wpP ?_; refine at_st 70 _ _ rfl ?_; go_must (refine wpList_store1 rfl 70 _ _ rfl g 2 rfl (.slice none 0 0) rfl rfl _ _ hbx' size_spwrite (by simp) ?_; intro w8 b8 f8; have b8 : BxV w8 g 72 (pdL (.slice a1 pages.length c1) m (.slice none 0 0) d l) := (by simpa using b8))))
      go_end0
      rw [← hps.out]
      have hF8 : Fr F w w8 := (hf.mono (fun q _ hq => h.f1 q hq)).thenT f8 (fun q _ hq => by unfold onB1 at hq; exact hq ▸ h.fg)
      refine ⟨rfl, ⟨.slice a1 pages.length c1, m, .slice none 0 0, ?_⟩, hF8⟩
      exact { h with
        bx := b8
        st := ho.ne f8 hg1
        pd := OwnR.none _ _
        mp := (h.mp.fr hf (fun q => h.m1 _ q rfl)).fr f8 (fun q => h.gm q)
        f3 := fun q hq => by simp [Value.ownBlock] at hq
        len := by simp only; rw [hpl.out]; exact hlen
        bin := fun x hx => by simp only; rw [hpl.out]; exact h.bin x hx
        pin := fun x hx => by simp at hx }
end Go.Proofs.Ytijgfojnppcbjaa
/- The program's disk: Sync, Crash, Write. -/
namespace Go.Proofs.Ytijgfojnppcbjaa
open Go.RowKit Go.Proofs.U Go.Maps
set_option linter.unusedSimpArgs false
set_option linter.unusedVariables false

theorem sync1_any (a b : Value) (W : World) : Calls Try.prog 52 #[a, b] W fun r W' => r = .returned (.bool true) ∧ W = W' := by
  go_enter Try.func52, Try.ntmps52
  go_wp2
  go_ret
  exact ⟨rfl, rfl⟩

set_option maxRecDepth 100000 in
theorem and1_fin : ∀ x : Fin 256, bits .and .u8 ((x.val : Nat) : Int) 1 = ((x.val : Nat) : Int) % 2 := by decide
theorem and1 (x : Int) (h0 : 0 ≤ x) (h1 : x < 256) : bits .and .u8 x 1 = x % 2 := by
  obtain ⟨n, rfl⟩ := Int.eq_ofNat_of_zero_le h0
  exact and1_fin ⟨n, by omega⟩
def stayK (keep : List Int) (k s : Nat) : Bool := decide (k < keep.length) && (keep.getD k 0 / 2 ^ s % 2 == 1)

set_option maxHeartbeats 1000000 in
theorem crash1_any (kb : Nat) (vk : Value) (keep : List Int) (W : World) (hb : BxV W kb 24 [vk]) (hS : SlI .u8 W vk keep) (k s : Nat) (hs : s < 8) :
    Calls Try.prog 43 #[.int .i64 (k : Int), .int .i64 (s : Int), ptr kb] W fun r W' => r = .returned (.bool (stayK keep k s)) ∧ W = W' := by
  obtain ⟨a, cap, rfl, _⟩ := hS.opn
  obtain ⟨q1, _⟩ := hb.cell 0 _ rfl
  unfold stayK
  by_cases hk : k < keep.length
  · have hk' : (k : Int) < (keep.length : Int) := by omega
    have hg : (keep.map (Value.int .u8))[k]? = some (.int .u8 (keep.getD k 0)) := by simp [List.getD, hk]
    obtain ⟨m, Hm⟩ : ∃ m, Hid (keep.getD k 0 = m) := ⟨_, rfl⟩
    have hm8 : 0 ≤ m ∧ m < 256 := by
      have := hS.2 keep[k] (by simp)
      have e9 : keep[k] = m := by rw [← Hm.out]; simp [List.getD, hk]
      rw [e9] at this
      simp [Lit.wf, IntKind.min, IntKind.max, IntKind.signed, IntKind.bits] at this; omega
    rw [Hm.out] at hg ⊢
    go_enter Try.func43, Try.ntmps43
    go_wp2_with (first
      | (refine at_idx 24 _ _ rfl ?_; go_must (refine wpList_idx1 rfl 24 _ _ rfl 5 Try.underlying24 size_u8 _ _ _ rfl hS.1 _ _ k rfl rfl (by simpa using hk) ?_; intro p u hu hp; rw [hg] at hu; cases hu)))
    go_ret
    refine ⟨?_, rfl⟩
    have hd0 : 0 ≤ m / 2 ^ s := Int.ediv_nonneg hm8.1 (Int.le_of_lt (Int.pow_pos (by decide)))
    have hd1 : m / 2 ^ s < 256 := by
      have := Int.ediv_le_self (2 ^ s) hm8.1
      omega
    have hb1 := and1 (m / 2 ^ s) hd0 hd1
    simp [hb1, hk]
  · have hk' : ¬ (k : Int) < (keep.length : Int) := by omega
    go_enter Try.func43, Try.ntmps43
    go_wp2
    go_ret
    exact ⟨by simp [hk], rfl⟩

/-- The box of the variable that the closure holds. -/
def DSt.crash (X : DSt) (keep : List Int) : DSt := { X with pages := setS X.pages X.pend (stayK keep) X.pend.length, pend := [], down := false, left := -1 }
def DSt.sync (X : DSt) : DSt := if X.actE = 0 then X.act.settle (fun _ _ => true) else X.act
def orNew (F : Nat → Prop) (w : World) : Nat → Prop := fun k => F k ∨ w.heap.size ≤ k

set_option maxHeartbeats 1000000 in
theorem sync_any {F : Nat → Prop} {X : DSt} (g : Nat) (w : World) (h : Disk w F g X) (hm : X.pend.length ≤ 100000) :
    Calls Try.prog 33 #[ptr g] w fun r w' => r = .returned (.int .i64 X.actE) ∧ Disk w' F g X.sync ∧ Fr F w w' := by
  obtain ⟨E, HE⟩ : ∃ E, Hid (X.actE = E) := ⟨_, rfl⟩
  have hpe : X.act.pend = X.pend := rfl
  obtain ⟨X1, HX1⟩ : ∃ Y, Hid (X.act = Y) := ⟨_, rfl⟩
  unfold DSt.sync
  have ha := act_any g w h
  rw [← hpe, HX1.out] at hm
  rw [HE.out, HX1.out] at ha
  rw [HE.out, HX1.out]
  by_cases he : E = 0
  · subst he
    obtain ⟨Y, HY⟩ : ∃ Y, Hid (X1.settle (fun _ _ => true) = Y) := ⟨_, rfl⟩
    rw [if_pos rfl, HY.out]
    go_enter Try.func33, Try.ntmps33
    go_wp2_with (first
      | (go_at_call 39; go_must (refine ha.mono ?_; rintro e w1 ⟨rfl, d1, f1⟩))
      | (go_at_call 42; go_must (refine (settle_sync g (fun _ _ => true) _ d1 hm (fun W hW k s _ _ => sync1_any _ _ W)).mono ?_; rw [HY.out]; rintro e w2 ⟨rfl, d2, f2⟩)))
    go_ret
    exact ⟨rfl, d2, f1.trans f2⟩
  · rw [if_neg he]
    go_enter Try.func33, Try.ntmps33
    go_wp2_with (first
      | (go_at_call 39; go_must (refine ha.mono ?_; rintro e w1 ⟨rfl, d1, f1⟩)))
    go_ret
    exact ⟨rfl, d1, f1⟩

theorem size_bytes : (Try.prog.info? 24).map (·.size) = some 1 := by kernel_rfl
set_option maxHeartbeats 1000000 in
theorem crash_anyW {F : Nat → Prop} {X : DSt} (g : Nat) (vk : Value) (keep : List Int) (w : World) (h : Disk w F g X) (hm : X.pend.length ≤ 100000) (hkW : ∀ W, Fr (fun k => F k ∧ k < w.heap.size) w W → SlI .u8 W vk keep) :
    Calls Try.prog 21 #[ptr g, vk] w fun r w' => r = .returned (.tuple #[]) ∧ Disk w' F g (X.crash keep) ∧ Fr F w w' := by
  have hk := hkW w (Fr.refl _ _)
  obtain ⟨ka, kc, rfl, _⟩ := hk.opn
  have f0 : Fr noB w (w.alloc (.cells #[.slice ka keep.length kc] 24)) := (Fr.refl _ _).alloc _
  have hd0 : Disk (w.alloc (.cells #[.slice ka keep.length kc] 24)) (fun k => F k ∧ k < w.heap.size) g X := (h.mono (fun k hk hF => ⟨hF, hk⟩)).fr0 f0
  have hb0 : BxV (w.alloc (.cells #[.slice ka keep.length kc] 24)) w.heap.size 24 [.slice ka keep.length kc] := by
    show (w.heap.push _)[w.heap.size]? = _
    rw [Array.getElem?_push, if_pos rfl]
  have hcr := settle_crash g w.heap.size (stayK keep) _ hd0 hm (fun W hW k s _ hs => crash1_any w.heap.size _ keep W (hb0.fr hW (fun q => by have := q.2; omega)) (hkW W ((f0.mono (fun _ _ q => q.elim)).thenT hW (fun _ _ q => q))) k s hs)
  obtain ⟨Y, HY⟩ : ∃ Y, Hid (X.settle (stayK keep) = Y) := ⟨_, rfl⟩
  rw [HY.out] at hcr
  have hcrash : X.crash keep = { Y with down := false, left := -1 } := by rw [← HY.out]; rfl
  rw [hcrash]
  go_enter Try.func21, Try.ntmps21
  go_wp2_with (first
    | (go_at_call 42; go_must (refine hcr.mono ?_; rintro e w2 ⟨rfl, ⟨v1, m, v3, d2⟩, f2⟩; have e2 := d2.bx))
    | (with_reducible refine at_wpP ?_; refine at_st 4 _ _ rfl ?_; go_must (refine wpList_store1 rfl 4 _ _ rfl g 3 rfl (.bool false) rfl rfl _ _ e2 size_bool (by simp) ?_; intro w3 b3 f3; have b3 : BxV w3 g 72 (pdL v1 m v3 false Y.left) := (by simpa using b3)))
    | (with_reducible refine at_wpP ?_; refine at_st 3 _ _ rfl ?_; go_must (refine wpList_store1 rfl 3 _ _ rfl g 4 rfl (.int .i64 (-1)) rfl rfl _ _ b3 size_int (by simp) ?_; intro w4 b4 f4; have b4 : BxV w4 g 72 (pdL v1 m v3 false (-1)) := (by simpa using b4))))
  go_end0
  have f34 : Fr (onB1 g) w2 w4 := f3.trans f4
  have hl := d2.fg
  have hfin := d2.put f34 b4 (by omega)
  have hF2 : Fr F w w2 := (f0.mono (fun _ _ q => q.elim)).thenT f2 (fun k _ q => q.1)
  exact ⟨rfl, ⟨v1, m, v3, hfin.mono (fun k _ q => q.1)⟩, hF2.thenT f34 (fun k _ q => by unfold onB1 at q; exact q ▸ d2.fg.1)⟩
theorem crash_any {F : Nat → Prop} {X : DSt} (g : Nat) (vk : Value) (keep : List Int) (w : World) (h : Disk w F g X) (hm : X.pend.length ≤ 100000) (hk : SlI .u8 w vk keep) (hkF : ∀ b, vk.ownBlock = some b → b < w.heap.size → ¬ F b) :
    Calls Try.prog 21 #[ptr g, vk] w fun r w' => r = .returned (.tuple #[]) ∧ Disk w' F g (X.crash keep) ∧ Fr F w w' :=
  crash_anyW g vk keep w h hm (fun W f => hk.fr f (fun b hb q => hkF b hb q.2 q.1))
end Go.Proofs.Ytijgfojnppcbjaa
