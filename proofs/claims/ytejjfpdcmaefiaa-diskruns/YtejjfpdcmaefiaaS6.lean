/- DiskRuns. (Written by s6_gen.py.) -/
import Derived.Test.YtejjfpdcmaefiaaRD
namespace Go.Proofs.Ytejjfpdcmaefiaa
open Go.RowKit Go.Proofs.U
set_option linter.unusedSimpArgs false
set_option linter.unusedVariables false

set_option maxRecDepth 100000 in
set_option maxHeartbeats 40000000 in
theorem runs_walk (n : Int) (va : Value) (acts : List ActR) (w : World) (hn : (Lit.int .i64 n).wf = true) (ha : SlA w va acts) :
    Calls Try.prog 4 #[.int .i64 n, va] w fun r w' => r = .returned (.bool true) ∧ Below w.heap.size w w' := by
  obtain ⟨hA, hok⟩ := ha
  obtain ⟨a1, c1, rfl, _⟩ := hA.opn
  have hnr := wf64 hn
  by_cases hg : n ≤ 300 ∧ acts.length ≤ 80
  · obtain ⟨hg1, hg2⟩ := hg
    have t1 : ¬ 300 < n := by omega
    have t2 : ¬ 80 < (acts.length : Int) := by omega
    obtain ⟨X0, HX0⟩ : ∃ X, Hid (newD n = X) := ⟨_, rfl⟩
    have hR0 : Hid (RXD X0 false 0 (List.replicate (newN n) false)) := by show RXD _ _ _ _; rw [← HX0.out]; exact RXD.new n
    have hX0p : Hid (X0.pend = []) := by show _ = _; rw [← HX0.out]; rfl
    have hX0d : Hid (X0.down = false) := by show _ = _; rw [← HX0.out]; rfl
    have hX0g : Hid (X0.pages = List.replicate (newN n) zeroP) := by show _ = _; rw [← HX0.out]; rfl
    obtain ⟨B0, HB0⟩ : ∃ B, Hid (List.replicate (newN n) false = B) := ⟨_, rfl⟩
    obtain ⟨P0, HP0⟩ : ∃ B, Hid (List.replicate (newN n) zeroP = B) := ⟨_, rfl⟩
    rw [HB0.out] at hR0
    rw [HP0.out] at hX0g
    go_enter Try.func4, Try.ntmps4
    go_wp2_with (first
      | (go_at_call 13; go_must (refine (alive_any _).mono ?_; rintro e w0 ⟨rfl, f0⟩; have z0 := f0.size))
      | (go_at_call 9; go_must (refine (new_any n hnr _).mono ?_; rw [HX0.out]; rintro e w1 ⟨gd, rfl, d1, f1⟩; have z1 := f1.size))
      | (go_at_call 17; go_must (refine (rnew_any n hnr _).mono ?_; rw [HP0.out, HB0.out]; rintro e w2 ⟨v1, v2, rfl, s1, s2, f2, nb1, nb2⟩; have z2 := f2.size; have hi1 := SlR.isSl s1; have hi2 := SlR.isSl s2))
      | (with_reducible refine at_wpP ?_; refine wpList_allocD rfl rfl ?_; intro g6 w3 hg6 b3 f3 s3; have z3 := f3.size; have l3 := b3.lt)
      | (with_reducible refine at_wpP ?_; refine at_st 39 _ _ rfl ?_; go_must (refine wpList_stD rfl _ _ rfl g6 rfl _ _ _ _ _ _ rfl _ b3 rfl hi1 hi2 (isSl_mk _ _ _) ?_; intro w4 b4 f4; have z4 := f4.size)))
    have hg6w : w.heap.size ≤ g6 := by omega
    have hdc0 : DocD w4 g6 v1 v2 (.slice none 0 0) false 0 X0.down X0.pages B0 X0.pend := by
      rw [hX0p.out, hX0d.out, hX0g.out]
      exact DocD.put f4 b4 (s1.fr0 f3) (s2.fr0 f3) ⟨by simp, Sl.nil _ _⟩ (fun q h => by have := nb1 q h; omega) (fun q h => by have := nb2 q h; omega) (fun q h => by simp [Value.ownBlock] at h)
    have hd0 : Disk w4 (fun q => w0.heap.size ≤ q ∧ q < w1.heap.size) gd X0 := ((d1.tight.fr0 f2).fr0 f3).fr f4 (fun q _ hq e => by unfold onB1 at e; omega)
    have hsp0 : Sep (fun q => w0.heap.size ≤ q ∧ q < w1.heap.size) w4 w0.heap.size g6 v1 v2 (.slice none 0 0) := fun q hq => ⟨hq.1, by omega, by omega, fun e => by have := nb1 q e; omega, fun e => by have := nb2 q e; omega, fun e => by simp [Value.ownBlock] at e⟩
    have G4 : Fr noB w w4 := (((f0.thenN f1).thenN f2).thenN f3).thenT f4 (fun q hq e => by unfold onB1 at e; omega)
    clear b4 b3 s1 s2 nb1 nb2 hi1 hi2 d1 hg6
    go_loopw [35] (fun i wr => ∃ (m : Nat) (X : DSt) (F : Nat → Prop) (v1 v2 v3 : Value) (c : Bool) (l : Int) (bad : List Bool), m ≤ acts.length ∧ i = .int .i64 (m : Int) ∧ Hid (RXD X c l bad) ∧ Hid (X.pend.length ≤ m) ∧ Disk wr F gd X ∧ DocD wr g6 v1 v2 v3 c l X.down X.pages bad X.pend ∧ Sep F wr w0.heap.size g6 v1 v2 v3 ∧ Fr noB w wr) (fun i _ => acts.length - (intOf i).toNat)
    case atStart => exact ⟨0, X0, _, v1, v2, _, false, 0, B0, Nat.zero_le _, rfl, hR0, by show _ ≤ _; rw [hX0p.out]; exact Nat.le_refl _, hd0, hdc0, hsp0, G4⟩
    case round =>
      clear hdc0 hsp0 hd0 G4
      obtain ⟨m, X, F, v1, v2, v3, c, l, bad, hma, rfl, hRX, hpl, hD, hdc, hsp, hf⟩ := hrel
      have zf := hf.size
      have hl0 := hdc.bx.lt
      have hpm : X.pend.length ≤ 100000 := by have := hpl.out; omega
      have hpl256 : Hid (∀ p ∈ X.pages, p.length = 256) := disk_pl hD
      have hin : Hid (∀ x ∈ X.pend, 0 ≤ x.1 ∧ x.1 < (X.pages.length : Int)) := (disk_in hD).1
      have hpg := (disk_in hD).2
      have hi1 := SlR.isSl hdc.s1
      have hi2 := SlR.isSl hdc.s2
      have hi3 := SlR.isSl hdc.s3
      by_cases hlt : m < acts.length
      · obtain ⟨x, Hx⟩ : ∃ X, Hid (acts[m] = X) := ⟨acts[m], (rfl : acts[m] = acts[m])⟩
        have hxo : ActOk w x := by rw [← Hx.out]; exact hok _ (by simp)
        have hx1 := encA_one hxo
        have hxl : Hid ((encA x).length = 4) := rfl
        obtain ⟨kd, ak, by', kv, kp⟩ := x
        have hakr := wf64 hxo.2.1
        have hkv : SlI .u8 w kv kp := hxo.2.2.2
        by_cases hk0 : kd = 0
        · subst hk0
          obtain ⟨P, HP⟩ : ∃ p, Hid (List.replicate 256 by' = p) := ⟨_, rfl⟩
          have hPl : Hid (P.length = 256) := by show _ = _; rw [← HP.out, List.length_replicate]
          obtain ⟨E, HE⟩ : ∃ E, Hid (X.writeE ak = E) := ⟨_, rfl⟩
          obtain ⟨Y, HY⟩ : ∃ Y, Hid (X.write ak P = Y) := ⟨_, rfl⟩
          obtain ⟨L', HL⟩ : ∃ l', Hid ((if inR X.pages.length ak then (actR c l X.down).1 else l) = l') := ⟨_, rfl⟩
          obtain ⟨hw1, hw2, hw3, hw4, hw5⟩ := hRX.out.write ak P
          rw [HY.out] at hw1 hw2 hw4 hw5
          rw [HE.out] at hw3
          rw [HL.out] at hw5
          replace hw1 : Hid _ := hw1
          replace hw2 : Hid _ := hw2
          replace hw3 : Hid _ := hw3
          replace hw4 : Hid _ := hw4
          have hRY : Hid (RXD Y c L' bad) := hw5
          have hpYm : Hid (Y.pend.length ≤ m + 1) := by show _ ≤ _; rw [← hw4.out]; have := hpl.out; split <;> (try simp only [List.length_append, List.length_singleton]) <;> omega
          have hpY : Y.pend.length ≤ 100000 := by have := hpYm.out; omega
          have hpgY : Y.pages.length ≤ 100000 := by rw [hw1.out]; exact hpg
          obtain ⟨a3, c3, hv1, _⟩ := hdc.s1.opn
          replace hv1 : Hid _ := hv1
          obtain ⟨p, e2, Hrd⟩ : ∃ p e2, Hid (readP Y ak = (p, e2)) := ⟨_, _, rfl⟩
          have hdr : Hid (readR Y.pages bad Y.pend ak = (p, e2)) := by show _ = _; rw [hRY.out.read, Hrd.out]
          go_wp2_with (first
            | (refine at_idx 34 _ _ rfl ?_; go_must (refine wpList_idxR rfl 34 _ _ rfl 43 Try.underlying34 4 act_size _ _ _ rfl (hA.fr0 hf) (by decide) _ _ m rfl rfl hlt ?_; rw [Hx.out]; intro ba oa hba hca))
            | (with_reducible refine at_wpP ?_; refine at_ld 43 _ rfl ?_; go_must (refine wpList_load_mid rfl 43 _ rfl ba oa rfl (encA ⟨0, ak, by', kv, kp⟩) _ (range_of fun j v hj => hca j v hj) under_act rfl (act_sizeE _) ?_))
            | (with_reducible refine at_wpP ?_; refine wpList_allocV rfl 43 rfl _ act_zero ?_; intro gx w4 hgx b4 f4 s4; have l4 := b4.lt)
            | (with_reducible refine at_wpP ?_; refine at_st 43 _ _ rfl ?_; go_must (refine wpList_storeV rfl 43 _ _ rfl gx 0 rfl (encA ⟨0, ak, by', kv, kp⟩) rfl _ _ b4 (act_sizeE _) (encA_le _ _) hx1 ?_; intro w5 b5 f5; rw [putAt_all _ _ (encA_eq _ _)] at b5; have F45 : Fr noB wr w5 := (f4.thenT f5 (fun q hq e => (by unfold onB1 at e; omega))); have z45 := F45.size; have hD5 := hD.fr0 F45; have doc5 := hdc.fr0 F45; have sep5 := hsp.size z45; have G5 := hf.thenN F45; obtain ⟨q0, _⟩ := b5.cell 0 _ rfl; obtain ⟨q1, _⟩ := b5.cell 1 _ rfl; obtain ⟨q2, _⟩ := b5.cell 2 _ rfl; obtain ⟨q3, _⟩ := b5.cell 3 _ rfl; have hngx : ¬ F gx := (fun q => (by have := (hsp _ q).2.1; omega)))))
          have hDd : Disk w5.drew F gd X := hD5.fr0 ((Fr.refl _ _).drew)
          have b6 : BxV w5.drew gx 43 (encA ⟨0, ak, by', kv, kp⟩) := b5
          have q1 : w5.drew.cell? ⟨gx, 1, none⟩ = some (.int .i64 ak) := q1
          have q2 : w5.drew.cell? ⟨gx, 2, none⟩ = some (.int .u8 by') := q2
          refine wp_region_chain_lay (by kernel_rfl) [5, 6] [none, none, none, none, none, some 0, some 1, none]
            [fun v => v = ptr gd, fun v => v = .pointer (some ⟨gx, 1, none⟩), fun v => v = .int .i64 ak, fun v => v = .pointer (some ⟨gx, 2, none⟩), fun v => v = .int .u8 by', fun _ => True, fun _ => True, fun v => v = .int .i64 E]
            (JK w5.drew F gd E Y P) (rfl) (by kernel_rfl) (by kernel_rfl) (by decide) ⟨?o0, ?o1, ?o2, ?o3, ?o4, ?o5, ?o6, ?o7, trivial⟩ ?oe
          case o0 =>
            intro A W hv hlen hJ hbase hdL hdH
            have e5 : A.eval (.tmp 5) = ptr gd := hbase 5 (by kernel_rfl)
            have f5 : A.tmps[5]?.getD undef = ptr gd := by simpa [Act.eval] using e5
            exact light_val rfl (v := ptr gd) (by simp [execOp, e5, f5]) hJ rfl
          case o1 =>
            intro A W hv hlen hJ hbase hdL hdH
            have e8 : A.eval (.tmp 8) = .pointer (some ⟨gx, 0, none⟩) := hbase 8 (by kernel_rfl)
            have f8 : A.tmps[8]?.getD undef = .pointer (some ⟨gx, 0, none⟩) := by simpa [Act.eval] using e8
            exact light_val rfl (v := .pointer (some ⟨gx, 1, none⟩)) (by simp [execOp, go_sem, e8, f8]) hJ rfl
          case o2 =>
            intro A W hv hlen hJ hbase hdL hdH
            have e44 : A.eval (.tmp 44) = .pointer (some ⟨gx, 1, none⟩) := hdL 1 44 (by kernel_rfl) (by kernel_rfl) (by kernel_rfl)
            have f44 : A.tmps[44]?.getD undef = .pointer (some ⟨gx, 1, none⟩) := by simpa [Act.eval] using e44
            have hcW := (JK.fr hJ).cell q1 hngx
            exact light_val rfl (v := .int .i64 ak) (by simp [execOp, go_sem, e44, f44, hcW]) hJ rfl
          case o3 =>
            intro A W hv hlen hJ hbase hdL hdH
            have e8 : A.eval (.tmp 8) = .pointer (some ⟨gx, 0, none⟩) := hbase 8 (by kernel_rfl)
            have f8 : A.tmps[8]?.getD undef = .pointer (some ⟨gx, 0, none⟩) := by simpa [Act.eval] using e8
            exact light_val rfl (v := .pointer (some ⟨gx, 2, none⟩)) (by simp [execOp, go_sem, e8, f8]) hJ rfl
          case o4 =>
            intro A W hv hlen hJ hbase hdL hdH
            have e46 : A.eval (.tmp 46) = .pointer (some ⟨gx, 2, none⟩) := hdL 3 46 (by kernel_rfl) (by kernel_rfl) (by kernel_rfl)
            have f46 : A.tmps[46]?.getD undef = .pointer (some ⟨gx, 2, none⟩) := by simpa [Act.eval] using e46
            have hcW := (JK.fr hJ).cell q2 hngx
            exact light_val rfl (v := .int .u8 by') (by simp [execOp, go_sem, e46, f46, hcW]) hJ rfl
          case o5 =>
            intro A W hv hlen hJ hbase hdL hdH
            have e47 : A.eval (.tmp 47) = .int .u8 by' := hdL 4 47 (by kernel_rfl) (by kernel_rfl) (by kernel_rfl)
            have f47 : A.tmps[47]?.getD undef = .int .u8 by' := by simpa [Act.eval] using e47
            obtain rfl : hv = [] := List.eq_nil_of_length_eq_zero hlen
            cases hJ
            refine heavy_call rfl (args := #[.int .u8 by']) (f := 19) (by simp [execOp, resolve, invoke, go_sem, e47, f47]) ?_
            refine (full_any by' _).mono ?_
            rw [HP.out]
            rintro e w' ⟨rfl, f'⟩
            exact ⟨_, rfl, rfl, f'⟩
          case o6 =>
            intro A W hv hlen hJ hbase hdL hdH
            have e43 : A.eval (.tmp 43) = ptr gd := hdL 0 43 (by kernel_rfl) (by kernel_rfl) (by kernel_rfl)
            have f43 : A.tmps[43]?.getD undef = ptr gd := by simpa [Act.eval] using e43
            have e45 : A.eval (.tmp 45) = .int .i64 ak := hdL 2 45 (by kernel_rfl) (by kernel_rfl) (by kernel_rfl)
            have f45 : A.tmps[45]?.getD undef = .int .i64 ak := by simpa [Act.eval] using e45
            obtain ⟨v48, rfl⟩ := List.length_eq_one_iff.1 hlen
            obtain ⟨rfl, hf5⟩ := hJ
            have e48 : A.eval (.tmp 48) = pgV P := by have := hdH 5 48 0 (by kernel_rfl) rfl (by kernel_rfl); simpa using this.symm
            have f48 : A.tmps[48]?.getD undef = pgV P := by simpa [Act.eval] using e48
            refine heavy_call rfl (args := #[ptr gd, .int .i64 ak, pgV P]) (f := 18) (by simp [execOp, resolve, invoke, go_sem, e43, f43, e45, f45, e48, f48]) ?_
            refine (write_any gd ak P hPl.out W (hDd.fr0 hf5) hpm).mono ?_
            rw [HE.out, HY.out]
            rintro e w' ⟨rfl, d', f'⟩
            have z5 := hf5.size
            exact ⟨_, rfl, rfl, (hf5.mono (fun _ _ q => q.elim)).trans f', _, d'.tight, fun q hq => ⟨hq.2, by have h1 := hq.1; unfold orNew at h1; rcases h1 with h1 | h1; exact Or.inl h1; exact Or.inr (by omega)⟩⟩
          case o7 =>
            intro A W hv hlen hJ hbase hdL hdH
            have v49 := hdH 6 49 1 (by kernel_rfl) rfl (by kernel_rfl)
            have hl4 : hv.length ≤ 2 := hlen.1
            match hv, hl4, v49 with
            | [x0, x1], _, v49 =>
              have hJ' := hJ
              obtain ⟨rfl, _⟩ := hJ'
              have e49 : A.eval (.tmp 49) = .int .i64 E := by simpa using v49.symm
              exact light_val rfl (v := .int .i64 E) (by simp [execOp, e49]) hJ rfl
          case oe =>
            intro vs' W' hv hlen hJ hL hH
            match hv, hlen with
            | [y1', y2'], _ =>
              have hx9 : vs' 7 = .int .i64 E := hL 7 (by rfl) (by rfl)
              obtain ⟨_, hfr, F', hd', hF'⟩ := hJ
              simp only [layL, Nat.reduceAdd, Act.put, List.setIfInBounds_toArray, List.set_cons_zero, List.set_cons_succ]
              clear hL hH
              generalize vs' 0 = y100 at *
              generalize vs' 1 = y101 at *
              generalize vs' 2 = y102 at *
              generalize vs' 3 = y103 at *
              generalize vs' 4 = y104 at *
              generalize vs' 5 = y105 at *
              generalize vs' 6 = y106 at *
              generalize vs' 7 = y107 at *
              subst hx9
              have zz := hfr.size
              have zd : w5.drew.heap.size = w5.heap.size := rfl
              have sepd : Sep F w5.drew w0.heap.size g6 v1 v2 v3 := sep5
              have docd : DocD w5.drew g6 v1 v2 v3 c l X.down X.pages bad X.pend := doc5.fr0 ((Fr.refl _ _).drew)
              have doc13 : DocD W'.drew g6 v1 v2 v3 c l X.down X.pages bad X.pend := (docd.prog sepd hfr).fr0 ((Fr.refl _ _).drew)
              have sep13 : Sep F' W'.drew w0.heap.size g6 v1 v2 v3 := sepd.prog docd (by have := hf.size; have := hl0; omega) hF'
              have bx13 : BxV W'.drew gx 43 (encA ⟨0, ak, by', kv, kp⟩) := (show BxV W' gx _ _ from b6.fr hfr hngx)
              have G13 : Fr noB w W'.drew := (G5.drew.thenT hfr (fun q hq hq' => (by have := (hsp q hq').1; omega))).drew
              have hd13 : Disk W'.drew F' gd Y := hd'.fr0 ((Fr.refl _ _).drew)
              have hg13 : ¬ onB1 g6 gx := fun e => by unfold onB1 at e; omega
              go_wp2_with fail
              refine wp_region_chain_lay (by kernel_rfl) [5, 6, 7, 8, 10] [none, none, none, none, none, some 0, some 1, some 2, some 3, none, some 4, none]
                [fun v => v = dkV v1 v2 v3 c l X.down, fun v => v = .pointer (some ⟨gx, 1, none⟩), fun v => v = .int .i64 ak, fun v => v = .pointer (some ⟨gx, 2, none⟩), fun v => v = .int .u8 by', fun _ => True, fun _ => True, fun _ => True, fun _ => True, fun v => v = .int .i64 E, fun _ => True, fun v => v = .int .i64 E]
                (JP W'.drew g6 v1 v2 v3 c L' Y.down E Y.pend P) (rfl) (by kernel_rfl) (by kernel_rfl) (by decide) ⟨?o0, ?o1, ?o2, ?o3, ?o4, ?o5, ?o6, ?o7, ?o8, ?o9, ?o10, ?o11, trivial⟩ ?oe
              case o0 =>
                intro A W hv hlen hJ hbase hdL hdH
                have e6 : A.eval (.tmp 6) = .pointer (some ⟨g6, 0, none⟩) := hbase 6 (by kernel_rfl)
                have f6 : A.tmps[6]?.getD undef = .pointer (some ⟨g6, 0, none⟩) := by simpa [Act.eval] using e6
                have hb1 : hv.length ≤ 1 := hlen.2 1 6 rfl (by kernel_rfl)
                have hbW : BxV W g6 39 (dkL v1 v2 v3 c l X.down) := by
                  match hv, hb1, hJ with
                  | [], _, hJ => cases hJ; exact doc13.bx
                  | [_], _, hJ => exact doc13.bx.fr0 hJ.2
                have hr := run_ldD W g6 _ _ _ _ _ _ hbW
                exact light_val rfl (v := dkV v1 v2 v3 c l X.down) (by simp [execOp, e6, hr, Result.andThen]) hJ rfl
              case o1 =>
                intro A W hv hlen hJ hbase hdL hdH
                have e8 : A.eval (.tmp 8) = .pointer (some ⟨gx, 0, none⟩) := hbase 8 (by kernel_rfl)
                have f8 : A.tmps[8]?.getD undef = .pointer (some ⟨gx, 0, none⟩) := by simpa [Act.eval] using e8
                exact light_val rfl (v := .pointer (some ⟨gx, 1, none⟩)) (by simp [execOp, go_sem, e8, f8]) hJ rfl
              case o2 =>
                intro A W hv hlen hJ hbase hdL hdH
                have e52 : A.eval (.tmp 52) = .pointer (some ⟨gx, 1, none⟩) := hdL 1 52 (by kernel_rfl) (by kernel_rfl) (by kernel_rfl)
                have f52 : A.tmps[52]?.getD undef = .pointer (some ⟨gx, 1, none⟩) := by simpa [Act.eval] using e52
                obtain ⟨hcW, _⟩ := (bx13.fr (JP.fr hJ) hg13).cell 1 _ rfl
                exact light_val rfl (v := .int .i64 ak) (by simp [execOp, go_sem, e52, f52, hcW]) hJ rfl
              case o3 =>
                intro A W hv hlen hJ hbase hdL hdH
                have e8 : A.eval (.tmp 8) = .pointer (some ⟨gx, 0, none⟩) := hbase 8 (by kernel_rfl)
                have f8 : A.tmps[8]?.getD undef = .pointer (some ⟨gx, 0, none⟩) := by simpa [Act.eval] using e8
                exact light_val rfl (v := .pointer (some ⟨gx, 2, none⟩)) (by simp [execOp, go_sem, e8, f8]) hJ rfl
              case o4 =>
                intro A W hv hlen hJ hbase hdL hdH
                have e54 : A.eval (.tmp 54) = .pointer (some ⟨gx, 2, none⟩) := hdL 3 54 (by kernel_rfl) (by kernel_rfl) (by kernel_rfl)
                have f54 : A.tmps[54]?.getD undef = .pointer (some ⟨gx, 2, none⟩) := by simpa [Act.eval] using e54
                obtain ⟨hcW, _⟩ := (bx13.fr (JP.fr hJ) hg13).cell 2 _ rfl
                exact light_val rfl (v := .int .u8 by') (by simp [execOp, go_sem, e54, f54, hcW]) hJ rfl
              case o5 =>
                intro A W hv hlen hJ hbase hdL hdH
                have e55 : A.eval (.tmp 55) = .int .u8 by' := hdL 4 55 (by kernel_rfl) (by kernel_rfl) (by kernel_rfl)
                have f55 : A.tmps[55]?.getD undef = .int .u8 by' := by simpa [Act.eval] using e55
                obtain rfl : hv = [] := List.eq_nil_of_length_eq_zero hlen
                cases hJ
                refine heavy_call rfl (args := #[.int .u8 by']) (f := 19) (by simp [execOp, resolve, invoke, go_sem, e55, f55]) ?_
                refine (full_any by' _).mono ?_
                rw [HP.out]
                rintro e w' ⟨rfl, f'⟩
                exact ⟨_, rfl, rfl, f'⟩
              case o6 =>
                intro A W hv hlen hJ hbase hdL hdH
                have e51 : A.eval (.tmp 51) = dkV v1 v2 v3 c l X.down := hdL 0 51 (by kernel_rfl) (by kernel_rfl) (by kernel_rfl)
                have f51 : A.tmps[51]?.getD undef = dkV v1 v2 v3 c l X.down := by simpa [Act.eval] using e51
                have e53 : A.eval (.tmp 53) = .int .i64 ak := hdL 2 53 (by kernel_rfl) (by kernel_rfl) (by kernel_rfl)
                have f53 : A.tmps[53]?.getD undef = .int .i64 ak := by simpa [Act.eval] using e53
                obtain ⟨v56, rfl⟩ := List.length_eq_one_iff.1 hlen
                obtain ⟨rfl, hf5⟩ := hJ
                have e56 : A.eval (.tmp 56) = pgV P := by have := hdH 5 56 0 (by kernel_rfl) rfl (by kernel_rfl); simpa using this.symm
                have f56 : A.tmps[56]?.getD undef = pgV P := by simpa [Act.eval] using e56
                refine heavy_call rfl (args := #[dkV v1 v2 v3 c l X.down, .int .i64 ak, pgV P]) (f := 20) (by simp [execOp, resolve, invoke, go_sem, e51, f51, e53, f53, e56, f56]) ?_
                refine (rput4_any v1 v2 v3 X.pages.length a3 c3 hv1.out hi2 X.pend c l hRX.out.hl X.down ak P hPl.out W (doc13.s3.fr0 hf5) hpm).mono ?_
                rw [hw4.out, hw2.out, hw3.out, HL.out]
                rintro e w' ⟨v3', rfl, t3, f', nw⟩
                exact ⟨_, rfl, v3', rfl, t3, hf5.thenN f', nw.wid hf5.size (Nat.le_refl _)⟩
              case o7 =>
                intro A W hv hlen hJ hbase hdL hdH
                match hv, hlen with
                | [x0, t], _ =>
                  have e57 : A.eval (.tmp 57) = t := by have := hdH 6 57 1 (by kernel_rfl) rfl (by kernel_rfl); simpa using this.symm
                  exact heavy_val rfl (v := t) (w' := W) (by simp [execOp, e57]) hJ
              case o8 =>
                intro A W hv hlen hJ hbase hdL hdH
                match hv, hlen with
                | [x0, x1, t], _ =>
                  obtain ⟨v3', rfl, h1⟩ := hJ
                  have e50 : A.eval (.tmp 50) = .tuple #[dkV v1 v2 v3' c L' Y.down, .int .i64 E] := by have := hdH 7 50 2 (by kernel_rfl) rfl (by kernel_rfl); simpa using this.symm
                  have f50 : A.tmps[50]?.getD undef = .tuple #[dkV v1 v2 v3' c L' Y.down, .int .i64 E] := by simpa [Act.eval] using e50
                  exact heavy_val rfl (v := dkV v1 v2 v3' c L' Y.down) (w' := W) (by simp [execOp, go_sem, e50, f50]) ⟨v3', rfl, rfl, h1⟩
              case o9 =>
                intro A W hv hlen hJ hbase hdL hdH
                have v50 := hdH 7 50 2 (by kernel_rfl) rfl (by kernel_rfl)
                obtain ⟨x, e50⟩ := JP.tup hJ _ v50
                have f50 : A.tmps[50]?.getD undef = .tuple #[x, .int .i64 E] := by simpa [Act.eval] using e50
                exact light_val rfl (v := .int .i64 E) (by simp [execOp, go_sem, e50, f50]) hJ rfl
              case o10 =>
                intro A W hv hlen hJ hbase hdL hdH
                have e6 : A.eval (.tmp 6) = .pointer (some ⟨g6, 0, none⟩) := hbase 6 (by kernel_rfl)
                have f6 : A.tmps[6]?.getD undef = .pointer (some ⟨g6, 0, none⟩) := by simpa [Act.eval] using e6
                match hv, hlen with
                | [x0, x1, t, x], _ =>
                  obtain ⟨v3', rfl, rfl, h1, h2, h3⟩ := hJ
                  have e58 : A.eval (.tmp 58) = dkV v1 v2 v3' c L' Y.down := by have := hdH 8 58 3 (by kernel_rfl) rfl (by kernel_rfl); simpa using this.symm
                  refine heavy_wp rfl ?_
                  refine wp_stD (.tmp 6) (.tmp 58) rfl g6 e6 v1 v2 v3' c L' Y.down e58 _ (doc13.bx.fr0 h2) rfl hi1 hi2 (SlR.isSl h1) ?_
                  intro w' b' f'
                  exact ⟨undef, rfl, v3', W, rfl, h1, h2, h3, b', f'⟩
              case o11 =>
                intro A W hv hlen hJ hbase hdL hdH
                have e59 : A.eval (.tmp 59) = .int .i64 E := hdL 9 59 (by kernel_rfl) (by kernel_rfl) (by kernel_rfl)
                have f59 : A.tmps[59]?.getD undef = .int .i64 E := by simpa [Act.eval] using e59
                exact light_val rfl (v := .int .i64 E) (by simp [execOp, e59]) hJ rfl
              case oe =>
                intro vs2 W2 hv2 hlen2 hJ2 hL2 hH2
                match hv2, hlen2 with
                | [x0, x1, x2, x3, x4], _ =>
                  have hx10 : vs2 11 = .int .i64 E := hL2 11 (by rfl) (by rfl)
                  obtain ⟨v3', W1, _, t3, fW1, nw3, bW, fW⟩ := hJ2
                  simp only [layL, Nat.reduceAdd, Act.put, List.setIfInBounds_toArray, List.set_cons_zero, List.set_cons_succ]
                  clear hL2 hH2
                  generalize vs2 0 = y200 at *
                  generalize vs2 1 = y201 at *
                  generalize vs2 2 = y202 at *
                  generalize vs2 3 = y203 at *
                  generalize vs2 4 = y204 at *
                  generalize vs2 5 = y205 at *
                  generalize vs2 6 = y206 at *
                  generalize vs2 7 = y207 at *
                  generalize vs2 8 = y208 at *
                  generalize vs2 9 = y209 at *
                  generalize vs2 10 = y210 at *
                  generalize vs2 11 = y211 at *
                  subst hx10
                  have z7 := fW1.size
                  have z8 := fW.size
                  have hl6 := doc13.bx.lt
                  have sep7 := sep13.doc z7 (nwB.refl _ _ _) (nwB.refl _ _ _) nw3
                  have hsep := sep7.size z8
                  have hDz := (hd13.fr0 fW1).fr fW sep7.ng
                  have bxz := (bx13.fr0 fW1).fr fW hg13
                  have Gz := (G13.thenN fW1).thenT fW (fun q hq e => (by unfold onB1 at e; omega))
                  obtain ⟨cz1, _⟩ := bxz.cell 1 _ rfl
                  have hdoc : DocD W2 g6 v1 v2 v3' c L' Y.down Y.pages bad Y.pend := by
                    rw [hw1.out]
                    exact DocD.put fW bW (doc13.s1.fr0 fW1) (doc13.s2.fr0 fW1) t3 ((nwB.refl _ _ _).n doc13.n1 hl6 z7) ((nwB.refl _ _ _).n doc13.n2 hl6 z7) (nw3.n doc13.n3 hl6 z7)
                  go_wp2_with (first
                    | (go_at_call 10; go_must (refine (read_any gd ak hakr _ hDz hpY).mono ?_; rw [Hrd.out]; rintro e y1 ⟨rfl, fy1⟩; have zy1 := fy1.size; have hrl : Hid (p.length = 256) := (by have := readP_len hDz ak; rw [Hrd.out] at this; exact this)))
                    | (with_reducible refine at_wpP ?_; have qy4' := qy4; refine wpList_allocP rfl rfl ?_; intro gb y5 hgb by5 fy5 sy5; have ly5 := by5.lt; have qy5 := qy4.fr0 fy5)
                    | (with_reducible refine at_wpP ?_; refine wpList_allocP rfl rfl ?_; intro ga y2 hga by2 fy2 sy2; have ly2 := by2.lt)
                    | (with_reducible refine at_wpP ?_; refine at_st 25 _ _ rfl ?_; have qy5' := qy5; go_must (refine wpList_storeP rfl _ _ rfl gb rfl p rfl _ by5 hrl.out zeroP_len ?_; intro y6 by6 fy6; have qy6 := qy5.ne fy6 (by omega); have FY6 := ((FY3.thenN fy4).thenN fy5).thenT (S := noB) fy6 (fun q hq e => (by unfold onB1 at e; omega))))
                    | (with_reducible refine at_wpP ?_; refine at_st 25 _ _ rfl ?_; go_must (refine wpList_storeP rfl _ _ rfl ga rfl p rfl _ by2 hrl.out zeroP_len ?_; intro y3 qy3 fy3; have FY3 := (fy1.thenN fy2).thenT (S := noB) fy3 (fun q hq e => (by unfold onB1 at e; omega)); have zy3 := FY3.size; have bxy := bxz.fr0 FY3; obtain ⟨cy1, _⟩ := bxy.cell 1 _ rfl; have docy := hdoc.fr0 FY3))
                    | (with_reducible refine at_wpP ?_; refine wpList_ldD rfl _ rfl g6 rfl _ _ _ _ _ _ docy.bx ?_)
                    | (go_at_call 26; go_must (refine (rread_any _ _ _ Y.pages bad Y.pend _ _ _ ak _ docy.s1 docy.s2 docy.s3 hRY.out.len hpgY hpY).mono ?_; rw [hdr.out]; rintro e y4 ⟨rfl, fy4⟩; have zy4 := fy4.size; have qy4 := qy3.fr0 fy4; have ly4 := qy4.lt)))
                  have FY := FY6.drew
                  have doc30 := hdoc.fr0 FY
                  have hD30 := hDz.fr0 FY
                  have zY := FY.size
                  have qa : BxV y6.drew ga 25 (pgv p) := qy6
                  have qb : BxV y6.drew gb 25 (pgv p) := by6
                  obtain ⟨d5, _⟩ := doc30.bx.cell 5 _ rfl
                  obtain ⟨d2, _⟩ := doc30.bx.cell 2 _ rfl
                  refine wp_region_chain_lay (by kernel_rfl) [15, 20, 22, 25] [none, none, none, none, none, none, none, none, none, none, none, none, none, none, none, some 0, none, none, none, none, some 1, none, some 2, none, none, some 3, none, none]
                    [fun v => v = .int .i64 E, fun v => v = .int .i64 E, fun v => v = .bool false, fun v => v = .bool false, fun v => v = pgV p, fun v => v = pgV p, fun v => v = .bool false, fun v => v = .bool false, fun v => v = .bool false, fun v => v = .int .i64 e2, fun v => v = .int .i64 e2, fun v => v = .bool false, fun v => v = .bool false, fun v => v = .bool false, fun v => v = ptr gd, fun _ => True, fun v => v = .pointer (some ⟨g6, 5, none⟩), fun v => v = .bool Y.down, fun v => v = .bool false, fun v => v = .bool false, fun _ => True, fun v => v = ptr gd, fun _ => True, fun v => v = .pointer (some ⟨g6, 2, none⟩), fun v => v = v3', fun _ => True, fun v => v = .bool false, fun v => v = .bool false]
                    (JQ y6.drew Y.down Y.pend) (rfl) (by kernel_rfl) (by kernel_rfl) (by decide) ⟨?o0, ?o1, ?o2, ?o3, ?o4, ?o5, ?o6, ?o7, ?o8, ?o9, ?o10, ?o11, ?o12, ?o13, ?o14, ?o15, ?o16, ?o17, ?o18, ?o19, ?o20, ?o21, ?o22, ?o23, ?o24, ?o25, ?o26, ?o27, trivial⟩ ?oe
                  case o0 =>
                    intro A W hv hlen hJ hbase hdL hdH
                    have e9 : A.eval (.tmp 9) = .int .i64 E := hbase 9 (by kernel_rfl)
                    have f9 : A.tmps[9]?.getD undef = .int .i64 E := by simpa [Act.eval] using e9
                    exact light_val rfl (v := .int .i64 E) (by simp [execOp, e9, f9]) hJ rfl
                  case o1 =>
                    intro A W hv hlen hJ hbase hdL hdH
                    have e10 : A.eval (.tmp 10) = .int .i64 E := hbase 10 (by kernel_rfl)
                    have f10 : A.tmps[10]?.getD undef = .int .i64 E := by simpa [Act.eval] using e10
                    exact light_val rfl (v := .int .i64 E) (by simp [execOp, e10, f10]) hJ rfl
                  case o2 =>
                    intro A W hv hlen hJ hbase hdL hdH
                    have e123 : A.eval (.tmp 123) = .int .i64 E := hdL 0 123 (by kernel_rfl) (by kernel_rfl) (by kernel_rfl)
                    have f123 : A.tmps[123]?.getD undef = .int .i64 E := by simpa [Act.eval] using e123
                    have e124 : A.eval (.tmp 124) = .int .i64 E := hdL 1 124 (by kernel_rfl) (by kernel_rfl) (by kernel_rfl)
                    have f124 : A.tmps[124]?.getD undef = .int .i64 E := by simpa [Act.eval] using e124
                    exact light_val rfl (v := .bool false) (by simp [execOp, go_sem, e123, f123, e124, f124]) hJ rfl
                  case o3 =>
                    intro A W hv hlen hJ hbase hdL hdH
                    have e125 : A.eval (.tmp 125) = .bool false := hdL 2 125 (by kernel_rfl) (by kernel_rfl) (by kernel_rfl)
                    have f125 : A.tmps[125]?.getD undef = .bool false := by simpa [Act.eval] using e125
                    exact light_val rfl (v := .bool false) (by simp [execOp, e125, f125]) hJ rfl
                  case o4 =>
                    intro A W hv hlen hJ hbase hdL hdH
                    have e11 : A.eval (.tmp 11) = .pointer (some ⟨ga, 0, none⟩) := hbase 11 (by kernel_rfl)
                    have f11 : A.tmps[11]?.getD undef = .pointer (some ⟨ga, 0, none⟩) := by simpa [Act.eval] using e11
                    have eg : A.eval (.tmp 126) = .bool false := hdL 3 126 (by kernel_rfl) (by kernel_rfl) (by kernel_rfl)
                    have hB := qa.fr0 (JQ.fr hJ)
                    have hr := run_loadP W ga 0 p (hB.range 0 (pgv p) (by show (pgv p).take (pgv p).length = pgv p; exact List.take_length)) hrl.out
                    exact light_val (wanted_of rfl (by kernel_rfl) eg) (v := pgV p) (by simp [execOp, e11, hr, Result.andThen]) hJ rfl
                  case o5 =>
                    intro A W hv hlen hJ hbase hdL hdH
                    have e13 : A.eval (.tmp 13) = .pointer (some ⟨gb, 0, none⟩) := hbase 13 (by kernel_rfl)
                    have f13 : A.tmps[13]?.getD undef = .pointer (some ⟨gb, 0, none⟩) := by simpa [Act.eval] using e13
                    have eg : A.eval (.tmp 126) = .bool false := hdL 3 126 (by kernel_rfl) (by kernel_rfl) (by kernel_rfl)
                    have hB := qb.fr0 (JQ.fr hJ)
                    have hr := run_loadP W gb 0 p (hB.range 0 (pgv p) (by show (pgv p).take (pgv p).length = pgv p; exact List.take_length)) hrl.out
                    exact light_val (wanted_of rfl (by kernel_rfl) eg) (v := pgV p) (by simp [execOp, e13, hr, Result.andThen]) hJ rfl
                  case o6 =>
                    intro A W hv hlen hJ hbase hdL hdH
                    have e127 : A.eval (.tmp 127) = pgV p := hdL 4 127 (by kernel_rfl) (by kernel_rfl) (by kernel_rfl)
                    have f127 : A.tmps[127]?.getD undef = pgV p := by simpa [Act.eval] using e127
                    have e128 : A.eval (.tmp 128) = pgV p := hdL 5 128 (by kernel_rfl) (by kernel_rfl) (by kernel_rfl)
                    have f128 : A.tmps[128]?.getD undef = pgV p := by simpa [Act.eval] using e128
                    have eg : A.eval (.tmp 126) = .bool false := hdL 3 126 (by kernel_rfl) (by kernel_rfl) (by kernel_rfl)
                    have hr := run_neq_page W p p hrl.out hrl.out
                    exact light_val (wanted_of rfl (by kernel_rfl) eg) (v := .bool false) (by simp [execOp, e127, e128, hr, eqg_neq, Result.andThen]) hJ rfl
                  case o7 =>
                    intro A W hv hlen hJ hbase hdL hdH
                    have e126 : A.eval (.tmp 126) = .bool false := hdL 3 126 (by kernel_rfl) (by kernel_rfl) (by kernel_rfl)
                    have f126 : A.tmps[126]?.getD undef = .bool false := by simpa [Act.eval] using e126
                    have e129 : A.eval (.tmp 129) = .bool false := hdL 6 129 (by kernel_rfl) (by kernel_rfl) (by kernel_rfl)
                    have f129 : A.tmps[129]?.getD undef = .bool false := by simpa [Act.eval] using e129
                    exact light_val rfl (v := .bool false) (by simp [execOp, go_sem, e126, f126, e129, f129]) hJ rfl
                  case o8 =>
                    intro A W hv hlen hJ hbase hdL hdH
                    have e130 : A.eval (.tmp 130) = .bool false := hdL 7 130 (by kernel_rfl) (by kernel_rfl) (by kernel_rfl)
                    have f130 : A.tmps[130]?.getD undef = .bool false := by simpa [Act.eval] using e130
                    exact light_val rfl (v := .bool false) (by simp [execOp, e130, f130]) hJ rfl
                  case o9 =>
                    intro A W hv hlen hJ hbase hdL hdH
                    have e12 : A.eval (.tmp 12) = .int .i64 e2 := hbase 12 (by kernel_rfl)
                    have f12 : A.tmps[12]?.getD undef = .int .i64 e2 := by simpa [Act.eval] using e12
                    have eg : A.eval (.tmp 131) = .bool false := hdL 8 131 (by kernel_rfl) (by kernel_rfl) (by kernel_rfl)
                    exact light_val (wanted_of rfl (by kernel_rfl) eg) (v := .int .i64 e2) (by simp [execOp, e12, f12]) hJ rfl
                  case o10 =>
                    intro A W hv hlen hJ hbase hdL hdH
                    have e14 : A.eval (.tmp 14) = .int .i64 e2 := hbase 14 (by kernel_rfl)
                    have f14 : A.tmps[14]?.getD undef = .int .i64 e2 := by simpa [Act.eval] using e14
                    have eg : A.eval (.tmp 131) = .bool false := hdL 8 131 (by kernel_rfl) (by kernel_rfl) (by kernel_rfl)
                    exact light_val (wanted_of rfl (by kernel_rfl) eg) (v := .int .i64 e2) (by simp [execOp, e14, f14]) hJ rfl
                  case o11 =>
                    intro A W hv hlen hJ hbase hdL hdH
                    have e132 : A.eval (.tmp 132) = .int .i64 e2 := hdL 9 132 (by kernel_rfl) (by kernel_rfl) (by kernel_rfl)
                    have f132 : A.tmps[132]?.getD undef = .int .i64 e2 := by simpa [Act.eval] using e132
                    have e133 : A.eval (.tmp 133) = .int .i64 e2 := hdL 10 133 (by kernel_rfl) (by kernel_rfl) (by kernel_rfl)
                    have f133 : A.tmps[133]?.getD undef = .int .i64 e2 := by simpa [Act.eval] using e133
                    have eg : A.eval (.tmp 131) = .bool false := hdL 8 131 (by kernel_rfl) (by kernel_rfl) (by kernel_rfl)
                    exact light_val (wanted_of rfl (by kernel_rfl) eg) (v := .bool false) (by simp [execOp, go_sem, e132, f132, e133, f133]) hJ rfl
                  case o12 =>
                    intro A W hv hlen hJ hbase hdL hdH
                    have e131 : A.eval (.tmp 131) = .bool false := hdL 8 131 (by kernel_rfl) (by kernel_rfl) (by kernel_rfl)
                    have f131 : A.tmps[131]?.getD undef = .bool false := by simpa [Act.eval] using e131
                    have e134 : A.eval (.tmp 134) = .bool false := hdL 11 134 (by kernel_rfl) (by kernel_rfl) (by kernel_rfl)
                    have f134 : A.tmps[134]?.getD undef = .bool false := by simpa [Act.eval] using e134
                    exact light_val rfl (v := .bool false) (by simp [execOp, go_sem, e131, f131, e134, f134]) hJ rfl
                  case o13 =>
                    intro A W hv hlen hJ hbase hdL hdH
                    have e135 : A.eval (.tmp 135) = .bool false := hdL 12 135 (by kernel_rfl) (by kernel_rfl) (by kernel_rfl)
                    have f135 : A.tmps[135]?.getD undef = .bool false := by simpa [Act.eval] using e135
                    exact light_val rfl (v := .bool false) (by simp [execOp, e135, f135]) hJ rfl
                  case o14 =>
                    intro A W hv hlen hJ hbase hdL hdH
                    have e5 : A.eval (.tmp 5) = ptr gd := hbase 5 (by kernel_rfl)
                    have f5 : A.tmps[5]?.getD undef = ptr gd := by simpa [Act.eval] using e5
                    have eg : A.eval (.tmp 136) = .bool false := hdL 13 136 (by kernel_rfl) (by kernel_rfl) (by kernel_rfl)
                    exact light_val (wanted_of rfl (by kernel_rfl) eg) (v := ptr gd) (by simp [execOp, e5, f5]) hJ rfl
                  case o15 =>
                    intro A W hv hlen hJ hbase hdL hdH
                    have e137 : A.eval (.tmp 137) = ptr gd := hdL 14 137 (by kernel_rfl) (by kernel_rfl) (by kernel_rfl)
                    have f137 : A.tmps[137]?.getD undef = ptr gd := by simpa [Act.eval] using e137
                    have eg : A.eval (.tmp 136) = .bool false := hdL 13 136 (by kernel_rfl) (by kernel_rfl) (by kernel_rfl)
                    obtain rfl : hv = [] := List.eq_nil_of_length_eq_zero hlen
                    cases hJ
                    refine heavy_call (wanted_of rfl (by kernel_rfl) eg) (args := #[ptr gd]) (f := 15) (by simp [execOp, resolve, invoke, go_sem, e137, f137]) ?_
                    refine (down_any gd _ hD30).mono ?_
                    rintro e w' ⟨rfl, rfl⟩
                    exact ⟨_, rfl, rfl, rfl⟩
                  case o16 =>
                    intro A W hv hlen hJ hbase hdL hdH
                    have e6 : A.eval (.tmp 6) = .pointer (some ⟨g6, 0, none⟩) := hbase 6 (by kernel_rfl)
                    have f6 : A.tmps[6]?.getD undef = .pointer (some ⟨g6, 0, none⟩) := by simpa [Act.eval] using e6
                    have eg : A.eval (.tmp 136) = .bool false := hdL 13 136 (by kernel_rfl) (by kernel_rfl) (by kernel_rfl)
                    exact light_val (wanted_of rfl (by kernel_rfl) eg) (v := .pointer (some ⟨g6, 5, none⟩)) (by simp [execOp, go_sem, e6, f6]) hJ rfl
                  case o17 =>
                    intro A W hv hlen hJ hbase hdL hdH
                    have e139 : A.eval (.tmp 139) = .pointer (some ⟨g6, 5, none⟩) := hdL 16 139 (by kernel_rfl) (by kernel_rfl) (by kernel_rfl)
                    have f139 : A.tmps[139]?.getD undef = .pointer (some ⟨g6, 5, none⟩) := by simpa [Act.eval] using e139
                    have eg : A.eval (.tmp 136) = .bool false := hdL 13 136 (by kernel_rfl) (by kernel_rfl) (by kernel_rfl)
                    have hcW := (JQ.fr hJ).cell d5 (fun q => q)
                    exact light_val (wanted_of rfl (by kernel_rfl) eg) (v := .bool Y.down) (by simp [execOp, go_sem, e139, f139, hcW]) hJ rfl
                  case o18 =>
                    intro A W hv hlen hJ hbase hdL hdH
                    have e140 : A.eval (.tmp 140) = .bool Y.down := hdL 17 140 (by kernel_rfl) (by kernel_rfl) (by kernel_rfl)
                    have f140 : A.tmps[140]?.getD undef = .bool Y.down := by simpa [Act.eval] using e140
                    have eg : A.eval (.tmp 136) = .bool false := hdL 13 136 (by kernel_rfl) (by kernel_rfl) (by kernel_rfl)
                    have v138 := hdH 15 138 0 (by kernel_rfl) rfl (by kernel_rfl)
                    have e138 : A.eval (.tmp 138) = .bool Y.down := JQ.fst hJ _ v138
                    have f138 : A.tmps[138]?.getD undef = .bool Y.down := by simpa [Act.eval] using e138
                    exact light_val (wanted_of rfl (by kernel_rfl) eg) (v := .bool false) (by simp [execOp, go_sem, e138, f138, e140, f140]) hJ rfl
                  case o19 =>
                    intro A W hv hlen hJ hbase hdL hdH
                    have e136 : A.eval (.tmp 136) = .bool false := hdL 13 136 (by kernel_rfl) (by kernel_rfl) (by kernel_rfl)
                    have f136 : A.tmps[136]?.getD undef = .bool false := by simpa [Act.eval] using e136
                    have e141 : A.eval (.tmp 141) = .bool false := hdL 18 141 (by kernel_rfl) (by kernel_rfl) (by kernel_rfl)
                    have f141 : A.tmps[141]?.getD undef = .bool false := by simpa [Act.eval] using e141
                    exact light_val rfl (v := .bool false) (by simp [execOp, go_sem, e136, f136, e141, f141]) hJ rfl
                  case o20 =>
                    intro A W hv hlen hJ hbase hdL hdH
                    have e142 : A.eval (.tmp 142) = .bool false := hdL 19 142 (by kernel_rfl) (by kernel_rfl) (by kernel_rfl)
                    have f142 : A.tmps[142]?.getD undef = .bool false := by simpa [Act.eval] using e142
                    obtain ⟨v138, rfl⟩ := List.length_eq_one_iff.1 hlen
                    obtain ⟨rfl, rfl⟩ := hJ
                    exact heavy_val rfl (v := .bool false) (w' := y6.drew) (by simp [execOp, e142]) ⟨rfl, rfl, rfl⟩
                  case o21 =>
                    intro A W hv hlen hJ hbase hdL hdH
                    have e5 : A.eval (.tmp 5) = ptr gd := hbase 5 (by kernel_rfl)
                    have f5 : A.tmps[5]?.getD undef = ptr gd := by simpa [Act.eval] using e5
                    have v143 := hdH 20 143 1 (by kernel_rfl) rfl (by kernel_rfl)
                    have eg : A.eval (.tmp 143) = .bool false := JQ.snd hJ _ v143
                    exact light_val (wanted_of rfl (by kernel_rfl) eg) (v := ptr gd) (by simp [execOp, e5, f5]) hJ rfl
                  case o22 =>
                    intro A W hv hlen hJ hbase hdL hdH
                    have e144 : A.eval (.tmp 144) = ptr gd := hdL 21 144 (by kernel_rfl) (by kernel_rfl) (by kernel_rfl)
                    have f144 : A.tmps[144]?.getD undef = ptr gd := by simpa [Act.eval] using e144
                    have v143 := hdH 20 143 1 (by kernel_rfl) rfl (by kernel_rfl)
                    have eg : A.eval (.tmp 143) = .bool false := JQ.snd hJ _ v143
                    match hv, hlen with
                    | [v138, v143], _ =>
                     obtain ⟨rfl, rfl, rfl⟩ := hJ
                     refine heavy_call (wanted_of rfl (by kernel_rfl) eg) (args := #[ptr gd]) (f := 28) (by simp [execOp, resolve, invoke, go_sem, e144, f144]) ?_
                     refine (pending_any gd _ hD30 hpY).mono ?_
                     rintro e w' ⟨v, rfl, o', f'⟩
                     exact ⟨_, rfl, rfl, rfl, o'.sl, f'⟩
                  case o23 =>
                    intro A W hv hlen hJ hbase hdL hdH
                    have e6 : A.eval (.tmp 6) = .pointer (some ⟨g6, 0, none⟩) := hbase 6 (by kernel_rfl)
                    have f6 : A.tmps[6]?.getD undef = .pointer (some ⟨g6, 0, none⟩) := by simpa [Act.eval] using e6
                    have v143 := hdH 20 143 1 (by kernel_rfl) rfl (by kernel_rfl)
                    have eg : A.eval (.tmp 143) = .bool false := JQ.snd hJ _ v143
                    exact light_val (wanted_of rfl (by kernel_rfl) eg) (v := .pointer (some ⟨g6, 2, none⟩)) (by simp [execOp, go_sem, e6, f6]) hJ rfl
                  case o24 =>
                    intro A W hv hlen hJ hbase hdL hdH
                    have e146 : A.eval (.tmp 146) = .pointer (some ⟨g6, 2, none⟩) := hdL 23 146 (by kernel_rfl) (by kernel_rfl) (by kernel_rfl)
                    have f146 : A.tmps[146]?.getD undef = .pointer (some ⟨g6, 2, none⟩) := by simpa [Act.eval] using e146
                    have v143 := hdH 20 143 1 (by kernel_rfl) rfl (by kernel_rfl)
                    have eg : A.eval (.tmp 143) = .bool false := JQ.snd hJ _ v143
                    have hcW := (JQ.fr hJ).cell d2 (fun q => q)
                    have hr := run_ld1 (P := Try.prog) (w := W) 37 79 Try.underlying37 g6 2 _ hcW
                    exact light_val (wanted_of rfl (by kernel_rfl) eg) (v := v3') (by simp [execOp, e146, hr, Result.andThen]) hJ rfl
                  case o25 =>
                    intro A W hv hlen hJ hbase hdL hdH
                    have e147 : A.eval (.tmp 147) = v3' := hdL 24 147 (by kernel_rfl) (by kernel_rfl) (by kernel_rfl)
                    have f147 : A.tmps[147]?.getD undef = v3' := by simpa [Act.eval] using e147
                    have v143 := hdH 20 143 1 (by kernel_rfl) rfl (by kernel_rfl)
                    have eg : A.eval (.tmp 143) = .bool false := JQ.snd hJ _ v143
                    match hv, hlen with
                    | [x0, x1, u], _ =>
                      obtain ⟨rfl, rfl, hu, hfu⟩ := hJ
                      have e145 : A.eval (.tmp 145) = u := by have := hdH 22 145 2 (by kernel_rfl) rfl (by kernel_rfl); simpa using this.symm
                      have f145 : A.tmps[145]?.getD undef = u := by simpa [Act.eval] using e145
                      refine heavy_call (wanted_of rfl (by kernel_rfl) eg) (args := #[u, v3']) (f := 27) (by simp [execOp, resolve, invoke, go_sem, e145, f145, e147, f147]) ?_
                      refine (same_any u _ Y.pend W hu (doc30.s3.fr0 hfu) hpY).mono ?_
                      rintro e w' ⟨rfl, f'⟩
                      exact ⟨_, rfl, rfl, rfl, rfl, hfu.thenN f'⟩
                  case o26 =>
                    intro A W hv hlen hJ hbase hdL hdH
                    have v143 := hdH 20 143 1 (by kernel_rfl) rfl (by kernel_rfl)
                    have eg : A.eval (.tmp 143) = .bool false := JQ.snd hJ _ v143
                    have v148 := hdH 25 148 3 (by kernel_rfl) rfl (by kernel_rfl)
                    have e148 : A.eval (.tmp 148) = .bool true := JQ.frt hJ _ v148
                    have f148 : A.tmps[148]?.getD undef = .bool true := by simpa [Act.eval] using e148
                    exact light_val (wanted_of rfl (by kernel_rfl) eg) (v := .bool false) (by simp [execOp, go_sem, e148, f148]) hJ rfl
                  case o27 =>
                    intro A W hv hlen hJ hbase hdL hdH
                    have e149 : A.eval (.tmp 149) = .bool false := hdL 26 149 (by kernel_rfl) (by kernel_rfl) (by kernel_rfl)
                    have f149 : A.tmps[149]?.getD undef = .bool false := by simpa [Act.eval] using e149
                    have v143 := hdH 20 143 1 (by kernel_rfl) rfl (by kernel_rfl)
                    have e143 : A.eval (.tmp 143) = .bool false := JQ.snd hJ _ v143
                    have f143 : A.tmps[143]?.getD undef = .bool false := by simpa [Act.eval] using e143
                    exact light_val rfl (v := .bool false) (by simp [execOp, go_sem, e143, f143, e149, f149]) hJ rfl
                  case oe =>
                    intro vs' W' hv hlen hJ hL hH
                    have hx150 : vs' 27 = .bool false := hL 27 (by rfl) (by rfl)
                    have hfJ := JQ.fr hJ
                    clear hJ
                    simp only [layL, Nat.reduceAdd, Act.put, List.setIfInBounds_toArray, List.set_cons_zero, List.set_cons_succ]
                    clear hL hH
                    generalize vs' 0 = y500 at *
                    generalize vs' 1 = y501 at *
                    generalize vs' 2 = y502 at *
                    generalize vs' 3 = y503 at *
                    generalize vs' 4 = y504 at *
                    generalize vs' 5 = y505 at *
                    generalize vs' 6 = y506 at *
                    generalize vs' 7 = y507 at *
                    generalize vs' 8 = y508 at *
                    generalize vs' 9 = y509 at *
                    generalize vs' 10 = y510 at *
                    generalize vs' 11 = y511 at *
                    generalize vs' 12 = y512 at *
                    generalize vs' 13 = y513 at *
                    generalize vs' 14 = y514 at *
                    generalize vs' 15 = y515 at *
                    generalize vs' 16 = y516 at *
                    generalize vs' 17 = y517 at *
                    generalize vs' 18 = y518 at *
                    generalize vs' 19 = y519 at *
                    generalize vs' 20 = y520 at *
                    generalize vs' 21 = y521 at *
                    generalize vs' 22 = y522 at *
                    generalize vs' 23 = y523 at *
                    generalize vs' 24 = y524 at *
                    generalize vs' 25 = y525 at *
                    generalize vs' 26 = y526 at *
                    generalize vs' 27 = y527 at *
                    subst hx150
                    go_wp2
                    go_roundw
                    case rel => exact ⟨m + 1, Y, F', v1, v2, v3', c, L', bad, by omega, by go_num, hRY, hpYm, hD30.fr0 hfJ, doc30.fr0 hfJ, (hsep.size zY).size hfJ.size, (Gz.thenN FY).thenN hfJ⟩
                    case measure => simp [intOf]; omega
        · have hk0b : (kd == 0) = false := by simpa using hk0
          by_cases hk1 : kd = 1
          · subst hk1
            obtain ⟨E, HE⟩ : ∃ E, Hid (X.actE = E) := ⟨_, rfl⟩
            obtain ⟨Y, HY⟩ : ∃ Y, Hid (X.sync = Y) := ⟨_, rfl⟩
            obtain ⟨L', HL⟩ : ∃ l', Hid ((actR c l X.down).1 = l') := ⟨_, rfl⟩
            obtain ⟨hs1, hs2, hs3, hs4, hs5⟩ := hRX.out.sync hpl256.out
            rw [HY.out] at hs1 hs3 hs4 hs5
            rw [HE.out] at hs2
            rw [HL.out] at hs5
            replace hs1 : Hid _ := hs1
            replace hs2 : Hid _ := hs2
            replace hs3 : Hid _ := hs3
            replace hs4 : Hid _ := hs4
            have hRY : Hid (RXD Y c L' bad) := hs5
            have hpYm : Hid (Y.pend.length ≤ m + 1) := by show _ ≤ _; rw [← hs4.out]; have := hpl.out; split <;> (try simp only [List.length_nil]) <;> omega
            have hpY : Y.pend.length ≤ 100000 := by have := hpYm.out; omega
            have hpgY : Y.pages.length ≤ 100000 := by have := hRY.out.len; have := hRX.out.len; omega
            obtain ⟨p, e2, Hrd⟩ : ∃ p e2, Hid (readP Y ak = (p, e2)) := ⟨_, _, rfl⟩
            have hdr : Hid (readR Y.pages bad Y.pend ak = (p, e2)) := by show _ = _; rw [hRY.out.read, Hrd.out]
            go_wp2_with (first
              | (refine at_idx 34 _ _ rfl ?_; go_must (refine wpList_idxR rfl 34 _ _ rfl 43 Try.underlying34 4 act_size _ _ _ rfl (hA.fr0 hf) (by decide) _ _ m rfl rfl hlt ?_; rw [Hx.out]; intro ba oa hba hca))
              | (with_reducible refine at_wpP ?_; refine at_ld 43 _ rfl ?_; go_must (refine wpList_load_mid rfl 43 _ rfl ba oa rfl (encA ⟨1, ak, by', kv, kp⟩) _ (range_of fun j v hj => hca j v hj) under_act rfl (act_sizeE _) ?_))
              | (with_reducible refine at_wpP ?_; refine wpList_allocV rfl 43 rfl _ act_zero ?_; intro gx w4 hgx b4 f4 s4; have l4 := b4.lt)
              | (with_reducible refine at_wpP ?_; refine at_st 43 _ _ rfl ?_; go_must (refine wpList_storeV rfl 43 _ _ rfl gx 0 rfl (encA ⟨1, ak, by', kv, kp⟩) rfl _ _ b4 (act_sizeE _) (encA_le _ _) hx1 ?_; intro w5 b5 f5; rw [putAt_all _ _ (encA_eq _ _)] at b5; have F45 : Fr noB wr w5 := (f4.thenT f5 (fun q hq e => (by unfold onB1 at e; omega))); have z45 := F45.size; have hD5 := hD.fr0 F45; have doc5 := hdc.fr0 F45; have sep5 := hsp.size z45; have G5 := hf.thenN F45; obtain ⟨q0, _⟩ := b5.cell 0 _ rfl; obtain ⟨q1, _⟩ := b5.cell 1 _ rfl; obtain ⟨q2, _⟩ := b5.cell 2 _ rfl; obtain ⟨q3, _⟩ := b5.cell 3 _ rfl; have hngx : ¬ F gx := (fun q => (by have := (hsp _ q).2.1; omega))))
              | (go_at_call 14; go_must (refine (sync_any gd _ hD5 hpm).mono ?_; rw [HE.out, HY.out]; rintro e w6 ⟨rfl, d6, f6⟩; have z6 := f6.size; have doc6 := doc5.prog sep5 f6; have sep6 := sep5.size z6; have bx6 := b5.fr f6 hngx; have G6 := G5.thenT f6 (fun q hq hq' => (by have := (hsp q hq').1; omega)); have hl6 := doc6.bx.lt; obtain ⟨c60, _⟩ := bx6.cell 0 _ rfl; obtain ⟨c61, _⟩ := bx6.cell 1 _ rfl; obtain ⟨c63, _⟩ := bx6.cell 3 _ rfl))
              | (with_reducible refine at_wpP ?_; refine wpList_ldD rfl _ rfl g6 rfl _ _ _ _ _ _ doc6.bx ?_)
              | (go_at_call 21; go_must (refine (rsync_any v1 v2 v3 hi2 X.pages X.pend c l hRX.out.hl X.down _ doc6.s1 doc6.s3 hin.out hpg hpm).mono ?_; rw [hs3.out, hs4.out, hs1.out, hs2.out, HL.out]; rintro e w7 ⟨v1', v3', rfl, t1, t3, f7, nw1, nw3⟩; have z7 := f7.size; have hi1' := SlR.isSl t1; have hi3' := SlR.isSl t3))
              | (with_reducible refine at_wpP ?_; refine at_st 39 _ _ rfl ?_; go_must (refine wpList_stD rfl _ _ rfl g6 rfl _ _ _ _ _ _ rfl _ (doc6.bx.fr0 f7) rfl hi1' hi2 hi3' ?_; intro w8 b8 f8; have z8 := f8.size; have sep7 := sep6.doc z7 nw1 (nwB.refl _ _ _) nw3; have hsep := sep7.size z8; have hDz := (d6.fr0 f7).fr f8 sep7.ng; have bxz := (bx6.fr0 f7).fr f8 (fun e => (by unfold onB1 at e; omega)); have Gz := (G6.thenN f7).thenT f8 (fun q hq e => (by unfold onB1 at e; omega)); obtain ⟨cz1, _⟩ := bxz.cell 1 _ rfl; have hdoc : DocD w8 g6 v1' v2 v3' c L' Y.down Y.pages bad Y.pend := DocD.put f8 b8 t1 (doc6.s2.fr0 f7) t3 (nw1.n doc6.n1 hl6 z7) ((nwB.refl _ _ _).n doc6.n2 hl6 z7) (nw3.n doc6.n3 hl6 z7)))
              | (go_at_call 10; go_must (refine (read_any gd ak hakr _ hDz hpY).mono ?_; rw [Hrd.out]; rintro e y1 ⟨rfl, fy1⟩; have zy1 := fy1.size; have hrl : Hid (p.length = 256) := (by have := readP_len hDz ak; rw [Hrd.out] at this; exact this)))
              | (with_reducible refine at_wpP ?_; have qy4' := qy4; refine wpList_allocP rfl rfl ?_; intro gb y5 hgb by5 fy5 sy5; have ly5 := by5.lt; have qy5 := qy4.fr0 fy5)
              | (with_reducible refine at_wpP ?_; refine wpList_allocP rfl rfl ?_; intro ga y2 hga by2 fy2 sy2; have ly2 := by2.lt)
              | (with_reducible refine at_wpP ?_; refine at_st 25 _ _ rfl ?_; have qy5' := qy5; go_must (refine wpList_storeP rfl _ _ rfl gb rfl p rfl _ by5 hrl.out zeroP_len ?_; intro y6 by6 fy6; have qy6 := qy5.ne fy6 (by omega); have FY6 := ((FY3.thenN fy4).thenN fy5).thenT (S := noB) fy6 (fun q hq e => (by unfold onB1 at e; omega))))
              | (with_reducible refine at_wpP ?_; refine at_st 25 _ _ rfl ?_; go_must (refine wpList_storeP rfl _ _ rfl ga rfl p rfl _ by2 hrl.out zeroP_len ?_; intro y3 qy3 fy3; have FY3 := (fy1.thenN fy2).thenT (S := noB) fy3 (fun q hq e => (by unfold onB1 at e; omega)); have zy3 := FY3.size; have bxy := bxz.fr0 FY3; obtain ⟨cy1, _⟩ := bxy.cell 1 _ rfl; have docy := hdoc.fr0 FY3))
              | (with_reducible refine at_wpP ?_; refine wpList_ldD rfl _ rfl g6 rfl _ _ _ _ _ _ docy.bx ?_)
              | (go_at_call 26; go_must (refine (rread_any _ _ _ Y.pages bad Y.pend _ _ _ ak _ docy.s1 docy.s2 docy.s3 hRY.out.len hpgY hpY).mono ?_; rw [hdr.out]; rintro e y4 ⟨rfl, fy4⟩; have zy4 := fy4.size; have qy4 := qy3.fr0 fy4; have ly4 := qy4.lt)))
            have FY := FY6.drew
            have doc30 := hdoc.fr0 FY
            have hD30 := hDz.fr0 FY
            have zY := FY.size
            have qa : BxV y6.drew ga 25 (pgv p) := qy6
            have qb : BxV y6.drew gb 25 (pgv p) := by6
            obtain ⟨d5, _⟩ := doc30.bx.cell 5 _ rfl
            obtain ⟨d2, _⟩ := doc30.bx.cell 2 _ rfl
            refine wp_region_chain_lay (by kernel_rfl) [15, 20, 22, 25] [none, none, none, none, none, none, none, none, none, none, none, none, none, none, none, some 0, none, none, none, none, some 1, none, some 2, none, none, some 3, none, none]
              [fun v => v = .int .i64 E, fun v => v = .int .i64 E, fun v => v = .bool false, fun v => v = .bool false, fun v => v = pgV p, fun v => v = pgV p, fun v => v = .bool false, fun v => v = .bool false, fun v => v = .bool false, fun v => v = .int .i64 e2, fun v => v = .int .i64 e2, fun v => v = .bool false, fun v => v = .bool false, fun v => v = .bool false, fun v => v = ptr gd, fun _ => True, fun v => v = .pointer (some ⟨g6, 5, none⟩), fun v => v = .bool Y.down, fun v => v = .bool false, fun v => v = .bool false, fun _ => True, fun v => v = ptr gd, fun _ => True, fun v => v = .pointer (some ⟨g6, 2, none⟩), fun v => v = v3', fun _ => True, fun v => v = .bool false, fun v => v = .bool false]
              (JQ y6.drew Y.down Y.pend) (rfl) (by kernel_rfl) (by kernel_rfl) (by decide) ⟨?o0, ?o1, ?o2, ?o3, ?o4, ?o5, ?o6, ?o7, ?o8, ?o9, ?o10, ?o11, ?o12, ?o13, ?o14, ?o15, ?o16, ?o17, ?o18, ?o19, ?o20, ?o21, ?o22, ?o23, ?o24, ?o25, ?o26, ?o27, trivial⟩ ?oe
            case o0 =>
              intro A W hv hlen hJ hbase hdL hdH
              have e9 : A.eval (.tmp 9) = .int .i64 E := hbase 9 (by kernel_rfl)
              have f9 : A.tmps[9]?.getD undef = .int .i64 E := by simpa [Act.eval] using e9
              exact light_val rfl (v := .int .i64 E) (by simp [execOp, e9, f9]) hJ rfl
            case o1 =>
              intro A W hv hlen hJ hbase hdL hdH
              have e10 : A.eval (.tmp 10) = .int .i64 E := hbase 10 (by kernel_rfl)
              have f10 : A.tmps[10]?.getD undef = .int .i64 E := by simpa [Act.eval] using e10
              exact light_val rfl (v := .int .i64 E) (by simp [execOp, e10, f10]) hJ rfl
            case o2 =>
              intro A W hv hlen hJ hbase hdL hdH
              have e123 : A.eval (.tmp 123) = .int .i64 E := hdL 0 123 (by kernel_rfl) (by kernel_rfl) (by kernel_rfl)
              have f123 : A.tmps[123]?.getD undef = .int .i64 E := by simpa [Act.eval] using e123
              have e124 : A.eval (.tmp 124) = .int .i64 E := hdL 1 124 (by kernel_rfl) (by kernel_rfl) (by kernel_rfl)
              have f124 : A.tmps[124]?.getD undef = .int .i64 E := by simpa [Act.eval] using e124
              exact light_val rfl (v := .bool false) (by simp [execOp, go_sem, e123, f123, e124, f124]) hJ rfl
            case o3 =>
              intro A W hv hlen hJ hbase hdL hdH
              have e125 : A.eval (.tmp 125) = .bool false := hdL 2 125 (by kernel_rfl) (by kernel_rfl) (by kernel_rfl)
              have f125 : A.tmps[125]?.getD undef = .bool false := by simpa [Act.eval] using e125
              exact light_val rfl (v := .bool false) (by simp [execOp, e125, f125]) hJ rfl
            case o4 =>
              intro A W hv hlen hJ hbase hdL hdH
              have e11 : A.eval (.tmp 11) = .pointer (some ⟨ga, 0, none⟩) := hbase 11 (by kernel_rfl)
              have f11 : A.tmps[11]?.getD undef = .pointer (some ⟨ga, 0, none⟩) := by simpa [Act.eval] using e11
              have eg : A.eval (.tmp 126) = .bool false := hdL 3 126 (by kernel_rfl) (by kernel_rfl) (by kernel_rfl)
              have hB := qa.fr0 (JQ.fr hJ)
              have hr := run_loadP W ga 0 p (hB.range 0 (pgv p) (by show (pgv p).take (pgv p).length = pgv p; exact List.take_length)) hrl.out
              exact light_val (wanted_of rfl (by kernel_rfl) eg) (v := pgV p) (by simp [execOp, e11, hr, Result.andThen]) hJ rfl
            case o5 =>
              intro A W hv hlen hJ hbase hdL hdH
              have e13 : A.eval (.tmp 13) = .pointer (some ⟨gb, 0, none⟩) := hbase 13 (by kernel_rfl)
              have f13 : A.tmps[13]?.getD undef = .pointer (some ⟨gb, 0, none⟩) := by simpa [Act.eval] using e13
              have eg : A.eval (.tmp 126) = .bool false := hdL 3 126 (by kernel_rfl) (by kernel_rfl) (by kernel_rfl)
              have hB := qb.fr0 (JQ.fr hJ)
              have hr := run_loadP W gb 0 p (hB.range 0 (pgv p) (by show (pgv p).take (pgv p).length = pgv p; exact List.take_length)) hrl.out
              exact light_val (wanted_of rfl (by kernel_rfl) eg) (v := pgV p) (by simp [execOp, e13, hr, Result.andThen]) hJ rfl
            case o6 =>
              intro A W hv hlen hJ hbase hdL hdH
              have e127 : A.eval (.tmp 127) = pgV p := hdL 4 127 (by kernel_rfl) (by kernel_rfl) (by kernel_rfl)
              have f127 : A.tmps[127]?.getD undef = pgV p := by simpa [Act.eval] using e127
              have e128 : A.eval (.tmp 128) = pgV p := hdL 5 128 (by kernel_rfl) (by kernel_rfl) (by kernel_rfl)
              have f128 : A.tmps[128]?.getD undef = pgV p := by simpa [Act.eval] using e128
              have eg : A.eval (.tmp 126) = .bool false := hdL 3 126 (by kernel_rfl) (by kernel_rfl) (by kernel_rfl)
              have hr := run_neq_page W p p hrl.out hrl.out
              exact light_val (wanted_of rfl (by kernel_rfl) eg) (v := .bool false) (by simp [execOp, e127, e128, hr, eqg_neq, Result.andThen]) hJ rfl
            case o7 =>
              intro A W hv hlen hJ hbase hdL hdH
              have e126 : A.eval (.tmp 126) = .bool false := hdL 3 126 (by kernel_rfl) (by kernel_rfl) (by kernel_rfl)
              have f126 : A.tmps[126]?.getD undef = .bool false := by simpa [Act.eval] using e126
              have e129 : A.eval (.tmp 129) = .bool false := hdL 6 129 (by kernel_rfl) (by kernel_rfl) (by kernel_rfl)
              have f129 : A.tmps[129]?.getD undef = .bool false := by simpa [Act.eval] using e129
              exact light_val rfl (v := .bool false) (by simp [execOp, go_sem, e126, f126, e129, f129]) hJ rfl
            case o8 =>
              intro A W hv hlen hJ hbase hdL hdH
              have e130 : A.eval (.tmp 130) = .bool false := hdL 7 130 (by kernel_rfl) (by kernel_rfl) (by kernel_rfl)
              have f130 : A.tmps[130]?.getD undef = .bool false := by simpa [Act.eval] using e130
              exact light_val rfl (v := .bool false) (by simp [execOp, e130, f130]) hJ rfl
            case o9 =>
              intro A W hv hlen hJ hbase hdL hdH
              have e12 : A.eval (.tmp 12) = .int .i64 e2 := hbase 12 (by kernel_rfl)
              have f12 : A.tmps[12]?.getD undef = .int .i64 e2 := by simpa [Act.eval] using e12
              have eg : A.eval (.tmp 131) = .bool false := hdL 8 131 (by kernel_rfl) (by kernel_rfl) (by kernel_rfl)
              exact light_val (wanted_of rfl (by kernel_rfl) eg) (v := .int .i64 e2) (by simp [execOp, e12, f12]) hJ rfl
            case o10 =>
              intro A W hv hlen hJ hbase hdL hdH
              have e14 : A.eval (.tmp 14) = .int .i64 e2 := hbase 14 (by kernel_rfl)
              have f14 : A.tmps[14]?.getD undef = .int .i64 e2 := by simpa [Act.eval] using e14
              have eg : A.eval (.tmp 131) = .bool false := hdL 8 131 (by kernel_rfl) (by kernel_rfl) (by kernel_rfl)
              exact light_val (wanted_of rfl (by kernel_rfl) eg) (v := .int .i64 e2) (by simp [execOp, e14, f14]) hJ rfl
            case o11 =>
              intro A W hv hlen hJ hbase hdL hdH
              have e132 : A.eval (.tmp 132) = .int .i64 e2 := hdL 9 132 (by kernel_rfl) (by kernel_rfl) (by kernel_rfl)
              have f132 : A.tmps[132]?.getD undef = .int .i64 e2 := by simpa [Act.eval] using e132
              have e133 : A.eval (.tmp 133) = .int .i64 e2 := hdL 10 133 (by kernel_rfl) (by kernel_rfl) (by kernel_rfl)
              have f133 : A.tmps[133]?.getD undef = .int .i64 e2 := by simpa [Act.eval] using e133
              have eg : A.eval (.tmp 131) = .bool false := hdL 8 131 (by kernel_rfl) (by kernel_rfl) (by kernel_rfl)
              exact light_val (wanted_of rfl (by kernel_rfl) eg) (v := .bool false) (by simp [execOp, go_sem, e132, f132, e133, f133]) hJ rfl
            case o12 =>
              intro A W hv hlen hJ hbase hdL hdH
              have e131 : A.eval (.tmp 131) = .bool false := hdL 8 131 (by kernel_rfl) (by kernel_rfl) (by kernel_rfl)
              have f131 : A.tmps[131]?.getD undef = .bool false := by simpa [Act.eval] using e131
              have e134 : A.eval (.tmp 134) = .bool false := hdL 11 134 (by kernel_rfl) (by kernel_rfl) (by kernel_rfl)
              have f134 : A.tmps[134]?.getD undef = .bool false := by simpa [Act.eval] using e134
              exact light_val rfl (v := .bool false) (by simp [execOp, go_sem, e131, f131, e134, f134]) hJ rfl
            case o13 =>
              intro A W hv hlen hJ hbase hdL hdH
              have e135 : A.eval (.tmp 135) = .bool false := hdL 12 135 (by kernel_rfl) (by kernel_rfl) (by kernel_rfl)
              have f135 : A.tmps[135]?.getD undef = .bool false := by simpa [Act.eval] using e135
              exact light_val rfl (v := .bool false) (by simp [execOp, e135, f135]) hJ rfl
            case o14 =>
              intro A W hv hlen hJ hbase hdL hdH
              have e5 : A.eval (.tmp 5) = ptr gd := hbase 5 (by kernel_rfl)
              have f5 : A.tmps[5]?.getD undef = ptr gd := by simpa [Act.eval] using e5
              have eg : A.eval (.tmp 136) = .bool false := hdL 13 136 (by kernel_rfl) (by kernel_rfl) (by kernel_rfl)
              exact light_val (wanted_of rfl (by kernel_rfl) eg) (v := ptr gd) (by simp [execOp, e5, f5]) hJ rfl
            case o15 =>
              intro A W hv hlen hJ hbase hdL hdH
              have e137 : A.eval (.tmp 137) = ptr gd := hdL 14 137 (by kernel_rfl) (by kernel_rfl) (by kernel_rfl)
              have f137 : A.tmps[137]?.getD undef = ptr gd := by simpa [Act.eval] using e137
              have eg : A.eval (.tmp 136) = .bool false := hdL 13 136 (by kernel_rfl) (by kernel_rfl) (by kernel_rfl)
              obtain rfl : hv = [] := List.eq_nil_of_length_eq_zero hlen
              cases hJ
              refine heavy_call (wanted_of rfl (by kernel_rfl) eg) (args := #[ptr gd]) (f := 15) (by simp [execOp, resolve, invoke, go_sem, e137, f137]) ?_
              refine (down_any gd _ hD30).mono ?_
              rintro e w' ⟨rfl, rfl⟩
              exact ⟨_, rfl, rfl, rfl⟩
            case o16 =>
              intro A W hv hlen hJ hbase hdL hdH
              have e6 : A.eval (.tmp 6) = .pointer (some ⟨g6, 0, none⟩) := hbase 6 (by kernel_rfl)
              have f6 : A.tmps[6]?.getD undef = .pointer (some ⟨g6, 0, none⟩) := by simpa [Act.eval] using e6
              have eg : A.eval (.tmp 136) = .bool false := hdL 13 136 (by kernel_rfl) (by kernel_rfl) (by kernel_rfl)
              exact light_val (wanted_of rfl (by kernel_rfl) eg) (v := .pointer (some ⟨g6, 5, none⟩)) (by simp [execOp, go_sem, e6, f6]) hJ rfl
            case o17 =>
              intro A W hv hlen hJ hbase hdL hdH
              have e139 : A.eval (.tmp 139) = .pointer (some ⟨g6, 5, none⟩) := hdL 16 139 (by kernel_rfl) (by kernel_rfl) (by kernel_rfl)
              have f139 : A.tmps[139]?.getD undef = .pointer (some ⟨g6, 5, none⟩) := by simpa [Act.eval] using e139
              have eg : A.eval (.tmp 136) = .bool false := hdL 13 136 (by kernel_rfl) (by kernel_rfl) (by kernel_rfl)
              have hcW := (JQ.fr hJ).cell d5 (fun q => q)
              exact light_val (wanted_of rfl (by kernel_rfl) eg) (v := .bool Y.down) (by simp [execOp, go_sem, e139, f139, hcW]) hJ rfl
            case o18 =>
              intro A W hv hlen hJ hbase hdL hdH
              have e140 : A.eval (.tmp 140) = .bool Y.down := hdL 17 140 (by kernel_rfl) (by kernel_rfl) (by kernel_rfl)
              have f140 : A.tmps[140]?.getD undef = .bool Y.down := by simpa [Act.eval] using e140
              have eg : A.eval (.tmp 136) = .bool false := hdL 13 136 (by kernel_rfl) (by kernel_rfl) (by kernel_rfl)
              have v138 := hdH 15 138 0 (by kernel_rfl) rfl (by kernel_rfl)
              have e138 : A.eval (.tmp 138) = .bool Y.down := JQ.fst hJ _ v138
              have f138 : A.tmps[138]?.getD undef = .bool Y.down := by simpa [Act.eval] using e138
              exact light_val (wanted_of rfl (by kernel_rfl) eg) (v := .bool false) (by simp [execOp, go_sem, e138, f138, e140, f140]) hJ rfl
            case o19 =>
              intro A W hv hlen hJ hbase hdL hdH
              have e136 : A.eval (.tmp 136) = .bool false := hdL 13 136 (by kernel_rfl) (by kernel_rfl) (by kernel_rfl)
              have f136 : A.tmps[136]?.getD undef = .bool false := by simpa [Act.eval] using e136
              have e141 : A.eval (.tmp 141) = .bool false := hdL 18 141 (by kernel_rfl) (by kernel_rfl) (by kernel_rfl)
              have f141 : A.tmps[141]?.getD undef = .bool false := by simpa [Act.eval] using e141
              exact light_val rfl (v := .bool false) (by simp [execOp, go_sem, e136, f136, e141, f141]) hJ rfl
            case o20 =>
              intro A W hv hlen hJ hbase hdL hdH
              have e142 : A.eval (.tmp 142) = .bool false := hdL 19 142 (by kernel_rfl) (by kernel_rfl) (by kernel_rfl)
              have f142 : A.tmps[142]?.getD undef = .bool false := by simpa [Act.eval] using e142
              obtain ⟨v138, rfl⟩ := List.length_eq_one_iff.1 hlen
              obtain ⟨rfl, rfl⟩ := hJ
              exact heavy_val rfl (v := .bool false) (w' := y6.drew) (by simp [execOp, e142]) ⟨rfl, rfl, rfl⟩
            case o21 =>
              intro A W hv hlen hJ hbase hdL hdH
              have e5 : A.eval (.tmp 5) = ptr gd := hbase 5 (by kernel_rfl)
              have f5 : A.tmps[5]?.getD undef = ptr gd := by simpa [Act.eval] using e5
              have v143 := hdH 20 143 1 (by kernel_rfl) rfl (by kernel_rfl)
              have eg : A.eval (.tmp 143) = .bool false := JQ.snd hJ _ v143
              exact light_val (wanted_of rfl (by kernel_rfl) eg) (v := ptr gd) (by simp [execOp, e5, f5]) hJ rfl
            case o22 =>
              intro A W hv hlen hJ hbase hdL hdH
              have e144 : A.eval (.tmp 144) = ptr gd := hdL 21 144 (by kernel_rfl) (by kernel_rfl) (by kernel_rfl)
              have f144 : A.tmps[144]?.getD undef = ptr gd := by simpa [Act.eval] using e144
              have v143 := hdH 20 143 1 (by kernel_rfl) rfl (by kernel_rfl)
              have eg : A.eval (.tmp 143) = .bool false := JQ.snd hJ _ v143
              match hv, hlen with
              | [v138, v143], _ =>
               obtain ⟨rfl, rfl, rfl⟩ := hJ
               refine heavy_call (wanted_of rfl (by kernel_rfl) eg) (args := #[ptr gd]) (f := 28) (by simp [execOp, resolve, invoke, go_sem, e144, f144]) ?_
               refine (pending_any gd _ hD30 hpY).mono ?_
               rintro e w' ⟨v, rfl, o', f'⟩
               exact ⟨_, rfl, rfl, rfl, o'.sl, f'⟩
            case o23 =>
              intro A W hv hlen hJ hbase hdL hdH
              have e6 : A.eval (.tmp 6) = .pointer (some ⟨g6, 0, none⟩) := hbase 6 (by kernel_rfl)
              have f6 : A.tmps[6]?.getD undef = .pointer (some ⟨g6, 0, none⟩) := by simpa [Act.eval] using e6
              have v143 := hdH 20 143 1 (by kernel_rfl) rfl (by kernel_rfl)
              have eg : A.eval (.tmp 143) = .bool false := JQ.snd hJ _ v143
              exact light_val (wanted_of rfl (by kernel_rfl) eg) (v := .pointer (some ⟨g6, 2, none⟩)) (by simp [execOp, go_sem, e6, f6]) hJ rfl
            case o24 =>
              intro A W hv hlen hJ hbase hdL hdH
              have e146 : A.eval (.tmp 146) = .pointer (some ⟨g6, 2, none⟩) := hdL 23 146 (by kernel_rfl) (by kernel_rfl) (by kernel_rfl)
              have f146 : A.tmps[146]?.getD undef = .pointer (some ⟨g6, 2, none⟩) := by simpa [Act.eval] using e146
              have v143 := hdH 20 143 1 (by kernel_rfl) rfl (by kernel_rfl)
              have eg : A.eval (.tmp 143) = .bool false := JQ.snd hJ _ v143
              have hcW := (JQ.fr hJ).cell d2 (fun q => q)
              have hr := run_ld1 (P := Try.prog) (w := W) 37 79 Try.underlying37 g6 2 _ hcW
              exact light_val (wanted_of rfl (by kernel_rfl) eg) (v := v3') (by simp [execOp, e146, hr, Result.andThen]) hJ rfl
            case o25 =>
              intro A W hv hlen hJ hbase hdL hdH
              have e147 : A.eval (.tmp 147) = v3' := hdL 24 147 (by kernel_rfl) (by kernel_rfl) (by kernel_rfl)
              have f147 : A.tmps[147]?.getD undef = v3' := by simpa [Act.eval] using e147
              have v143 := hdH 20 143 1 (by kernel_rfl) rfl (by kernel_rfl)
              have eg : A.eval (.tmp 143) = .bool false := JQ.snd hJ _ v143
              match hv, hlen with
              | [x0, x1, u], _ =>
                obtain ⟨rfl, rfl, hu, hfu⟩ := hJ
                have e145 : A.eval (.tmp 145) = u := by have := hdH 22 145 2 (by kernel_rfl) rfl (by kernel_rfl); simpa using this.symm
                have f145 : A.tmps[145]?.getD undef = u := by simpa [Act.eval] using e145
                refine heavy_call (wanted_of rfl (by kernel_rfl) eg) (args := #[u, v3']) (f := 27) (by simp [execOp, resolve, invoke, go_sem, e145, f145, e147, f147]) ?_
                refine (same_any u _ Y.pend W hu (doc30.s3.fr0 hfu) hpY).mono ?_
                rintro e w' ⟨rfl, f'⟩
                exact ⟨_, rfl, rfl, rfl, rfl, hfu.thenN f'⟩
            case o26 =>
              intro A W hv hlen hJ hbase hdL hdH
              have v143 := hdH 20 143 1 (by kernel_rfl) rfl (by kernel_rfl)
              have eg : A.eval (.tmp 143) = .bool false := JQ.snd hJ _ v143
              have v148 := hdH 25 148 3 (by kernel_rfl) rfl (by kernel_rfl)
              have e148 : A.eval (.tmp 148) = .bool true := JQ.frt hJ _ v148
              have f148 : A.tmps[148]?.getD undef = .bool true := by simpa [Act.eval] using e148
              exact light_val (wanted_of rfl (by kernel_rfl) eg) (v := .bool false) (by simp [execOp, go_sem, e148, f148]) hJ rfl
            case o27 =>
              intro A W hv hlen hJ hbase hdL hdH
              have e149 : A.eval (.tmp 149) = .bool false := hdL 26 149 (by kernel_rfl) (by kernel_rfl) (by kernel_rfl)
              have f149 : A.tmps[149]?.getD undef = .bool false := by simpa [Act.eval] using e149
              have v143 := hdH 20 143 1 (by kernel_rfl) rfl (by kernel_rfl)
              have e143 : A.eval (.tmp 143) = .bool false := JQ.snd hJ _ v143
              have f143 : A.tmps[143]?.getD undef = .bool false := by simpa [Act.eval] using e143
              exact light_val rfl (v := .bool false) (by simp [execOp, go_sem, e143, f143, e149, f149]) hJ rfl
            case oe =>
              intro vs' W' hv hlen hJ hL hH
              have hx150 : vs' 27 = .bool false := hL 27 (by rfl) (by rfl)
              have hfJ := JQ.fr hJ
              clear hJ
              simp only [layL, Nat.reduceAdd, Act.put, List.setIfInBounds_toArray, List.set_cons_zero, List.set_cons_succ]
              clear hL hH
              generalize vs' 0 = y500 at *
              generalize vs' 1 = y501 at *
              generalize vs' 2 = y502 at *
              generalize vs' 3 = y503 at *
              generalize vs' 4 = y504 at *
              generalize vs' 5 = y505 at *
              generalize vs' 6 = y506 at *
              generalize vs' 7 = y507 at *
              generalize vs' 8 = y508 at *
              generalize vs' 9 = y509 at *
              generalize vs' 10 = y510 at *
              generalize vs' 11 = y511 at *
              generalize vs' 12 = y512 at *
              generalize vs' 13 = y513 at *
              generalize vs' 14 = y514 at *
              generalize vs' 15 = y515 at *
              generalize vs' 16 = y516 at *
              generalize vs' 17 = y517 at *
              generalize vs' 18 = y518 at *
              generalize vs' 19 = y519 at *
              generalize vs' 20 = y520 at *
              generalize vs' 21 = y521 at *
              generalize vs' 22 = y522 at *
              generalize vs' 23 = y523 at *
              generalize vs' 24 = y524 at *
              generalize vs' 25 = y525 at *
              generalize vs' 26 = y526 at *
              generalize vs' 27 = y527 at *
              subst hx150
              go_wp2
              go_roundw
              case rel => exact ⟨m + 1, Y, F, v1', v2, v3', c, L', bad, by omega, by go_num, hRY, hpYm, hD30.fr0 hfJ, doc30.fr0 hfJ, (hsep.size zY).size hfJ.size, (Gz.thenN FY).thenN hfJ⟩
              case measure => simp [intOf]; omega
          · have hk1b : (kd == 1) = false := by simpa using hk1
            by_cases hk2 : kd = 2
            · subst hk2
              obtain ⟨Y, HY⟩ : ∃ Y, Hid (({ X with left := ak } : DSt) = Y) := ⟨_, rfl⟩
              obtain ⟨cz, Hcz⟩ : ∃ cz, Hid (decide (0 ≤ ak) = cz) := ⟨_, rfl⟩
              have hRY : Hid (RXD Y cz ak bad) := by show RXD _ _ _ _; rw [← HY.out, ← Hcz.out]; exact hRX.out.cut ak hakr
              have hpYm : Hid (Y.pend.length ≤ m + 1) := by show _ ≤ _; rw [← HY.out]; have := hpl.out; show X.pend.length ≤ _; omega
              have hpY : Y.pend.length ≤ 100000 := by have := hpYm.out; omega
              have hpgY : Y.pages.length ≤ 100000 := by rw [← HY.out]; exact hpg
              obtain ⟨p, e2, Hrd⟩ : ∃ p e2, Hid (readP Y ak = (p, e2)) := ⟨_, _, rfl⟩
              have hdr : Hid (readR Y.pages bad Y.pend ak = (p, e2)) := by show _ = _; rw [hRY.out.read, Hrd.out]
              go_wp2_with (first
                | (refine at_idx 34 _ _ rfl ?_; go_must (refine wpList_idxR rfl 34 _ _ rfl 43 Try.underlying34 4 act_size _ _ _ rfl (hA.fr0 hf) (by decide) _ _ m rfl rfl hlt ?_; rw [Hx.out]; intro ba oa hba hca))
                | (with_reducible refine at_wpP ?_; refine at_ld 43 _ rfl ?_; go_must (refine wpList_load_mid rfl 43 _ rfl ba oa rfl (encA ⟨2, ak, by', kv, kp⟩) _ (range_of fun j v hj => hca j v hj) under_act rfl (act_sizeE _) ?_))
                | (with_reducible refine at_wpP ?_; refine wpList_allocV rfl 43 rfl _ act_zero ?_; intro gx w4 hgx b4 f4 s4; have l4 := b4.lt)
                | (with_reducible refine at_wpP ?_; refine at_st 43 _ _ rfl ?_; go_must (refine wpList_storeV rfl 43 _ _ rfl gx 0 rfl (encA ⟨2, ak, by', kv, kp⟩) rfl _ _ b4 (act_sizeE _) (encA_le _ _) hx1 ?_; intro w5 b5 f5; rw [putAt_all _ _ (encA_eq _ _)] at b5; have F45 : Fr noB wr w5 := (f4.thenT f5 (fun q hq e => (by unfold onB1 at e; omega))); have z45 := F45.size; have hD5 := hD.fr0 F45; have doc5 := hdc.fr0 F45; have sep5 := hsp.size z45; have G5 := hf.thenN F45; obtain ⟨q0, _⟩ := b5.cell 0 _ rfl; obtain ⟨q1, _⟩ := b5.cell 1 _ rfl; obtain ⟨q2, _⟩ := b5.cell 2 _ rfl; obtain ⟨q3, _⟩ := b5.cell 3 _ rfl; have hngx : ¬ F gx := (fun q => (by have := (hsp _ q).2.1; omega))))
                | (go_at_call 12; go_must (refine (pcut_any gd ak hakr _ hD5).mono ?_; rw [HY.out]; rintro e w6 ⟨rfl, d6, f6⟩; have z6 := f6.size; have doc6 := doc5.prog sep5 f6; have sep6 := sep5.size z6; have bx6 := b5.fr f6 hngx; have G6 := G5.thenT f6 (fun q hq hq' => (by have := (hsp q hq').1; omega)); have hl6 := doc6.bx.lt; obtain ⟨c60, _⟩ := bx6.cell 0 _ rfl; obtain ⟨c61, _⟩ := bx6.cell 1 _ rfl; obtain ⟨c63, _⟩ := bx6.cell 3 _ rfl))
                | (with_reducible refine at_wpP ?_; refine wpList_ldD rfl _ rfl g6 rfl _ _ _ _ _ _ doc6.bx ?_)
                | (go_at_call 22; go_must (refine (rcut_any v1 v2 v3 hi1 hi2 hi3 c l X.down ak _).mono ?_; rw [Hcz.out]; rintro e w7 ⟨rfl, f7⟩; have z7 := f7.size))
                | (with_reducible refine at_wpP ?_; refine at_st 39 _ _ rfl ?_; go_must (refine wpList_stD rfl _ _ rfl g6 rfl _ _ _ _ _ _ rfl _ (doc6.bx.fr0 f7) rfl hi1 hi2 hi3 ?_; intro w8 b8 f8; have z8 := f8.size; have sep7 := sep6.doc z7 (nwB.refl _ _ _) (nwB.refl _ _ _) (nwB.refl _ _ _); have hsep := sep7.size z8; have hDz := (d6.fr0 f7).fr f8 sep7.ng; have bxz := (bx6.fr0 f7).fr f8 (fun e => (by unfold onB1 at e; omega)); have Gz := (G6.thenN f7).thenT f8 (fun q hq e => (by unfold onB1 at e; omega)); obtain ⟨cz1, _⟩ := bxz.cell 1 _ rfl; have hdoc : DocD w8 g6 v1 v2 v3 cz ak Y.down Y.pages bad Y.pend := (by rw [← HY.out]; exact DocD.put f8 b8 (doc6.s1.fr0 f7) (doc6.s2.fr0 f7) (doc6.s3.fr0 f7) ((nwB.refl _ _ _).n doc6.n1 hl6 z7) ((nwB.refl _ _ _).n doc6.n2 hl6 z7) ((nwB.refl _ _ _).n doc6.n3 hl6 z7))))
                | (go_at_call 10; go_must (refine (read_any gd ak hakr _ hDz hpY).mono ?_; rw [Hrd.out]; rintro e y1 ⟨rfl, fy1⟩; have zy1 := fy1.size; have hrl : Hid (p.length = 256) := (by have := readP_len hDz ak; rw [Hrd.out] at this; exact this)))
                | (with_reducible refine at_wpP ?_; have qy4' := qy4; refine wpList_allocP rfl rfl ?_; intro gb y5 hgb by5 fy5 sy5; have ly5 := by5.lt; have qy5 := qy4.fr0 fy5)
                | (with_reducible refine at_wpP ?_; refine wpList_allocP rfl rfl ?_; intro ga y2 hga by2 fy2 sy2; have ly2 := by2.lt)
                | (with_reducible refine at_wpP ?_; refine at_st 25 _ _ rfl ?_; have qy5' := qy5; go_must (refine wpList_storeP rfl _ _ rfl gb rfl p rfl _ by5 hrl.out zeroP_len ?_; intro y6 by6 fy6; have qy6 := qy5.ne fy6 (by omega); have FY6 := ((FY3.thenN fy4).thenN fy5).thenT (S := noB) fy6 (fun q hq e => (by unfold onB1 at e; omega))))
                | (with_reducible refine at_wpP ?_; refine at_st 25 _ _ rfl ?_; go_must (refine wpList_storeP rfl _ _ rfl ga rfl p rfl _ by2 hrl.out zeroP_len ?_; intro y3 qy3 fy3; have FY3 := (fy1.thenN fy2).thenT (S := noB) fy3 (fun q hq e => (by unfold onB1 at e; omega)); have zy3 := FY3.size; have bxy := bxz.fr0 FY3; obtain ⟨cy1, _⟩ := bxy.cell 1 _ rfl; have docy := hdoc.fr0 FY3))
                | (with_reducible refine at_wpP ?_; refine wpList_ldD rfl _ rfl g6 rfl _ _ _ _ _ _ docy.bx ?_)
                | (go_at_call 26; go_must (refine (rread_any _ _ _ Y.pages bad Y.pend _ _ _ ak _ docy.s1 docy.s2 docy.s3 hRY.out.len hpgY hpY).mono ?_; rw [hdr.out]; rintro e y4 ⟨rfl, fy4⟩; have zy4 := fy4.size; have qy4 := qy3.fr0 fy4; have ly4 := qy4.lt)))
              have FY := FY6.drew
              have doc30 := hdoc.fr0 FY
              have hD30 := hDz.fr0 FY
              have zY := FY.size
              have qa : BxV y6.drew ga 25 (pgv p) := qy6
              have qb : BxV y6.drew gb 25 (pgv p) := by6
              obtain ⟨d5, _⟩ := doc30.bx.cell 5 _ rfl
              obtain ⟨d2, _⟩ := doc30.bx.cell 2 _ rfl
              refine wp_region_chain_lay (by kernel_rfl) [15, 20, 22, 25] [none, none, none, none, none, none, none, none, none, none, none, none, none, none, none, some 0, none, none, none, none, some 1, none, some 2, none, none, some 3, none, none]
                [fun v => v = .int .i64 0, fun v => v = .int .i64 0, fun v => v = .bool false, fun v => v = .bool false, fun v => v = pgV p, fun v => v = pgV p, fun v => v = .bool false, fun v => v = .bool false, fun v => v = .bool false, fun v => v = .int .i64 e2, fun v => v = .int .i64 e2, fun v => v = .bool false, fun v => v = .bool false, fun v => v = .bool false, fun v => v = ptr gd, fun _ => True, fun v => v = .pointer (some ⟨g6, 5, none⟩), fun v => v = .bool Y.down, fun v => v = .bool false, fun v => v = .bool false, fun _ => True, fun v => v = ptr gd, fun _ => True, fun v => v = .pointer (some ⟨g6, 2, none⟩), fun v => v = v3, fun _ => True, fun v => v = .bool false, fun v => v = .bool false]
                (JQ y6.drew Y.down Y.pend) (rfl) (by kernel_rfl) (by kernel_rfl) (by decide) ⟨?o0, ?o1, ?o2, ?o3, ?o4, ?o5, ?o6, ?o7, ?o8, ?o9, ?o10, ?o11, ?o12, ?o13, ?o14, ?o15, ?o16, ?o17, ?o18, ?o19, ?o20, ?o21, ?o22, ?o23, ?o24, ?o25, ?o26, ?o27, trivial⟩ ?oe
              case o0 =>
                intro A W hv hlen hJ hbase hdL hdH
                have e9 : A.eval (.tmp 9) = .int .i64 0 := hbase 9 (by kernel_rfl)
                have f9 : A.tmps[9]?.getD undef = .int .i64 0 := by simpa [Act.eval] using e9
                exact light_val rfl (v := .int .i64 0) (by simp [execOp, e9, f9]) hJ rfl
              case o1 =>
                intro A W hv hlen hJ hbase hdL hdH
                have e10 : A.eval (.tmp 10) = .int .i64 0 := hbase 10 (by kernel_rfl)
                have f10 : A.tmps[10]?.getD undef = .int .i64 0 := by simpa [Act.eval] using e10
                exact light_val rfl (v := .int .i64 0) (by simp [execOp, e10, f10]) hJ rfl
              case o2 =>
                intro A W hv hlen hJ hbase hdL hdH
                have e123 : A.eval (.tmp 123) = .int .i64 0 := hdL 0 123 (by kernel_rfl) (by kernel_rfl) (by kernel_rfl)
                have f123 : A.tmps[123]?.getD undef = .int .i64 0 := by simpa [Act.eval] using e123
                have e124 : A.eval (.tmp 124) = .int .i64 0 := hdL 1 124 (by kernel_rfl) (by kernel_rfl) (by kernel_rfl)
                have f124 : A.tmps[124]?.getD undef = .int .i64 0 := by simpa [Act.eval] using e124
                exact light_val rfl (v := .bool false) (by simp [execOp, go_sem, e123, f123, e124, f124]) hJ rfl
              case o3 =>
                intro A W hv hlen hJ hbase hdL hdH
                have e125 : A.eval (.tmp 125) = .bool false := hdL 2 125 (by kernel_rfl) (by kernel_rfl) (by kernel_rfl)
                have f125 : A.tmps[125]?.getD undef = .bool false := by simpa [Act.eval] using e125
                exact light_val rfl (v := .bool false) (by simp [execOp, e125, f125]) hJ rfl
              case o4 =>
                intro A W hv hlen hJ hbase hdL hdH
                have e11 : A.eval (.tmp 11) = .pointer (some ⟨ga, 0, none⟩) := hbase 11 (by kernel_rfl)
                have f11 : A.tmps[11]?.getD undef = .pointer (some ⟨ga, 0, none⟩) := by simpa [Act.eval] using e11
                have eg : A.eval (.tmp 126) = .bool false := hdL 3 126 (by kernel_rfl) (by kernel_rfl) (by kernel_rfl)
                have hB := qa.fr0 (JQ.fr hJ)
                have hr := run_loadP W ga 0 p (hB.range 0 (pgv p) (by show (pgv p).take (pgv p).length = pgv p; exact List.take_length)) hrl.out
                exact light_val (wanted_of rfl (by kernel_rfl) eg) (v := pgV p) (by simp [execOp, e11, hr, Result.andThen]) hJ rfl
              case o5 =>
                intro A W hv hlen hJ hbase hdL hdH
                have e13 : A.eval (.tmp 13) = .pointer (some ⟨gb, 0, none⟩) := hbase 13 (by kernel_rfl)
                have f13 : A.tmps[13]?.getD undef = .pointer (some ⟨gb, 0, none⟩) := by simpa [Act.eval] using e13
                have eg : A.eval (.tmp 126) = .bool false := hdL 3 126 (by kernel_rfl) (by kernel_rfl) (by kernel_rfl)
                have hB := qb.fr0 (JQ.fr hJ)
                have hr := run_loadP W gb 0 p (hB.range 0 (pgv p) (by show (pgv p).take (pgv p).length = pgv p; exact List.take_length)) hrl.out
                exact light_val (wanted_of rfl (by kernel_rfl) eg) (v := pgV p) (by simp [execOp, e13, hr, Result.andThen]) hJ rfl
              case o6 =>
                intro A W hv hlen hJ hbase hdL hdH
                have e127 : A.eval (.tmp 127) = pgV p := hdL 4 127 (by kernel_rfl) (by kernel_rfl) (by kernel_rfl)
                have f127 : A.tmps[127]?.getD undef = pgV p := by simpa [Act.eval] using e127
                have e128 : A.eval (.tmp 128) = pgV p := hdL 5 128 (by kernel_rfl) (by kernel_rfl) (by kernel_rfl)
                have f128 : A.tmps[128]?.getD undef = pgV p := by simpa [Act.eval] using e128
                have eg : A.eval (.tmp 126) = .bool false := hdL 3 126 (by kernel_rfl) (by kernel_rfl) (by kernel_rfl)
                have hr := run_neq_page W p p hrl.out hrl.out
                exact light_val (wanted_of rfl (by kernel_rfl) eg) (v := .bool false) (by simp [execOp, e127, e128, hr, eqg_neq, Result.andThen]) hJ rfl
              case o7 =>
                intro A W hv hlen hJ hbase hdL hdH
                have e126 : A.eval (.tmp 126) = .bool false := hdL 3 126 (by kernel_rfl) (by kernel_rfl) (by kernel_rfl)
                have f126 : A.tmps[126]?.getD undef = .bool false := by simpa [Act.eval] using e126
                have e129 : A.eval (.tmp 129) = .bool false := hdL 6 129 (by kernel_rfl) (by kernel_rfl) (by kernel_rfl)
                have f129 : A.tmps[129]?.getD undef = .bool false := by simpa [Act.eval] using e129
                exact light_val rfl (v := .bool false) (by simp [execOp, go_sem, e126, f126, e129, f129]) hJ rfl
              case o8 =>
                intro A W hv hlen hJ hbase hdL hdH
                have e130 : A.eval (.tmp 130) = .bool false := hdL 7 130 (by kernel_rfl) (by kernel_rfl) (by kernel_rfl)
                have f130 : A.tmps[130]?.getD undef = .bool false := by simpa [Act.eval] using e130
                exact light_val rfl (v := .bool false) (by simp [execOp, e130, f130]) hJ rfl
              case o9 =>
                intro A W hv hlen hJ hbase hdL hdH
                have e12 : A.eval (.tmp 12) = .int .i64 e2 := hbase 12 (by kernel_rfl)
                have f12 : A.tmps[12]?.getD undef = .int .i64 e2 := by simpa [Act.eval] using e12
                have eg : A.eval (.tmp 131) = .bool false := hdL 8 131 (by kernel_rfl) (by kernel_rfl) (by kernel_rfl)
                exact light_val (wanted_of rfl (by kernel_rfl) eg) (v := .int .i64 e2) (by simp [execOp, e12, f12]) hJ rfl
              case o10 =>
                intro A W hv hlen hJ hbase hdL hdH
                have e14 : A.eval (.tmp 14) = .int .i64 e2 := hbase 14 (by kernel_rfl)
                have f14 : A.tmps[14]?.getD undef = .int .i64 e2 := by simpa [Act.eval] using e14
                have eg : A.eval (.tmp 131) = .bool false := hdL 8 131 (by kernel_rfl) (by kernel_rfl) (by kernel_rfl)
                exact light_val (wanted_of rfl (by kernel_rfl) eg) (v := .int .i64 e2) (by simp [execOp, e14, f14]) hJ rfl
              case o11 =>
                intro A W hv hlen hJ hbase hdL hdH
                have e132 : A.eval (.tmp 132) = .int .i64 e2 := hdL 9 132 (by kernel_rfl) (by kernel_rfl) (by kernel_rfl)
                have f132 : A.tmps[132]?.getD undef = .int .i64 e2 := by simpa [Act.eval] using e132
                have e133 : A.eval (.tmp 133) = .int .i64 e2 := hdL 10 133 (by kernel_rfl) (by kernel_rfl) (by kernel_rfl)
                have f133 : A.tmps[133]?.getD undef = .int .i64 e2 := by simpa [Act.eval] using e133
                have eg : A.eval (.tmp 131) = .bool false := hdL 8 131 (by kernel_rfl) (by kernel_rfl) (by kernel_rfl)
                exact light_val (wanted_of rfl (by kernel_rfl) eg) (v := .bool false) (by simp [execOp, go_sem, e132, f132, e133, f133]) hJ rfl
              case o12 =>
                intro A W hv hlen hJ hbase hdL hdH
                have e131 : A.eval (.tmp 131) = .bool false := hdL 8 131 (by kernel_rfl) (by kernel_rfl) (by kernel_rfl)
                have f131 : A.tmps[131]?.getD undef = .bool false := by simpa [Act.eval] using e131
                have e134 : A.eval (.tmp 134) = .bool false := hdL 11 134 (by kernel_rfl) (by kernel_rfl) (by kernel_rfl)
                have f134 : A.tmps[134]?.getD undef = .bool false := by simpa [Act.eval] using e134
                exact light_val rfl (v := .bool false) (by simp [execOp, go_sem, e131, f131, e134, f134]) hJ rfl
              case o13 =>
                intro A W hv hlen hJ hbase hdL hdH
                have e135 : A.eval (.tmp 135) = .bool false := hdL 12 135 (by kernel_rfl) (by kernel_rfl) (by kernel_rfl)
                have f135 : A.tmps[135]?.getD undef = .bool false := by simpa [Act.eval] using e135
                exact light_val rfl (v := .bool false) (by simp [execOp, e135, f135]) hJ rfl
              case o14 =>
                intro A W hv hlen hJ hbase hdL hdH
                have e5 : A.eval (.tmp 5) = ptr gd := hbase 5 (by kernel_rfl)
                have f5 : A.tmps[5]?.getD undef = ptr gd := by simpa [Act.eval] using e5
                have eg : A.eval (.tmp 136) = .bool false := hdL 13 136 (by kernel_rfl) (by kernel_rfl) (by kernel_rfl)
                exact light_val (wanted_of rfl (by kernel_rfl) eg) (v := ptr gd) (by simp [execOp, e5, f5]) hJ rfl
              case o15 =>
                intro A W hv hlen hJ hbase hdL hdH
                have e137 : A.eval (.tmp 137) = ptr gd := hdL 14 137 (by kernel_rfl) (by kernel_rfl) (by kernel_rfl)
                have f137 : A.tmps[137]?.getD undef = ptr gd := by simpa [Act.eval] using e137
                have eg : A.eval (.tmp 136) = .bool false := hdL 13 136 (by kernel_rfl) (by kernel_rfl) (by kernel_rfl)
                obtain rfl : hv = [] := List.eq_nil_of_length_eq_zero hlen
                cases hJ
                refine heavy_call (wanted_of rfl (by kernel_rfl) eg) (args := #[ptr gd]) (f := 15) (by simp [execOp, resolve, invoke, go_sem, e137, f137]) ?_
                refine (down_any gd _ hD30).mono ?_
                rintro e w' ⟨rfl, rfl⟩
                exact ⟨_, rfl, rfl, rfl⟩
              case o16 =>
                intro A W hv hlen hJ hbase hdL hdH
                have e6 : A.eval (.tmp 6) = .pointer (some ⟨g6, 0, none⟩) := hbase 6 (by kernel_rfl)
                have f6 : A.tmps[6]?.getD undef = .pointer (some ⟨g6, 0, none⟩) := by simpa [Act.eval] using e6
                have eg : A.eval (.tmp 136) = .bool false := hdL 13 136 (by kernel_rfl) (by kernel_rfl) (by kernel_rfl)
                exact light_val (wanted_of rfl (by kernel_rfl) eg) (v := .pointer (some ⟨g6, 5, none⟩)) (by simp [execOp, go_sem, e6, f6]) hJ rfl
              case o17 =>
                intro A W hv hlen hJ hbase hdL hdH
                have e139 : A.eval (.tmp 139) = .pointer (some ⟨g6, 5, none⟩) := hdL 16 139 (by kernel_rfl) (by kernel_rfl) (by kernel_rfl)
                have f139 : A.tmps[139]?.getD undef = .pointer (some ⟨g6, 5, none⟩) := by simpa [Act.eval] using e139
                have eg : A.eval (.tmp 136) = .bool false := hdL 13 136 (by kernel_rfl) (by kernel_rfl) (by kernel_rfl)
                have hcW := (JQ.fr hJ).cell d5 (fun q => q)
                exact light_val (wanted_of rfl (by kernel_rfl) eg) (v := .bool Y.down) (by simp [execOp, go_sem, e139, f139, hcW]) hJ rfl
              case o18 =>
                intro A W hv hlen hJ hbase hdL hdH
                have e140 : A.eval (.tmp 140) = .bool Y.down := hdL 17 140 (by kernel_rfl) (by kernel_rfl) (by kernel_rfl)
                have f140 : A.tmps[140]?.getD undef = .bool Y.down := by simpa [Act.eval] using e140
                have eg : A.eval (.tmp 136) = .bool false := hdL 13 136 (by kernel_rfl) (by kernel_rfl) (by kernel_rfl)
                have v138 := hdH 15 138 0 (by kernel_rfl) rfl (by kernel_rfl)
                have e138 : A.eval (.tmp 138) = .bool Y.down := JQ.fst hJ _ v138
                have f138 : A.tmps[138]?.getD undef = .bool Y.down := by simpa [Act.eval] using e138
                exact light_val (wanted_of rfl (by kernel_rfl) eg) (v := .bool false) (by simp [execOp, go_sem, e138, f138, e140, f140]) hJ rfl
              case o19 =>
                intro A W hv hlen hJ hbase hdL hdH
                have e136 : A.eval (.tmp 136) = .bool false := hdL 13 136 (by kernel_rfl) (by kernel_rfl) (by kernel_rfl)
                have f136 : A.tmps[136]?.getD undef = .bool false := by simpa [Act.eval] using e136
                have e141 : A.eval (.tmp 141) = .bool false := hdL 18 141 (by kernel_rfl) (by kernel_rfl) (by kernel_rfl)
                have f141 : A.tmps[141]?.getD undef = .bool false := by simpa [Act.eval] using e141
                exact light_val rfl (v := .bool false) (by simp [execOp, go_sem, e136, f136, e141, f141]) hJ rfl
              case o20 =>
                intro A W hv hlen hJ hbase hdL hdH
                have e142 : A.eval (.tmp 142) = .bool false := hdL 19 142 (by kernel_rfl) (by kernel_rfl) (by kernel_rfl)
                have f142 : A.tmps[142]?.getD undef = .bool false := by simpa [Act.eval] using e142
                obtain ⟨v138, rfl⟩ := List.length_eq_one_iff.1 hlen
                obtain ⟨rfl, rfl⟩ := hJ
                exact heavy_val rfl (v := .bool false) (w' := y6.drew) (by simp [execOp, e142]) ⟨rfl, rfl, rfl⟩
              case o21 =>
                intro A W hv hlen hJ hbase hdL hdH
                have e5 : A.eval (.tmp 5) = ptr gd := hbase 5 (by kernel_rfl)
                have f5 : A.tmps[5]?.getD undef = ptr gd := by simpa [Act.eval] using e5
                have v143 := hdH 20 143 1 (by kernel_rfl) rfl (by kernel_rfl)
                have eg : A.eval (.tmp 143) = .bool false := JQ.snd hJ _ v143
                exact light_val (wanted_of rfl (by kernel_rfl) eg) (v := ptr gd) (by simp [execOp, e5, f5]) hJ rfl
              case o22 =>
                intro A W hv hlen hJ hbase hdL hdH
                have e144 : A.eval (.tmp 144) = ptr gd := hdL 21 144 (by kernel_rfl) (by kernel_rfl) (by kernel_rfl)
                have f144 : A.tmps[144]?.getD undef = ptr gd := by simpa [Act.eval] using e144
                have v143 := hdH 20 143 1 (by kernel_rfl) rfl (by kernel_rfl)
                have eg : A.eval (.tmp 143) = .bool false := JQ.snd hJ _ v143
                match hv, hlen with
                | [v138, v143], _ =>
                 obtain ⟨rfl, rfl, rfl⟩ := hJ
                 refine heavy_call (wanted_of rfl (by kernel_rfl) eg) (args := #[ptr gd]) (f := 28) (by simp [execOp, resolve, invoke, go_sem, e144, f144]) ?_
                 refine (pending_any gd _ hD30 hpY).mono ?_
                 rintro e w' ⟨v, rfl, o', f'⟩
                 exact ⟨_, rfl, rfl, rfl, o'.sl, f'⟩
              case o23 =>
                intro A W hv hlen hJ hbase hdL hdH
                have e6 : A.eval (.tmp 6) = .pointer (some ⟨g6, 0, none⟩) := hbase 6 (by kernel_rfl)
                have f6 : A.tmps[6]?.getD undef = .pointer (some ⟨g6, 0, none⟩) := by simpa [Act.eval] using e6
                have v143 := hdH 20 143 1 (by kernel_rfl) rfl (by kernel_rfl)
                have eg : A.eval (.tmp 143) = .bool false := JQ.snd hJ _ v143
                exact light_val (wanted_of rfl (by kernel_rfl) eg) (v := .pointer (some ⟨g6, 2, none⟩)) (by simp [execOp, go_sem, e6, f6]) hJ rfl
              case o24 =>
                intro A W hv hlen hJ hbase hdL hdH
                have e146 : A.eval (.tmp 146) = .pointer (some ⟨g6, 2, none⟩) := hdL 23 146 (by kernel_rfl) (by kernel_rfl) (by kernel_rfl)
                have f146 : A.tmps[146]?.getD undef = .pointer (some ⟨g6, 2, none⟩) := by simpa [Act.eval] using e146
                have v143 := hdH 20 143 1 (by kernel_rfl) rfl (by kernel_rfl)
                have eg : A.eval (.tmp 143) = .bool false := JQ.snd hJ _ v143
                have hcW := (JQ.fr hJ).cell d2 (fun q => q)
                have hr := run_ld1 (P := Try.prog) (w := W) 37 79 Try.underlying37 g6 2 _ hcW
                exact light_val (wanted_of rfl (by kernel_rfl) eg) (v := v3) (by simp [execOp, e146, hr, Result.andThen]) hJ rfl
              case o25 =>
                intro A W hv hlen hJ hbase hdL hdH
                have e147 : A.eval (.tmp 147) = v3 := hdL 24 147 (by kernel_rfl) (by kernel_rfl) (by kernel_rfl)
                have f147 : A.tmps[147]?.getD undef = v3 := by simpa [Act.eval] using e147
                have v143 := hdH 20 143 1 (by kernel_rfl) rfl (by kernel_rfl)
                have eg : A.eval (.tmp 143) = .bool false := JQ.snd hJ _ v143
                match hv, hlen with
                | [x0, x1, u], _ =>
                  obtain ⟨rfl, rfl, hu, hfu⟩ := hJ
                  have e145 : A.eval (.tmp 145) = u := by have := hdH 22 145 2 (by kernel_rfl) rfl (by kernel_rfl); simpa using this.symm
                  have f145 : A.tmps[145]?.getD undef = u := by simpa [Act.eval] using e145
                  refine heavy_call (wanted_of rfl (by kernel_rfl) eg) (args := #[u, v3]) (f := 27) (by simp [execOp, resolve, invoke, go_sem, e145, f145, e147, f147]) ?_
                  refine (same_any u _ Y.pend W hu (doc30.s3.fr0 hfu) hpY).mono ?_
                  rintro e w' ⟨rfl, f'⟩
                  exact ⟨_, rfl, rfl, rfl, rfl, hfu.thenN f'⟩
              case o26 =>
                intro A W hv hlen hJ hbase hdL hdH
                have v143 := hdH 20 143 1 (by kernel_rfl) rfl (by kernel_rfl)
                have eg : A.eval (.tmp 143) = .bool false := JQ.snd hJ _ v143
                have v148 := hdH 25 148 3 (by kernel_rfl) rfl (by kernel_rfl)
                have e148 : A.eval (.tmp 148) = .bool true := JQ.frt hJ _ v148
                have f148 : A.tmps[148]?.getD undef = .bool true := by simpa [Act.eval] using e148
                exact light_val (wanted_of rfl (by kernel_rfl) eg) (v := .bool false) (by simp [execOp, go_sem, e148, f148]) hJ rfl
              case o27 =>
                intro A W hv hlen hJ hbase hdL hdH
                have e149 : A.eval (.tmp 149) = .bool false := hdL 26 149 (by kernel_rfl) (by kernel_rfl) (by kernel_rfl)
                have f149 : A.tmps[149]?.getD undef = .bool false := by simpa [Act.eval] using e149
                have v143 := hdH 20 143 1 (by kernel_rfl) rfl (by kernel_rfl)
                have e143 : A.eval (.tmp 143) = .bool false := JQ.snd hJ _ v143
                have f143 : A.tmps[143]?.getD undef = .bool false := by simpa [Act.eval] using e143
                exact light_val rfl (v := .bool false) (by simp [execOp, go_sem, e143, f143, e149, f149]) hJ rfl
              case oe =>
                intro vs' W' hv hlen hJ hL hH
                have hx150 : vs' 27 = .bool false := hL 27 (by rfl) (by rfl)
                have hfJ := JQ.fr hJ
                clear hJ
                simp only [layL, Nat.reduceAdd, Act.put, List.setIfInBounds_toArray, List.set_cons_zero, List.set_cons_succ]
                clear hL hH
                generalize vs' 0 = y500 at *
                generalize vs' 1 = y501 at *
                generalize vs' 2 = y502 at *
                generalize vs' 3 = y503 at *
                generalize vs' 4 = y504 at *
                generalize vs' 5 = y505 at *
                generalize vs' 6 = y506 at *
                generalize vs' 7 = y507 at *
                generalize vs' 8 = y508 at *
                generalize vs' 9 = y509 at *
                generalize vs' 10 = y510 at *
                generalize vs' 11 = y511 at *
                generalize vs' 12 = y512 at *
                generalize vs' 13 = y513 at *
                generalize vs' 14 = y514 at *
                generalize vs' 15 = y515 at *
                generalize vs' 16 = y516 at *
                generalize vs' 17 = y517 at *
                generalize vs' 18 = y518 at *
                generalize vs' 19 = y519 at *
                generalize vs' 20 = y520 at *
                generalize vs' 21 = y521 at *
                generalize vs' 22 = y522 at *
                generalize vs' 23 = y523 at *
                generalize vs' 24 = y524 at *
                generalize vs' 25 = y525 at *
                generalize vs' 26 = y526 at *
                generalize vs' 27 = y527 at *
                subst hx150
                go_wp2
                go_roundw
                case rel => exact ⟨m + 1, Y, F, v1, v2, v3, cz, ak, bad, by omega, by go_num, hRY, hpYm, hD30.fr0 hfJ, doc30.fr0 hfJ, (hsep.size zY).size hfJ.size, (Gz.thenN FY).thenN hfJ⟩
                case measure => simp [intOf]; omega
            · have hk2b : (kd == 2) = false := by simpa using hk2
              by_cases hk3 : kd = 3
              · subst hk3
                obtain ⟨Y, HY⟩ : ∃ Y, Hid (X.crash kp = Y) := ⟨_, rfl⟩
                obtain ⟨hc1, hc2⟩ := hRX.out.crash hpl256.out kp
                rw [HY.out] at hc1 hc2
                replace hc1 : Hid _ := hc1
                have hRY : Hid (RXD Y false 0 bad) := hc2
                have hYd : Hid (Y.down = false) := by show _ = _; rw [← HY.out]; rfl
                have hYp : Hid (Y.pend = []) := by show _ = _; rw [← HY.out]; rfl
                have hpYm : Hid (Y.pend.length ≤ m + 1) := by show _ ≤ _; rw [hYp.out]; exact Nat.zero_le _
                have hpY : Y.pend.length ≤ 100000 := by have := hpYm.out; omega
                have hpgY : Y.pages.length ≤ 100000 := by have := hRY.out.len; have := hRX.out.len; omega
                obtain ⟨p, e2, Hrd⟩ : ∃ p e2, Hid (readP Y ak = (p, e2)) := ⟨_, _, rfl⟩
                have hdr : Hid (readR Y.pages bad Y.pend ak = (p, e2)) := by show _ = _; rw [hRY.out.read, Hrd.out]
                go_wp2_with (first
                  | (refine at_idx 34 _ _ rfl ?_; go_must (refine wpList_idxR rfl 34 _ _ rfl 43 Try.underlying34 4 act_size _ _ _ rfl (hA.fr0 hf) (by decide) _ _ m rfl rfl hlt ?_; rw [Hx.out]; intro ba oa hba hca))
                  | (with_reducible refine at_wpP ?_; refine at_ld 43 _ rfl ?_; go_must (refine wpList_load_mid rfl 43 _ rfl ba oa rfl (encA ⟨3, ak, by', kv, kp⟩) _ (range_of fun j v hj => hca j v hj) under_act rfl (act_sizeE _) ?_))
                  | (with_reducible refine at_wpP ?_; refine wpList_allocV rfl 43 rfl _ act_zero ?_; intro gx w4 hgx b4 f4 s4; have l4 := b4.lt)
                  | (with_reducible refine at_wpP ?_; refine at_st 43 _ _ rfl ?_; go_must (refine wpList_storeV rfl 43 _ _ rfl gx 0 rfl (encA ⟨3, ak, by', kv, kp⟩) rfl _ _ b4 (act_sizeE _) (encA_le _ _) hx1 ?_; intro w5 b5 f5; rw [putAt_all _ _ (encA_eq _ _)] at b5; have F45 : Fr noB wr w5 := (f4.thenT f5 (fun q hq e => (by unfold onB1 at e; omega))); have z45 := F45.size; have hD5 := hD.fr0 F45; have doc5 := hdc.fr0 F45; have sep5 := hsp.size z45; have G5 := hf.thenN F45; obtain ⟨q0, _⟩ := b5.cell 0 _ rfl; obtain ⟨q1, _⟩ := b5.cell 1 _ rfl; obtain ⟨q2, _⟩ := b5.cell 2 _ rfl; obtain ⟨q3, _⟩ := b5.cell 3 _ rfl; have hngx : ¬ F gx := (fun q => (by have := (hsp _ q).2.1; omega))))
                  | (go_at_call 23; go_must (refine (crash_anyW gd kv kp _ hD5 hpm (fun W hW => hkv.fr0 (G5.thenT hW (fun q hq hq' => (by have := (hsp q hq'.1).1; omega))))).mono ?_; rw [HY.out]; rintro e w6 ⟨rfl, d6, f6⟩; have z6 := f6.size; have doc6 := doc5.prog sep5 f6; have sep6 := sep5.size z6; have bx6 := b5.fr f6 hngx; have G6 := G5.thenT f6 (fun q hq hq' => (by have := (hsp q hq').1; omega)); have hl6 := doc6.bx.lt; obtain ⟨c60, _⟩ := bx6.cell 0 _ rfl; obtain ⟨c61, _⟩ := bx6.cell 1 _ rfl; obtain ⟨c63, _⟩ := bx6.cell 3 _ rfl))
                  | (with_reducible refine at_wpP ?_; refine wpList_ldD rfl _ rfl g6 rfl _ _ _ _ _ _ doc6.bx ?_)
                  | (go_at_call 24; go_must (refine (rcrash_any v1 v2 v3 kv hi2 X.pages X.pend kp c l X.down _ doc6.s1 doc6.s3 (hkv.fr0 G6) hin.out hpg hpm).mono ?_; rw [hc1.out]; rintro e w7 ⟨v1', rfl, t1, f7, nq1⟩; have z7 := f7.size; have hi1' := SlR.isSl t1; have nw1 := nwB.of (v := v1) nq1))
                  | (with_reducible refine at_wpP ?_; refine at_st 39 _ _ rfl ?_; go_must (refine wpList_stD rfl _ _ rfl g6 rfl _ _ _ _ _ _ rfl _ (doc6.bx.fr0 f7) rfl hi1' hi2 (isSl_mk _ _ _) ?_; intro w8 b8 f8; have z8 := f8.size; have sep7 := sep6.doc z7 nw1 (nwB.refl _ _ _) (nwB.none _ _ _); have hsep := sep7.size z8; have hDz := (d6.fr0 f7).fr f8 sep7.ng; have bxz := (bx6.fr0 f7).fr f8 (fun e => (by unfold onB1 at e; omega)); have Gz := (G6.thenN f7).thenT f8 (fun q hq e => (by unfold onB1 at e; omega)); obtain ⟨cz1, _⟩ := bxz.cell 1 _ rfl; have hdoc : DocD w8 g6 v1' v2 (.slice none 0 0) false 0 Y.down Y.pages bad Y.pend := (by rw [hYd.out, hYp.out]; exact DocD.put f8 b8 t1 (doc6.s2.fr0 f7) (slW_nil _) (nw1.n doc6.n1 hl6 z7) ((nwB.refl _ _ _).n doc6.n2 hl6 z7) (none_n _ _))))
                  | (go_at_call 10; go_must (refine (read_any gd ak hakr _ hDz hpY).mono ?_; rw [Hrd.out]; rintro e y1 ⟨rfl, fy1⟩; have zy1 := fy1.size; have hrl : Hid (p.length = 256) := (by have := readP_len hDz ak; rw [Hrd.out] at this; exact this)))
                  | (with_reducible refine at_wpP ?_; have qy4' := qy4; refine wpList_allocP rfl rfl ?_; intro gb y5 hgb by5 fy5 sy5; have ly5 := by5.lt; have qy5 := qy4.fr0 fy5)
                  | (with_reducible refine at_wpP ?_; refine wpList_allocP rfl rfl ?_; intro ga y2 hga by2 fy2 sy2; have ly2 := by2.lt)
                  | (with_reducible refine at_wpP ?_; refine at_st 25 _ _ rfl ?_; have qy5' := qy5; go_must (refine wpList_storeP rfl _ _ rfl gb rfl p rfl _ by5 hrl.out zeroP_len ?_; intro y6 by6 fy6; have qy6 := qy5.ne fy6 (by omega); have FY6 := ((FY3.thenN fy4).thenN fy5).thenT (S := noB) fy6 (fun q hq e => (by unfold onB1 at e; omega))))
                  | (with_reducible refine at_wpP ?_; refine at_st 25 _ _ rfl ?_; go_must (refine wpList_storeP rfl _ _ rfl ga rfl p rfl _ by2 hrl.out zeroP_len ?_; intro y3 qy3 fy3; have FY3 := (fy1.thenN fy2).thenT (S := noB) fy3 (fun q hq e => (by unfold onB1 at e; omega)); have zy3 := FY3.size; have bxy := bxz.fr0 FY3; obtain ⟨cy1, _⟩ := bxy.cell 1 _ rfl; have docy := hdoc.fr0 FY3))
                  | (with_reducible refine at_wpP ?_; refine wpList_ldD rfl _ rfl g6 rfl _ _ _ _ _ _ docy.bx ?_)
                  | (go_at_call 26; go_must (refine (rread_any _ _ _ Y.pages bad Y.pend _ _ _ ak _ docy.s1 docy.s2 docy.s3 hRY.out.len hpgY hpY).mono ?_; rw [hdr.out]; rintro e y4 ⟨rfl, fy4⟩; have zy4 := fy4.size; have qy4 := qy3.fr0 fy4; have ly4 := qy4.lt)))
                have FY := FY6.drew
                have doc30 := hdoc.fr0 FY
                have hD30 := hDz.fr0 FY
                have zY := FY.size
                have qa : BxV y6.drew ga 25 (pgv p) := qy6
                have qb : BxV y6.drew gb 25 (pgv p) := by6
                obtain ⟨d5, _⟩ := doc30.bx.cell 5 _ rfl
                obtain ⟨d2, _⟩ := doc30.bx.cell 2 _ rfl
                refine wp_region_chain_lay (by kernel_rfl) [15, 20, 22, 25] [none, none, none, none, none, none, none, none, none, none, none, none, none, none, none, some 0, none, none, none, none, some 1, none, some 2, none, none, some 3, none, none]
                  [fun v => v = .int .i64 0, fun v => v = .int .i64 0, fun v => v = .bool false, fun v => v = .bool false, fun v => v = pgV p, fun v => v = pgV p, fun v => v = .bool false, fun v => v = .bool false, fun v => v = .bool false, fun v => v = .int .i64 e2, fun v => v = .int .i64 e2, fun v => v = .bool false, fun v => v = .bool false, fun v => v = .bool false, fun v => v = ptr gd, fun _ => True, fun v => v = .pointer (some ⟨g6, 5, none⟩), fun v => v = .bool Y.down, fun v => v = .bool false, fun v => v = .bool false, fun _ => True, fun v => v = ptr gd, fun _ => True, fun v => v = .pointer (some ⟨g6, 2, none⟩), fun v => v = (.slice none 0 0), fun _ => True, fun v => v = .bool false, fun v => v = .bool false]
                  (JQ y6.drew Y.down Y.pend) (rfl) (by kernel_rfl) (by kernel_rfl) (by decide) ⟨?o0, ?o1, ?o2, ?o3, ?o4, ?o5, ?o6, ?o7, ?o8, ?o9, ?o10, ?o11, ?o12, ?o13, ?o14, ?o15, ?o16, ?o17, ?o18, ?o19, ?o20, ?o21, ?o22, ?o23, ?o24, ?o25, ?o26, ?o27, trivial⟩ ?oe
                case o0 =>
                  intro A W hv hlen hJ hbase hdL hdH
                  have e9 : A.eval (.tmp 9) = .int .i64 0 := hbase 9 (by kernel_rfl)
                  have f9 : A.tmps[9]?.getD undef = .int .i64 0 := by simpa [Act.eval] using e9
                  exact light_val rfl (v := .int .i64 0) (by simp [execOp, e9, f9]) hJ rfl
                case o1 =>
                  intro A W hv hlen hJ hbase hdL hdH
                  have e10 : A.eval (.tmp 10) = .int .i64 0 := hbase 10 (by kernel_rfl)
                  have f10 : A.tmps[10]?.getD undef = .int .i64 0 := by simpa [Act.eval] using e10
                  exact light_val rfl (v := .int .i64 0) (by simp [execOp, e10, f10]) hJ rfl
                case o2 =>
                  intro A W hv hlen hJ hbase hdL hdH
                  have e123 : A.eval (.tmp 123) = .int .i64 0 := hdL 0 123 (by kernel_rfl) (by kernel_rfl) (by kernel_rfl)
                  have f123 : A.tmps[123]?.getD undef = .int .i64 0 := by simpa [Act.eval] using e123
                  have e124 : A.eval (.tmp 124) = .int .i64 0 := hdL 1 124 (by kernel_rfl) (by kernel_rfl) (by kernel_rfl)
                  have f124 : A.tmps[124]?.getD undef = .int .i64 0 := by simpa [Act.eval] using e124
                  exact light_val rfl (v := .bool false) (by simp [execOp, go_sem, e123, f123, e124, f124]) hJ rfl
                case o3 =>
                  intro A W hv hlen hJ hbase hdL hdH
                  have e125 : A.eval (.tmp 125) = .bool false := hdL 2 125 (by kernel_rfl) (by kernel_rfl) (by kernel_rfl)
                  have f125 : A.tmps[125]?.getD undef = .bool false := by simpa [Act.eval] using e125
                  exact light_val rfl (v := .bool false) (by simp [execOp, e125, f125]) hJ rfl
                case o4 =>
                  intro A W hv hlen hJ hbase hdL hdH
                  have e11 : A.eval (.tmp 11) = .pointer (some ⟨ga, 0, none⟩) := hbase 11 (by kernel_rfl)
                  have f11 : A.tmps[11]?.getD undef = .pointer (some ⟨ga, 0, none⟩) := by simpa [Act.eval] using e11
                  have eg : A.eval (.tmp 126) = .bool false := hdL 3 126 (by kernel_rfl) (by kernel_rfl) (by kernel_rfl)
                  have hB := qa.fr0 (JQ.fr hJ)
                  have hr := run_loadP W ga 0 p (hB.range 0 (pgv p) (by show (pgv p).take (pgv p).length = pgv p; exact List.take_length)) hrl.out
                  exact light_val (wanted_of rfl (by kernel_rfl) eg) (v := pgV p) (by simp [execOp, e11, hr, Result.andThen]) hJ rfl
                case o5 =>
                  intro A W hv hlen hJ hbase hdL hdH
                  have e13 : A.eval (.tmp 13) = .pointer (some ⟨gb, 0, none⟩) := hbase 13 (by kernel_rfl)
                  have f13 : A.tmps[13]?.getD undef = .pointer (some ⟨gb, 0, none⟩) := by simpa [Act.eval] using e13
                  have eg : A.eval (.tmp 126) = .bool false := hdL 3 126 (by kernel_rfl) (by kernel_rfl) (by kernel_rfl)
                  have hB := qb.fr0 (JQ.fr hJ)
                  have hr := run_loadP W gb 0 p (hB.range 0 (pgv p) (by show (pgv p).take (pgv p).length = pgv p; exact List.take_length)) hrl.out
                  exact light_val (wanted_of rfl (by kernel_rfl) eg) (v := pgV p) (by simp [execOp, e13, hr, Result.andThen]) hJ rfl
                case o6 =>
                  intro A W hv hlen hJ hbase hdL hdH
                  have e127 : A.eval (.tmp 127) = pgV p := hdL 4 127 (by kernel_rfl) (by kernel_rfl) (by kernel_rfl)
                  have f127 : A.tmps[127]?.getD undef = pgV p := by simpa [Act.eval] using e127
                  have e128 : A.eval (.tmp 128) = pgV p := hdL 5 128 (by kernel_rfl) (by kernel_rfl) (by kernel_rfl)
                  have f128 : A.tmps[128]?.getD undef = pgV p := by simpa [Act.eval] using e128
                  have eg : A.eval (.tmp 126) = .bool false := hdL 3 126 (by kernel_rfl) (by kernel_rfl) (by kernel_rfl)
                  have hr := run_neq_page W p p hrl.out hrl.out
                  exact light_val (wanted_of rfl (by kernel_rfl) eg) (v := .bool false) (by simp [execOp, e127, e128, hr, eqg_neq, Result.andThen]) hJ rfl
                case o7 =>
                  intro A W hv hlen hJ hbase hdL hdH
                  have e126 : A.eval (.tmp 126) = .bool false := hdL 3 126 (by kernel_rfl) (by kernel_rfl) (by kernel_rfl)
                  have f126 : A.tmps[126]?.getD undef = .bool false := by simpa [Act.eval] using e126
                  have e129 : A.eval (.tmp 129) = .bool false := hdL 6 129 (by kernel_rfl) (by kernel_rfl) (by kernel_rfl)
                  have f129 : A.tmps[129]?.getD undef = .bool false := by simpa [Act.eval] using e129
                  exact light_val rfl (v := .bool false) (by simp [execOp, go_sem, e126, f126, e129, f129]) hJ rfl
                case o8 =>
                  intro A W hv hlen hJ hbase hdL hdH
                  have e130 : A.eval (.tmp 130) = .bool false := hdL 7 130 (by kernel_rfl) (by kernel_rfl) (by kernel_rfl)
                  have f130 : A.tmps[130]?.getD undef = .bool false := by simpa [Act.eval] using e130
                  exact light_val rfl (v := .bool false) (by simp [execOp, e130, f130]) hJ rfl
                case o9 =>
                  intro A W hv hlen hJ hbase hdL hdH
                  have e12 : A.eval (.tmp 12) = .int .i64 e2 := hbase 12 (by kernel_rfl)
                  have f12 : A.tmps[12]?.getD undef = .int .i64 e2 := by simpa [Act.eval] using e12
                  have eg : A.eval (.tmp 131) = .bool false := hdL 8 131 (by kernel_rfl) (by kernel_rfl) (by kernel_rfl)
                  exact light_val (wanted_of rfl (by kernel_rfl) eg) (v := .int .i64 e2) (by simp [execOp, e12, f12]) hJ rfl
                case o10 =>
                  intro A W hv hlen hJ hbase hdL hdH
                  have e14 : A.eval (.tmp 14) = .int .i64 e2 := hbase 14 (by kernel_rfl)
                  have f14 : A.tmps[14]?.getD undef = .int .i64 e2 := by simpa [Act.eval] using e14
                  have eg : A.eval (.tmp 131) = .bool false := hdL 8 131 (by kernel_rfl) (by kernel_rfl) (by kernel_rfl)
                  exact light_val (wanted_of rfl (by kernel_rfl) eg) (v := .int .i64 e2) (by simp [execOp, e14, f14]) hJ rfl
                case o11 =>
                  intro A W hv hlen hJ hbase hdL hdH
                  have e132 : A.eval (.tmp 132) = .int .i64 e2 := hdL 9 132 (by kernel_rfl) (by kernel_rfl) (by kernel_rfl)
                  have f132 : A.tmps[132]?.getD undef = .int .i64 e2 := by simpa [Act.eval] using e132
                  have e133 : A.eval (.tmp 133) = .int .i64 e2 := hdL 10 133 (by kernel_rfl) (by kernel_rfl) (by kernel_rfl)
                  have f133 : A.tmps[133]?.getD undef = .int .i64 e2 := by simpa [Act.eval] using e133
                  have eg : A.eval (.tmp 131) = .bool false := hdL 8 131 (by kernel_rfl) (by kernel_rfl) (by kernel_rfl)
                  exact light_val (wanted_of rfl (by kernel_rfl) eg) (v := .bool false) (by simp [execOp, go_sem, e132, f132, e133, f133]) hJ rfl
                case o12 =>
                  intro A W hv hlen hJ hbase hdL hdH
                  have e131 : A.eval (.tmp 131) = .bool false := hdL 8 131 (by kernel_rfl) (by kernel_rfl) (by kernel_rfl)
                  have f131 : A.tmps[131]?.getD undef = .bool false := by simpa [Act.eval] using e131
                  have e134 : A.eval (.tmp 134) = .bool false := hdL 11 134 (by kernel_rfl) (by kernel_rfl) (by kernel_rfl)
                  have f134 : A.tmps[134]?.getD undef = .bool false := by simpa [Act.eval] using e134
                  exact light_val rfl (v := .bool false) (by simp [execOp, go_sem, e131, f131, e134, f134]) hJ rfl
                case o13 =>
                  intro A W hv hlen hJ hbase hdL hdH
                  have e135 : A.eval (.tmp 135) = .bool false := hdL 12 135 (by kernel_rfl) (by kernel_rfl) (by kernel_rfl)
                  have f135 : A.tmps[135]?.getD undef = .bool false := by simpa [Act.eval] using e135
                  exact light_val rfl (v := .bool false) (by simp [execOp, e135, f135]) hJ rfl
                case o14 =>
                  intro A W hv hlen hJ hbase hdL hdH
                  have e5 : A.eval (.tmp 5) = ptr gd := hbase 5 (by kernel_rfl)
                  have f5 : A.tmps[5]?.getD undef = ptr gd := by simpa [Act.eval] using e5
                  have eg : A.eval (.tmp 136) = .bool false := hdL 13 136 (by kernel_rfl) (by kernel_rfl) (by kernel_rfl)
                  exact light_val (wanted_of rfl (by kernel_rfl) eg) (v := ptr gd) (by simp [execOp, e5, f5]) hJ rfl
                case o15 =>
                  intro A W hv hlen hJ hbase hdL hdH
                  have e137 : A.eval (.tmp 137) = ptr gd := hdL 14 137 (by kernel_rfl) (by kernel_rfl) (by kernel_rfl)
                  have f137 : A.tmps[137]?.getD undef = ptr gd := by simpa [Act.eval] using e137
                  have eg : A.eval (.tmp 136) = .bool false := hdL 13 136 (by kernel_rfl) (by kernel_rfl) (by kernel_rfl)
                  obtain rfl : hv = [] := List.eq_nil_of_length_eq_zero hlen
                  cases hJ
                  refine heavy_call (wanted_of rfl (by kernel_rfl) eg) (args := #[ptr gd]) (f := 15) (by simp [execOp, resolve, invoke, go_sem, e137, f137]) ?_
                  refine (down_any gd _ hD30).mono ?_
                  rintro e w' ⟨rfl, rfl⟩
                  exact ⟨_, rfl, rfl, rfl⟩
                case o16 =>
                  intro A W hv hlen hJ hbase hdL hdH
                  have e6 : A.eval (.tmp 6) = .pointer (some ⟨g6, 0, none⟩) := hbase 6 (by kernel_rfl)
                  have f6 : A.tmps[6]?.getD undef = .pointer (some ⟨g6, 0, none⟩) := by simpa [Act.eval] using e6
                  have eg : A.eval (.tmp 136) = .bool false := hdL 13 136 (by kernel_rfl) (by kernel_rfl) (by kernel_rfl)
                  exact light_val (wanted_of rfl (by kernel_rfl) eg) (v := .pointer (some ⟨g6, 5, none⟩)) (by simp [execOp, go_sem, e6, f6]) hJ rfl
                case o17 =>
                  intro A W hv hlen hJ hbase hdL hdH
                  have e139 : A.eval (.tmp 139) = .pointer (some ⟨g6, 5, none⟩) := hdL 16 139 (by kernel_rfl) (by kernel_rfl) (by kernel_rfl)
                  have f139 : A.tmps[139]?.getD undef = .pointer (some ⟨g6, 5, none⟩) := by simpa [Act.eval] using e139
                  have eg : A.eval (.tmp 136) = .bool false := hdL 13 136 (by kernel_rfl) (by kernel_rfl) (by kernel_rfl)
                  have hcW := (JQ.fr hJ).cell d5 (fun q => q)
                  exact light_val (wanted_of rfl (by kernel_rfl) eg) (v := .bool Y.down) (by simp [execOp, go_sem, e139, f139, hcW]) hJ rfl
                case o18 =>
                  intro A W hv hlen hJ hbase hdL hdH
                  have e140 : A.eval (.tmp 140) = .bool Y.down := hdL 17 140 (by kernel_rfl) (by kernel_rfl) (by kernel_rfl)
                  have f140 : A.tmps[140]?.getD undef = .bool Y.down := by simpa [Act.eval] using e140
                  have eg : A.eval (.tmp 136) = .bool false := hdL 13 136 (by kernel_rfl) (by kernel_rfl) (by kernel_rfl)
                  have v138 := hdH 15 138 0 (by kernel_rfl) rfl (by kernel_rfl)
                  have e138 : A.eval (.tmp 138) = .bool Y.down := JQ.fst hJ _ v138
                  have f138 : A.tmps[138]?.getD undef = .bool Y.down := by simpa [Act.eval] using e138
                  exact light_val (wanted_of rfl (by kernel_rfl) eg) (v := .bool false) (by simp [execOp, go_sem, e138, f138, e140, f140]) hJ rfl
                case o19 =>
                  intro A W hv hlen hJ hbase hdL hdH
                  have e136 : A.eval (.tmp 136) = .bool false := hdL 13 136 (by kernel_rfl) (by kernel_rfl) (by kernel_rfl)
                  have f136 : A.tmps[136]?.getD undef = .bool false := by simpa [Act.eval] using e136
                  have e141 : A.eval (.tmp 141) = .bool false := hdL 18 141 (by kernel_rfl) (by kernel_rfl) (by kernel_rfl)
                  have f141 : A.tmps[141]?.getD undef = .bool false := by simpa [Act.eval] using e141
                  exact light_val rfl (v := .bool false) (by simp [execOp, go_sem, e136, f136, e141, f141]) hJ rfl
                case o20 =>
                  intro A W hv hlen hJ hbase hdL hdH
                  have e142 : A.eval (.tmp 142) = .bool false := hdL 19 142 (by kernel_rfl) (by kernel_rfl) (by kernel_rfl)
                  have f142 : A.tmps[142]?.getD undef = .bool false := by simpa [Act.eval] using e142
                  obtain ⟨v138, rfl⟩ := List.length_eq_one_iff.1 hlen
                  obtain ⟨rfl, rfl⟩ := hJ
                  exact heavy_val rfl (v := .bool false) (w' := y6.drew) (by simp [execOp, e142]) ⟨rfl, rfl, rfl⟩
                case o21 =>
                  intro A W hv hlen hJ hbase hdL hdH
                  have e5 : A.eval (.tmp 5) = ptr gd := hbase 5 (by kernel_rfl)
                  have f5 : A.tmps[5]?.getD undef = ptr gd := by simpa [Act.eval] using e5
                  have v143 := hdH 20 143 1 (by kernel_rfl) rfl (by kernel_rfl)
                  have eg : A.eval (.tmp 143) = .bool false := JQ.snd hJ _ v143
                  exact light_val (wanted_of rfl (by kernel_rfl) eg) (v := ptr gd) (by simp [execOp, e5, f5]) hJ rfl
                case o22 =>
                  intro A W hv hlen hJ hbase hdL hdH
                  have e144 : A.eval (.tmp 144) = ptr gd := hdL 21 144 (by kernel_rfl) (by kernel_rfl) (by kernel_rfl)
                  have f144 : A.tmps[144]?.getD undef = ptr gd := by simpa [Act.eval] using e144
                  have v143 := hdH 20 143 1 (by kernel_rfl) rfl (by kernel_rfl)
                  have eg : A.eval (.tmp 143) = .bool false := JQ.snd hJ _ v143
                  match hv, hlen with
                  | [v138, v143], _ =>
                   obtain ⟨rfl, rfl, rfl⟩ := hJ
                   refine heavy_call (wanted_of rfl (by kernel_rfl) eg) (args := #[ptr gd]) (f := 28) (by simp [execOp, resolve, invoke, go_sem, e144, f144]) ?_
                   refine (pending_any gd _ hD30 hpY).mono ?_
                   rintro e w' ⟨v, rfl, o', f'⟩
                   exact ⟨_, rfl, rfl, rfl, o'.sl, f'⟩
                case o23 =>
                  intro A W hv hlen hJ hbase hdL hdH
                  have e6 : A.eval (.tmp 6) = .pointer (some ⟨g6, 0, none⟩) := hbase 6 (by kernel_rfl)
                  have f6 : A.tmps[6]?.getD undef = .pointer (some ⟨g6, 0, none⟩) := by simpa [Act.eval] using e6
                  have v143 := hdH 20 143 1 (by kernel_rfl) rfl (by kernel_rfl)
                  have eg : A.eval (.tmp 143) = .bool false := JQ.snd hJ _ v143
                  exact light_val (wanted_of rfl (by kernel_rfl) eg) (v := .pointer (some ⟨g6, 2, none⟩)) (by simp [execOp, go_sem, e6, f6]) hJ rfl
                case o24 =>
                  intro A W hv hlen hJ hbase hdL hdH
                  have e146 : A.eval (.tmp 146) = .pointer (some ⟨g6, 2, none⟩) := hdL 23 146 (by kernel_rfl) (by kernel_rfl) (by kernel_rfl)
                  have f146 : A.tmps[146]?.getD undef = .pointer (some ⟨g6, 2, none⟩) := by simpa [Act.eval] using e146
                  have v143 := hdH 20 143 1 (by kernel_rfl) rfl (by kernel_rfl)
                  have eg : A.eval (.tmp 143) = .bool false := JQ.snd hJ _ v143
                  have hcW := (JQ.fr hJ).cell d2 (fun q => q)
                  have hr := run_ld1 (P := Try.prog) (w := W) 37 79 Try.underlying37 g6 2 _ hcW
                  exact light_val (wanted_of rfl (by kernel_rfl) eg) (v := (.slice none 0 0)) (by simp [execOp, e146, hr, Result.andThen]) hJ rfl
                case o25 =>
                  intro A W hv hlen hJ hbase hdL hdH
                  have e147 : A.eval (.tmp 147) = (.slice none 0 0) := hdL 24 147 (by kernel_rfl) (by kernel_rfl) (by kernel_rfl)
                  have f147 : A.tmps[147]?.getD undef = (.slice none 0 0) := by simpa [Act.eval] using e147
                  have v143 := hdH 20 143 1 (by kernel_rfl) rfl (by kernel_rfl)
                  have eg : A.eval (.tmp 143) = .bool false := JQ.snd hJ _ v143
                  match hv, hlen with
                  | [x0, x1, u], _ =>
                    obtain ⟨rfl, rfl, hu, hfu⟩ := hJ
                    have e145 : A.eval (.tmp 145) = u := by have := hdH 22 145 2 (by kernel_rfl) rfl (by kernel_rfl); simpa using this.symm
                    have f145 : A.tmps[145]?.getD undef = u := by simpa [Act.eval] using e145
                    refine heavy_call (wanted_of rfl (by kernel_rfl) eg) (args := #[u, (.slice none 0 0)]) (f := 27) (by simp [execOp, resolve, invoke, go_sem, e145, f145, e147, f147]) ?_
                    refine (same_any u _ Y.pend W hu (doc30.s3.fr0 hfu) hpY).mono ?_
                    rintro e w' ⟨rfl, f'⟩
                    exact ⟨_, rfl, rfl, rfl, rfl, hfu.thenN f'⟩
                case o26 =>
                  intro A W hv hlen hJ hbase hdL hdH
                  have v143 := hdH 20 143 1 (by kernel_rfl) rfl (by kernel_rfl)
                  have eg : A.eval (.tmp 143) = .bool false := JQ.snd hJ _ v143
                  have v148 := hdH 25 148 3 (by kernel_rfl) rfl (by kernel_rfl)
                  have e148 : A.eval (.tmp 148) = .bool true := JQ.frt hJ _ v148
                  have f148 : A.tmps[148]?.getD undef = .bool true := by simpa [Act.eval] using e148
                  exact light_val (wanted_of rfl (by kernel_rfl) eg) (v := .bool false) (by simp [execOp, go_sem, e148, f148]) hJ rfl
                case o27 =>
                  intro A W hv hlen hJ hbase hdL hdH
                  have e149 : A.eval (.tmp 149) = .bool false := hdL 26 149 (by kernel_rfl) (by kernel_rfl) (by kernel_rfl)
                  have f149 : A.tmps[149]?.getD undef = .bool false := by simpa [Act.eval] using e149
                  have v143 := hdH 20 143 1 (by kernel_rfl) rfl (by kernel_rfl)
                  have e143 : A.eval (.tmp 143) = .bool false := JQ.snd hJ _ v143
                  have f143 : A.tmps[143]?.getD undef = .bool false := by simpa [Act.eval] using e143
                  exact light_val rfl (v := .bool false) (by simp [execOp, go_sem, e143, f143, e149, f149]) hJ rfl
                case oe =>
                  intro vs' W' hv hlen hJ hL hH
                  have hx150 : vs' 27 = .bool false := hL 27 (by rfl) (by rfl)
                  have hfJ := JQ.fr hJ
                  clear hJ
                  simp only [layL, Nat.reduceAdd, Act.put, List.setIfInBounds_toArray, List.set_cons_zero, List.set_cons_succ]
                  clear hL hH
                  generalize vs' 0 = y500 at *
                  generalize vs' 1 = y501 at *
                  generalize vs' 2 = y502 at *
                  generalize vs' 3 = y503 at *
                  generalize vs' 4 = y504 at *
                  generalize vs' 5 = y505 at *
                  generalize vs' 6 = y506 at *
                  generalize vs' 7 = y507 at *
                  generalize vs' 8 = y508 at *
                  generalize vs' 9 = y509 at *
                  generalize vs' 10 = y510 at *
                  generalize vs' 11 = y511 at *
                  generalize vs' 12 = y512 at *
                  generalize vs' 13 = y513 at *
                  generalize vs' 14 = y514 at *
                  generalize vs' 15 = y515 at *
                  generalize vs' 16 = y516 at *
                  generalize vs' 17 = y517 at *
                  generalize vs' 18 = y518 at *
                  generalize vs' 19 = y519 at *
                  generalize vs' 20 = y520 at *
                  generalize vs' 21 = y521 at *
                  generalize vs' 22 = y522 at *
                  generalize vs' 23 = y523 at *
                  generalize vs' 24 = y524 at *
                  generalize vs' 25 = y525 at *
                  generalize vs' 26 = y526 at *
                  generalize vs' 27 = y527 at *
                  subst hx150
                  go_wp2
                  go_roundw
                  case rel => exact ⟨m + 1, Y, F, v1', v2, (.slice none 0 0), false, 0, bad, by omega, by go_num, hRY, hpYm, hD30.fr0 hfJ, doc30.fr0 hfJ, (hsep.size zY).size hfJ.size, (Gz.thenN FY).thenN hfJ⟩
                  case measure => simp [intOf]; omega
              · have hk3b : (kd == 3) = false := by simpa using hk3
                by_cases hk4 : kd = 4
                · subst hk4
                  obtain ⟨E, HE⟩ : ∃ E, Hid ((if inR X.pages.length ak then (0 : Int) else 41) = E) := ⟨_, rfl⟩
                  obtain ⟨Y, HY⟩ : ∃ Y, Hid (X.spoil ak true = Y) := ⟨_, rfl⟩
                  obtain ⟨bz, Hbz⟩ : ∃ bz, Hid ((if inR X.pages.length ak then bad.set ak.toNat true else bad) = bz) := ⟨_, rfl⟩
                  obtain ⟨hy1, hy2, hy3, hy4⟩ := hRX.out.spoil ak true
                  rw [HY.out] at hy1 hy2 hy3 hy4
                  rw [Hbz.out] at hy4
                  replace hy1 : Hid _ := hy1
                  replace hy2 : Hid _ := hy2
                  replace hy3 : Hid _ := hy3
                  have hRY : Hid (RXD Y c l bz) := hy4
                  have hpYm : Hid (Y.pend.length ≤ m + 1) := by show _ ≤ _; rw [hy2.out]; have := hpl.out; omega
                  have hpY : Y.pend.length ≤ 100000 := by have := hpYm.out; omega
                  have hpgY : Y.pages.length ≤ 100000 := by rw [hy1.out]; exact hpg
                  obtain ⟨a3, c3, hv1, _⟩ := hdc.s1.opn
                  replace hv1 : Hid _ := hv1
                  obtain ⟨p, e2, Hrd⟩ : ∃ p e2, Hid (readP Y ak = (p, e2)) := ⟨_, _, rfl⟩
                  have hdr : Hid (readR Y.pages bz Y.pend ak = (p, e2)) := by show _ = _; rw [hRY.out.read, Hrd.out]
                  go_wp2_with (first
                    | (refine at_idx 34 _ _ rfl ?_; go_must (refine wpList_idxR rfl 34 _ _ rfl 43 Try.underlying34 4 act_size _ _ _ rfl (hA.fr0 hf) (by decide) _ _ m rfl rfl hlt ?_; rw [Hx.out]; intro ba oa hba hca))
                    | (with_reducible refine at_wpP ?_; refine at_ld 43 _ rfl ?_; go_must (refine wpList_load_mid rfl 43 _ rfl ba oa rfl (encA ⟨4, ak, by', kv, kp⟩) _ (range_of fun j v hj => hca j v hj) under_act rfl (act_sizeE _) ?_))
                    | (with_reducible refine at_wpP ?_; refine wpList_allocV rfl 43 rfl _ act_zero ?_; intro gx w4 hgx b4 f4 s4; have l4 := b4.lt)
                    | (with_reducible refine at_wpP ?_; refine at_st 43 _ _ rfl ?_; go_must (refine wpList_storeV rfl 43 _ _ rfl gx 0 rfl (encA ⟨4, ak, by', kv, kp⟩) rfl _ _ b4 (act_sizeE _) (encA_le _ _) hx1 ?_; intro w5 b5 f5; rw [putAt_all _ _ (encA_eq _ _)] at b5; have F45 : Fr noB wr w5 := (f4.thenT f5 (fun q hq e => (by unfold onB1 at e; omega))); have z45 := F45.size; have hD5 := hD.fr0 F45; have doc5 := hdc.fr0 F45; have sep5 := hsp.size z45; have G5 := hf.thenN F45; obtain ⟨q0, _⟩ := b5.cell 0 _ rfl; obtain ⟨q1, _⟩ := b5.cell 1 _ rfl; obtain ⟨q2, _⟩ := b5.cell 2 _ rfl; obtain ⟨q3, _⟩ := b5.cell 3 _ rfl; have hngx : ¬ F gx := (fun q => (by have := (hsp _ q).2.1; omega))))
                    | (go_at_call 11; go_must (refine (spoil_any gd ak hakr true _ hD5).mono ?_; rw [HE.out, HY.out]; rintro e w6 ⟨rfl, d6, f6⟩; have z6 := f6.size; have doc6 := doc5.prog sep5 f6; have sep6 := sep5.size z6; have bx6 := b5.fr f6 hngx; have G6 := G5.thenT f6 (fun q hq hq' => (by have := (hsp q hq').1; omega)); have hl6 := doc6.bx.lt; obtain ⟨c60, _⟩ := bx6.cell 0 _ rfl; obtain ⟨c61, _⟩ := bx6.cell 1 _ rfl; obtain ⟨c63, _⟩ := bx6.cell 3 _ rfl))
                    | (with_reducible refine at_wpP ?_; refine wpList_ldD rfl _ rfl g6 rfl _ _ _ _ _ _ doc6.bx ?_)
                    | (go_at_call 25; go_must (refine (rspoil_any v1 v2 v3 X.pages.length a3 c3 hv1.out hi3 bad c l X.down ak true _ doc6.s2 hRX.out.len hpg).mono ?_; rw [HE.out, Hbz.out]; rintro e w7 ⟨v2', rfl, t2, f7, nw2⟩; have z7 := f7.size; have hi2' := SlR.isSl t2))
                    | (with_reducible refine at_wpP ?_; refine at_st 39 _ _ rfl ?_; go_must (refine wpList_stD rfl _ _ rfl g6 rfl _ _ _ _ _ _ rfl _ (doc6.bx.fr0 f7) rfl hi1 hi2' hi3 ?_; intro w8 b8 f8; have z8 := f8.size; have sep7 := sep6.doc z7 (nwB.refl _ _ _) nw2 (nwB.refl _ _ _); have hsep := sep7.size z8; have hDz := (d6.fr0 f7).fr f8 sep7.ng; have bxz := (bx6.fr0 f7).fr f8 (fun e => (by unfold onB1 at e; omega)); have Gz := (G6.thenN f7).thenT f8 (fun q hq e => (by unfold onB1 at e; omega)); obtain ⟨cz1, _⟩ := bxz.cell 1 _ rfl; have hdoc : DocD w8 g6 v1 v2' v3 c l Y.down Y.pages bz Y.pend := (by rw [hy1.out, hy2.out, hy3.out]; exact DocD.put f8 b8 (doc6.s1.fr0 f7) t2 (doc6.s3.fr0 f7) ((nwB.refl _ _ _).n doc6.n1 hl6 z7) (nw2.n doc6.n2 hl6 z7) ((nwB.refl _ _ _).n doc6.n3 hl6 z7))))
                    | (go_at_call 10; go_must (refine (read_any gd ak hakr _ hDz hpY).mono ?_; rw [Hrd.out]; rintro e y1 ⟨rfl, fy1⟩; have zy1 := fy1.size; have hrl : Hid (p.length = 256) := (by have := readP_len hDz ak; rw [Hrd.out] at this; exact this)))
                    | (with_reducible refine at_wpP ?_; have qy4' := qy4; refine wpList_allocP rfl rfl ?_; intro gb y5 hgb by5 fy5 sy5; have ly5 := by5.lt; have qy5 := qy4.fr0 fy5)
                    | (with_reducible refine at_wpP ?_; refine wpList_allocP rfl rfl ?_; intro ga y2 hga by2 fy2 sy2; have ly2 := by2.lt)
                    | (with_reducible refine at_wpP ?_; refine at_st 25 _ _ rfl ?_; have qy5' := qy5; go_must (refine wpList_storeP rfl _ _ rfl gb rfl p rfl _ by5 hrl.out zeroP_len ?_; intro y6 by6 fy6; have qy6 := qy5.ne fy6 (by omega); have FY6 := ((FY3.thenN fy4).thenN fy5).thenT (S := noB) fy6 (fun q hq e => (by unfold onB1 at e; omega))))
                    | (with_reducible refine at_wpP ?_; refine at_st 25 _ _ rfl ?_; go_must (refine wpList_storeP rfl _ _ rfl ga rfl p rfl _ by2 hrl.out zeroP_len ?_; intro y3 qy3 fy3; have FY3 := (fy1.thenN fy2).thenT (S := noB) fy3 (fun q hq e => (by unfold onB1 at e; omega)); have zy3 := FY3.size; have bxy := bxz.fr0 FY3; obtain ⟨cy1, _⟩ := bxy.cell 1 _ rfl; have docy := hdoc.fr0 FY3))
                    | (with_reducible refine at_wpP ?_; refine wpList_ldD rfl _ rfl g6 rfl _ _ _ _ _ _ docy.bx ?_)
                    | (go_at_call 26; go_must (refine (rread_any _ _ _ Y.pages bz Y.pend _ _ _ ak _ docy.s1 docy.s2 docy.s3 hRY.out.len hpgY hpY).mono ?_; rw [hdr.out]; rintro e y4 ⟨rfl, fy4⟩; have zy4 := fy4.size; have qy4 := qy3.fr0 fy4; have ly4 := qy4.lt)))
                  have FY := FY6.drew
                  have doc30 := hdoc.fr0 FY
                  have hD30 := hDz.fr0 FY
                  have zY := FY.size
                  have qa : BxV y6.drew ga 25 (pgv p) := qy6
                  have qb : BxV y6.drew gb 25 (pgv p) := by6
                  obtain ⟨d5, _⟩ := doc30.bx.cell 5 _ rfl
                  obtain ⟨d2, _⟩ := doc30.bx.cell 2 _ rfl
                  refine wp_region_chain_lay (by kernel_rfl) [15, 20, 22, 25] [none, none, none, none, none, none, none, none, none, none, none, none, none, none, none, some 0, none, none, none, none, some 1, none, some 2, none, none, some 3, none, none]
                    [fun v => v = .int .i64 E, fun v => v = .int .i64 E, fun v => v = .bool false, fun v => v = .bool false, fun v => v = pgV p, fun v => v = pgV p, fun v => v = .bool false, fun v => v = .bool false, fun v => v = .bool false, fun v => v = .int .i64 e2, fun v => v = .int .i64 e2, fun v => v = .bool false, fun v => v = .bool false, fun v => v = .bool false, fun v => v = ptr gd, fun _ => True, fun v => v = .pointer (some ⟨g6, 5, none⟩), fun v => v = .bool Y.down, fun v => v = .bool false, fun v => v = .bool false, fun _ => True, fun v => v = ptr gd, fun _ => True, fun v => v = .pointer (some ⟨g6, 2, none⟩), fun v => v = v3, fun _ => True, fun v => v = .bool false, fun v => v = .bool false]
                    (JQ y6.drew Y.down Y.pend) (rfl) (by kernel_rfl) (by kernel_rfl) (by decide) ⟨?o0, ?o1, ?o2, ?o3, ?o4, ?o5, ?o6, ?o7, ?o8, ?o9, ?o10, ?o11, ?o12, ?o13, ?o14, ?o15, ?o16, ?o17, ?o18, ?o19, ?o20, ?o21, ?o22, ?o23, ?o24, ?o25, ?o26, ?o27, trivial⟩ ?oe
                  case o0 =>
                    intro A W hv hlen hJ hbase hdL hdH
                    have e9 : A.eval (.tmp 9) = .int .i64 E := hbase 9 (by kernel_rfl)
                    have f9 : A.tmps[9]?.getD undef = .int .i64 E := by simpa [Act.eval] using e9
                    exact light_val rfl (v := .int .i64 E) (by simp [execOp, e9, f9]) hJ rfl
                  case o1 =>
                    intro A W hv hlen hJ hbase hdL hdH
                    have e10 : A.eval (.tmp 10) = .int .i64 E := hbase 10 (by kernel_rfl)
                    have f10 : A.tmps[10]?.getD undef = .int .i64 E := by simpa [Act.eval] using e10
                    exact light_val rfl (v := .int .i64 E) (by simp [execOp, e10, f10]) hJ rfl
                  case o2 =>
                    intro A W hv hlen hJ hbase hdL hdH
                    have e123 : A.eval (.tmp 123) = .int .i64 E := hdL 0 123 (by kernel_rfl) (by kernel_rfl) (by kernel_rfl)
                    have f123 : A.tmps[123]?.getD undef = .int .i64 E := by simpa [Act.eval] using e123
                    have e124 : A.eval (.tmp 124) = .int .i64 E := hdL 1 124 (by kernel_rfl) (by kernel_rfl) (by kernel_rfl)
                    have f124 : A.tmps[124]?.getD undef = .int .i64 E := by simpa [Act.eval] using e124
                    exact light_val rfl (v := .bool false) (by simp [execOp, go_sem, e123, f123, e124, f124]) hJ rfl
                  case o3 =>
                    intro A W hv hlen hJ hbase hdL hdH
                    have e125 : A.eval (.tmp 125) = .bool false := hdL 2 125 (by kernel_rfl) (by kernel_rfl) (by kernel_rfl)
                    have f125 : A.tmps[125]?.getD undef = .bool false := by simpa [Act.eval] using e125
                    exact light_val rfl (v := .bool false) (by simp [execOp, e125, f125]) hJ rfl
                  case o4 =>
                    intro A W hv hlen hJ hbase hdL hdH
                    have e11 : A.eval (.tmp 11) = .pointer (some ⟨ga, 0, none⟩) := hbase 11 (by kernel_rfl)
                    have f11 : A.tmps[11]?.getD undef = .pointer (some ⟨ga, 0, none⟩) := by simpa [Act.eval] using e11
                    have eg : A.eval (.tmp 126) = .bool false := hdL 3 126 (by kernel_rfl) (by kernel_rfl) (by kernel_rfl)
                    have hB := qa.fr0 (JQ.fr hJ)
                    have hr := run_loadP W ga 0 p (hB.range 0 (pgv p) (by show (pgv p).take (pgv p).length = pgv p; exact List.take_length)) hrl.out
                    exact light_val (wanted_of rfl (by kernel_rfl) eg) (v := pgV p) (by simp [execOp, e11, hr, Result.andThen]) hJ rfl
                  case o5 =>
                    intro A W hv hlen hJ hbase hdL hdH
                    have e13 : A.eval (.tmp 13) = .pointer (some ⟨gb, 0, none⟩) := hbase 13 (by kernel_rfl)
                    have f13 : A.tmps[13]?.getD undef = .pointer (some ⟨gb, 0, none⟩) := by simpa [Act.eval] using e13
                    have eg : A.eval (.tmp 126) = .bool false := hdL 3 126 (by kernel_rfl) (by kernel_rfl) (by kernel_rfl)
                    have hB := qb.fr0 (JQ.fr hJ)
                    have hr := run_loadP W gb 0 p (hB.range 0 (pgv p) (by show (pgv p).take (pgv p).length = pgv p; exact List.take_length)) hrl.out
                    exact light_val (wanted_of rfl (by kernel_rfl) eg) (v := pgV p) (by simp [execOp, e13, hr, Result.andThen]) hJ rfl
                  case o6 =>
                    intro A W hv hlen hJ hbase hdL hdH
                    have e127 : A.eval (.tmp 127) = pgV p := hdL 4 127 (by kernel_rfl) (by kernel_rfl) (by kernel_rfl)
                    have f127 : A.tmps[127]?.getD undef = pgV p := by simpa [Act.eval] using e127
                    have e128 : A.eval (.tmp 128) = pgV p := hdL 5 128 (by kernel_rfl) (by kernel_rfl) (by kernel_rfl)
                    have f128 : A.tmps[128]?.getD undef = pgV p := by simpa [Act.eval] using e128
                    have eg : A.eval (.tmp 126) = .bool false := hdL 3 126 (by kernel_rfl) (by kernel_rfl) (by kernel_rfl)
                    have hr := run_neq_page W p p hrl.out hrl.out
                    exact light_val (wanted_of rfl (by kernel_rfl) eg) (v := .bool false) (by simp [execOp, e127, e128, hr, eqg_neq, Result.andThen]) hJ rfl
                  case o7 =>
                    intro A W hv hlen hJ hbase hdL hdH
                    have e126 : A.eval (.tmp 126) = .bool false := hdL 3 126 (by kernel_rfl) (by kernel_rfl) (by kernel_rfl)
                    have f126 : A.tmps[126]?.getD undef = .bool false := by simpa [Act.eval] using e126
                    have e129 : A.eval (.tmp 129) = .bool false := hdL 6 129 (by kernel_rfl) (by kernel_rfl) (by kernel_rfl)
                    have f129 : A.tmps[129]?.getD undef = .bool false := by simpa [Act.eval] using e129
                    exact light_val rfl (v := .bool false) (by simp [execOp, go_sem, e126, f126, e129, f129]) hJ rfl
                  case o8 =>
                    intro A W hv hlen hJ hbase hdL hdH
                    have e130 : A.eval (.tmp 130) = .bool false := hdL 7 130 (by kernel_rfl) (by kernel_rfl) (by kernel_rfl)
                    have f130 : A.tmps[130]?.getD undef = .bool false := by simpa [Act.eval] using e130
                    exact light_val rfl (v := .bool false) (by simp [execOp, e130, f130]) hJ rfl
                  case o9 =>
                    intro A W hv hlen hJ hbase hdL hdH
                    have e12 : A.eval (.tmp 12) = .int .i64 e2 := hbase 12 (by kernel_rfl)
                    have f12 : A.tmps[12]?.getD undef = .int .i64 e2 := by simpa [Act.eval] using e12
                    have eg : A.eval (.tmp 131) = .bool false := hdL 8 131 (by kernel_rfl) (by kernel_rfl) (by kernel_rfl)
                    exact light_val (wanted_of rfl (by kernel_rfl) eg) (v := .int .i64 e2) (by simp [execOp, e12, f12]) hJ rfl
                  case o10 =>
                    intro A W hv hlen hJ hbase hdL hdH
                    have e14 : A.eval (.tmp 14) = .int .i64 e2 := hbase 14 (by kernel_rfl)
                    have f14 : A.tmps[14]?.getD undef = .int .i64 e2 := by simpa [Act.eval] using e14
                    have eg : A.eval (.tmp 131) = .bool false := hdL 8 131 (by kernel_rfl) (by kernel_rfl) (by kernel_rfl)
                    exact light_val (wanted_of rfl (by kernel_rfl) eg) (v := .int .i64 e2) (by simp [execOp, e14, f14]) hJ rfl
                  case o11 =>
                    intro A W hv hlen hJ hbase hdL hdH
                    have e132 : A.eval (.tmp 132) = .int .i64 e2 := hdL 9 132 (by kernel_rfl) (by kernel_rfl) (by kernel_rfl)
                    have f132 : A.tmps[132]?.getD undef = .int .i64 e2 := by simpa [Act.eval] using e132
                    have e133 : A.eval (.tmp 133) = .int .i64 e2 := hdL 10 133 (by kernel_rfl) (by kernel_rfl) (by kernel_rfl)
                    have f133 : A.tmps[133]?.getD undef = .int .i64 e2 := by simpa [Act.eval] using e133
                    have eg : A.eval (.tmp 131) = .bool false := hdL 8 131 (by kernel_rfl) (by kernel_rfl) (by kernel_rfl)
                    exact light_val (wanted_of rfl (by kernel_rfl) eg) (v := .bool false) (by simp [execOp, go_sem, e132, f132, e133, f133]) hJ rfl
                  case o12 =>
                    intro A W hv hlen hJ hbase hdL hdH
                    have e131 : A.eval (.tmp 131) = .bool false := hdL 8 131 (by kernel_rfl) (by kernel_rfl) (by kernel_rfl)
                    have f131 : A.tmps[131]?.getD undef = .bool false := by simpa [Act.eval] using e131
                    have e134 : A.eval (.tmp 134) = .bool false := hdL 11 134 (by kernel_rfl) (by kernel_rfl) (by kernel_rfl)
                    have f134 : A.tmps[134]?.getD undef = .bool false := by simpa [Act.eval] using e134
                    exact light_val rfl (v := .bool false) (by simp [execOp, go_sem, e131, f131, e134, f134]) hJ rfl
                  case o13 =>
                    intro A W hv hlen hJ hbase hdL hdH
                    have e135 : A.eval (.tmp 135) = .bool false := hdL 12 135 (by kernel_rfl) (by kernel_rfl) (by kernel_rfl)
                    have f135 : A.tmps[135]?.getD undef = .bool false := by simpa [Act.eval] using e135
                    exact light_val rfl (v := .bool false) (by simp [execOp, e135, f135]) hJ rfl
                  case o14 =>
                    intro A W hv hlen hJ hbase hdL hdH
                    have e5 : A.eval (.tmp 5) = ptr gd := hbase 5 (by kernel_rfl)
                    have f5 : A.tmps[5]?.getD undef = ptr gd := by simpa [Act.eval] using e5
                    have eg : A.eval (.tmp 136) = .bool false := hdL 13 136 (by kernel_rfl) (by kernel_rfl) (by kernel_rfl)
                    exact light_val (wanted_of rfl (by kernel_rfl) eg) (v := ptr gd) (by simp [execOp, e5, f5]) hJ rfl
                  case o15 =>
                    intro A W hv hlen hJ hbase hdL hdH
                    have e137 : A.eval (.tmp 137) = ptr gd := hdL 14 137 (by kernel_rfl) (by kernel_rfl) (by kernel_rfl)
                    have f137 : A.tmps[137]?.getD undef = ptr gd := by simpa [Act.eval] using e137
                    have eg : A.eval (.tmp 136) = .bool false := hdL 13 136 (by kernel_rfl) (by kernel_rfl) (by kernel_rfl)
                    obtain rfl : hv = [] := List.eq_nil_of_length_eq_zero hlen
                    cases hJ
                    refine heavy_call (wanted_of rfl (by kernel_rfl) eg) (args := #[ptr gd]) (f := 15) (by simp [execOp, resolve, invoke, go_sem, e137, f137]) ?_
                    refine (down_any gd _ hD30).mono ?_
                    rintro e w' ⟨rfl, rfl⟩
                    exact ⟨_, rfl, rfl, rfl⟩
                  case o16 =>
                    intro A W hv hlen hJ hbase hdL hdH
                    have e6 : A.eval (.tmp 6) = .pointer (some ⟨g6, 0, none⟩) := hbase 6 (by kernel_rfl)
                    have f6 : A.tmps[6]?.getD undef = .pointer (some ⟨g6, 0, none⟩) := by simpa [Act.eval] using e6
                    have eg : A.eval (.tmp 136) = .bool false := hdL 13 136 (by kernel_rfl) (by kernel_rfl) (by kernel_rfl)
                    exact light_val (wanted_of rfl (by kernel_rfl) eg) (v := .pointer (some ⟨g6, 5, none⟩)) (by simp [execOp, go_sem, e6, f6]) hJ rfl
                  case o17 =>
                    intro A W hv hlen hJ hbase hdL hdH
                    have e139 : A.eval (.tmp 139) = .pointer (some ⟨g6, 5, none⟩) := hdL 16 139 (by kernel_rfl) (by kernel_rfl) (by kernel_rfl)
                    have f139 : A.tmps[139]?.getD undef = .pointer (some ⟨g6, 5, none⟩) := by simpa [Act.eval] using e139
                    have eg : A.eval (.tmp 136) = .bool false := hdL 13 136 (by kernel_rfl) (by kernel_rfl) (by kernel_rfl)
                    have hcW := (JQ.fr hJ).cell d5 (fun q => q)
                    exact light_val (wanted_of rfl (by kernel_rfl) eg) (v := .bool Y.down) (by simp [execOp, go_sem, e139, f139, hcW]) hJ rfl
                  case o18 =>
                    intro A W hv hlen hJ hbase hdL hdH
                    have e140 : A.eval (.tmp 140) = .bool Y.down := hdL 17 140 (by kernel_rfl) (by kernel_rfl) (by kernel_rfl)
                    have f140 : A.tmps[140]?.getD undef = .bool Y.down := by simpa [Act.eval] using e140
                    have eg : A.eval (.tmp 136) = .bool false := hdL 13 136 (by kernel_rfl) (by kernel_rfl) (by kernel_rfl)
                    have v138 := hdH 15 138 0 (by kernel_rfl) rfl (by kernel_rfl)
                    have e138 : A.eval (.tmp 138) = .bool Y.down := JQ.fst hJ _ v138
                    have f138 : A.tmps[138]?.getD undef = .bool Y.down := by simpa [Act.eval] using e138
                    exact light_val (wanted_of rfl (by kernel_rfl) eg) (v := .bool false) (by simp [execOp, go_sem, e138, f138, e140, f140]) hJ rfl
                  case o19 =>
                    intro A W hv hlen hJ hbase hdL hdH
                    have e136 : A.eval (.tmp 136) = .bool false := hdL 13 136 (by kernel_rfl) (by kernel_rfl) (by kernel_rfl)
                    have f136 : A.tmps[136]?.getD undef = .bool false := by simpa [Act.eval] using e136
                    have e141 : A.eval (.tmp 141) = .bool false := hdL 18 141 (by kernel_rfl) (by kernel_rfl) (by kernel_rfl)
                    have f141 : A.tmps[141]?.getD undef = .bool false := by simpa [Act.eval] using e141
                    exact light_val rfl (v := .bool false) (by simp [execOp, go_sem, e136, f136, e141, f141]) hJ rfl
                  case o20 =>
                    intro A W hv hlen hJ hbase hdL hdH
                    have e142 : A.eval (.tmp 142) = .bool false := hdL 19 142 (by kernel_rfl) (by kernel_rfl) (by kernel_rfl)
                    have f142 : A.tmps[142]?.getD undef = .bool false := by simpa [Act.eval] using e142
                    obtain ⟨v138, rfl⟩ := List.length_eq_one_iff.1 hlen
                    obtain ⟨rfl, rfl⟩ := hJ
                    exact heavy_val rfl (v := .bool false) (w' := y6.drew) (by simp [execOp, e142]) ⟨rfl, rfl, rfl⟩
                  case o21 =>
                    intro A W hv hlen hJ hbase hdL hdH
                    have e5 : A.eval (.tmp 5) = ptr gd := hbase 5 (by kernel_rfl)
                    have f5 : A.tmps[5]?.getD undef = ptr gd := by simpa [Act.eval] using e5
                    have v143 := hdH 20 143 1 (by kernel_rfl) rfl (by kernel_rfl)
                    have eg : A.eval (.tmp 143) = .bool false := JQ.snd hJ _ v143
                    exact light_val (wanted_of rfl (by kernel_rfl) eg) (v := ptr gd) (by simp [execOp, e5, f5]) hJ rfl
                  case o22 =>
                    intro A W hv hlen hJ hbase hdL hdH
                    have e144 : A.eval (.tmp 144) = ptr gd := hdL 21 144 (by kernel_rfl) (by kernel_rfl) (by kernel_rfl)
                    have f144 : A.tmps[144]?.getD undef = ptr gd := by simpa [Act.eval] using e144
                    have v143 := hdH 20 143 1 (by kernel_rfl) rfl (by kernel_rfl)
                    have eg : A.eval (.tmp 143) = .bool false := JQ.snd hJ _ v143
                    match hv, hlen with
                    | [v138, v143], _ =>
                     obtain ⟨rfl, rfl, rfl⟩ := hJ
                     refine heavy_call (wanted_of rfl (by kernel_rfl) eg) (args := #[ptr gd]) (f := 28) (by simp [execOp, resolve, invoke, go_sem, e144, f144]) ?_
                     refine (pending_any gd _ hD30 hpY).mono ?_
                     rintro e w' ⟨v, rfl, o', f'⟩
                     exact ⟨_, rfl, rfl, rfl, o'.sl, f'⟩
                  case o23 =>
                    intro A W hv hlen hJ hbase hdL hdH
                    have e6 : A.eval (.tmp 6) = .pointer (some ⟨g6, 0, none⟩) := hbase 6 (by kernel_rfl)
                    have f6 : A.tmps[6]?.getD undef = .pointer (some ⟨g6, 0, none⟩) := by simpa [Act.eval] using e6
                    have v143 := hdH 20 143 1 (by kernel_rfl) rfl (by kernel_rfl)
                    have eg : A.eval (.tmp 143) = .bool false := JQ.snd hJ _ v143
                    exact light_val (wanted_of rfl (by kernel_rfl) eg) (v := .pointer (some ⟨g6, 2, none⟩)) (by simp [execOp, go_sem, e6, f6]) hJ rfl
                  case o24 =>
                    intro A W hv hlen hJ hbase hdL hdH
                    have e146 : A.eval (.tmp 146) = .pointer (some ⟨g6, 2, none⟩) := hdL 23 146 (by kernel_rfl) (by kernel_rfl) (by kernel_rfl)
                    have f146 : A.tmps[146]?.getD undef = .pointer (some ⟨g6, 2, none⟩) := by simpa [Act.eval] using e146
                    have v143 := hdH 20 143 1 (by kernel_rfl) rfl (by kernel_rfl)
                    have eg : A.eval (.tmp 143) = .bool false := JQ.snd hJ _ v143
                    have hcW := (JQ.fr hJ).cell d2 (fun q => q)
                    have hr := run_ld1 (P := Try.prog) (w := W) 37 79 Try.underlying37 g6 2 _ hcW
                    exact light_val (wanted_of rfl (by kernel_rfl) eg) (v := v3) (by simp [execOp, e146, hr, Result.andThen]) hJ rfl
                  case o25 =>
                    intro A W hv hlen hJ hbase hdL hdH
                    have e147 : A.eval (.tmp 147) = v3 := hdL 24 147 (by kernel_rfl) (by kernel_rfl) (by kernel_rfl)
                    have f147 : A.tmps[147]?.getD undef = v3 := by simpa [Act.eval] using e147
                    have v143 := hdH 20 143 1 (by kernel_rfl) rfl (by kernel_rfl)
                    have eg : A.eval (.tmp 143) = .bool false := JQ.snd hJ _ v143
                    match hv, hlen with
                    | [x0, x1, u], _ =>
                      obtain ⟨rfl, rfl, hu, hfu⟩ := hJ
                      have e145 : A.eval (.tmp 145) = u := by have := hdH 22 145 2 (by kernel_rfl) rfl (by kernel_rfl); simpa using this.symm
                      have f145 : A.tmps[145]?.getD undef = u := by simpa [Act.eval] using e145
                      refine heavy_call (wanted_of rfl (by kernel_rfl) eg) (args := #[u, v3]) (f := 27) (by simp [execOp, resolve, invoke, go_sem, e145, f145, e147, f147]) ?_
                      refine (same_any u _ Y.pend W hu (doc30.s3.fr0 hfu) hpY).mono ?_
                      rintro e w' ⟨rfl, f'⟩
                      exact ⟨_, rfl, rfl, rfl, rfl, hfu.thenN f'⟩
                  case o26 =>
                    intro A W hv hlen hJ hbase hdL hdH
                    have v143 := hdH 20 143 1 (by kernel_rfl) rfl (by kernel_rfl)
                    have eg : A.eval (.tmp 143) = .bool false := JQ.snd hJ _ v143
                    have v148 := hdH 25 148 3 (by kernel_rfl) rfl (by kernel_rfl)
                    have e148 : A.eval (.tmp 148) = .bool true := JQ.frt hJ _ v148
                    have f148 : A.tmps[148]?.getD undef = .bool true := by simpa [Act.eval] using e148
                    exact light_val (wanted_of rfl (by kernel_rfl) eg) (v := .bool false) (by simp [execOp, go_sem, e148, f148]) hJ rfl
                  case o27 =>
                    intro A W hv hlen hJ hbase hdL hdH
                    have e149 : A.eval (.tmp 149) = .bool false := hdL 26 149 (by kernel_rfl) (by kernel_rfl) (by kernel_rfl)
                    have f149 : A.tmps[149]?.getD undef = .bool false := by simpa [Act.eval] using e149
                    have v143 := hdH 20 143 1 (by kernel_rfl) rfl (by kernel_rfl)
                    have e143 : A.eval (.tmp 143) = .bool false := JQ.snd hJ _ v143
                    have f143 : A.tmps[143]?.getD undef = .bool false := by simpa [Act.eval] using e143
                    exact light_val rfl (v := .bool false) (by simp [execOp, go_sem, e143, f143, e149, f149]) hJ rfl
                  case oe =>
                    intro vs' W' hv hlen hJ hL hH
                    have hx150 : vs' 27 = .bool false := hL 27 (by rfl) (by rfl)
                    have hfJ := JQ.fr hJ
                    clear hJ
                    simp only [layL, Nat.reduceAdd, Act.put, List.setIfInBounds_toArray, List.set_cons_zero, List.set_cons_succ]
                    clear hL hH
                    generalize vs' 0 = y500 at *
                    generalize vs' 1 = y501 at *
                    generalize vs' 2 = y502 at *
                    generalize vs' 3 = y503 at *
                    generalize vs' 4 = y504 at *
                    generalize vs' 5 = y505 at *
                    generalize vs' 6 = y506 at *
                    generalize vs' 7 = y507 at *
                    generalize vs' 8 = y508 at *
                    generalize vs' 9 = y509 at *
                    generalize vs' 10 = y510 at *
                    generalize vs' 11 = y511 at *
                    generalize vs' 12 = y512 at *
                    generalize vs' 13 = y513 at *
                    generalize vs' 14 = y514 at *
                    generalize vs' 15 = y515 at *
                    generalize vs' 16 = y516 at *
                    generalize vs' 17 = y517 at *
                    generalize vs' 18 = y518 at *
                    generalize vs' 19 = y519 at *
                    generalize vs' 20 = y520 at *
                    generalize vs' 21 = y521 at *
                    generalize vs' 22 = y522 at *
                    generalize vs' 23 = y523 at *
                    generalize vs' 24 = y524 at *
                    generalize vs' 25 = y525 at *
                    generalize vs' 26 = y526 at *
                    generalize vs' 27 = y527 at *
                    subst hx150
                    go_wp2
                    go_roundw
                    case rel => exact ⟨m + 1, Y, F, v1, v2', v3, c, l, bz, by omega, by go_num, hRY, hpYm, hD30.fr0 hfJ, doc30.fr0 hfJ, (hsep.size zY).size hfJ.size, (Gz.thenN FY).thenN hfJ⟩
                    case measure => simp [intOf]; omega
                · have hk4b : (kd == 4) = false := by simpa using hk4
                  by_cases hk5 : kd = 5
                  · subst hk5
                    obtain ⟨E, HE⟩ : ∃ E, Hid ((if inR X.pages.length ak then (0 : Int) else 41) = E) := ⟨_, rfl⟩
                    obtain ⟨Y, HY⟩ : ∃ Y, Hid (X.spoil ak false = Y) := ⟨_, rfl⟩
                    obtain ⟨bz, Hbz⟩ : ∃ bz, Hid ((if inR X.pages.length ak then bad.set ak.toNat false else bad) = bz) := ⟨_, rfl⟩
                    obtain ⟨hy1, hy2, hy3, hy4⟩ := hRX.out.spoil ak false
                    rw [HY.out] at hy1 hy2 hy3 hy4
                    rw [Hbz.out] at hy4
                    replace hy1 : Hid _ := hy1
                    replace hy2 : Hid _ := hy2
                    replace hy3 : Hid _ := hy3
                    have hRY : Hid (RXD Y c l bz) := hy4
                    have hpYm : Hid (Y.pend.length ≤ m + 1) := by show _ ≤ _; rw [hy2.out]; have := hpl.out; omega
                    have hpY : Y.pend.length ≤ 100000 := by have := hpYm.out; omega
                    have hpgY : Y.pages.length ≤ 100000 := by rw [hy1.out]; exact hpg
                    obtain ⟨a3, c3, hv1, _⟩ := hdc.s1.opn
                    replace hv1 : Hid _ := hv1
                    obtain ⟨p, e2, Hrd⟩ : ∃ p e2, Hid (readP Y ak = (p, e2)) := ⟨_, _, rfl⟩
                    have hdr : Hid (readR Y.pages bz Y.pend ak = (p, e2)) := by show _ = _; rw [hRY.out.read, Hrd.out]
                    go_wp2_with (first
                      | (refine at_idx 34 _ _ rfl ?_; go_must (refine wpList_idxR rfl 34 _ _ rfl 43 Try.underlying34 4 act_size _ _ _ rfl (hA.fr0 hf) (by decide) _ _ m rfl rfl hlt ?_; rw [Hx.out]; intro ba oa hba hca))
                      | (with_reducible refine at_wpP ?_; refine at_ld 43 _ rfl ?_; go_must (refine wpList_load_mid rfl 43 _ rfl ba oa rfl (encA ⟨5, ak, by', kv, kp⟩) _ (range_of fun j v hj => hca j v hj) under_act rfl (act_sizeE _) ?_))
                      | (with_reducible refine at_wpP ?_; refine wpList_allocV rfl 43 rfl _ act_zero ?_; intro gx w4 hgx b4 f4 s4; have l4 := b4.lt)
                      | (with_reducible refine at_wpP ?_; refine at_st 43 _ _ rfl ?_; go_must (refine wpList_storeV rfl 43 _ _ rfl gx 0 rfl (encA ⟨5, ak, by', kv, kp⟩) rfl _ _ b4 (act_sizeE _) (encA_le _ _) hx1 ?_; intro w5 b5 f5; rw [putAt_all _ _ (encA_eq _ _)] at b5; have F45 : Fr noB wr w5 := (f4.thenT f5 (fun q hq e => (by unfold onB1 at e; omega))); have z45 := F45.size; have hD5 := hD.fr0 F45; have doc5 := hdc.fr0 F45; have sep5 := hsp.size z45; have G5 := hf.thenN F45; obtain ⟨q0, _⟩ := b5.cell 0 _ rfl; obtain ⟨q1, _⟩ := b5.cell 1 _ rfl; obtain ⟨q2, _⟩ := b5.cell 2 _ rfl; obtain ⟨q3, _⟩ := b5.cell 3 _ rfl; have hngx : ¬ F gx := (fun q => (by have := (hsp _ q).2.1; omega))))
                      | (go_at_call 11; go_must (refine (spoil_any gd ak hakr false _ hD5).mono ?_; rw [HE.out, HY.out]; rintro e w6 ⟨rfl, d6, f6⟩; have z6 := f6.size; have doc6 := doc5.prog sep5 f6; have sep6 := sep5.size z6; have bx6 := b5.fr f6 hngx; have G6 := G5.thenT f6 (fun q hq hq' => (by have := (hsp q hq').1; omega)); have hl6 := doc6.bx.lt; obtain ⟨c60, _⟩ := bx6.cell 0 _ rfl; obtain ⟨c61, _⟩ := bx6.cell 1 _ rfl; obtain ⟨c63, _⟩ := bx6.cell 3 _ rfl))
                      | (with_reducible refine at_wpP ?_; refine wpList_ldD rfl _ rfl g6 rfl _ _ _ _ _ _ doc6.bx ?_)
                      | (go_at_call 25; go_must (refine (rspoil_any v1 v2 v3 X.pages.length a3 c3 hv1.out hi3 bad c l X.down ak false _ doc6.s2 hRX.out.len hpg).mono ?_; rw [HE.out, Hbz.out]; rintro e w7 ⟨v2', rfl, t2, f7, nw2⟩; have z7 := f7.size; have hi2' := SlR.isSl t2))
                      | (with_reducible refine at_wpP ?_; refine at_st 39 _ _ rfl ?_; go_must (refine wpList_stD rfl _ _ rfl g6 rfl _ _ _ _ _ _ rfl _ (doc6.bx.fr0 f7) rfl hi1 hi2' hi3 ?_; intro w8 b8 f8; have z8 := f8.size; have sep7 := sep6.doc z7 (nwB.refl _ _ _) nw2 (nwB.refl _ _ _); have hsep := sep7.size z8; have hDz := (d6.fr0 f7).fr f8 sep7.ng; have bxz := (bx6.fr0 f7).fr f8 (fun e => (by unfold onB1 at e; omega)); have Gz := (G6.thenN f7).thenT f8 (fun q hq e => (by unfold onB1 at e; omega)); obtain ⟨cz1, _⟩ := bxz.cell 1 _ rfl; have hdoc : DocD w8 g6 v1 v2' v3 c l Y.down Y.pages bz Y.pend := (by rw [hy1.out, hy2.out, hy3.out]; exact DocD.put f8 b8 (doc6.s1.fr0 f7) t2 (doc6.s3.fr0 f7) ((nwB.refl _ _ _).n doc6.n1 hl6 z7) (nw2.n doc6.n2 hl6 z7) ((nwB.refl _ _ _).n doc6.n3 hl6 z7))))
                      | (go_at_call 10; go_must (refine (read_any gd ak hakr _ hDz hpY).mono ?_; rw [Hrd.out]; rintro e y1 ⟨rfl, fy1⟩; have zy1 := fy1.size; have hrl : Hid (p.length = 256) := (by have := readP_len hDz ak; rw [Hrd.out] at this; exact this)))
                      | (with_reducible refine at_wpP ?_; have qy4' := qy4; refine wpList_allocP rfl rfl ?_; intro gb y5 hgb by5 fy5 sy5; have ly5 := by5.lt; have qy5 := qy4.fr0 fy5)
                      | (with_reducible refine at_wpP ?_; refine wpList_allocP rfl rfl ?_; intro ga y2 hga by2 fy2 sy2; have ly2 := by2.lt)
                      | (with_reducible refine at_wpP ?_; refine at_st 25 _ _ rfl ?_; have qy5' := qy5; go_must (refine wpList_storeP rfl _ _ rfl gb rfl p rfl _ by5 hrl.out zeroP_len ?_; intro y6 by6 fy6; have qy6 := qy5.ne fy6 (by omega); have FY6 := ((FY3.thenN fy4).thenN fy5).thenT (S := noB) fy6 (fun q hq e => (by unfold onB1 at e; omega))))
                      | (with_reducible refine at_wpP ?_; refine at_st 25 _ _ rfl ?_; go_must (refine wpList_storeP rfl _ _ rfl ga rfl p rfl _ by2 hrl.out zeroP_len ?_; intro y3 qy3 fy3; have FY3 := (fy1.thenN fy2).thenT (S := noB) fy3 (fun q hq e => (by unfold onB1 at e; omega)); have zy3 := FY3.size; have bxy := bxz.fr0 FY3; obtain ⟨cy1, _⟩ := bxy.cell 1 _ rfl; have docy := hdoc.fr0 FY3))
                      | (with_reducible refine at_wpP ?_; refine wpList_ldD rfl _ rfl g6 rfl _ _ _ _ _ _ docy.bx ?_)
                      | (go_at_call 26; go_must (refine (rread_any _ _ _ Y.pages bz Y.pend _ _ _ ak _ docy.s1 docy.s2 docy.s3 hRY.out.len hpgY hpY).mono ?_; rw [hdr.out]; rintro e y4 ⟨rfl, fy4⟩; have zy4 := fy4.size; have qy4 := qy3.fr0 fy4; have ly4 := qy4.lt)))
                    have FY := FY6.drew
                    have doc30 := hdoc.fr0 FY
                    have hD30 := hDz.fr0 FY
                    have zY := FY.size
                    have qa : BxV y6.drew ga 25 (pgv p) := qy6
                    have qb : BxV y6.drew gb 25 (pgv p) := by6
                    obtain ⟨d5, _⟩ := doc30.bx.cell 5 _ rfl
                    obtain ⟨d2, _⟩ := doc30.bx.cell 2 _ rfl
                    refine wp_region_chain_lay (by kernel_rfl) [15, 20, 22, 25] [none, none, none, none, none, none, none, none, none, none, none, none, none, none, none, some 0, none, none, none, none, some 1, none, some 2, none, none, some 3, none, none]
                      [fun v => v = .int .i64 E, fun v => v = .int .i64 E, fun v => v = .bool false, fun v => v = .bool false, fun v => v = pgV p, fun v => v = pgV p, fun v => v = .bool false, fun v => v = .bool false, fun v => v = .bool false, fun v => v = .int .i64 e2, fun v => v = .int .i64 e2, fun v => v = .bool false, fun v => v = .bool false, fun v => v = .bool false, fun v => v = ptr gd, fun _ => True, fun v => v = .pointer (some ⟨g6, 5, none⟩), fun v => v = .bool Y.down, fun v => v = .bool false, fun v => v = .bool false, fun _ => True, fun v => v = ptr gd, fun _ => True, fun v => v = .pointer (some ⟨g6, 2, none⟩), fun v => v = v3, fun _ => True, fun v => v = .bool false, fun v => v = .bool false]
                      (JQ y6.drew Y.down Y.pend) (rfl) (by kernel_rfl) (by kernel_rfl) (by decide) ⟨?o0, ?o1, ?o2, ?o3, ?o4, ?o5, ?o6, ?o7, ?o8, ?o9, ?o10, ?o11, ?o12, ?o13, ?o14, ?o15, ?o16, ?o17, ?o18, ?o19, ?o20, ?o21, ?o22, ?o23, ?o24, ?o25, ?o26, ?o27, trivial⟩ ?oe
                    case o0 =>
                      intro A W hv hlen hJ hbase hdL hdH
                      have e9 : A.eval (.tmp 9) = .int .i64 E := hbase 9 (by kernel_rfl)
                      have f9 : A.tmps[9]?.getD undef = .int .i64 E := by simpa [Act.eval] using e9
                      exact light_val rfl (v := .int .i64 E) (by simp [execOp, e9, f9]) hJ rfl
                    case o1 =>
                      intro A W hv hlen hJ hbase hdL hdH
                      have e10 : A.eval (.tmp 10) = .int .i64 E := hbase 10 (by kernel_rfl)
                      have f10 : A.tmps[10]?.getD undef = .int .i64 E := by simpa [Act.eval] using e10
                      exact light_val rfl (v := .int .i64 E) (by simp [execOp, e10, f10]) hJ rfl
                    case o2 =>
                      intro A W hv hlen hJ hbase hdL hdH
                      have e123 : A.eval (.tmp 123) = .int .i64 E := hdL 0 123 (by kernel_rfl) (by kernel_rfl) (by kernel_rfl)
                      have f123 : A.tmps[123]?.getD undef = .int .i64 E := by simpa [Act.eval] using e123
                      have e124 : A.eval (.tmp 124) = .int .i64 E := hdL 1 124 (by kernel_rfl) (by kernel_rfl) (by kernel_rfl)
                      have f124 : A.tmps[124]?.getD undef = .int .i64 E := by simpa [Act.eval] using e124
                      exact light_val rfl (v := .bool false) (by simp [execOp, go_sem, e123, f123, e124, f124]) hJ rfl
                    case o3 =>
                      intro A W hv hlen hJ hbase hdL hdH
                      have e125 : A.eval (.tmp 125) = .bool false := hdL 2 125 (by kernel_rfl) (by kernel_rfl) (by kernel_rfl)
                      have f125 : A.tmps[125]?.getD undef = .bool false := by simpa [Act.eval] using e125
                      exact light_val rfl (v := .bool false) (by simp [execOp, e125, f125]) hJ rfl
                    case o4 =>
                      intro A W hv hlen hJ hbase hdL hdH
                      have e11 : A.eval (.tmp 11) = .pointer (some ⟨ga, 0, none⟩) := hbase 11 (by kernel_rfl)
                      have f11 : A.tmps[11]?.getD undef = .pointer (some ⟨ga, 0, none⟩) := by simpa [Act.eval] using e11
                      have eg : A.eval (.tmp 126) = .bool false := hdL 3 126 (by kernel_rfl) (by kernel_rfl) (by kernel_rfl)
                      have hB := qa.fr0 (JQ.fr hJ)
                      have hr := run_loadP W ga 0 p (hB.range 0 (pgv p) (by show (pgv p).take (pgv p).length = pgv p; exact List.take_length)) hrl.out
                      exact light_val (wanted_of rfl (by kernel_rfl) eg) (v := pgV p) (by simp [execOp, e11, hr, Result.andThen]) hJ rfl
                    case o5 =>
                      intro A W hv hlen hJ hbase hdL hdH
                      have e13 : A.eval (.tmp 13) = .pointer (some ⟨gb, 0, none⟩) := hbase 13 (by kernel_rfl)
                      have f13 : A.tmps[13]?.getD undef = .pointer (some ⟨gb, 0, none⟩) := by simpa [Act.eval] using e13
                      have eg : A.eval (.tmp 126) = .bool false := hdL 3 126 (by kernel_rfl) (by kernel_rfl) (by kernel_rfl)
                      have hB := qb.fr0 (JQ.fr hJ)
                      have hr := run_loadP W gb 0 p (hB.range 0 (pgv p) (by show (pgv p).take (pgv p).length = pgv p; exact List.take_length)) hrl.out
                      exact light_val (wanted_of rfl (by kernel_rfl) eg) (v := pgV p) (by simp [execOp, e13, hr, Result.andThen]) hJ rfl
                    case o6 =>
                      intro A W hv hlen hJ hbase hdL hdH
                      have e127 : A.eval (.tmp 127) = pgV p := hdL 4 127 (by kernel_rfl) (by kernel_rfl) (by kernel_rfl)
                      have f127 : A.tmps[127]?.getD undef = pgV p := by simpa [Act.eval] using e127
                      have e128 : A.eval (.tmp 128) = pgV p := hdL 5 128 (by kernel_rfl) (by kernel_rfl) (by kernel_rfl)
                      have f128 : A.tmps[128]?.getD undef = pgV p := by simpa [Act.eval] using e128
                      have eg : A.eval (.tmp 126) = .bool false := hdL 3 126 (by kernel_rfl) (by kernel_rfl) (by kernel_rfl)
                      have hr := run_neq_page W p p hrl.out hrl.out
                      exact light_val (wanted_of rfl (by kernel_rfl) eg) (v := .bool false) (by simp [execOp, e127, e128, hr, eqg_neq, Result.andThen]) hJ rfl
                    case o7 =>
                      intro A W hv hlen hJ hbase hdL hdH
                      have e126 : A.eval (.tmp 126) = .bool false := hdL 3 126 (by kernel_rfl) (by kernel_rfl) (by kernel_rfl)
                      have f126 : A.tmps[126]?.getD undef = .bool false := by simpa [Act.eval] using e126
                      have e129 : A.eval (.tmp 129) = .bool false := hdL 6 129 (by kernel_rfl) (by kernel_rfl) (by kernel_rfl)
                      have f129 : A.tmps[129]?.getD undef = .bool false := by simpa [Act.eval] using e129
                      exact light_val rfl (v := .bool false) (by simp [execOp, go_sem, e126, f126, e129, f129]) hJ rfl
                    case o8 =>
                      intro A W hv hlen hJ hbase hdL hdH
                      have e130 : A.eval (.tmp 130) = .bool false := hdL 7 130 (by kernel_rfl) (by kernel_rfl) (by kernel_rfl)
                      have f130 : A.tmps[130]?.getD undef = .bool false := by simpa [Act.eval] using e130
                      exact light_val rfl (v := .bool false) (by simp [execOp, e130, f130]) hJ rfl
                    case o9 =>
                      intro A W hv hlen hJ hbase hdL hdH
                      have e12 : A.eval (.tmp 12) = .int .i64 e2 := hbase 12 (by kernel_rfl)
                      have f12 : A.tmps[12]?.getD undef = .int .i64 e2 := by simpa [Act.eval] using e12
                      have eg : A.eval (.tmp 131) = .bool false := hdL 8 131 (by kernel_rfl) (by kernel_rfl) (by kernel_rfl)
                      exact light_val (wanted_of rfl (by kernel_rfl) eg) (v := .int .i64 e2) (by simp [execOp, e12, f12]) hJ rfl
                    case o10 =>
                      intro A W hv hlen hJ hbase hdL hdH
                      have e14 : A.eval (.tmp 14) = .int .i64 e2 := hbase 14 (by kernel_rfl)
                      have f14 : A.tmps[14]?.getD undef = .int .i64 e2 := by simpa [Act.eval] using e14
                      have eg : A.eval (.tmp 131) = .bool false := hdL 8 131 (by kernel_rfl) (by kernel_rfl) (by kernel_rfl)
                      exact light_val (wanted_of rfl (by kernel_rfl) eg) (v := .int .i64 e2) (by simp [execOp, e14, f14]) hJ rfl
                    case o11 =>
                      intro A W hv hlen hJ hbase hdL hdH
                      have e132 : A.eval (.tmp 132) = .int .i64 e2 := hdL 9 132 (by kernel_rfl) (by kernel_rfl) (by kernel_rfl)
                      have f132 : A.tmps[132]?.getD undef = .int .i64 e2 := by simpa [Act.eval] using e132
                      have e133 : A.eval (.tmp 133) = .int .i64 e2 := hdL 10 133 (by kernel_rfl) (by kernel_rfl) (by kernel_rfl)
                      have f133 : A.tmps[133]?.getD undef = .int .i64 e2 := by simpa [Act.eval] using e133
                      have eg : A.eval (.tmp 131) = .bool false := hdL 8 131 (by kernel_rfl) (by kernel_rfl) (by kernel_rfl)
                      exact light_val (wanted_of rfl (by kernel_rfl) eg) (v := .bool false) (by simp [execOp, go_sem, e132, f132, e133, f133]) hJ rfl
                    case o12 =>
                      intro A W hv hlen hJ hbase hdL hdH
                      have e131 : A.eval (.tmp 131) = .bool false := hdL 8 131 (by kernel_rfl) (by kernel_rfl) (by kernel_rfl)
                      have f131 : A.tmps[131]?.getD undef = .bool false := by simpa [Act.eval] using e131
                      have e134 : A.eval (.tmp 134) = .bool false := hdL 11 134 (by kernel_rfl) (by kernel_rfl) (by kernel_rfl)
                      have f134 : A.tmps[134]?.getD undef = .bool false := by simpa [Act.eval] using e134
                      exact light_val rfl (v := .bool false) (by simp [execOp, go_sem, e131, f131, e134, f134]) hJ rfl
                    case o13 =>
                      intro A W hv hlen hJ hbase hdL hdH
                      have e135 : A.eval (.tmp 135) = .bool false := hdL 12 135 (by kernel_rfl) (by kernel_rfl) (by kernel_rfl)
                      have f135 : A.tmps[135]?.getD undef = .bool false := by simpa [Act.eval] using e135
                      exact light_val rfl (v := .bool false) (by simp [execOp, e135, f135]) hJ rfl
                    case o14 =>
                      intro A W hv hlen hJ hbase hdL hdH
                      have e5 : A.eval (.tmp 5) = ptr gd := hbase 5 (by kernel_rfl)
                      have f5 : A.tmps[5]?.getD undef = ptr gd := by simpa [Act.eval] using e5
                      have eg : A.eval (.tmp 136) = .bool false := hdL 13 136 (by kernel_rfl) (by kernel_rfl) (by kernel_rfl)
                      exact light_val (wanted_of rfl (by kernel_rfl) eg) (v := ptr gd) (by simp [execOp, e5, f5]) hJ rfl
                    case o15 =>
                      intro A W hv hlen hJ hbase hdL hdH
                      have e137 : A.eval (.tmp 137) = ptr gd := hdL 14 137 (by kernel_rfl) (by kernel_rfl) (by kernel_rfl)
                      have f137 : A.tmps[137]?.getD undef = ptr gd := by simpa [Act.eval] using e137
                      have eg : A.eval (.tmp 136) = .bool false := hdL 13 136 (by kernel_rfl) (by kernel_rfl) (by kernel_rfl)
                      obtain rfl : hv = [] := List.eq_nil_of_length_eq_zero hlen
                      cases hJ
                      refine heavy_call (wanted_of rfl (by kernel_rfl) eg) (args := #[ptr gd]) (f := 15) (by simp [execOp, resolve, invoke, go_sem, e137, f137]) ?_
                      refine (down_any gd _ hD30).mono ?_
                      rintro e w' ⟨rfl, rfl⟩
                      exact ⟨_, rfl, rfl, rfl⟩
                    case o16 =>
                      intro A W hv hlen hJ hbase hdL hdH
                      have e6 : A.eval (.tmp 6) = .pointer (some ⟨g6, 0, none⟩) := hbase 6 (by kernel_rfl)
                      have f6 : A.tmps[6]?.getD undef = .pointer (some ⟨g6, 0, none⟩) := by simpa [Act.eval] using e6
                      have eg : A.eval (.tmp 136) = .bool false := hdL 13 136 (by kernel_rfl) (by kernel_rfl) (by kernel_rfl)
                      exact light_val (wanted_of rfl (by kernel_rfl) eg) (v := .pointer (some ⟨g6, 5, none⟩)) (by simp [execOp, go_sem, e6, f6]) hJ rfl
                    case o17 =>
                      intro A W hv hlen hJ hbase hdL hdH
                      have e139 : A.eval (.tmp 139) = .pointer (some ⟨g6, 5, none⟩) := hdL 16 139 (by kernel_rfl) (by kernel_rfl) (by kernel_rfl)
                      have f139 : A.tmps[139]?.getD undef = .pointer (some ⟨g6, 5, none⟩) := by simpa [Act.eval] using e139
                      have eg : A.eval (.tmp 136) = .bool false := hdL 13 136 (by kernel_rfl) (by kernel_rfl) (by kernel_rfl)
                      have hcW := (JQ.fr hJ).cell d5 (fun q => q)
                      exact light_val (wanted_of rfl (by kernel_rfl) eg) (v := .bool Y.down) (by simp [execOp, go_sem, e139, f139, hcW]) hJ rfl
                    case o18 =>
                      intro A W hv hlen hJ hbase hdL hdH
                      have e140 : A.eval (.tmp 140) = .bool Y.down := hdL 17 140 (by kernel_rfl) (by kernel_rfl) (by kernel_rfl)
                      have f140 : A.tmps[140]?.getD undef = .bool Y.down := by simpa [Act.eval] using e140
                      have eg : A.eval (.tmp 136) = .bool false := hdL 13 136 (by kernel_rfl) (by kernel_rfl) (by kernel_rfl)
                      have v138 := hdH 15 138 0 (by kernel_rfl) rfl (by kernel_rfl)
                      have e138 : A.eval (.tmp 138) = .bool Y.down := JQ.fst hJ _ v138
                      have f138 : A.tmps[138]?.getD undef = .bool Y.down := by simpa [Act.eval] using e138
                      exact light_val (wanted_of rfl (by kernel_rfl) eg) (v := .bool false) (by simp [execOp, go_sem, e138, f138, e140, f140]) hJ rfl
                    case o19 =>
                      intro A W hv hlen hJ hbase hdL hdH
                      have e136 : A.eval (.tmp 136) = .bool false := hdL 13 136 (by kernel_rfl) (by kernel_rfl) (by kernel_rfl)
                      have f136 : A.tmps[136]?.getD undef = .bool false := by simpa [Act.eval] using e136
                      have e141 : A.eval (.tmp 141) = .bool false := hdL 18 141 (by kernel_rfl) (by kernel_rfl) (by kernel_rfl)
                      have f141 : A.tmps[141]?.getD undef = .bool false := by simpa [Act.eval] using e141
                      exact light_val rfl (v := .bool false) (by simp [execOp, go_sem, e136, f136, e141, f141]) hJ rfl
                    case o20 =>
                      intro A W hv hlen hJ hbase hdL hdH
                      have e142 : A.eval (.tmp 142) = .bool false := hdL 19 142 (by kernel_rfl) (by kernel_rfl) (by kernel_rfl)
                      have f142 : A.tmps[142]?.getD undef = .bool false := by simpa [Act.eval] using e142
                      obtain ⟨v138, rfl⟩ := List.length_eq_one_iff.1 hlen
                      obtain ⟨rfl, rfl⟩ := hJ
                      exact heavy_val rfl (v := .bool false) (w' := y6.drew) (by simp [execOp, e142]) ⟨rfl, rfl, rfl⟩
                    case o21 =>
                      intro A W hv hlen hJ hbase hdL hdH
                      have e5 : A.eval (.tmp 5) = ptr gd := hbase 5 (by kernel_rfl)
                      have f5 : A.tmps[5]?.getD undef = ptr gd := by simpa [Act.eval] using e5
                      have v143 := hdH 20 143 1 (by kernel_rfl) rfl (by kernel_rfl)
                      have eg : A.eval (.tmp 143) = .bool false := JQ.snd hJ _ v143
                      exact light_val (wanted_of rfl (by kernel_rfl) eg) (v := ptr gd) (by simp [execOp, e5, f5]) hJ rfl
                    case o22 =>
                      intro A W hv hlen hJ hbase hdL hdH
                      have e144 : A.eval (.tmp 144) = ptr gd := hdL 21 144 (by kernel_rfl) (by kernel_rfl) (by kernel_rfl)
                      have f144 : A.tmps[144]?.getD undef = ptr gd := by simpa [Act.eval] using e144
                      have v143 := hdH 20 143 1 (by kernel_rfl) rfl (by kernel_rfl)
                      have eg : A.eval (.tmp 143) = .bool false := JQ.snd hJ _ v143
                      match hv, hlen with
                      | [v138, v143], _ =>
                       obtain ⟨rfl, rfl, rfl⟩ := hJ
                       refine heavy_call (wanted_of rfl (by kernel_rfl) eg) (args := #[ptr gd]) (f := 28) (by simp [execOp, resolve, invoke, go_sem, e144, f144]) ?_
                       refine (pending_any gd _ hD30 hpY).mono ?_
                       rintro e w' ⟨v, rfl, o', f'⟩
                       exact ⟨_, rfl, rfl, rfl, o'.sl, f'⟩
                    case o23 =>
                      intro A W hv hlen hJ hbase hdL hdH
                      have e6 : A.eval (.tmp 6) = .pointer (some ⟨g6, 0, none⟩) := hbase 6 (by kernel_rfl)
                      have f6 : A.tmps[6]?.getD undef = .pointer (some ⟨g6, 0, none⟩) := by simpa [Act.eval] using e6
                      have v143 := hdH 20 143 1 (by kernel_rfl) rfl (by kernel_rfl)
                      have eg : A.eval (.tmp 143) = .bool false := JQ.snd hJ _ v143
                      exact light_val (wanted_of rfl (by kernel_rfl) eg) (v := .pointer (some ⟨g6, 2, none⟩)) (by simp [execOp, go_sem, e6, f6]) hJ rfl
                    case o24 =>
                      intro A W hv hlen hJ hbase hdL hdH
                      have e146 : A.eval (.tmp 146) = .pointer (some ⟨g6, 2, none⟩) := hdL 23 146 (by kernel_rfl) (by kernel_rfl) (by kernel_rfl)
                      have f146 : A.tmps[146]?.getD undef = .pointer (some ⟨g6, 2, none⟩) := by simpa [Act.eval] using e146
                      have v143 := hdH 20 143 1 (by kernel_rfl) rfl (by kernel_rfl)
                      have eg : A.eval (.tmp 143) = .bool false := JQ.snd hJ _ v143
                      have hcW := (JQ.fr hJ).cell d2 (fun q => q)
                      have hr := run_ld1 (P := Try.prog) (w := W) 37 79 Try.underlying37 g6 2 _ hcW
                      exact light_val (wanted_of rfl (by kernel_rfl) eg) (v := v3) (by simp [execOp, e146, hr, Result.andThen]) hJ rfl
                    case o25 =>
                      intro A W hv hlen hJ hbase hdL hdH
                      have e147 : A.eval (.tmp 147) = v3 := hdL 24 147 (by kernel_rfl) (by kernel_rfl) (by kernel_rfl)
                      have f147 : A.tmps[147]?.getD undef = v3 := by simpa [Act.eval] using e147
                      have v143 := hdH 20 143 1 (by kernel_rfl) rfl (by kernel_rfl)
                      have eg : A.eval (.tmp 143) = .bool false := JQ.snd hJ _ v143
                      match hv, hlen with
                      | [x0, x1, u], _ =>
                        obtain ⟨rfl, rfl, hu, hfu⟩ := hJ
                        have e145 : A.eval (.tmp 145) = u := by have := hdH 22 145 2 (by kernel_rfl) rfl (by kernel_rfl); simpa using this.symm
                        have f145 : A.tmps[145]?.getD undef = u := by simpa [Act.eval] using e145
                        refine heavy_call (wanted_of rfl (by kernel_rfl) eg) (args := #[u, v3]) (f := 27) (by simp [execOp, resolve, invoke, go_sem, e145, f145, e147, f147]) ?_
                        refine (same_any u _ Y.pend W hu (doc30.s3.fr0 hfu) hpY).mono ?_
                        rintro e w' ⟨rfl, f'⟩
                        exact ⟨_, rfl, rfl, rfl, rfl, hfu.thenN f'⟩
                    case o26 =>
                      intro A W hv hlen hJ hbase hdL hdH
                      have v143 := hdH 20 143 1 (by kernel_rfl) rfl (by kernel_rfl)
                      have eg : A.eval (.tmp 143) = .bool false := JQ.snd hJ _ v143
                      have v148 := hdH 25 148 3 (by kernel_rfl) rfl (by kernel_rfl)
                      have e148 : A.eval (.tmp 148) = .bool true := JQ.frt hJ _ v148
                      have f148 : A.tmps[148]?.getD undef = .bool true := by simpa [Act.eval] using e148
                      exact light_val (wanted_of rfl (by kernel_rfl) eg) (v := .bool false) (by simp [execOp, go_sem, e148, f148]) hJ rfl
                    case o27 =>
                      intro A W hv hlen hJ hbase hdL hdH
                      have e149 : A.eval (.tmp 149) = .bool false := hdL 26 149 (by kernel_rfl) (by kernel_rfl) (by kernel_rfl)
                      have f149 : A.tmps[149]?.getD undef = .bool false := by simpa [Act.eval] using e149
                      have v143 := hdH 20 143 1 (by kernel_rfl) rfl (by kernel_rfl)
                      have e143 : A.eval (.tmp 143) = .bool false := JQ.snd hJ _ v143
                      have f143 : A.tmps[143]?.getD undef = .bool false := by simpa [Act.eval] using e143
                      exact light_val rfl (v := .bool false) (by simp [execOp, go_sem, e143, f143, e149, f149]) hJ rfl
                    case oe =>
                      intro vs' W' hv hlen hJ hL hH
                      have hx150 : vs' 27 = .bool false := hL 27 (by rfl) (by rfl)
                      have hfJ := JQ.fr hJ
                      clear hJ
                      simp only [layL, Nat.reduceAdd, Act.put, List.setIfInBounds_toArray, List.set_cons_zero, List.set_cons_succ]
                      clear hL hH
                      generalize vs' 0 = y500 at *
                      generalize vs' 1 = y501 at *
                      generalize vs' 2 = y502 at *
                      generalize vs' 3 = y503 at *
                      generalize vs' 4 = y504 at *
                      generalize vs' 5 = y505 at *
                      generalize vs' 6 = y506 at *
                      generalize vs' 7 = y507 at *
                      generalize vs' 8 = y508 at *
                      generalize vs' 9 = y509 at *
                      generalize vs' 10 = y510 at *
                      generalize vs' 11 = y511 at *
                      generalize vs' 12 = y512 at *
                      generalize vs' 13 = y513 at *
                      generalize vs' 14 = y514 at *
                      generalize vs' 15 = y515 at *
                      generalize vs' 16 = y516 at *
                      generalize vs' 17 = y517 at *
                      generalize vs' 18 = y518 at *
                      generalize vs' 19 = y519 at *
                      generalize vs' 20 = y520 at *
                      generalize vs' 21 = y521 at *
                      generalize vs' 22 = y522 at *
                      generalize vs' 23 = y523 at *
                      generalize vs' 24 = y524 at *
                      generalize vs' 25 = y525 at *
                      generalize vs' 26 = y526 at *
                      generalize vs' 27 = y527 at *
                      subst hx150
                      go_wp2
                      go_roundw
                      case rel => exact ⟨m + 1, Y, F, v1, v2', v3, c, l, bz, by omega, by go_num, hRY, hpYm, hD30.fr0 hfJ, doc30.fr0 hfJ, (hsep.size zY).size hfJ.size, (Gz.thenN FY).thenN hfJ⟩
                      case measure => simp [intOf]; omega
                  · have hk5b : (kd == 5) = false := by simpa using hk5
                    have hRY := hRX
                    have hpY := hpm
                    have hpgY := hpg
                    have hpYm : Hid (X.pend.length ≤ m + 1) := by show _ ≤ _; have := hpl.out; omega
                    obtain ⟨p, e2, Hrd⟩ : ∃ p e2, Hid (readP X ak = (p, e2)) := ⟨_, _, rfl⟩
                    have hdr : Hid (readR X.pages bad X.pend ak = (p, e2)) := by show _ = _; rw [hRY.out.read, Hrd.out]
                    go_wp2_with (first
                      | (refine at_idx 34 _ _ rfl ?_; go_must (refine wpList_idxR rfl 34 _ _ rfl 43 Try.underlying34 4 act_size _ _ _ rfl (hA.fr0 hf) (by decide) _ _ m rfl rfl hlt ?_; rw [Hx.out]; intro ba oa hba hca))
                      | (with_reducible refine at_wpP ?_; refine at_ld 43 _ rfl ?_; go_must (refine wpList_load_mid rfl 43 _ rfl ba oa rfl (encA ⟨kd, ak, by', kv, kp⟩) _ (range_of fun j v hj => hca j v hj) under_act rfl (act_sizeE _) ?_))
                      | (with_reducible refine at_wpP ?_; refine wpList_allocV rfl 43 rfl _ act_zero ?_; intro gx w4 hgx b4 f4 s4; have l4 := b4.lt)
                      | (with_reducible refine at_wpP ?_; refine at_st 43 _ _ rfl ?_; go_must (refine wpList_storeV rfl 43 _ _ rfl gx 0 rfl (encA ⟨kd, ak, by', kv, kp⟩) rfl _ _ b4 (act_sizeE _) (encA_le _ _) hx1 ?_; intro w5 b5 f5; rw [putAt_all _ _ (encA_eq _ _)] at b5; have F45 : Fr noB wr w5 := (f4.thenT f5 (fun q hq e => (by unfold onB1 at e; omega))); have z45 := F45.size; have hD5 := hD.fr0 F45; have doc5 := hdc.fr0 F45; have sep5 := hsp.size z45; have G5 := hf.thenN F45; obtain ⟨q0, _⟩ := b5.cell 0 _ rfl; obtain ⟨q1, _⟩ := b5.cell 1 _ rfl; obtain ⟨q2, _⟩ := b5.cell 2 _ rfl; obtain ⟨q3, _⟩ := b5.cell 3 _ rfl; have hngx : ¬ F gx := (fun q => (by have := (hsp _ q).2.1; omega)); have hdoc := doc5; have hsep := sep5; have hDz := hD5; have bxz := b5; have Gz := G5; obtain ⟨cz1, _⟩ := b5.cell 1 _ rfl))
                      | (go_at_call 10; go_must (refine (read_any gd ak hakr _ hDz hpY).mono ?_; rw [Hrd.out]; rintro e y1 ⟨rfl, fy1⟩; have zy1 := fy1.size; have hrl : Hid (p.length = 256) := (by have := readP_len hDz ak; rw [Hrd.out] at this; exact this)))
                      | (with_reducible refine at_wpP ?_; have qy4' := qy4; refine wpList_allocP rfl rfl ?_; intro gb y5 hgb by5 fy5 sy5; have ly5 := by5.lt; have qy5 := qy4.fr0 fy5)
                      | (with_reducible refine at_wpP ?_; refine wpList_allocP rfl rfl ?_; intro ga y2 hga by2 fy2 sy2; have ly2 := by2.lt)
                      | (with_reducible refine at_wpP ?_; refine at_st 25 _ _ rfl ?_; have qy5' := qy5; go_must (refine wpList_storeP rfl _ _ rfl gb rfl p rfl _ by5 hrl.out zeroP_len ?_; intro y6 by6 fy6; have qy6 := qy5.ne fy6 (by omega); have FY6 := ((FY3.thenN fy4).thenN fy5).thenT (S := noB) fy6 (fun q hq e => (by unfold onB1 at e; omega))))
                      | (with_reducible refine at_wpP ?_; refine at_st 25 _ _ rfl ?_; go_must (refine wpList_storeP rfl _ _ rfl ga rfl p rfl _ by2 hrl.out zeroP_len ?_; intro y3 qy3 fy3; have FY3 := (fy1.thenN fy2).thenT (S := noB) fy3 (fun q hq e => (by unfold onB1 at e; omega)); have zy3 := FY3.size; have bxy := bxz.fr0 FY3; obtain ⟨cy1, _⟩ := bxy.cell 1 _ rfl; have docy := hdoc.fr0 FY3))
                      | (with_reducible refine at_wpP ?_; refine wpList_ldD rfl _ rfl g6 rfl _ _ _ _ _ _ docy.bx ?_)
                      | (go_at_call 26; go_must (refine (rread_any _ _ _ X.pages bad X.pend _ _ _ ak _ docy.s1 docy.s2 docy.s3 hRY.out.len hpgY hpY).mono ?_; rw [hdr.out]; rintro e y4 ⟨rfl, fy4⟩; have zy4 := fy4.size; have qy4 := qy3.fr0 fy4; have ly4 := qy4.lt)))
                    have FY := FY6.drew
                    have doc30 := hdoc.fr0 FY
                    have hD30 := hDz.fr0 FY
                    have zY := FY.size
                    have qa : BxV y6.drew ga 25 (pgv p) := qy6
                    have qb : BxV y6.drew gb 25 (pgv p) := by6
                    obtain ⟨d5, _⟩ := doc30.bx.cell 5 _ rfl
                    obtain ⟨d2, _⟩ := doc30.bx.cell 2 _ rfl
                    refine wp_region_chain_lay (by kernel_rfl) [15, 20, 22, 25] [none, none, none, none, none, none, none, none, none, none, none, none, none, none, none, some 0, none, none, none, none, some 1, none, some 2, none, none, some 3, none, none]
                      [fun v => v = .int .i64 0, fun v => v = .int .i64 0, fun v => v = .bool false, fun v => v = .bool false, fun v => v = pgV p, fun v => v = pgV p, fun v => v = .bool false, fun v => v = .bool false, fun v => v = .bool false, fun v => v = .int .i64 e2, fun v => v = .int .i64 e2, fun v => v = .bool false, fun v => v = .bool false, fun v => v = .bool false, fun v => v = ptr gd, fun _ => True, fun v => v = .pointer (some ⟨g6, 5, none⟩), fun v => v = .bool X.down, fun v => v = .bool false, fun v => v = .bool false, fun _ => True, fun v => v = ptr gd, fun _ => True, fun v => v = .pointer (some ⟨g6, 2, none⟩), fun v => v = v3, fun _ => True, fun v => v = .bool false, fun v => v = .bool false]
                      (JQ y6.drew X.down X.pend) (rfl) (by kernel_rfl) (by kernel_rfl) (by decide) ⟨?o0, ?o1, ?o2, ?o3, ?o4, ?o5, ?o6, ?o7, ?o8, ?o9, ?o10, ?o11, ?o12, ?o13, ?o14, ?o15, ?o16, ?o17, ?o18, ?o19, ?o20, ?o21, ?o22, ?o23, ?o24, ?o25, ?o26, ?o27, trivial⟩ ?oe
                    case o0 =>
                      intro A W hv hlen hJ hbase hdL hdH
                      have e9 : A.eval (.tmp 9) = .int .i64 0 := hbase 9 (by kernel_rfl)
                      have f9 : A.tmps[9]?.getD undef = .int .i64 0 := by simpa [Act.eval] using e9
                      exact light_val rfl (v := .int .i64 0) (by simp [execOp, e9, f9]) hJ rfl
                    case o1 =>
                      intro A W hv hlen hJ hbase hdL hdH
                      have e10 : A.eval (.tmp 10) = .int .i64 0 := hbase 10 (by kernel_rfl)
                      have f10 : A.tmps[10]?.getD undef = .int .i64 0 := by simpa [Act.eval] using e10
                      exact light_val rfl (v := .int .i64 0) (by simp [execOp, e10, f10]) hJ rfl
                    case o2 =>
                      intro A W hv hlen hJ hbase hdL hdH
                      have e123 : A.eval (.tmp 123) = .int .i64 0 := hdL 0 123 (by kernel_rfl) (by kernel_rfl) (by kernel_rfl)
                      have f123 : A.tmps[123]?.getD undef = .int .i64 0 := by simpa [Act.eval] using e123
                      have e124 : A.eval (.tmp 124) = .int .i64 0 := hdL 1 124 (by kernel_rfl) (by kernel_rfl) (by kernel_rfl)
                      have f124 : A.tmps[124]?.getD undef = .int .i64 0 := by simpa [Act.eval] using e124
                      exact light_val rfl (v := .bool false) (by simp [execOp, go_sem, e123, f123, e124, f124]) hJ rfl
                    case o3 =>
                      intro A W hv hlen hJ hbase hdL hdH
                      have e125 : A.eval (.tmp 125) = .bool false := hdL 2 125 (by kernel_rfl) (by kernel_rfl) (by kernel_rfl)
                      have f125 : A.tmps[125]?.getD undef = .bool false := by simpa [Act.eval] using e125
                      exact light_val rfl (v := .bool false) (by simp [execOp, e125, f125]) hJ rfl
                    case o4 =>
                      intro A W hv hlen hJ hbase hdL hdH
                      have e11 : A.eval (.tmp 11) = .pointer (some ⟨ga, 0, none⟩) := hbase 11 (by kernel_rfl)
                      have f11 : A.tmps[11]?.getD undef = .pointer (some ⟨ga, 0, none⟩) := by simpa [Act.eval] using e11
                      have eg : A.eval (.tmp 126) = .bool false := hdL 3 126 (by kernel_rfl) (by kernel_rfl) (by kernel_rfl)
                      have hB := qa.fr0 (JQ.fr hJ)
                      have hr := run_loadP W ga 0 p (hB.range 0 (pgv p) (by show (pgv p).take (pgv p).length = pgv p; exact List.take_length)) hrl.out
                      exact light_val (wanted_of rfl (by kernel_rfl) eg) (v := pgV p) (by simp [execOp, e11, hr, Result.andThen]) hJ rfl
                    case o5 =>
                      intro A W hv hlen hJ hbase hdL hdH
                      have e13 : A.eval (.tmp 13) = .pointer (some ⟨gb, 0, none⟩) := hbase 13 (by kernel_rfl)
                      have f13 : A.tmps[13]?.getD undef = .pointer (some ⟨gb, 0, none⟩) := by simpa [Act.eval] using e13
                      have eg : A.eval (.tmp 126) = .bool false := hdL 3 126 (by kernel_rfl) (by kernel_rfl) (by kernel_rfl)
                      have hB := qb.fr0 (JQ.fr hJ)
                      have hr := run_loadP W gb 0 p (hB.range 0 (pgv p) (by show (pgv p).take (pgv p).length = pgv p; exact List.take_length)) hrl.out
                      exact light_val (wanted_of rfl (by kernel_rfl) eg) (v := pgV p) (by simp [execOp, e13, hr, Result.andThen]) hJ rfl
                    case o6 =>
                      intro A W hv hlen hJ hbase hdL hdH
                      have e127 : A.eval (.tmp 127) = pgV p := hdL 4 127 (by kernel_rfl) (by kernel_rfl) (by kernel_rfl)
                      have f127 : A.tmps[127]?.getD undef = pgV p := by simpa [Act.eval] using e127
                      have e128 : A.eval (.tmp 128) = pgV p := hdL 5 128 (by kernel_rfl) (by kernel_rfl) (by kernel_rfl)
                      have f128 : A.tmps[128]?.getD undef = pgV p := by simpa [Act.eval] using e128
                      have eg : A.eval (.tmp 126) = .bool false := hdL 3 126 (by kernel_rfl) (by kernel_rfl) (by kernel_rfl)
                      have hr := run_neq_page W p p hrl.out hrl.out
                      exact light_val (wanted_of rfl (by kernel_rfl) eg) (v := .bool false) (by simp [execOp, e127, e128, hr, eqg_neq, Result.andThen]) hJ rfl
                    case o7 =>
                      intro A W hv hlen hJ hbase hdL hdH
                      have e126 : A.eval (.tmp 126) = .bool false := hdL 3 126 (by kernel_rfl) (by kernel_rfl) (by kernel_rfl)
                      have f126 : A.tmps[126]?.getD undef = .bool false := by simpa [Act.eval] using e126
                      have e129 : A.eval (.tmp 129) = .bool false := hdL 6 129 (by kernel_rfl) (by kernel_rfl) (by kernel_rfl)
                      have f129 : A.tmps[129]?.getD undef = .bool false := by simpa [Act.eval] using e129
                      exact light_val rfl (v := .bool false) (by simp [execOp, go_sem, e126, f126, e129, f129]) hJ rfl
                    case o8 =>
                      intro A W hv hlen hJ hbase hdL hdH
                      have e130 : A.eval (.tmp 130) = .bool false := hdL 7 130 (by kernel_rfl) (by kernel_rfl) (by kernel_rfl)
                      have f130 : A.tmps[130]?.getD undef = .bool false := by simpa [Act.eval] using e130
                      exact light_val rfl (v := .bool false) (by simp [execOp, e130, f130]) hJ rfl
                    case o9 =>
                      intro A W hv hlen hJ hbase hdL hdH
                      have e12 : A.eval (.tmp 12) = .int .i64 e2 := hbase 12 (by kernel_rfl)
                      have f12 : A.tmps[12]?.getD undef = .int .i64 e2 := by simpa [Act.eval] using e12
                      have eg : A.eval (.tmp 131) = .bool false := hdL 8 131 (by kernel_rfl) (by kernel_rfl) (by kernel_rfl)
                      exact light_val (wanted_of rfl (by kernel_rfl) eg) (v := .int .i64 e2) (by simp [execOp, e12, f12]) hJ rfl
                    case o10 =>
                      intro A W hv hlen hJ hbase hdL hdH
                      have e14 : A.eval (.tmp 14) = .int .i64 e2 := hbase 14 (by kernel_rfl)
                      have f14 : A.tmps[14]?.getD undef = .int .i64 e2 := by simpa [Act.eval] using e14
                      have eg : A.eval (.tmp 131) = .bool false := hdL 8 131 (by kernel_rfl) (by kernel_rfl) (by kernel_rfl)
                      exact light_val (wanted_of rfl (by kernel_rfl) eg) (v := .int .i64 e2) (by simp [execOp, e14, f14]) hJ rfl
                    case o11 =>
                      intro A W hv hlen hJ hbase hdL hdH
                      have e132 : A.eval (.tmp 132) = .int .i64 e2 := hdL 9 132 (by kernel_rfl) (by kernel_rfl) (by kernel_rfl)
                      have f132 : A.tmps[132]?.getD undef = .int .i64 e2 := by simpa [Act.eval] using e132
                      have e133 : A.eval (.tmp 133) = .int .i64 e2 := hdL 10 133 (by kernel_rfl) (by kernel_rfl) (by kernel_rfl)
                      have f133 : A.tmps[133]?.getD undef = .int .i64 e2 := by simpa [Act.eval] using e133
                      have eg : A.eval (.tmp 131) = .bool false := hdL 8 131 (by kernel_rfl) (by kernel_rfl) (by kernel_rfl)
                      exact light_val (wanted_of rfl (by kernel_rfl) eg) (v := .bool false) (by simp [execOp, go_sem, e132, f132, e133, f133]) hJ rfl
                    case o12 =>
                      intro A W hv hlen hJ hbase hdL hdH
                      have e131 : A.eval (.tmp 131) = .bool false := hdL 8 131 (by kernel_rfl) (by kernel_rfl) (by kernel_rfl)
                      have f131 : A.tmps[131]?.getD undef = .bool false := by simpa [Act.eval] using e131
                      have e134 : A.eval (.tmp 134) = .bool false := hdL 11 134 (by kernel_rfl) (by kernel_rfl) (by kernel_rfl)
                      have f134 : A.tmps[134]?.getD undef = .bool false := by simpa [Act.eval] using e134
                      exact light_val rfl (v := .bool false) (by simp [execOp, go_sem, e131, f131, e134, f134]) hJ rfl
                    case o13 =>
                      intro A W hv hlen hJ hbase hdL hdH
                      have e135 : A.eval (.tmp 135) = .bool false := hdL 12 135 (by kernel_rfl) (by kernel_rfl) (by kernel_rfl)
                      have f135 : A.tmps[135]?.getD undef = .bool false := by simpa [Act.eval] using e135
                      exact light_val rfl (v := .bool false) (by simp [execOp, e135, f135]) hJ rfl
                    case o14 =>
                      intro A W hv hlen hJ hbase hdL hdH
                      have e5 : A.eval (.tmp 5) = ptr gd := hbase 5 (by kernel_rfl)
                      have f5 : A.tmps[5]?.getD undef = ptr gd := by simpa [Act.eval] using e5
                      have eg : A.eval (.tmp 136) = .bool false := hdL 13 136 (by kernel_rfl) (by kernel_rfl) (by kernel_rfl)
                      exact light_val (wanted_of rfl (by kernel_rfl) eg) (v := ptr gd) (by simp [execOp, e5, f5]) hJ rfl
                    case o15 =>
                      intro A W hv hlen hJ hbase hdL hdH
                      have e137 : A.eval (.tmp 137) = ptr gd := hdL 14 137 (by kernel_rfl) (by kernel_rfl) (by kernel_rfl)
                      have f137 : A.tmps[137]?.getD undef = ptr gd := by simpa [Act.eval] using e137
                      have eg : A.eval (.tmp 136) = .bool false := hdL 13 136 (by kernel_rfl) (by kernel_rfl) (by kernel_rfl)
                      obtain rfl : hv = [] := List.eq_nil_of_length_eq_zero hlen
                      cases hJ
                      refine heavy_call (wanted_of rfl (by kernel_rfl) eg) (args := #[ptr gd]) (f := 15) (by simp [execOp, resolve, invoke, go_sem, e137, f137]) ?_
                      refine (down_any gd _ hD30).mono ?_
                      rintro e w' ⟨rfl, rfl⟩
                      exact ⟨_, rfl, rfl, rfl⟩
                    case o16 =>
                      intro A W hv hlen hJ hbase hdL hdH
                      have e6 : A.eval (.tmp 6) = .pointer (some ⟨g6, 0, none⟩) := hbase 6 (by kernel_rfl)
                      have f6 : A.tmps[6]?.getD undef = .pointer (some ⟨g6, 0, none⟩) := by simpa [Act.eval] using e6
                      have eg : A.eval (.tmp 136) = .bool false := hdL 13 136 (by kernel_rfl) (by kernel_rfl) (by kernel_rfl)
                      exact light_val (wanted_of rfl (by kernel_rfl) eg) (v := .pointer (some ⟨g6, 5, none⟩)) (by simp [execOp, go_sem, e6, f6]) hJ rfl
                    case o17 =>
                      intro A W hv hlen hJ hbase hdL hdH
                      have e139 : A.eval (.tmp 139) = .pointer (some ⟨g6, 5, none⟩) := hdL 16 139 (by kernel_rfl) (by kernel_rfl) (by kernel_rfl)
                      have f139 : A.tmps[139]?.getD undef = .pointer (some ⟨g6, 5, none⟩) := by simpa [Act.eval] using e139
                      have eg : A.eval (.tmp 136) = .bool false := hdL 13 136 (by kernel_rfl) (by kernel_rfl) (by kernel_rfl)
                      have hcW := (JQ.fr hJ).cell d5 (fun q => q)
                      exact light_val (wanted_of rfl (by kernel_rfl) eg) (v := .bool X.down) (by simp [execOp, go_sem, e139, f139, hcW]) hJ rfl
                    case o18 =>
                      intro A W hv hlen hJ hbase hdL hdH
                      have e140 : A.eval (.tmp 140) = .bool X.down := hdL 17 140 (by kernel_rfl) (by kernel_rfl) (by kernel_rfl)
                      have f140 : A.tmps[140]?.getD undef = .bool X.down := by simpa [Act.eval] using e140
                      have eg : A.eval (.tmp 136) = .bool false := hdL 13 136 (by kernel_rfl) (by kernel_rfl) (by kernel_rfl)
                      have v138 := hdH 15 138 0 (by kernel_rfl) rfl (by kernel_rfl)
                      have e138 : A.eval (.tmp 138) = .bool X.down := JQ.fst hJ _ v138
                      have f138 : A.tmps[138]?.getD undef = .bool X.down := by simpa [Act.eval] using e138
                      exact light_val (wanted_of rfl (by kernel_rfl) eg) (v := .bool false) (by simp [execOp, go_sem, e138, f138, e140, f140]) hJ rfl
                    case o19 =>
                      intro A W hv hlen hJ hbase hdL hdH
                      have e136 : A.eval (.tmp 136) = .bool false := hdL 13 136 (by kernel_rfl) (by kernel_rfl) (by kernel_rfl)
                      have f136 : A.tmps[136]?.getD undef = .bool false := by simpa [Act.eval] using e136
                      have e141 : A.eval (.tmp 141) = .bool false := hdL 18 141 (by kernel_rfl) (by kernel_rfl) (by kernel_rfl)
                      have f141 : A.tmps[141]?.getD undef = .bool false := by simpa [Act.eval] using e141
                      exact light_val rfl (v := .bool false) (by simp [execOp, go_sem, e136, f136, e141, f141]) hJ rfl
                    case o20 =>
                      intro A W hv hlen hJ hbase hdL hdH
                      have e142 : A.eval (.tmp 142) = .bool false := hdL 19 142 (by kernel_rfl) (by kernel_rfl) (by kernel_rfl)
                      have f142 : A.tmps[142]?.getD undef = .bool false := by simpa [Act.eval] using e142
                      obtain ⟨v138, rfl⟩ := List.length_eq_one_iff.1 hlen
                      obtain ⟨rfl, rfl⟩ := hJ
                      exact heavy_val rfl (v := .bool false) (w' := y6.drew) (by simp [execOp, e142]) ⟨rfl, rfl, rfl⟩
                    case o21 =>
                      intro A W hv hlen hJ hbase hdL hdH
                      have e5 : A.eval (.tmp 5) = ptr gd := hbase 5 (by kernel_rfl)
                      have f5 : A.tmps[5]?.getD undef = ptr gd := by simpa [Act.eval] using e5
                      have v143 := hdH 20 143 1 (by kernel_rfl) rfl (by kernel_rfl)
                      have eg : A.eval (.tmp 143) = .bool false := JQ.snd hJ _ v143
                      exact light_val (wanted_of rfl (by kernel_rfl) eg) (v := ptr gd) (by simp [execOp, e5, f5]) hJ rfl
                    case o22 =>
                      intro A W hv hlen hJ hbase hdL hdH
                      have e144 : A.eval (.tmp 144) = ptr gd := hdL 21 144 (by kernel_rfl) (by kernel_rfl) (by kernel_rfl)
                      have f144 : A.tmps[144]?.getD undef = ptr gd := by simpa [Act.eval] using e144
                      have v143 := hdH 20 143 1 (by kernel_rfl) rfl (by kernel_rfl)
                      have eg : A.eval (.tmp 143) = .bool false := JQ.snd hJ _ v143
                      match hv, hlen with
                      | [v138, v143], _ =>
                       obtain ⟨rfl, rfl, rfl⟩ := hJ
                       refine heavy_call (wanted_of rfl (by kernel_rfl) eg) (args := #[ptr gd]) (f := 28) (by simp [execOp, resolve, invoke, go_sem, e144, f144]) ?_
                       refine (pending_any gd _ hD30 hpY).mono ?_
                       rintro e w' ⟨v, rfl, o', f'⟩
                       exact ⟨_, rfl, rfl, rfl, o'.sl, f'⟩
                    case o23 =>
                      intro A W hv hlen hJ hbase hdL hdH
                      have e6 : A.eval (.tmp 6) = .pointer (some ⟨g6, 0, none⟩) := hbase 6 (by kernel_rfl)
                      have f6 : A.tmps[6]?.getD undef = .pointer (some ⟨g6, 0, none⟩) := by simpa [Act.eval] using e6
                      have v143 := hdH 20 143 1 (by kernel_rfl) rfl (by kernel_rfl)
                      have eg : A.eval (.tmp 143) = .bool false := JQ.snd hJ _ v143
                      exact light_val (wanted_of rfl (by kernel_rfl) eg) (v := .pointer (some ⟨g6, 2, none⟩)) (by simp [execOp, go_sem, e6, f6]) hJ rfl
                    case o24 =>
                      intro A W hv hlen hJ hbase hdL hdH
                      have e146 : A.eval (.tmp 146) = .pointer (some ⟨g6, 2, none⟩) := hdL 23 146 (by kernel_rfl) (by kernel_rfl) (by kernel_rfl)
                      have f146 : A.tmps[146]?.getD undef = .pointer (some ⟨g6, 2, none⟩) := by simpa [Act.eval] using e146
                      have v143 := hdH 20 143 1 (by kernel_rfl) rfl (by kernel_rfl)
                      have eg : A.eval (.tmp 143) = .bool false := JQ.snd hJ _ v143
                      have hcW := (JQ.fr hJ).cell d2 (fun q => q)
                      have hr := run_ld1 (P := Try.prog) (w := W) 37 79 Try.underlying37 g6 2 _ hcW
                      exact light_val (wanted_of rfl (by kernel_rfl) eg) (v := v3) (by simp [execOp, e146, hr, Result.andThen]) hJ rfl
                    case o25 =>
                      intro A W hv hlen hJ hbase hdL hdH
                      have e147 : A.eval (.tmp 147) = v3 := hdL 24 147 (by kernel_rfl) (by kernel_rfl) (by kernel_rfl)
                      have f147 : A.tmps[147]?.getD undef = v3 := by simpa [Act.eval] using e147
                      have v143 := hdH 20 143 1 (by kernel_rfl) rfl (by kernel_rfl)
                      have eg : A.eval (.tmp 143) = .bool false := JQ.snd hJ _ v143
                      match hv, hlen with
                      | [x0, x1, u], _ =>
                        obtain ⟨rfl, rfl, hu, hfu⟩ := hJ
                        have e145 : A.eval (.tmp 145) = u := by have := hdH 22 145 2 (by kernel_rfl) rfl (by kernel_rfl); simpa using this.symm
                        have f145 : A.tmps[145]?.getD undef = u := by simpa [Act.eval] using e145
                        refine heavy_call (wanted_of rfl (by kernel_rfl) eg) (args := #[u, v3]) (f := 27) (by simp [execOp, resolve, invoke, go_sem, e145, f145, e147, f147]) ?_
                        refine (same_any u _ X.pend W hu (doc30.s3.fr0 hfu) hpY).mono ?_
                        rintro e w' ⟨rfl, f'⟩
                        exact ⟨_, rfl, rfl, rfl, rfl, hfu.thenN f'⟩
                    case o26 =>
                      intro A W hv hlen hJ hbase hdL hdH
                      have v143 := hdH 20 143 1 (by kernel_rfl) rfl (by kernel_rfl)
                      have eg : A.eval (.tmp 143) = .bool false := JQ.snd hJ _ v143
                      have v148 := hdH 25 148 3 (by kernel_rfl) rfl (by kernel_rfl)
                      have e148 : A.eval (.tmp 148) = .bool true := JQ.frt hJ _ v148
                      have f148 : A.tmps[148]?.getD undef = .bool true := by simpa [Act.eval] using e148
                      exact light_val (wanted_of rfl (by kernel_rfl) eg) (v := .bool false) (by simp [execOp, go_sem, e148, f148]) hJ rfl
                    case o27 =>
                      intro A W hv hlen hJ hbase hdL hdH
                      have e149 : A.eval (.tmp 149) = .bool false := hdL 26 149 (by kernel_rfl) (by kernel_rfl) (by kernel_rfl)
                      have f149 : A.tmps[149]?.getD undef = .bool false := by simpa [Act.eval] using e149
                      have v143 := hdH 20 143 1 (by kernel_rfl) rfl (by kernel_rfl)
                      have e143 : A.eval (.tmp 143) = .bool false := JQ.snd hJ _ v143
                      have f143 : A.tmps[143]?.getD undef = .bool false := by simpa [Act.eval] using e143
                      exact light_val rfl (v := .bool false) (by simp [execOp, go_sem, e143, f143, e149, f149]) hJ rfl
                    case oe =>
                      intro vs' W' hv hlen hJ hL hH
                      have hx150 : vs' 27 = .bool false := hL 27 (by rfl) (by rfl)
                      have hfJ := JQ.fr hJ
                      clear hJ
                      simp only [layL, Nat.reduceAdd, Act.put, List.setIfInBounds_toArray, List.set_cons_zero, List.set_cons_succ]
                      clear hL hH
                      generalize vs' 0 = y500 at *
                      generalize vs' 1 = y501 at *
                      generalize vs' 2 = y502 at *
                      generalize vs' 3 = y503 at *
                      generalize vs' 4 = y504 at *
                      generalize vs' 5 = y505 at *
                      generalize vs' 6 = y506 at *
                      generalize vs' 7 = y507 at *
                      generalize vs' 8 = y508 at *
                      generalize vs' 9 = y509 at *
                      generalize vs' 10 = y510 at *
                      generalize vs' 11 = y511 at *
                      generalize vs' 12 = y512 at *
                      generalize vs' 13 = y513 at *
                      generalize vs' 14 = y514 at *
                      generalize vs' 15 = y515 at *
                      generalize vs' 16 = y516 at *
                      generalize vs' 17 = y517 at *
                      generalize vs' 18 = y518 at *
                      generalize vs' 19 = y519 at *
                      generalize vs' 20 = y520 at *
                      generalize vs' 21 = y521 at *
                      generalize vs' 22 = y522 at *
                      generalize vs' 23 = y523 at *
                      generalize vs' 24 = y524 at *
                      generalize vs' 25 = y525 at *
                      generalize vs' 26 = y526 at *
                      generalize vs' 27 = y527 at *
                      subst hx150
                      go_wp2
                      go_roundw
                      case rel => exact ⟨m + 1, X, F, v1, v2, v3, c, l, bad, by omega, by go_num, hRY, hpYm, hD30.fr0 hfJ, doc30.fr0 hfJ, (hsep.size zY).size hfJ.size, (Gz.thenN FY).thenN hfJ⟩
                      case measure => simp [intOf]; omega
      · obtain rfl : m = acts.length := by omega
        obtain ⟨N, HN⟩ : ∃ N, Hid (X.pages.length = N) := ⟨_, rfl⟩
        obtain ⟨a3, c3, hv1, _⟩ := hdc.s1.opn
        rw [HN.out] at hv1
        subst hv1
        obtain ⟨e0, _⟩ := hdc.bx.cell 0 _ rfl
        have hNm : N ≤ 100000 := by rw [← HN.out]; exact hpg
        go_wp2
        go_loopw [155] (fun i ws => ∃ (r : Nat), r ≤ N ∧ i = .int .i64 (r : Int) ∧ Fr noB wr ws) (fun i _ => N - (intOf i).toNat)
        case atStart => exact ⟨0, Nat.zero_le _, rfl, Fr.refl _ _⟩
        case round =>
          obtain ⟨r, hrN, rfl, hfr⟩ := hrel
          by_cases hlr : r < N
          · have hlr' : (r : Int) < (N : Int) := by omega
            obtain ⟨p, Hp⟩ : ∃ p, Hid (X.pages.getD r [] = p) := ⟨_, rfl⟩
            have hrX : r < X.pages.length := by rw [HN.out]; exact hlr
            have hpp : Hid (X.pages[r] = p) := by show _ = _; rw [← Hp.out]; simp [List.getD, hrX]
            have hsY : Hid (stabR X (r : Int) = (p, 0)) := by show _ = _; rw [← Hp.out]; simp [stabR, inR, hrX]
            have hrl : Hid (p.length = 256) := by show _ = _; rw [← hpp.out]; exact hpl256.out _ (List.getElem_mem hrX)
            obtain ⟨b1, o1, cc1, hva, hc1⟩ := hdc.s1.addr (by decide) (by omega)
            rw [HN.out] at hva
            obtain ⟨rfl, rfl⟩ : a3 = some ⟨b1, o1, none⟩ ∧ c3 = cc1 := by simpa using hva
            clear hva
            have hrg := hc1 r hrX
            rw [hpp.out] at hrg
            go_wp2_with (first
              | (go_at_call 29; go_must (refine (stable_any gd (r : Int) _ (hD.fr0 hfr)).mono ?_; rw [hsY.out]; rintro e y1 ⟨rfl, fy1⟩; have zy1 := fy1.size))
              | (with_reducible refine at_wpP ?_; refine wpList_allocP rfl rfl ?_; intro ga y2 hga by2 fy2 sy2; have ly2 := by2.lt)
              | (with_reducible refine at_wpP ?_; refine at_st 25 _ _ rfl ?_; go_must (refine wpList_storeP rfl _ _ rfl ga rfl p rfl _ by2 hrl.out zeroP_len ?_; intro y3 qy3 fy3; have FY3 := (fy1.thenN fy2).thenT (S := noB) fy3 (fun q hq e => (by unfold onB1 at e; omega)))))
            have FA := (hfr.thenN FY3).drew
            have qa : BxV y3.drew ga 25 (pgv p) := qy3
            have e1 := FA.cell e0 (fun q => q)
            have hrg1 : y3.drew.rangeAt b1 (o1 + r * 256) (pgv p) := range_of (fun j v hj => FA.cell (hrg j v hj) (fun q => q))
            refine wp_region_chain_lay (by kernel_rfl) [] [none, none, none, none, none, none, none, none, none, none, none]
              [fun v => v = .int .i64 0, fun v => v = .bool false, fun v => v = .bool false, fun v => v = pgV p, fun v => v = .pointer (some ⟨g6, 0, none⟩), fun v => v = .slice (some ⟨b1, o1, none⟩) N c3, fun v => v = .int .i64 (r : Int), fun v => v = .pointer (some ⟨b1, o1 + r * 256, none⟩), fun v => v = pgV p, fun v => v = .bool false, fun v => v = .bool false]
              (JN y3.drew) (rfl) (by kernel_rfl) (by kernel_rfl) (by decide) ⟨?o0, ?o1, ?o2, ?o3, ?o4, ?o5, ?o6, ?o7, ?o8, ?o9, ?o10, trivial⟩ ?oe
            case o0 =>
              intro A W hv hlen hJ hbase hdL hdH
              have e17 : A.eval (.tmp 17) = .int .i64 0 := hbase 17 (by kernel_rfl)
              have f17 : A.tmps[17]?.getD undef = .int .i64 0 := by simpa [Act.eval] using e17
              exact light_val rfl (v := .int .i64 0) (by simp [execOp, e17, f17]) hJ rfl
            case o1 =>
              intro A W hv hlen hJ hbase hdL hdH
              have e164 : A.eval (.tmp 164) = .int .i64 0 := hdL 0 164 (by kernel_rfl) (by kernel_rfl) (by kernel_rfl)
              have f164 : A.tmps[164]?.getD undef = .int .i64 0 := by simpa [Act.eval] using e164
              exact light_val rfl (v := .bool false) (by simp [execOp, go_sem, e164, f164]) hJ rfl
            case o2 =>
              intro A W hv hlen hJ hbase hdL hdH
              have e165 : A.eval (.tmp 165) = .bool false := hdL 1 165 (by kernel_rfl) (by kernel_rfl) (by kernel_rfl)
              have f165 : A.tmps[165]?.getD undef = .bool false := by simpa [Act.eval] using e165
              exact light_val rfl (v := .bool false) (by simp [execOp, e165, f165]) hJ rfl
            case o3 =>
              intro A W hv hlen hJ hbase hdL hdH
              have e16 : A.eval (.tmp 16) = .pointer (some ⟨ga, 0, none⟩) := hbase 16 (by kernel_rfl)
              have f16 : A.tmps[16]?.getD undef = .pointer (some ⟨ga, 0, none⟩) := by simpa [Act.eval] using e16
              have eg : A.eval (.tmp 166) = .bool false := hdL 2 166 (by kernel_rfl) (by kernel_rfl) (by kernel_rfl)
              cases hJ
              have hr := run_loadP y3.drew ga 0 p (qa.range 0 (pgv p) (by show (pgv p).take (pgv p).length = pgv p; exact List.take_length)) hrl.out
              exact light_val (wanted_of rfl (by kernel_rfl) eg) (v := pgV p) (by simp [execOp, e16, hr, Result.andThen]) rfl rfl
            case o4 =>
              intro A W hv hlen hJ hbase hdL hdH
              have e6 : A.eval (.tmp 6) = .pointer (some ⟨g6, 0, none⟩) := hbase 6 (by kernel_rfl)
              have f6 : A.tmps[6]?.getD undef = .pointer (some ⟨g6, 0, none⟩) := by simpa [Act.eval] using e6
              have eg : A.eval (.tmp 166) = .bool false := hdL 2 166 (by kernel_rfl) (by kernel_rfl) (by kernel_rfl)
              exact light_val (wanted_of rfl (by kernel_rfl) eg) (v := .pointer (some ⟨g6, 0, none⟩)) (by simp [execOp, go_sem, e6, f6]) hJ rfl
            case o5 =>
              intro A W hv hlen hJ hbase hdL hdH
              have e168 : A.eval (.tmp 168) = .pointer (some ⟨g6, 0, none⟩) := hdL 4 168 (by kernel_rfl) (by kernel_rfl) (by kernel_rfl)
              have f168 : A.tmps[168]?.getD undef = .pointer (some ⟨g6, 0, none⟩) := by simpa [Act.eval] using e168
              have eg : A.eval (.tmp 166) = .bool false := hdL 2 166 (by kernel_rfl) (by kernel_rfl) (by kernel_rfl)
              cases hJ
              have hr := run_ld1 (P := Try.prog) (w := y3.drew) 35 25 Try.underlying35 g6 0 _ e1
              exact light_val (wanted_of rfl (by kernel_rfl) eg) (v := .slice (some ⟨b1, o1, none⟩) N c3) (by simp [execOp, e168, hr, Result.andThen]) rfl rfl
            case o6 =>
              intro A W hv hlen hJ hbase hdL hdH
              have e15 : A.eval (.tmp 15) = .int .i64 (r : Int) := hbase 15 (by kernel_rfl)
              have f15 : A.tmps[15]?.getD undef = .int .i64 (r : Int) := by simpa [Act.eval] using e15
              have eg : A.eval (.tmp 166) = .bool false := hdL 2 166 (by kernel_rfl) (by kernel_rfl) (by kernel_rfl)
              exact light_val (wanted_of rfl (by kernel_rfl) eg) (v := .int .i64 (r : Int)) (by simp [execOp, e15, f15]) hJ rfl
            case o7 =>
              intro A W hv hlen hJ hbase hdL hdH
              have e169 : A.eval (.tmp 169) = .slice (some ⟨b1, o1, none⟩) N c3 := hdL 5 169 (by kernel_rfl) (by kernel_rfl) (by kernel_rfl)
              have f169 : A.tmps[169]?.getD undef = .slice (some ⟨b1, o1, none⟩) N c3 := by simpa [Act.eval] using e169
              have e170 : A.eval (.tmp 170) = .int .i64 (r : Int) := hdL 6 170 (by kernel_rfl) (by kernel_rfl) (by kernel_rfl)
              have f170 : A.tmps[170]?.getD undef = .int .i64 (r : Int) := by simpa [Act.eval] using e170
              have eg : A.eval (.tmp 166) = .bool false := hdL 2 166 (by kernel_rfl) (by kernel_rfl) (by kernel_rfl)
              have hr := run_idxS (P := Try.prog) (w := W) (sz := 256) 35 25 Try.underlying35 size_page b1 o1 N c3 .i64 r hlr
              exact light_val (wanted_of rfl (by kernel_rfl) eg) (v := .pointer (some ⟨b1, o1 + r * 256, none⟩)) (by simp [execOp, e169, e170, hr, Result.andThen]) hJ rfl
            case o8 =>
              intro A W hv hlen hJ hbase hdL hdH
              have e171 : A.eval (.tmp 171) = .pointer (some ⟨b1, o1 + r * 256, none⟩) := hdL 7 171 (by kernel_rfl) (by kernel_rfl) (by kernel_rfl)
              have f171 : A.tmps[171]?.getD undef = .pointer (some ⟨b1, o1 + r * 256, none⟩) := by simpa [Act.eval] using e171
              have eg : A.eval (.tmp 166) = .bool false := hdL 2 166 (by kernel_rfl) (by kernel_rfl) (by kernel_rfl)
              cases hJ
              have hr := run_loadP y3.drew b1 (o1 + r * 256) p hrg1 hrl.out
              exact light_val (wanted_of rfl (by kernel_rfl) eg) (v := pgV p) (by simp [execOp, e171, hr, Result.andThen]) rfl rfl
            case o9 =>
              intro A W hv hlen hJ hbase hdL hdH
              have e167 : A.eval (.tmp 167) = pgV p := hdL 3 167 (by kernel_rfl) (by kernel_rfl) (by kernel_rfl)
              have f167 : A.tmps[167]?.getD undef = pgV p := by simpa [Act.eval] using e167
              have e172 : A.eval (.tmp 172) = pgV p := hdL 8 172 (by kernel_rfl) (by kernel_rfl) (by kernel_rfl)
              have f172 : A.tmps[172]?.getD undef = pgV p := by simpa [Act.eval] using e172
              have eg : A.eval (.tmp 166) = .bool false := hdL 2 166 (by kernel_rfl) (by kernel_rfl) (by kernel_rfl)
              have hr := run_neq_page W p p hrl.out hrl.out
              exact light_val (wanted_of rfl (by kernel_rfl) eg) (v := .bool false) (by simp [execOp, e167, e172, hr, eqg_neq, Result.andThen]) hJ rfl
            case o10 =>
              intro A W hv hlen hJ hbase hdL hdH
              have e166 : A.eval (.tmp 166) = .bool false := hdL 2 166 (by kernel_rfl) (by kernel_rfl) (by kernel_rfl)
              have f166 : A.tmps[166]?.getD undef = .bool false := by simpa [Act.eval] using e166
              have e173 : A.eval (.tmp 173) = .bool false := hdL 9 173 (by kernel_rfl) (by kernel_rfl) (by kernel_rfl)
              have f173 : A.tmps[173]?.getD undef = .bool false := by simpa [Act.eval] using e173
              exact light_val rfl (v := .bool false) (by simp [execOp, go_sem, e166, f166, e173, f173]) hJ rfl
            case oe =>
              intro vs' W' hv hlen hJ hL hH
              obtain rfl : hv = [] := List.eq_nil_of_length_eq_zero hlen
              cases hJ
              have hx : vs' 10 = .bool false := hL 10 (by rfl) (by rfl)
              simp only [layL, Nat.reduceAdd, Act.put, List.setIfInBounds_toArray, List.set_cons_zero, List.set_cons_succ]
              clear hL hH
              generalize vs' 0 = y100 at *
              generalize vs' 1 = y101 at *
              generalize vs' 2 = y102 at *
              generalize vs' 3 = y103 at *
              generalize vs' 4 = y104 at *
              generalize vs' 5 = y105 at *
              generalize vs' 6 = y106 at *
              generalize vs' 7 = y107 at *
              generalize vs' 8 = y108 at *
              generalize vs' 9 = y109 at *
              generalize vs' 10 = y110 at *
              subst hx
              go_wp2
              go_roundw
              case rel => exact ⟨r + 1, by omega, by go_num, FA⟩
              case measure => simp [intOf]; omega
          · obtain rfl : r = N := by omega
            have hsY : Hid (stabR X (r : Int) = (zeroP, 41)) := by show _ = _; simp [stabR, inR, HN.out]
            obtain ⟨Z, HZ⟩ : ∃ Z, Hid (zeroP = Z) := ⟨_, rfl⟩
            have hZl : Hid (Z.length = 256) := by show _ = _; rw [← HZ.out]; exact zeroP_len
            rw [HZ.out] at hsY
            go_wp2_with (first
              | (go_at_call 16; go_must (refine (len_any gd _ (hD.fr0 hfr)).mono ?_; rw [HN.out]; rintro e w' ⟨rfl, rfl⟩))
              | (go_at_call 29; go_must (refine (stable_any gd (r : Int) _ (hD.fr0 hfr)).mono ?_; rw [hsY.out]; rintro e y1 ⟨rfl, fy1⟩; have zy1 := fy1.size))
              | (with_reducible refine at_wpP ?_; refine wpList_allocP rfl rfl ?_; rw [HZ.out]; intro ga y2 hga by2 fy2 sy2; have ly2 := by2.lt)
              | (with_reducible refine at_wpP ?_; refine at_st 25 _ _ rfl ?_; go_must (refine wpList_storeP rfl _ _ rfl ga rfl Z rfl _ by2 hZl.out hZl.out ?_; intro y3 qy3 fy3; have FY3 := (fy1.thenN fy2).thenT (S := noB) fy3 (fun q hq e => (by unfold onB1 at e; omega)))))
            have FA := (hfr.thenN FY3).drew
            have e1 := FA.cell e0 (fun q => q)
            have hDL := hD.fr0 FA
            refine wp_region_chain_lay (by kernel_rfl) [4] [none, none, none, none, some 0, none, none, none, none, none, none]
              [fun v => v = .int .i64 41, fun v => v = .bool true, fun v => v = .bool true, fun v => v = ptr gd, fun _ => True, fun v => v = .pointer (some ⟨g6, 0, none⟩), fun v => v = .slice a3 r c3, fun v => v = .int .i64 (r : Int), fun v => v = .bool true, fun v => v = .bool true, fun v => v = .bool true]
              (JO y3.drew (.int .i64 (r : Int))) (rfl) (by kernel_rfl) (by kernel_rfl) (by decide) ⟨?o0, ?o1, ?o2, ?o3, ?o4, ?o5, ?o6, ?o7, ?o8, ?o9, ?o10, trivial⟩ ?oe
            case o0 =>
              intro A W hv hlen hJ hbase hdL hdH
              have e19 : A.eval (.tmp 19) = .int .i64 41 := hbase 19 (by kernel_rfl)
              have f19 : A.tmps[19]?.getD undef = .int .i64 41 := by simpa [Act.eval] using e19
              exact light_val rfl (v := .int .i64 41) (by simp [execOp, e19, f19]) hJ rfl
            case o1 =>
              intro A W hv hlen hJ hbase hdL hdH
              have e183 : A.eval (.tmp 183) = .int .i64 41 := hdL 0 183 (by kernel_rfl) (by kernel_rfl) (by kernel_rfl)
              have f183 : A.tmps[183]?.getD undef = .int .i64 41 := by simpa [Act.eval] using e183
              exact light_val rfl (v := .bool true) (by simp [execOp, go_sem, e183, f183]) hJ rfl
            case o2 =>
              intro A W hv hlen hJ hbase hdL hdH
              have e184 : A.eval (.tmp 184) = .bool true := hdL 1 184 (by kernel_rfl) (by kernel_rfl) (by kernel_rfl)
              have f184 : A.tmps[184]?.getD undef = .bool true := by simpa [Act.eval] using e184
              exact light_val rfl (v := .bool true) (by simp [execOp, e184, f184]) hJ rfl
            case o3 =>
              intro A W hv hlen hJ hbase hdL hdH
              have e5 : A.eval (.tmp 5) = ptr gd := hbase 5 (by kernel_rfl)
              have f5 : A.tmps[5]?.getD undef = ptr gd := by simpa [Act.eval] using e5
              have eg : A.eval (.tmp 185) = .bool true := hdL 2 185 (by kernel_rfl) (by kernel_rfl) (by kernel_rfl)
              exact light_val (wanted_of rfl (by kernel_rfl) eg) (v := ptr gd) (by simp [execOp, e5, f5]) hJ rfl
            case o4 =>
              intro A W hv hlen hJ hbase hdL hdH
              have e186 : A.eval (.tmp 186) = ptr gd := hdL 3 186 (by kernel_rfl) (by kernel_rfl) (by kernel_rfl)
              have f186 : A.tmps[186]?.getD undef = ptr gd := by simpa [Act.eval] using e186
              have eg : A.eval (.tmp 185) = .bool true := hdL 2 185 (by kernel_rfl) (by kernel_rfl) (by kernel_rfl)
              obtain rfl : hv = [] := List.eq_nil_of_length_eq_zero hlen
              cases hJ
              refine heavy_call (wanted_of rfl (by kernel_rfl) eg) (args := #[ptr gd]) (f := 16) (by simp [execOp, resolve, invoke, go_sem, e186, f186]) ?_
              refine (len_any gd _ hDL).mono ?_
              rw [HN.out]
              rintro e w' ⟨rfl, rfl⟩
              exact ⟨_, rfl, rfl, rfl⟩
            case o5 =>
              intro A W hv hlen hJ hbase hdL hdH
              have e6 : A.eval (.tmp 6) = .pointer (some ⟨g6, 0, none⟩) := hbase 6 (by kernel_rfl)
              have f6 : A.tmps[6]?.getD undef = .pointer (some ⟨g6, 0, none⟩) := by simpa [Act.eval] using e6
              have eg : A.eval (.tmp 185) = .bool true := hdL 2 185 (by kernel_rfl) (by kernel_rfl) (by kernel_rfl)
              exact light_val (wanted_of rfl (by kernel_rfl) eg) (v := .pointer (some ⟨g6, 0, none⟩)) (by simp [execOp, go_sem, e6, f6]) hJ rfl
            case o6 =>
              intro A W hv hlen hJ hbase hdL hdH
              have e188 : A.eval (.tmp 188) = .pointer (some ⟨g6, 0, none⟩) := hdL 5 188 (by kernel_rfl) (by kernel_rfl) (by kernel_rfl)
              have f188 : A.tmps[188]?.getD undef = .pointer (some ⟨g6, 0, none⟩) := by simpa [Act.eval] using e188
              have eg : A.eval (.tmp 185) = .bool true := hdL 2 185 (by kernel_rfl) (by kernel_rfl) (by kernel_rfl)
              have hW := JO.eq hJ
              have hr := run_ld1 (P := Try.prog) (w := W) 35 25 Try.underlying35 g6 0 _ (by rw [hW]; exact e1)
              exact light_val (wanted_of rfl (by kernel_rfl) eg) (v := .slice a3 r c3) (by simp [execOp, e188, hr, Result.andThen]) hJ rfl
            case o7 =>
              intro A W hv hlen hJ hbase hdL hdH
              have e189 : A.eval (.tmp 189) = .slice a3 r c3 := hdL 6 189 (by kernel_rfl) (by kernel_rfl) (by kernel_rfl)
              have f189 : A.tmps[189]?.getD undef = .slice a3 r c3 := by simpa [Act.eval] using e189
              have eg : A.eval (.tmp 185) = .bool true := hdL 2 185 (by kernel_rfl) (by kernel_rfl) (by kernel_rfl)
              exact light_val (wanted_of rfl (by kernel_rfl) eg) (v := .int .i64 (r : Int)) (by simp [execOp, resolve, invoke, builtin, Builtin.len_, go_sem, e189, f189]) hJ rfl
            case o8 =>
              intro A W hv hlen hJ hbase hdL hdH
              have e190 : A.eval (.tmp 190) = .int .i64 (r : Int) := hdL 7 190 (by kernel_rfl) (by kernel_rfl) (by kernel_rfl)
              have f190 : A.tmps[190]?.getD undef = .int .i64 (r : Int) := by simpa [Act.eval] using e190
              have eg : A.eval (.tmp 185) = .bool true := hdL 2 185 (by kernel_rfl) (by kernel_rfl) (by kernel_rfl)
              have v187 := hdH 4 187 0 (by kernel_rfl) rfl (by kernel_rfl)
              have hl4 : hv.length ≤ 1 := hlen.1
              match hv, hl4, v187 with
              | [x0], _, v187 =>
                have hJ' := hJ
                obtain ⟨rfl, _⟩ := hJ'
                have e187 : A.eval (.tmp 187) = .int .i64 (r : Int) := by simpa using v187.symm
                have f187 : A.tmps[187]?.getD undef = .int .i64 (r : Int) := by simpa [Act.eval] using e187
                exact light_val (wanted_of rfl (by kernel_rfl) eg) (v := .bool true) (by simp [execOp, go_sem, e187, f187, e190, f190]) hJ rfl
            case o9 =>
              intro A W hv hlen hJ hbase hdL hdH
              have e185 : A.eval (.tmp 185) = .bool true := hdL 2 185 (by kernel_rfl) (by kernel_rfl) (by kernel_rfl)
              have f185 : A.tmps[185]?.getD undef = .bool true := by simpa [Act.eval] using e185
              have e191 : A.eval (.tmp 191) = .bool true := hdL 8 191 (by kernel_rfl) (by kernel_rfl) (by kernel_rfl)
              have f191 : A.tmps[191]?.getD undef = .bool true := by simpa [Act.eval] using e191
              exact light_val rfl (v := .bool true) (by simp [execOp, go_sem, e185, f185, e191, f191]) hJ rfl
            case o10 =>
              intro A W hv hlen hJ hbase hdL hdH
              have e192 : A.eval (.tmp 192) = .bool true := hdL 9 192 (by kernel_rfl) (by kernel_rfl) (by kernel_rfl)
              have f192 : A.tmps[192]?.getD undef = .bool true := by simpa [Act.eval] using e192
              exact light_val rfl (v := .bool true) (by simp [execOp, e192]) hJ rfl
            case oe =>
              intro vs' W' hv hlen hJ hL hH
              have hW := JO.eq hJ
              have hx : vs' 10 = .bool true := hL 10 (by rfl) (by rfl)
              clear hJ
              simp only [layL, Nat.reduceAdd, Act.put, List.setIfInBounds_toArray, List.set_cons_zero, List.set_cons_succ]
              clear hL hH
              generalize vs' 0 = y100 at *
              generalize vs' 1 = y101 at *
              generalize vs' 2 = y102 at *
              generalize vs' 3 = y103 at *
              generalize vs' 4 = y104 at *
              generalize vs' 5 = y105 at *
              generalize vs' 6 = y106 at *
              generalize vs' 7 = y107 at *
              generalize vs' 8 = y108 at *
              generalize vs' 9 = y109 at *
              generalize vs' 10 = y110 at *
              subst hx hW
              go_wp2
              go_ret
              exact ⟨rfl, (hf.thenN FA).below⟩
  · by_cases c1 : 300 < n
    · go_enter Try.func4, Try.ntmps4
      go_wp2_with (first
        | (go_at_call 13; go_must (refine (alive_any _).mono ?_; rintro e w0 ⟨rfl, f0⟩)))
      go_ret
      exact ⟨rfl, f0.below⟩
    · have c2 : 80 < (acts.length : Int) := by omega
      go_enter Try.func4, Try.ntmps4
      go_wp2_with (first
        | (go_at_call 13; go_must (refine (alive_any _).mono ?_; rintro e w0 ⟨rfl, f0⟩)))
      go_ret
      exact ⟨rfl, f0.below⟩
end Go.Proofs.Ytejjfpdcmaefiaa
