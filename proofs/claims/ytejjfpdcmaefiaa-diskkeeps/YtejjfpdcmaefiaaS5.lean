/- DiskKeeps. (Written by s5_gen.py.) -/
import Derived.Test.YtejjfpdcmaefiaaKM
import Derived.Test.YtejjfpdcmaefiaaOT
import Derived.Test.YtejjfpdcmaefiaaMY
namespace Go.Proofs.Ytejjfpdcmaefiaa
open Go.RowKit Go.Proofs.U
set_option linter.unusedSimpArgs false
set_option linter.unusedVariables false

set_option maxRecDepth 100000 in
set_option maxHeartbeats 8000000 in
theorem keeps_walk (n : Int) (va : Value) (acts : List ActR) (vk : Value) (keep : List Int) (w : World) (hn : (Lit.int .i64 n).wf = true) (ha : SlA w va acts) (hk : SlI .u8 w vk keep) :
    Calls Try.prog 5 #[.int .i64 n, va, vk] w fun r w' => r = .returned (.bool true) ∧ Below w.heap.size w w' := by
  obtain ⟨hA, hok⟩ := ha
  obtain ⟨a1, c1, rfl, _⟩ := hA.opn
  obtain ⟨a2, c2, rfl, _⟩ := hk.opn
  have hnr := wf64 hn
  by_cases hg : 0 ≤ n ∧ n ≤ 60 ∧ acts.length ≤ 80 ∧ keep.length ≤ 200
  · obtain ⟨hg0, hg1, hg2, hg3⟩ := hg
    obtain ⟨N, rfl⟩ := Int.eq_ofNat_of_zero_le hg0
    have t0 : ¬ (N : Int) < 0 := by omega
    have t1 : ¬ 60 < (N : Int) := by omega
    have t2 : ¬ 80 < (acts.length : Int) := by omega
    have t3 : ¬ 200 < (keep.length : Int) := by omega
    have hN : newN (N : Int) = N := by unfold newN; omega
    obtain ⟨X0, HX0⟩ : ∃ X, Hid (newD (N : Int) = X) := ⟨_, rfl⟩
    have hK0 : Hid (KX N X0 (List.replicate N 0) []) := by show KX _ _ _ _; rw [← HX0.out]; exact KX.new _ N hN
    obtain ⟨nS, HnS⟩ : ∃ v : Value, Hid (Value.slice none 0 0 = v) := ⟨_, rfl⟩
    have hib : (Try.prog.info? 41).map (fun i => (i.zero, i.size, i.bytes)) = some (some nS, 1, 24) := by rw [← HnS.out]; kernel_rfl
    go_enter Try.func5, Try.ntmps5
    go_wp2_with (first
      | (go_at_call 13; go_must (refine (alive_any _).mono ?_; rintro e w0 ⟨rfl, f0⟩; have z0 := f0.size))
      | (go_at_call 9; go_must (refine (new_any (N : Int) (by omega) _).mono ?_; rw [HX0.out]; rintro e w1 ⟨gd, rfl, d1, f1⟩; have z1 := f1.size))
      | (refine at_make 59 _ _ rfl ?_; go_must (refine wpList_makeR enV 1 rfl _ _ 59 rfl w1.heap.size 41 _ 24 Try.underlying59 hib nS (by rw [← HnS.out]; rfl) rfl (by decide) .i64 .i64 _ _ N rfl rfl ?hL ?hC ?hb2 ?hb3 (Nat.le_refl _) ?_; rotate_left 4; intro g2 w2 o2 f2 s2 t2')))
    case hL => omega
    case hC => omega
    case hb2 => omega
    case hb3 => unfold maxLen; omega
    have z2 := f2.size
    have b2 := bx_full o2 (by simp)
    have G2 := (f0.thenN f1).thenN f2
    have hd2 : Disk w2 (fun q => w0.heap.size ≤ q ∧ q < w1.heap.size) gd X0 := d1.tight.fr0 f2
    go_loopw [46] (fun i wr => ∃ (k : Nat) (vs : Nat → Value) (bs : Nat → Nat), k ≤ N ∧ i = .int .i64 (k : Int) ∧ May wr w1.heap.size g2 N vs bs (fun _ => [0]) k ∧ (∀ i, k ≤ i → vs i = nS) ∧ Fr (onB1 g2) w2 wr) (fun i _ => N - (intOf i).toNat)
    case atStart => exact ⟨0, fun _ => nS, fun _ => 0, Nat.zero_le _, rfl, ⟨by rw [map_const_range]; exact b2, fun i hi => by omega, fun i j hi => by omega, fun i hi => by omega⟩, fun _ _ => rfl, Fr.refl _ _⟩
    case round =>
      obtain ⟨k, vs, bs, hkN, rfl, hM, hvs, hf⟩ := hrel
      have zf := hf.size
      by_cases hlt : k < N
      · have hlt' : (k : Int) < (N : Int) := by omega
        go_wp2_with (first
          | (with_reducible refine at_wpP ?_; refine wpList_mkT rfl 41 _ rfl 5 Try.underlying41 _ info_u8 (.int .u8 0) rfl rfl ?_; intro g8 w8 o8 f8 r8; have z8 := f8.size; have m8 := hM.fr0 f8; have l8 := o8.lt)
          | (refine at_idx 59 _ _ rfl ?_; go_must (refine wpList_idxO (sz := 1) rfl 59 _ _ rfl 41 Try.underlying59 size_bytes g2 _ _ rfl .i64 _ k rfl rfl hlt ?_))
          | (with_reducible refine at_wpP ?_; refine at_st 41 _ _ rfl ?_; go_must (refine wpList_store1 rfl 41 _ _ rfl g2 (k * 1) rfl _ rfl rfl _ _ m8.out size_bytes (by simp; omega) ?_; intro w9 b9 f9)))
        rw [Nat.mul_one, set_upd] at b9
        have hg2l := hM.out.lt
        go_roundw
        case rel =>
          refine ⟨k + 1, upd vs k (.slice (some ⟨g8, 0, none⟩) 1 1), upd bs k g8, by omega, by go_num, ⟨b9, fun i hi => ?_, fun i j hi hj e => ?_, fun i hi => ?_⟩, fun i hi => ?_, (hf.thenN f8).trans f9⟩
          · by_cases hik : i = k
            · subst hik
              rw [upd_self, upd_self]
              exact o8.fr f9 (fun q => by unfold onB1 at q; omega)
            · rw [upd_ne _ _ hik, upd_ne _ _ hik]
              exact (m8.each i (by omega)).fr f9 (fun q => m8.ne i (by omega) q)
          · by_cases hik : i = k <;> by_cases hjk : j = k
            · omega
            · subst hik
              rw [upd_self, upd_ne _ _ hjk] at e
              have := (hM.each j (by omega)).lt
              omega
            · subst hjk
              rw [upd_self, upd_ne _ _ hik] at e
              have := (hM.each i (by omega)).lt
              omega
            · rw [upd_ne _ _ hik, upd_ne _ _ hjk] at e
              exact hM.inj i j (by omega) (by omega) e
          · by_cases hik : i = k
            · subst hik; rw [upd_self]; omega
            · rw [upd_ne _ _ hik]; exact hM.low i (by omega)
          · rw [upd_ne _ _ (by omega)]; exact hvs i (by omega)
        case measure => simp [intOf]; omega
      · obtain rfl : k = N := by omega
        have hM0 : May wr w1.heap.size g2 k vs bs (mayL (List.replicate k 0) []) k := hM.congr (fun i hi => by simp [mayL, List.getD, hi])
        have hd3 : Disk wr (fun q => w0.heap.size ≤ q ∧ q < w1.heap.size) gd X0 := hd2.fr hf (fun q _ hq e => by unfold onB1 at e; omega)
        have G3 : Fr noB w wr := G2.thenT hf (fun q hq e => by unfold onB1 at e; omega)
        go_wp2
        go_loopw [56] (fun i wq => ∃ (m : Nat) (X : DSt) (c : List Int) (ps : List (Nat × Int)) (F : Nat → Prop) (vs : Nat → Value) (bs : Nat → Nat), m ≤ acts.length ∧ i = .int .i64 (m : Int) ∧ Hid (KX k X c ps) ∧ Hid (ps.length ≤ m) ∧ Disk wq F gd X ∧ May wq w1.heap.size g2 k vs bs (mayL c ps) k ∧ (∀ q, F q → w0.heap.size ≤ q ∧ q < wq.heap.size ∧ q ≠ g2 ∧ ∀ i, i < k → q ≠ bs i) ∧ Fr noB w wq) (fun i _ => acts.length - (intOf i).toNat)
        case atStart => exact ⟨0, X0, _, _, _, vs, bs, Nat.zero_le _, rfl, hK0, Nat.le_refl _, hd3, hM0, fun q hq => ⟨hq.1, by omega, by omega, fun i hi => by have := hM.low i hi; omega⟩, G3⟩
        case round =>
          clear hM hvs hM0 hd3 G3 hf hd2 b2 o2 zf
          obtain ⟨m, X, c, ps, F, vs, bs, hma, rfl, hKX, hpl, hD, hM, hF, hf⟩ := hrel
          have zf := hf.size
          have hpm : X.pend.length ≤ 100000 := by rw [hKX.out.pend, List.length_map]; have := hpl.out; omega
          by_cases hlt : m < acts.length
          · obtain ⟨x, Hx⟩ : ∃ X, Hid (acts[m] = X) := ⟨acts[m], (rfl : acts[m] = acts[m])⟩
            have hxo : ActOk w x := by rw [← Hx.out]; exact hok _ (by simp)
            have hx1 := encA_one hxo
            have hxl : Hid ((encA x).length = 4) := rfl
            obtain ⟨kd, ak, by', kv, kp⟩ := x
            have hakr := wf64 hxo.2.1
            go_wp2_with (first
              | (refine at_idx 34 _ _ rfl ?_; go_must (refine wpList_idxR rfl 34 _ _ rfl 43 Try.underlying34 4 act_size _ _ _ rfl (hA.fr0 hf) (by decide) _ _ m rfl rfl hlt ?_; rw [Hx.out]; intro ba oa hba hca))
              | (with_reducible refine at_wpP ?_; refine at_ld 43 _ rfl ?_; go_must (refine wpList_load_mid rfl 43 _ rfl ba oa rfl (encA ⟨kd, ak, by', kv, kp⟩) _ (range_of fun j v hj => hca j v hj) under_act rfl (act_sizeE _) ?_))
              | (with_reducible refine at_wpP ?_; refine wpList_allocV rfl 43 rfl _ act_zero ?_; intro gx w4 hgx b4 f4 s4; have l4 := b4.lt)
              | (with_reducible refine at_wpP ?_; refine at_st 43 _ _ rfl ?_; go_must (refine wpList_storeV rfl 43 _ _ rfl gx 0 rfl (encA ⟨kd, ak, by', kv, kp⟩) rfl _ _ b4 (act_sizeE _) (encA_le _ _) hx1 ?_; intro w5 b5 f5; rw [putAt_all _ _ (encA_eq _ _)] at b5)))
            have F45 : Fr noB wr w5.drew := (f4.thenT f5 (fun q hq e => by unfold onB1 at e; omega)).drew
            have z45 := F45.size
            have hD5 := hD.fr0 F45
            have hM5 := hM.fr0 F45
            have hg2w := hM.out.lt
            have hbsw : ∀ i, i < k → bs i < wr.heap.size := fun i hi => (hM.each i hi).lt
            have G5 := hf.thenN F45
            have hngx : ¬ F gx := fun q => by have := hF gx q; omega
            have b6 : BxV w5.drew gx 43 (encA ⟨kd, ak, by', kv, kp⟩) := b5
            obtain ⟨q0, _⟩ := b6.cell 0 _ rfl
            obtain ⟨q1, _⟩ := b6.cell 1 _ rfl
            obtain ⟨q2, _⟩ := b6.cell 2 _ rfl
            have hF5 : ∀ q, F q → q < w5.drew.heap.size := fun q hq => by have := (hF q hq).2.1; omega
            clear hD b5 F45
            by_cases hk0 : kd = 0
            · subst hk0
              obtain ⟨P, HP⟩ : ∃ p, Hid (List.replicate 256 by' = p) := ⟨_, rfl⟩
              have hPl : Hid (P.length = 256) := by show _ = _; rw [← HP.out, List.length_replicate]
              obtain ⟨E, HE⟩ : ∃ E, Hid (X.writeE ak = E) := ⟨_, rfl⟩
              obtain ⟨B, HB⟩ : ∃ B, Hid ((E == 0) = B) := ⟨_, rfl⟩
              obtain ⟨Y, HY⟩ : ∃ Y, Hid (X.write ak P = Y) := ⟨_, rfl⟩
              refine wp_region_chain_lay (by kernel_rfl) [9, 10] [none, none, none, none, none, none, none, none, none, some 0, some 1, none, none]
                [fun v => v = .pointer (some ⟨gx, 0, none⟩), fun v => v = .int .i64 0, fun v => v = .bool true, fun v => v = .bool true, fun v => v = ptr gd, fun v => v = .pointer (some ⟨gx, 1, none⟩), fun v => v = .int .i64 ak, fun v => v = .pointer (some ⟨gx, 2, none⟩), fun v => v = .int .u8 by', fun _ => True, fun _ => True, fun v => v = .bool B, fun v => v = .bool B]
                (JK w5.drew F gd E Y P) (rfl) (by kernel_rfl) (by kernel_rfl) (by decide) ⟨?o0, ?o1, ?o2, ?o3, ?o4, ?o5, ?o6, ?o7, ?o8, ?o9, ?o10, ?o11, ?o12, trivial⟩ ?oe
              case o0 =>
                intro A W hv hlen hJ hbase hdL hdH
                have e11 : A.eval (.tmp 11) = .pointer (some ⟨gx, 0, none⟩) := hbase 11 (by kernel_rfl)
                have f11 : A.tmps[11]?.getD undef = .pointer (some ⟨gx, 0, none⟩) := by simpa [Act.eval] using e11
                exact light_val rfl (v := .pointer (some ⟨gx, 0, none⟩)) (by simp [execOp, go_sem, e11, f11]) hJ rfl
              case o1 =>
                intro A W hv hlen hJ hbase hdL hdH
                have e60 : A.eval (.tmp 60) = .pointer (some ⟨gx, 0, none⟩) := hdL 0 60 (by kernel_rfl) (by kernel_rfl) (by kernel_rfl)
                have f60 : A.tmps[60]?.getD undef = .pointer (some ⟨gx, 0, none⟩) := by simpa [Act.eval] using e60
                have hcW := (JK.fr hJ).cell q0 hngx
                exact light_val rfl (v := .int .i64 0) (by simp [execOp, go_sem, e60, f60, hcW]) hJ rfl
              case o2 =>
                intro A W hv hlen hJ hbase hdL hdH
                have e61 : A.eval (.tmp 61) = .int .i64 0 := hdL 1 61 (by kernel_rfl) (by kernel_rfl) (by kernel_rfl)
                have f61 : A.tmps[61]?.getD undef = .int .i64 0 := by simpa [Act.eval] using e61
                exact light_val rfl (v := .bool true) (by simp [execOp, go_sem, e61, f61]) hJ rfl
              case o3 =>
                intro A W hv hlen hJ hbase hdL hdH
                have e62 : A.eval (.tmp 62) = .bool true := hdL 2 62 (by kernel_rfl) (by kernel_rfl) (by kernel_rfl)
                have f62 : A.tmps[62]?.getD undef = .bool true := by simpa [Act.eval] using e62
                exact light_val rfl (v := .bool true) (by simp [execOp, e62, f62]) hJ rfl
              case o4 =>
                intro A W hv hlen hJ hbase hdL hdH
                have e7 : A.eval (.tmp 7) = ptr gd := hbase 7 (by kernel_rfl)
                have f7 : A.tmps[7]?.getD undef = ptr gd := by simpa [Act.eval] using e7
                have eg : A.eval (.tmp 63) = .bool true := hdL 3 63 (by kernel_rfl) (by kernel_rfl) (by kernel_rfl)
                exact light_val (wanted_of rfl (by kernel_rfl) eg) (v := ptr gd) (by simp [execOp, e7, f7]) hJ rfl
              case o5 =>
                intro A W hv hlen hJ hbase hdL hdH
                have e11 : A.eval (.tmp 11) = .pointer (some ⟨gx, 0, none⟩) := hbase 11 (by kernel_rfl)
                have f11 : A.tmps[11]?.getD undef = .pointer (some ⟨gx, 0, none⟩) := by simpa [Act.eval] using e11
                have eg : A.eval (.tmp 63) = .bool true := hdL 3 63 (by kernel_rfl) (by kernel_rfl) (by kernel_rfl)
                exact light_val (wanted_of rfl (by kernel_rfl) eg) (v := .pointer (some ⟨gx, 1, none⟩)) (by simp [execOp, go_sem, e11, f11]) hJ rfl
              case o6 =>
                intro A W hv hlen hJ hbase hdL hdH
                have e65 : A.eval (.tmp 65) = .pointer (some ⟨gx, 1, none⟩) := hdL 5 65 (by kernel_rfl) (by kernel_rfl) (by kernel_rfl)
                have f65 : A.tmps[65]?.getD undef = .pointer (some ⟨gx, 1, none⟩) := by simpa [Act.eval] using e65
                have eg : A.eval (.tmp 63) = .bool true := hdL 3 63 (by kernel_rfl) (by kernel_rfl) (by kernel_rfl)
                have hcW := (JK.fr hJ).cell q1 hngx
                exact light_val (wanted_of rfl (by kernel_rfl) eg) (v := .int .i64 ak) (by simp [execOp, go_sem, e65, f65, hcW]) hJ rfl
              case o7 =>
                intro A W hv hlen hJ hbase hdL hdH
                have e11 : A.eval (.tmp 11) = .pointer (some ⟨gx, 0, none⟩) := hbase 11 (by kernel_rfl)
                have f11 : A.tmps[11]?.getD undef = .pointer (some ⟨gx, 0, none⟩) := by simpa [Act.eval] using e11
                have eg : A.eval (.tmp 63) = .bool true := hdL 3 63 (by kernel_rfl) (by kernel_rfl) (by kernel_rfl)
                exact light_val (wanted_of rfl (by kernel_rfl) eg) (v := .pointer (some ⟨gx, 2, none⟩)) (by simp [execOp, go_sem, e11, f11]) hJ rfl
              case o8 =>
                intro A W hv hlen hJ hbase hdL hdH
                have e67 : A.eval (.tmp 67) = .pointer (some ⟨gx, 2, none⟩) := hdL 7 67 (by kernel_rfl) (by kernel_rfl) (by kernel_rfl)
                have f67 : A.tmps[67]?.getD undef = .pointer (some ⟨gx, 2, none⟩) := by simpa [Act.eval] using e67
                have eg : A.eval (.tmp 63) = .bool true := hdL 3 63 (by kernel_rfl) (by kernel_rfl) (by kernel_rfl)
                have hcW := (JK.fr hJ).cell q2 hngx
                exact light_val (wanted_of rfl (by kernel_rfl) eg) (v := .int .u8 by') (by simp [execOp, go_sem, e67, f67, hcW]) hJ rfl
              case o9 =>
                intro A W hv hlen hJ hbase hdL hdH
                have e68 : A.eval (.tmp 68) = .int .u8 by' := hdL 8 68 (by kernel_rfl) (by kernel_rfl) (by kernel_rfl)
                have f68 : A.tmps[68]?.getD undef = .int .u8 by' := by simpa [Act.eval] using e68
                have eg : A.eval (.tmp 63) = .bool true := hdL 3 63 (by kernel_rfl) (by kernel_rfl) (by kernel_rfl)
                obtain rfl : hv = [] := List.eq_nil_of_length_eq_zero hlen
                cases hJ
                refine heavy_call (wanted_of rfl (by kernel_rfl) eg) (args := #[.int .u8 by']) (f := 19) (by simp [execOp, resolve, invoke, go_sem, e68, f68]) ?_
                refine (full_any by' _).mono ?_
                rw [HP.out]
                rintro e w' ⟨rfl, f'⟩
                exact ⟨_, rfl, rfl, f'⟩
              case o10 =>
                intro A W hv hlen hJ hbase hdL hdH
                have e64 : A.eval (.tmp 64) = ptr gd := hdL 4 64 (by kernel_rfl) (by kernel_rfl) (by kernel_rfl)
                have f64 : A.tmps[64]?.getD undef = ptr gd := by simpa [Act.eval] using e64
                have e66 : A.eval (.tmp 66) = .int .i64 ak := hdL 6 66 (by kernel_rfl) (by kernel_rfl) (by kernel_rfl)
                have f66 : A.tmps[66]?.getD undef = .int .i64 ak := by simpa [Act.eval] using e66
                have eg : A.eval (.tmp 63) = .bool true := hdL 3 63 (by kernel_rfl) (by kernel_rfl) (by kernel_rfl)
                obtain ⟨v69, rfl⟩ := List.length_eq_one_iff.1 hlen
                obtain ⟨rfl, hf5⟩ := hJ
                have e69 : A.eval (.tmp 69) = pgV P := by have := hdH 9 69 0 (by kernel_rfl) rfl (by kernel_rfl); simpa using this.symm
                have f69 : A.tmps[69]?.getD undef = pgV P := by simpa [Act.eval] using e69
                refine heavy_call (wanted_of rfl (by kernel_rfl) eg) (args := #[ptr gd, .int .i64 ak, pgV P]) (f := 18) (by simp [execOp, resolve, invoke, go_sem, e64, f64, e66, f66, e69, f69]) ?_
                refine (write_any gd ak P hPl.out W (hD5.fr0 hf5) hpm).mono ?_
                rw [HE.out, HY.out]
                rintro e w' ⟨rfl, d', f'⟩
                have z5 := hf5.size
                exact ⟨_, rfl, rfl, (hf5.mono (fun _ _ q => q.elim)).trans f', _, d'.tight, fun q hq => ⟨hq.2, by have h1 := hq.1; unfold orNew at h1; rcases h1 with h1 | h1; exact Or.inl h1; exact Or.inr (by omega)⟩⟩
              case o11 =>
                intro A W hv hlen hJ hbase hdL hdH
                have eg : A.eval (.tmp 63) = .bool true := hdL 3 63 (by kernel_rfl) (by kernel_rfl) (by kernel_rfl)
                have v70 := hdH 10 70 1 (by kernel_rfl) rfl (by kernel_rfl)
                have hl4 : hv.length ≤ 2 := hlen.1
                match hv, hl4, v70 with
                | [x0, x1], _, v70 =>
                  have hJ' := hJ
                  obtain ⟨rfl, _⟩ := hJ'
                  have e70 : A.eval (.tmp 70) = .int .i64 E := by simpa using v70.symm
                  have f70 : A.tmps[70]?.getD undef = .int .i64 E := by simpa [Act.eval] using e70
                  have hB' := HB.out
                  exact light_val (wanted_of rfl (by kernel_rfl) eg) (v := .bool B) (by simp [execOp, go_sem, e70, f70, hB']) hJ rfl
              case o12 =>
                intro A W hv hlen hJ hbase hdL hdH
                have e63 : A.eval (.tmp 63) = .bool true := hdL 3 63 (by kernel_rfl) (by kernel_rfl) (by kernel_rfl)
                have f63 : A.tmps[63]?.getD undef = .bool true := by simpa [Act.eval] using e63
                have e71 : A.eval (.tmp 71) = .bool B := hdL 11 71 (by kernel_rfl) (by kernel_rfl) (by kernel_rfl)
                have f71 : A.tmps[71]?.getD undef = .bool B := by simpa [Act.eval] using e71
                exact light_val rfl (v := .bool B) (by simp [execOp, go_sem, e63, f63, e71, f71]) hJ rfl
              case oe =>
                intro vs' W' hv hlen hJ hL hH
                match hv, hlen with
                | [y1, y2], _ =>
                  have hx72 : vs' 12 = .bool B := hL 12 (by rfl) (by rfl)
                  obtain ⟨_, hfr, F', hd', hF'⟩ := hJ
                  simp only [layL, Nat.reduceAdd, Act.put, List.setIfInBounds_toArray, List.set_cons_zero, List.set_cons_succ]
                  clear hL hH
                  generalize vs' 0 = y100 at *
                  generalize vs' 1 = y101 at *
                  generalize vs' 2 = y102 at *
                  generalize vs' 3 = y103 at *
                  generalize vs' 4 = y104 at *
                  generalize vs' 5 = y105 at *
                  generalize vs' 6 = y106 at *
                  generalize vs' 7 = y107 at *
                  generalize vs' 8 = y108 at *
                  generalize vs' 9 = y109 at *
                  generalize vs' 10 = y110 at *
                  generalize vs' 11 = y111 at *
                  generalize vs' 12 = y112 at *
                  subst hx72
                  obtain ⟨r0, _⟩ := (b6.fr hfr hngx).cell 0 _ rfl
                  have zz := hfr.size
                  have hM6 := hM5.fr hfr (fun q => (hF _ q).2.2.1 rfl) (fun i hi q => (hF _ q).2.2.2 i hi rfl)
                  have G6 := G5.thenT hfr (fun q hq q' => by have := hF q q'; omega)
                  have hF6 : ∀ q, F' q → w0.heap.size ≤ q ∧ q < W'.heap.size ∧ q ≠ g2 ∧ ∀ i, i < k → q ≠ bs i := fun q hq => by
                    have h1 := hF' q hq
                    rcases h1.2 with h2 | h2
                    · have := hF q h2; exact ⟨this.1, h1.1, this.2.2⟩
                    · exact ⟨by omega, h1.1, by omega, fun i hi => by have := hbsw i hi; omega⟩
                  cases B with
                  | false =>
                    go_wp2
                    go_roundw
                    case rel =>
                      refine ⟨m + 1, Y, c, ps, F', vs, bs, by omega, by go_num, ?_, by show _ ≤ _; have := hpl.out; omega, hd', hM6, hF6, G6⟩
                      show KX _ _ _ _
                      rw [← HY.out, ← HP.out]
                      exact (hKX.out.write ak by').2 (by rw [HE.out]; simpa using HB.out)
                    case measure => simp [intOf]; omega
                  | true =>
                    obtain ⟨j, rfl, hjk, hKY⟩ := (hKX.out.write ak by').1 (by rw [HE.out]; simpa using HB.out)
                    have hKY : KX k (X.write (j : Int) (List.replicate 256 by')) c (ps ++ [(j, by')]) := hKY
                    rw [HP.out, HY.out] at hKY
                    have hKY : Hid (KX k Y c (ps ++ [(j, by')])) := hKY
                    have hjk' : (j : Int) < (k : Int) := by omega
                    go_wp2_with fail
                    obtain ⟨oj, cj, hvj⟩ := (hM6.each j hjk).opn
                    obtain ⟨xs, Hxs⟩ : ∃ xs, Hid ((mayL c ps j).map (Value.int .u8) = xs) := ⟨_, rfl⟩
                    have hxsl : Hid (xs.length ≤ 100000) := by show _ ≤ _; rw [← Hxs.out, List.length_map]; have := mayL_len c ps j; have := hpl.out; omega
                    have hOj : OwnT 5 W'.drew (bs j) (vs j) xs := by rw [← Hxs.out]; exact hM6.each j hjk
                    have bo : BxV W'.drew g2 41 ((List.range k).map vs) := hM6.out
                    have bx : BxV W'.drew gx 43 (encA ⟨0, (j : Int), by', kv, kp⟩) := (show BxV W' gx _ _ from b6.fr hfr hngx)
                    obtain ⟨cj0, _⟩ := bo.cell j (vs j) (by simp [hjk])
                    have hgxs : ¬ (gx = bs j ∨ gx = g2) := by have := hbsw j hjk; omega
                    have hv1 : (vs j).oneCell' = true := by rw [hvj]; rfl
                    have hbg : bs j ≠ g2 := hM6.ne j hjk
                    refine wp_region_chain_lay (by kernel_rfl) [10, 11, 13] [none, none, none, none, none, none, none, none, none, none, some 0, some 1, none, some 2]
                      [fun v => v = .slice (some ⟨g2, 0, none⟩) k k, fun v => v = .pointer (some ⟨gx, 1, none⟩), fun v => v = .int .i64 (j : Int), fun v => v = .slice (some ⟨g2, 0, none⟩) k k, fun v => v = .pointer (some ⟨gx, 1, none⟩), fun v => v = .int .i64 (j : Int), fun v => v = .pointer (some ⟨g2, j * 1, none⟩), fun v => v = vs j, fun v => v = .pointer (some ⟨gx, 2, none⟩), fun v => v = .int .u8 by', fun _ => True, fun _ => True, fun v => v = .pointer (some ⟨g2, j * 1, none⟩), fun _ => True]
                      (JA W'.drew g2 (bs j) j ((List.range k).map vs) xs by') (rfl) (by kernel_rfl) (by kernel_rfl) (by decide) ⟨?o0, ?o1, ?o2, ?o3, ?o4, ?o5, ?o6, ?o7, ?o8, ?o9, ?o10, ?o11, ?o12, ?o13, trivial⟩ ?oe
                    case o0 =>
                      intro A W hv hlen hJ hbase hdL hdH
                      have e8 : A.eval (.tmp 8) = .slice (some ⟨g2, 0, none⟩) k k := hbase 8 (by kernel_rfl)
                      have f8 : A.tmps[8]?.getD undef = .slice (some ⟨g2, 0, none⟩) k k := by simpa [Act.eval] using e8
                      exact light_val rfl (v := .slice (some ⟨g2, 0, none⟩) k k) (by simp [execOp, e8, f8]) hJ rfl
                    case o1 =>
                      intro A W hv hlen hJ hbase hdL hdH
                      have e11 : A.eval (.tmp 11) = .pointer (some ⟨gx, 0, none⟩) := hbase 11 (by kernel_rfl)
                      have f11 : A.tmps[11]?.getD undef = .pointer (some ⟨gx, 0, none⟩) := by simpa [Act.eval] using e11
                      exact light_val rfl (v := .pointer (some ⟨gx, 1, none⟩)) (by simp [execOp, go_sem, e11, f11]) hJ rfl
                    case o2 =>
                      intro A W hv hlen hJ hbase hdL hdH
                      have e74 : A.eval (.tmp 74) = .pointer (some ⟨gx, 1, none⟩) := hdL 1 74 (by kernel_rfl) (by kernel_rfl) (by kernel_rfl)
                      have f74 : A.tmps[74]?.getD undef = .pointer (some ⟨gx, 1, none⟩) := by simpa [Act.eval] using e74
                      obtain ⟨hcW, _⟩ := (bx.fr (JA.fr hJ) hgxs).cell 1 _ rfl
                      exact light_val rfl (v := .int .i64 (j : Int)) (by simp [execOp, go_sem, e74, f74, hcW]) hJ rfl
                    case o3 =>
                      intro A W hv hlen hJ hbase hdL hdH
                      have e8 : A.eval (.tmp 8) = .slice (some ⟨g2, 0, none⟩) k k := hbase 8 (by kernel_rfl)
                      have f8 : A.tmps[8]?.getD undef = .slice (some ⟨g2, 0, none⟩) k k := by simpa [Act.eval] using e8
                      exact light_val rfl (v := .slice (some ⟨g2, 0, none⟩) k k) (by simp [execOp, e8, f8]) hJ rfl
                    case o4 =>
                      intro A W hv hlen hJ hbase hdL hdH
                      have e11 : A.eval (.tmp 11) = .pointer (some ⟨gx, 0, none⟩) := hbase 11 (by kernel_rfl)
                      have f11 : A.tmps[11]?.getD undef = .pointer (some ⟨gx, 0, none⟩) := by simpa [Act.eval] using e11
                      exact light_val rfl (v := .pointer (some ⟨gx, 1, none⟩)) (by simp [execOp, go_sem, e11, f11]) hJ rfl
                    case o5 =>
                      intro A W hv hlen hJ hbase hdL hdH
                      have e77 : A.eval (.tmp 77) = .pointer (some ⟨gx, 1, none⟩) := hdL 4 77 (by kernel_rfl) (by kernel_rfl) (by kernel_rfl)
                      have f77 : A.tmps[77]?.getD undef = .pointer (some ⟨gx, 1, none⟩) := by simpa [Act.eval] using e77
                      obtain ⟨hcW, _⟩ := (bx.fr (JA.fr hJ) hgxs).cell 1 _ rfl
                      exact light_val rfl (v := .int .i64 (j : Int)) (by simp [execOp, go_sem, e77, f77, hcW]) hJ rfl
                    case o6 =>
                      intro A W hv hlen hJ hbase hdL hdH
                      have e76 : A.eval (.tmp 76) = .slice (some ⟨g2, 0, none⟩) k k := hdL 3 76 (by kernel_rfl) (by kernel_rfl) (by kernel_rfl)
                      have f76 : A.tmps[76]?.getD undef = .slice (some ⟨g2, 0, none⟩) k k := by simpa [Act.eval] using e76
                      have e78 : A.eval (.tmp 78) = .int .i64 (j : Int) := hdL 5 78 (by kernel_rfl) (by kernel_rfl) (by kernel_rfl)
                      have f78 : A.tmps[78]?.getD undef = .int .i64 (j : Int) := by simpa [Act.eval] using e78
                      have hr := run_idxO (P := Try.prog) (w := W) (sz := 1) 59 41 Try.underlying59 size_bytes g2 k k .i64 j hjk
                      exact light_val rfl (v := .pointer (some ⟨g2, j * 1, none⟩)) (by simp [execOp, e76, e78, hr, Result.andThen]) hJ rfl
                    case o7 =>
                      intro A W hv hlen hJ hbase hdL hdH
                      have e79 : A.eval (.tmp 79) = .pointer (some ⟨g2, j * 1, none⟩) := hdL 6 79 (by kernel_rfl) (by kernel_rfl) (by kernel_rfl)
                      have f79 : A.tmps[79]?.getD undef = .pointer (some ⟨g2, j * 1, none⟩) := by simpa [Act.eval] using e79
                      have hb1 : hv.length ≤ 1 := hlen.2 1 11 rfl (by kernel_rfl)
                      have hcW : W.cell? ⟨g2, j, none⟩ = some (vs j) := by
                        match hv, hb1, hJ with
                        | [], _, hJ => cases hJ; exact cj0
                        | [_], _, hJ => obtain ⟨_, rfl⟩ := hJ; exact ((Fr.refl noB W'.drew).alloc _).cell cj0 (fun q => q)
                      have hr := run_ld1 (P := Try.prog) (w := W) 41 5 Try.underlying41 g2 j (vs j) hcW
                      exact light_val rfl (v := vs j) (by simp [execOp, e79, hr, Result.andThen]) hJ rfl
                    case o8 =>
                      intro A W hv hlen hJ hbase hdL hdH
                      have e11 : A.eval (.tmp 11) = .pointer (some ⟨gx, 0, none⟩) := hbase 11 (by kernel_rfl)
                      have f11 : A.tmps[11]?.getD undef = .pointer (some ⟨gx, 0, none⟩) := by simpa [Act.eval] using e11
                      exact light_val rfl (v := .pointer (some ⟨gx, 2, none⟩)) (by simp [execOp, go_sem, e11, f11]) hJ rfl
                    case o9 =>
                      intro A W hv hlen hJ hbase hdL hdH
                      have e81 : A.eval (.tmp 81) = .pointer (some ⟨gx, 2, none⟩) := hdL 8 81 (by kernel_rfl) (by kernel_rfl) (by kernel_rfl)
                      have f81 : A.tmps[81]?.getD undef = .pointer (some ⟨gx, 2, none⟩) := by simpa [Act.eval] using e81
                      obtain ⟨hcW, _⟩ := (bx.fr (JA.fr hJ) hgxs).cell 2 _ rfl
                      exact light_val rfl (v := .int .u8 by') (by simp [execOp, go_sem, e81, f81, hcW]) hJ rfl
                    case o10 =>
                      intro A W hv hlen hJ hbase hdL hdH
                      have e82 : A.eval (.tmp 82) = .int .u8 by' := hdL 9 82 (by kernel_rfl) (by kernel_rfl) (by kernel_rfl)
                      have f82 : A.tmps[82]?.getD undef = .int .u8 by' := by simpa [Act.eval] using e82
                      obtain rfl : hv = [] := List.eq_nil_of_length_eq_zero hlen
                      cases hJ
                      have hr := run_mk1 (P := Try.prog) (ec := enV) (sz := 1) 41 Try.underlying41 _ info_u8 (by decide) (by decide) (.int .u8 by') (.int .u8 by') rfl rfl W'.drew
                      exact heavy_val rfl (v := .slice (some ⟨W'.drew.heap.size, 0, none⟩) 1 1) (w' := W'.drew.alloc (.cells #[.int .u8 by'] 5)) (by simp only [execOp]; simp [e82, hr, Result.andThen]) ⟨rfl, rfl⟩
                    case o11 =>
                      intro A W hv hlen hJ hbase hdL hdH
                      have e80 : A.eval (.tmp 80) = vs j := hdL 7 80 (by kernel_rfl) (by kernel_rfl) (by kernel_rfl)
                      have f80 : A.tmps[80]?.getD undef = vs j := by simpa [Act.eval] using e80
                      obtain ⟨v83, rfl⟩ := List.length_eq_one_iff.1 hlen
                      obtain ⟨rfl, rfl⟩ := hJ
                      have e83 : A.eval (.tmp 83) = .slice (some ⟨W'.drew.heap.size, 0, none⟩) 1 1 := by have := hdH 10 83 0 (by kernel_rfl) rfl (by kernel_rfl); simpa using this.symm
                      refine heavy_wp rfl ?_
                      have hfa : Fr noB W'.drew (W'.drew.alloc (.cells #[.int .u8 by'] 5)) := (Fr.refl _ _).alloc _
                      refine wp_appT (.tmp 80) (.tmp 83) 41 rfl _ Try.underlying41 info_u8b rfl (vs j) e80 (hOj.fr hfa (fun q => q)) W'.drew.heap.size e83 (.int .u8 by') (by rw [World.cell?_alloc_new]; rfl) rfl hxsl.out ?_
                      intro v' w' b' hO' hf' hb'
                      have zz' := hfa.size
                      exact ⟨v', rfl, b', hO', (hfa.mono (fun _ _ q => q.elim)).thenT hf' (fun _ _ q => q), by rcases hb' with h | h; exact Or.inl h; exact Or.inr (by omega)⟩
                    case o12 =>
                      intro A W hv hlen hJ hbase hdL hdH
                      have e73 : A.eval (.tmp 73) = .slice (some ⟨g2, 0, none⟩) k k := hdL 0 73 (by kernel_rfl) (by kernel_rfl) (by kernel_rfl)
                      have f73 : A.tmps[73]?.getD undef = .slice (some ⟨g2, 0, none⟩) k k := by simpa [Act.eval] using e73
                      have e75 : A.eval (.tmp 75) = .int .i64 (j : Int) := hdL 2 75 (by kernel_rfl) (by kernel_rfl) (by kernel_rfl)
                      have f75 : A.tmps[75]?.getD undef = .int .i64 (j : Int) := by simpa [Act.eval] using e75
                      have hr := run_idxO (P := Try.prog) (w := W) (sz := 1) 59 41 Try.underlying59 size_bytes g2 k k .i64 j hjk
                      exact light_val rfl (v := .pointer (some ⟨g2, j * 1, none⟩)) (by simp [execOp, e73, e75, hr, Result.andThen]) hJ rfl
                    case o13 =>
                      intro A W hv hlen hJ hbase hdL hdH
                      have e85 : A.eval (.tmp 85) = .pointer (some ⟨g2, j * 1, none⟩) := hdL 12 85 (by kernel_rfl) (by kernel_rfl) (by kernel_rfl)
                      have f85 : A.tmps[85]?.getD undef = .pointer (some ⟨g2, j * 1, none⟩) := by simpa [Act.eval] using e85
                      match hv, hlen with
                      | [x83, v84], _ =>
                        obtain ⟨b', hO', hf', hb'⟩ := hJ
                        have e84 : A.eval (.tmp 84) = v84 := by have := hdH 11 84 1 (by kernel_rfl) rfl (by kernel_rfl); simpa using this.symm
                        have hB := bo.fr hf' (fun q => hbg q.symm)
                        obtain ⟨o6, c6, hv6⟩ := hO'.opn
                        have hr := run_st1 (P := Try.prog) (off := j * 1) 41 size_bytes v84 (by rw [hv6]; rfl) _ _ hB (by simp; omega)
                        have hb2 := hB.set (j * 1) v84
                        rw [Nat.mul_one] at hb2
                        refine heavy_wp rfl ?_
                        unfold Oper.wp execOp
                        simp only [e84, e85, Sem.run_bind, hr, Result.andThen_ok]
                        have hfs : Fr (onB1 g2) W (W.setCell ⟨g2, j * 1, none⟩ v84) := (Fr.refl (onB1 g2) _).setCell _ _ (fun _ => rfl)
                        refine ⟨undef, rfl, b', hO'.fr hfs ?_, by rw [Nat.mul_one]; exact hb2, (hf'.mono (fun k _ q => Or.inl q)).thenT hfs (fun k _ q => Or.inr q), hb'⟩
                        intro q
                        have hgl := bo.lt
                        unfold onB1 at q
                        rcases hb' with h | h
                        · exact hbg (h.symm.trans q)
                        · omega
                    case oe =>
                      intro vs2 W2 hv2 hlen2 hJ2 hL2 hH2
                      match hv2, hlen2 with
                      | [x1, x2, x3], _ =>
                        obtain ⟨b', hO2, hB2, hf2, hb2⟩ := hJ2
                        simp only [layL, Nat.reduceAdd, Act.put, List.setIfInBounds_toArray, List.set_cons_zero, List.set_cons_succ]
                        clear hL2 hH2
                        generalize vs2 0 = y200 at *
                        generalize vs2 1 = y201 at *
                        generalize vs2 2 = y202 at *
                        generalize vs2 3 = y203 at *
                        generalize vs2 4 = y204 at *
                        generalize vs2 5 = y205 at *
                        generalize vs2 6 = y206 at *
                        generalize vs2 7 = y207 at *
                        generalize vs2 8 = y208 at *
                        generalize vs2 9 = y209 at *
                        generalize vs2 10 = y210 at *
                        generalize vs2 11 = y211 at *
                        generalize vs2 12 = y212 at *
                        generalize vs2 13 = y213 at *
                        have bx2 := bx.fr hf2 hgxs
                        obtain ⟨r1, _⟩ := bx2.cell 0 _ rfl
                        have z2' := hf2.size
                        have zd : W'.drew.heap.size = W'.heap.size := rfl
                        rw [set_upd] at hB2
                        rw [← Hxs.out] at hO2
                        have hjj := hM.low j hjk
                        have hO2lt := hO2.lt
                        go_wp2
                        go_roundw
                        case rel =>
                          refine ⟨m + 1, Y, c, ps ++ [(j, by')], F', upd vs j x2, upd bs j b', by omega, by go_num, hKY, by show _ ≤ _; have := hpl.out; simp; omega, (hd'.fr0 ((Fr.refl _ _).drew)).fr hf2 (fun q _ hq e => ?_), ⟨hB2, fun i hi => ?_, fun i i' hi hi' e => ?_, fun i hi => ?_⟩, fun q hq => ?_, (G6.drew).thenT hf2 (fun q hq e => ?_)⟩
                          · have := hF6 q hq
                            rcases e with e | e
                            · exact this.2.2.2 j hjk e
                            · exact this.2.2.1 e
                          · by_cases hij : i = j
                            · subst hij
                              rw [upd_self, upd_self, mayL_put, if_pos rfl, List.map_append]
                              exact hO2
                            · rw [upd_ne _ _ hij, upd_ne _ _ hij, mayL_put, if_neg (fun e => hij e.symm)]
                              refine ((hM6.each i hi).fr ((Fr.refl noB W').drew) (fun q => q)).fr hf2 (fun q => ?_)
                              rcases q with q | q
                              · exact hij (hM.inj i j hi hjk q)
                              · exact hM6.ne i hi q
                          · by_cases hij : i = j <;> by_cases hij' : i' = j
                            · omega
                            · subst hij
                              rw [upd_self, upd_ne _ _ hij'] at e
                              have h1 := hbsw i' hi'
                              rcases hb2 with h2 | h2
                              · exact hM.inj i i' hjk hi' (by omega)
                              · omega
                            · subst hij'
                              rw [upd_self, upd_ne _ _ hij] at e
                              have h1 := hbsw i hi
                              rcases hb2 with h2 | h2
                              · exact hM.inj i i' hi hjk (by omega)
                              · omega
                            · rw [upd_ne _ _ hij, upd_ne _ _ hij'] at e
                              exact hM.inj i i' hi hi' e
                          · by_cases hij : i = j
                            · subst hij; rw [upd_self]; rcases hb2 with h2 | h2 <;> omega
                            · rw [upd_ne _ _ hij]; exact hM.low i hi
                          · have h1 := hF6 q hq
                            refine ⟨h1.1, by omega, h1.2.2.1, fun i hi => ?_⟩
                            by_cases hij : i = j
                            · subst hij; rw [upd_self]
                              rcases hb2 with h2 | h2
                              · rw [h2]; exact h1.2.2.2 i hi
                              · omega
                            · rw [upd_ne _ _ hij]; exact h1.2.2.2 i hi
                          · rcases e with e | e
                            · have := hM.low j hjk; omega
                            · omega
                        case measure => simp [intOf]; omega
            · have hk0b : (kd == 0) = false := by simpa using hk0
              refine wp_region_chain_lay (by kernel_rfl) [] [none, none, none, none, none, none, none, none, none, none, none, none, none]
                [fun v => v = .pointer (some ⟨gx, 0, none⟩), fun v => v = .int .i64 kd, fun v => v = .bool false, fun v => v = .bool false, fun v => v = undef, fun v => v = undef, fun v => v = undef, fun v => v = undef, fun v => v = undef, fun v => v = undef, fun v => v = undef, fun v => v = undef, fun v => v = .bool false]
                (JN w5.drew) (rfl) (by kernel_rfl) (by kernel_rfl) (by decide) ⟨?o0, ?o1, ?o2, ?o3, ?o4, ?o5, ?o6, ?o7, ?o8, ?o9, ?o10, ?o11, ?o12, trivial⟩ ?oe
              case o0 =>
                intro A W hv hlen hJ hbase hdL hdH
                have e11 : A.eval (.tmp 11) = .pointer (some ⟨gx, 0, none⟩) := hbase 11 (by kernel_rfl)
                have f11 : A.tmps[11]?.getD undef = .pointer (some ⟨gx, 0, none⟩) := by simpa [Act.eval] using e11
                exact light_val rfl (v := .pointer (some ⟨gx, 0, none⟩)) (by simp [execOp, go_sem, e11, f11]) hJ rfl
              case o1 =>
                intro A W hv hlen hJ hbase hdL hdH
                have e60 : A.eval (.tmp 60) = .pointer (some ⟨gx, 0, none⟩) := hdL 0 60 (by kernel_rfl) (by kernel_rfl) (by kernel_rfl)
                have f60 : A.tmps[60]?.getD undef = .pointer (some ⟨gx, 0, none⟩) := by simpa [Act.eval] using e60
                cases hJ
                exact light_val rfl (v := .int .i64 kd) (by simp [execOp, go_sem, e60, f60, q0]) rfl rfl
              case o2 =>
                intro A W hv hlen hJ hbase hdL hdH
                have e61 : A.eval (.tmp 61) = .int .i64 kd := hdL 1 61 (by kernel_rfl) (by kernel_rfl) (by kernel_rfl)
                have f61 : A.tmps[61]?.getD undef = .int .i64 kd := by simpa [Act.eval] using e61
                exact light_val rfl (v := .bool false) (by simp [execOp, go_sem, e61, f61, hk0b]) hJ rfl
              case o3 =>
                intro A W hv hlen hJ hbase hdL hdH
                have e62 : A.eval (.tmp 62) = .bool false := hdL 2 62 (by kernel_rfl) (by kernel_rfl) (by kernel_rfl)
                have f62 : A.tmps[62]?.getD undef = .bool false := by simpa [Act.eval] using e62
                exact light_val rfl (v := .bool false) (by simp [execOp, e62, f62]) hJ rfl
              case o4 =>
                intro A W hv hlen hJ hbase hdL hdH
                have eg : A.eval (.tmp 63) = .bool false := hdL 3 63 (by kernel_rfl) (by kernel_rfl) (by kernel_rfl)
                exact light_no (unwanted_of rfl (by kernel_rfl) eg) rfl
              case o5 =>
                intro A W hv hlen hJ hbase hdL hdH
                have eg : A.eval (.tmp 63) = .bool false := hdL 3 63 (by kernel_rfl) (by kernel_rfl) (by kernel_rfl)
                exact light_no (unwanted_of rfl (by kernel_rfl) eg) rfl
              case o6 =>
                intro A W hv hlen hJ hbase hdL hdH
                have eg : A.eval (.tmp 63) = .bool false := hdL 3 63 (by kernel_rfl) (by kernel_rfl) (by kernel_rfl)
                exact light_no (unwanted_of rfl (by kernel_rfl) eg) rfl
              case o7 =>
                intro A W hv hlen hJ hbase hdL hdH
                have eg : A.eval (.tmp 63) = .bool false := hdL 3 63 (by kernel_rfl) (by kernel_rfl) (by kernel_rfl)
                exact light_no (unwanted_of rfl (by kernel_rfl) eg) rfl
              case o8 =>
                intro A W hv hlen hJ hbase hdL hdH
                have eg : A.eval (.tmp 63) = .bool false := hdL 3 63 (by kernel_rfl) (by kernel_rfl) (by kernel_rfl)
                exact light_no (unwanted_of rfl (by kernel_rfl) eg) rfl
              case o9 =>
                intro A W hv hlen hJ hbase hdL hdH
                have eg : A.eval (.tmp 63) = .bool false := hdL 3 63 (by kernel_rfl) (by kernel_rfl) (by kernel_rfl)
                exact light_no (unwanted_of rfl (by kernel_rfl) eg) rfl
              case o10 =>
                intro A W hv hlen hJ hbase hdL hdH
                have eg : A.eval (.tmp 63) = .bool false := hdL 3 63 (by kernel_rfl) (by kernel_rfl) (by kernel_rfl)
                exact light_no (unwanted_of rfl (by kernel_rfl) eg) rfl
              case o11 =>
                intro A W hv hlen hJ hbase hdL hdH
                have eg : A.eval (.tmp 63) = .bool false := hdL 3 63 (by kernel_rfl) (by kernel_rfl) (by kernel_rfl)
                exact light_no (unwanted_of rfl (by kernel_rfl) eg) rfl
              case o12 =>
                intro A W hv hlen hJ hbase hdL hdH
                have e63 : A.eval (.tmp 63) = .bool false := hdL 3 63 (by kernel_rfl) (by kernel_rfl) (by kernel_rfl)
                have f63 : A.tmps[63]?.getD undef = .bool false := by simpa [Act.eval] using e63
                exact light_val rfl (v := .bool false) (by simp [execOp, go_sem, e63, f63]) hJ rfl
              case oe =>
                intro vs' W' hv hlen hJ hL hH
                obtain rfl : hv = [] := List.eq_nil_of_length_eq_zero hlen
                cases hJ
                have hx72 : vs' 12 = .bool false := hL 12 (by rfl) (by rfl)
                simp only [layL, Nat.reduceAdd, Act.put, List.setIfInBounds_toArray, List.set_cons_zero, List.set_cons_succ]
                clear hL hH
                generalize vs' 0 = y100 at *
                generalize vs' 1 = y101 at *
                generalize vs' 2 = y102 at *
                generalize vs' 3 = y103 at *
                generalize vs' 4 = y104 at *
                generalize vs' 5 = y105 at *
                generalize vs' 6 = y106 at *
                generalize vs' 7 = y107 at *
                generalize vs' 8 = y108 at *
                generalize vs' 9 = y109 at *
                generalize vs' 10 = y110 at *
                generalize vs' 11 = y111 at *
                generalize vs' 12 = y112 at *
                subst hx72
                by_cases hk1 : kd = 1
                · subst hk1
                  obtain ⟨E, HE⟩ : ∃ E, Hid (X.actE = E) := ⟨_, rfl⟩
                  obtain ⟨Y, HY⟩ : ∃ Y, Hid (X.sync = Y) := ⟨_, rfl⟩
                  by_cases hE : E = 0
                  · subst hE
                    have hKY : Hid (KX k Y (lastC c ps) []) := by show KX _ _ _ _; rw [← HY.out]; exact hKX.out.sync.1 HE.out
                    go_wp2_with (first
                      | (go_at_call 14; go_must (refine (sync_any gd _ hD5 hpm).mono ?_; rw [HE.out, HY.out]; rintro e w6 ⟨rfl, d6, f6⟩; have z6 := f6.size; have b7 := b6.fr f6 hngx)))
                    have hM6 := hM5.fr f6 (fun q => (hF _ q).2.2.1 rfl) (fun i hi q => (hF _ q).2.2.2 i hi rfl)
                    have G6 := G5.thenT f6 (fun q hq q' => by have := hF q q'; omega)
                    go_loopw [96] (fun i wq => ∃ (r : Nat) (us : Nat → Value), r ≤ k ∧ i = .int .i64 (r : Int) ∧ May wq w1.heap.size g2 k us bs (fun i => if i < r then [(lastC c ps).getD i 0] else mayL c ps i) k ∧ Fr (onB1 g2) w6 wq) (fun i _ => k - (intOf i).toNat)
                    case atStart => exact ⟨0, vs, Nat.zero_le _, rfl, hM6.congr (fun i hi => by simp), Fr.refl _ _⟩
                    case round =>
                      obtain ⟨r, us, hrk, rfl, hMr, hfr⟩ := hrel
                      have zr := hfr.size
                      by_cases hlr : r < k
                      · have hlr' : (r : Int) < (k : Int) := by omega
                        obtain ⟨xs, Hxs⟩ : ∃ xs, Hid ((mayL c ps r).map (Value.int .u8) = xs) := ⟨_, rfl⟩
                        have hOr : OwnT 5 wr.drew (bs r) (us r) xs := by
                          rw [← Hxs.out]; have := hMr.each r hlr; rw [if_neg (by omega)] at this; exact this
                        obtain ⟨nr, Hnr⟩ : ∃ nr, Hid (xs.length = nr + 1) := ⟨xs.length - 1, by show _ = _; rw [← Hxs.out, List.length_map]; unfold mayL; simp⟩
                        have hnr1 : Hid (nr ≤ 100) := by show _ ≤ _; have h1 := mayL_len c ps r; have h2 := hpl.out; have h3 := Hnr.out; rw [← Hxs.out, List.length_map] at h3; omega
                        obtain ⟨orr, cr, hur⟩ := hOr.opn
                        rw [Hnr.out] at hur
                        have hcr : nr + 1 ≤ cr := by
                          obtain ⟨_, _, _, h1, _, h3, _⟩ := hOr
                          rw [hur] at h1
                          have h4 := Hnr.out
                          simp at h1; omega
                        have bo : BxV wr.drew g2 41 ((List.range k).map us) := hMr.out
                        obtain ⟨cj0, _⟩ := bo.cell r (us r) (by simp [hlr])
                        rw [hur] at cj0 hOr
                        have hOc := hOr.cutL nr (by rw [Hnr.out]; omega)
                        have hlast : xs.drop nr = [Value.int .u8 ((lastC c ps).getD r 0)] := by
                          have h1 := lastC_may k c hKX.out.len _ ps rfl hKX.out.inN r hlr
                          have h2 : nr = (mayL c ps r).length - 1 := by have := Hnr.out; rw [← Hxs.out, List.length_map] at this; omega
                          rw [← Hxs.out, ← List.map_drop, h2, h1]; rfl
                        rw [hlast, show nr + 1 - nr = 1 by omega] at hOc
                        go_wp2_with fail
                        refine wp_region_chain_lay (by kernel_rfl) [14] [none, none, none, none, none, none, none, none, none, none, none, none, none, none, some 0]
                          [fun v => v = .slice (some ⟨g2, 0, none⟩) k k, fun v => v = .int .i64 (r : Int), fun v => v = .slice (some ⟨g2, 0, none⟩) k k, fun v => v = .int .i64 (r : Int), fun v => v = .pointer (some ⟨g2, r * 1, none⟩), fun v => v = .slice (some ⟨bs r, orr, none⟩) (nr + 1) cr, fun v => v = .slice (some ⟨g2, 0, none⟩) k k, fun v => v = .int .i64 (r : Int), fun v => v = .pointer (some ⟨g2, r * 1, none⟩), fun v => v = .slice (some ⟨bs r, orr, none⟩) (nr + 1) cr, fun v => v = .int .i64 ((nr : Int) + 1), fun v => v = .int .i64 (nr : Int), fun v => v = .slice (some ⟨bs r, orr + nr, none⟩) 1 (cr - nr), fun v => v = .pointer (some ⟨g2, r * 1, none⟩), fun _ => True]
                          (JU wr.drew g2 (((List.range k).map us).set r (.slice (some ⟨bs r, orr + nr, none⟩) 1 (cr - nr)))) (rfl) (by kernel_rfl) (by kernel_rfl) (by decide) ⟨?o0, ?o1, ?o2, ?o3, ?o4, ?o5, ?o6, ?o7, ?o8, ?o9, ?o10, ?o11, ?o12, ?o13, ?o14, trivial⟩ ?oe
                        case o0 =>
                          intro A W hv hlen hJ hbase hdL hdH
                          have e8 : A.eval (.tmp 8) = .slice (some ⟨g2, 0, none⟩) k k := hbase 8 (by kernel_rfl)
                          have f8 : A.tmps[8]?.getD undef = .slice (some ⟨g2, 0, none⟩) k k := by simpa [Act.eval] using e8
                          exact light_val rfl (v := .slice (some ⟨g2, 0, none⟩) k k) (by simp [execOp, e8, f8]) hJ rfl
                        case o1 =>
                          intro A W hv hlen hJ hbase hdL hdH
                          have e12 : A.eval (.tmp 12) = .int .i64 (r : Int) := hbase 12 (by kernel_rfl)
                          have f12 : A.tmps[12]?.getD undef = .int .i64 (r : Int) := by simpa [Act.eval] using e12
                          exact light_val rfl (v := .int .i64 (r : Int)) (by simp [execOp, e12, f12]) hJ rfl
                        case o2 =>
                          intro A W hv hlen hJ hbase hdL hdH
                          have e8 : A.eval (.tmp 8) = .slice (some ⟨g2, 0, none⟩) k k := hbase 8 (by kernel_rfl)
                          have f8 : A.tmps[8]?.getD undef = .slice (some ⟨g2, 0, none⟩) k k := by simpa [Act.eval] using e8
                          exact light_val rfl (v := .slice (some ⟨g2, 0, none⟩) k k) (by simp [execOp, e8, f8]) hJ rfl
                        case o3 =>
                          intro A W hv hlen hJ hbase hdL hdH
                          have e12 : A.eval (.tmp 12) = .int .i64 (r : Int) := hbase 12 (by kernel_rfl)
                          have f12 : A.tmps[12]?.getD undef = .int .i64 (r : Int) := by simpa [Act.eval] using e12
                          exact light_val rfl (v := .int .i64 (r : Int)) (by simp [execOp, e12, f12]) hJ rfl
                        case o4 =>
                          intro A W hv hlen hJ hbase hdL hdH
                          have e101 : A.eval (.tmp 101) = .slice (some ⟨g2, 0, none⟩) k k := hdL 2 101 (by kernel_rfl) (by kernel_rfl) (by kernel_rfl)
                          have f101 : A.tmps[101]?.getD undef = .slice (some ⟨g2, 0, none⟩) k k := by simpa [Act.eval] using e101
                          have e102 : A.eval (.tmp 102) = .int .i64 (r : Int) := hdL 3 102 (by kernel_rfl) (by kernel_rfl) (by kernel_rfl)
                          have f102 : A.tmps[102]?.getD undef = .int .i64 (r : Int) := by simpa [Act.eval] using e102
                          have hr := run_idxO (P := Try.prog) (w := W) (sz := 1) 59 41 Try.underlying59 size_bytes g2 k k .i64 r hlr
                          exact light_val rfl (v := .pointer (some ⟨g2, r * 1, none⟩)) (by simp [execOp, e101, e102, hr, Result.andThen]) hJ rfl
                        case o5 =>
                          intro A W hv hlen hJ hbase hdL hdH
                          have e103 : A.eval (.tmp 103) = .pointer (some ⟨g2, r * 1, none⟩) := hdL 4 103 (by kernel_rfl) (by kernel_rfl) (by kernel_rfl)
                          have f103 : A.tmps[103]?.getD undef = .pointer (some ⟨g2, r * 1, none⟩) := by simpa [Act.eval] using e103
                          have hb1 : hv.length ≤ 0 := hlen.2 0 14 rfl (by kernel_rfl)
                          obtain rfl : hv = [] := List.eq_nil_of_length_eq_zero (Nat.le_zero.1 hb1)
                          cases hJ
                          have hr := run_ld1 (P := Try.prog) (w := wr.drew) 41 5 Try.underlying41 g2 r (.slice (some ⟨bs r, orr, none⟩) (nr + 1) cr) cj0
                          exact light_val rfl (v := .slice (some ⟨bs r, orr, none⟩) (nr + 1) cr) (by simp [execOp, e103, hr, Result.andThen]) rfl rfl
                        case o6 =>
                          intro A W hv hlen hJ hbase hdL hdH
                          have e8 : A.eval (.tmp 8) = .slice (some ⟨g2, 0, none⟩) k k := hbase 8 (by kernel_rfl)
                          have f8 : A.tmps[8]?.getD undef = .slice (some ⟨g2, 0, none⟩) k k := by simpa [Act.eval] using e8
                          exact light_val rfl (v := .slice (some ⟨g2, 0, none⟩) k k) (by simp [execOp, e8, f8]) hJ rfl
                        case o7 =>
                          intro A W hv hlen hJ hbase hdL hdH
                          have e12 : A.eval (.tmp 12) = .int .i64 (r : Int) := hbase 12 (by kernel_rfl)
                          have f12 : A.tmps[12]?.getD undef = .int .i64 (r : Int) := by simpa [Act.eval] using e12
                          exact light_val rfl (v := .int .i64 (r : Int)) (by simp [execOp, e12, f12]) hJ rfl
                        case o8 =>
                          intro A W hv hlen hJ hbase hdL hdH
                          have e105 : A.eval (.tmp 105) = .slice (some ⟨g2, 0, none⟩) k k := hdL 6 105 (by kernel_rfl) (by kernel_rfl) (by kernel_rfl)
                          have f105 : A.tmps[105]?.getD undef = .slice (some ⟨g2, 0, none⟩) k k := by simpa [Act.eval] using e105
                          have e106 : A.eval (.tmp 106) = .int .i64 (r : Int) := hdL 7 106 (by kernel_rfl) (by kernel_rfl) (by kernel_rfl)
                          have f106 : A.tmps[106]?.getD undef = .int .i64 (r : Int) := by simpa [Act.eval] using e106
                          have hr := run_idxO (P := Try.prog) (w := W) (sz := 1) 59 41 Try.underlying59 size_bytes g2 k k .i64 r hlr
                          exact light_val rfl (v := .pointer (some ⟨g2, r * 1, none⟩)) (by simp [execOp, e105, e106, hr, Result.andThen]) hJ rfl
                        case o9 =>
                          intro A W hv hlen hJ hbase hdL hdH
                          have e107 : A.eval (.tmp 107) = .pointer (some ⟨g2, r * 1, none⟩) := hdL 8 107 (by kernel_rfl) (by kernel_rfl) (by kernel_rfl)
                          have f107 : A.tmps[107]?.getD undef = .pointer (some ⟨g2, r * 1, none⟩) := by simpa [Act.eval] using e107
                          have hb1 : hv.length ≤ 0 := hlen.2 0 14 rfl (by kernel_rfl)
                          obtain rfl : hv = [] := List.eq_nil_of_length_eq_zero (Nat.le_zero.1 hb1)
                          cases hJ
                          have hr := run_ld1 (P := Try.prog) (w := wr.drew) 41 5 Try.underlying41 g2 r (.slice (some ⟨bs r, orr, none⟩) (nr + 1) cr) cj0
                          exact light_val rfl (v := .slice (some ⟨bs r, orr, none⟩) (nr + 1) cr) (by simp [execOp, e107, hr, Result.andThen]) rfl rfl
                        case o10 =>
                          intro A W hv hlen hJ hbase hdL hdH
                          have e108 : A.eval (.tmp 108) = .slice (some ⟨bs r, orr, none⟩) (nr + 1) cr := hdL 9 108 (by kernel_rfl) (by kernel_rfl) (by kernel_rfl)
                          have f108 : A.tmps[108]?.getD undef = .slice (some ⟨bs r, orr, none⟩) (nr + 1) cr := by simpa [Act.eval] using e108
                          exact light_val rfl (v := .int .i64 ((nr : Int) + 1)) (by simp [execOp, resolve, invoke, builtin, Builtin.len_, go_sem, e108, f108]) hJ rfl
                        case o11 =>
                          intro A W hv hlen hJ hbase hdL hdH
                          have e109 : A.eval (.tmp 109) = .int .i64 ((nr : Int) + 1) := hdL 10 109 (by kernel_rfl) (by kernel_rfl) (by kernel_rfl)
                          have f109 : A.tmps[109]?.getD undef = .int .i64 ((nr : Int) + 1) := by simpa [Act.eval] using e109
                          exact light_val rfl (v := .int .i64 (nr : Int)) (by simp [execOp, go_sem, e109, f109, wrapN nr (by have := hnr1.out; omega)]) hJ rfl
                        case o12 =>
                          intro A W hv hlen hJ hbase hdL hdH
                          have e104 : A.eval (.tmp 104) = .slice (some ⟨bs r, orr, none⟩) (nr + 1) cr := hdL 5 104 (by kernel_rfl) (by kernel_rfl) (by kernel_rfl)
                          have f104 : A.tmps[104]?.getD undef = .slice (some ⟨bs r, orr, none⟩) (nr + 1) cr := by simpa [Act.eval] using e104
                          have e110 : A.eval (.tmp 110) = .int .i64 (nr : Int) := hdL 11 110 (by kernel_rfl) (by kernel_rfl) (by kernel_rfl)
                          have f110 : A.tmps[110]?.getD undef = .int .i64 (nr : Int) := by simpa [Act.eval] using e110
                          have hr := run_cutL (P := Try.prog) (b := bs r) 41 Try.underlying41 size_u8 orr cr (nr + 1) nr (by omega) hcr W
                          rw [show nr + 1 - nr = 1 by omega] at hr
                          exact light_val rfl (v := .slice (some ⟨bs r, orr + nr, none⟩) 1 (cr - nr)) (by simp [execOp, e104, e110, hr, Result.andThen]) hJ rfl
                        case o13 =>
                          intro A W hv hlen hJ hbase hdL hdH
                          have e99 : A.eval (.tmp 99) = .slice (some ⟨g2, 0, none⟩) k k := hdL 0 99 (by kernel_rfl) (by kernel_rfl) (by kernel_rfl)
                          have f99 : A.tmps[99]?.getD undef = .slice (some ⟨g2, 0, none⟩) k k := by simpa [Act.eval] using e99
                          have e100 : A.eval (.tmp 100) = .int .i64 (r : Int) := hdL 1 100 (by kernel_rfl) (by kernel_rfl) (by kernel_rfl)
                          have f100 : A.tmps[100]?.getD undef = .int .i64 (r : Int) := by simpa [Act.eval] using e100
                          have hr := run_idxO (P := Try.prog) (w := W) (sz := 1) 59 41 Try.underlying59 size_bytes g2 k k .i64 r hlr
                          exact light_val rfl (v := .pointer (some ⟨g2, r * 1, none⟩)) (by simp [execOp, e99, e100, hr, Result.andThen]) hJ rfl
                        case o14 =>
                          intro A W hv hlen hJ hbase hdL hdH
                          have e111 : A.eval (.tmp 111) = .slice (some ⟨bs r, orr + nr, none⟩) 1 (cr - nr) := hdL 12 111 (by kernel_rfl) (by kernel_rfl) (by kernel_rfl)
                          have f111 : A.tmps[111]?.getD undef = .slice (some ⟨bs r, orr + nr, none⟩) 1 (cr - nr) := by simpa [Act.eval] using e111
                          have e112 : A.eval (.tmp 112) = .pointer (some ⟨g2, r * 1, none⟩) := hdL 13 112 (by kernel_rfl) (by kernel_rfl) (by kernel_rfl)
                          have f112 : A.tmps[112]?.getD undef = .pointer (some ⟨g2, r * 1, none⟩) := by simpa [Act.eval] using e112
                          obtain rfl : hv = [] := List.eq_nil_of_length_eq_zero hlen
                          cases hJ
                          have hr := run_st1 (P := Try.prog) (off := r * 1) 41 size_bytes (.slice (some ⟨bs r, orr + nr, none⟩) 1 (cr - nr)) rfl _ _ bo (by simp; omega)
                          have hb2 := bo.set (r * 1) (.slice (some ⟨bs r, orr + nr, none⟩) 1 (cr - nr))
                          rw [Nat.mul_one] at hb2
                          refine heavy_wp rfl ?_
                          unfold Oper.wp execOp
                          simp only [e111, e112, Sem.run_bind, hr, Result.andThen_ok]
                          exact ⟨undef, rfl, by rw [Nat.mul_one]; exact hb2, (Fr.refl (onB1 g2) _).setCell _ _ (fun _ => rfl)⟩
                        case oe =>
                          intro vs3 W3 hv3 hlen3 hJ3 hL3 hH3
                          match hv3, hlen3 with
                          | [x1], _ =>
                            obtain ⟨hB3, hf3⟩ := hJ3
                            simp only [layL, Nat.reduceAdd, Act.put, List.setIfInBounds_toArray, List.set_cons_zero, List.set_cons_succ]
                            clear hL3 hH3
                            generalize vs3 0 = y300 at *
                            generalize vs3 1 = y301 at *
                            generalize vs3 2 = y302 at *
                            generalize vs3 3 = y303 at *
                            generalize vs3 4 = y304 at *
                            generalize vs3 5 = y305 at *
                            generalize vs3 6 = y306 at *
                            generalize vs3 7 = y307 at *
                            generalize vs3 8 = y308 at *
                            generalize vs3 9 = y309 at *
                            generalize vs3 10 = y310 at *
                            generalize vs3 11 = y311 at *
                            generalize vs3 12 = y312 at *
                            generalize vs3 13 = y313 at *
                            generalize vs3 14 = y314 at *
                            rw [set_upd] at hB3
                            go_wp2
                            go_roundw
                            case rel =>
                              refine ⟨r + 1, upd us r _, by omega, by go_num, ⟨hB3, fun i hi => ?_, hM.inj, hM.low⟩, hfr.drew.trans hf3⟩
                              by_cases hir : i = r
                              · subst hir
                                rw [upd_self, if_pos (by omega)]
                                exact hOc.fr hf3 (hMr.ne i hi)
                              · rw [upd_ne _ _ hir]
                                have h1 := ((hMr.each i hi).fr ((Fr.refl noB wr).drew) (fun q => q)).fr hf3 (hMr.ne i hi)
                                have h2 : (i < r) = (i < r + 1) := by rw [eq_iff_iff]; omega
                                simp only [h2] at h1
                                exact h1
                            case measure => simp [intOf]; omega
                      · obtain rfl : r = k := by omega
                        obtain ⟨r0, _⟩ := (b7.fr hfr (by unfold onB1; omega)).cell 0 _ rfl
                        go_wp2
                        go_roundw
                        case rel =>
                          refine ⟨m + 1, Y, lastC c ps, [], F, us, bs, by omega, by go_num, hKY, Nat.zero_le _, d6.fr hfr (fun q _ hq e => (hF q hq).2.2.1 e), hMr.congr (fun i hi => by simp [mayL, hi]), fun q hq => ?_, G6.thenT hfr (fun q hq e => by unfold onB1 at e; omega)⟩
                          have h1 := hF q hq
                          exact ⟨h1.1, by omega, h1.2.2⟩
                        case measure => simp [intOf]; omega
                  · have hEb : (E == 0) = false := by simpa using hE
                    have hKY : Hid (KX k Y c ps) := by show KX _ _ _ _; rw [← HY.out]; exact hKX.out.sync.2 (by rw [HE.out]; exact hE)
                    go_wp2_with (first
                      | (go_at_call 14; go_must (refine (sync_any gd _ hD5 hpm).mono ?_; rw [HE.out, HY.out]; rintro e w6 ⟨rfl, d6, f6⟩; have z6 := f6.size; have b7 := b6.fr f6 hngx; obtain ⟨r0, _⟩ := b7.cell 0 _ rfl)))
                    go_roundw
                    case rel =>
                      refine ⟨m + 1, Y, c, ps, F, vs, bs, by omega, by go_num, hKY, by show _ ≤ _; have := hpl.out; omega, d6, hM5.fr f6 (fun q => (hF _ q).2.2.1 rfl) (fun i hi q => (hF _ q).2.2.2 i hi rfl), fun q hq => ?_, G5.thenT f6 (fun q hq q' => by have := hF q q'; omega)⟩
                      have h1 := hF q hq
                      exact ⟨h1.1, by omega, h1.2.2⟩
                    case measure => simp [intOf]; omega
                · have hk1b : (kd == 1) = false := by simpa using hk1
                  by_cases hk2 : kd = 2
                  · subst hk2
                    go_wp2_with (first
                      | (go_at_call 12; go_must (refine (pcut_any gd ak hakr _ hD5).mono ?_; rintro e w6 ⟨rfl, d6, f6⟩; have z6 := f6.size)))
                    go_roundw
                    case rel =>
                      refine ⟨m + 1, _, c, ps, F, vs, bs, by omega, by go_num, hKX.out.cut ak, by show _ ≤ _; have := hpl.out; omega, d6, hM5.fr f6 (fun q => (hF _ q).2.2.1 rfl) (fun i hi q => (hF _ q).2.2.2 i hi rfl), fun q hq => ?_, G5.thenT f6 (fun q hq q' => by have := hF q q'; omega)⟩
                      have h1 := hF q hq
                      exact ⟨h1.1, by omega, h1.2.2⟩
                    case measure => simp [intOf]; omega
                  · have hk2b : (kd == 2) = false := by simpa using hk2
                    go_wp2
                    go_roundw
                    case rel =>
                      refine ⟨m + 1, X, c, ps, F, vs, bs, by omega, by go_num, hKX, by show _ ≤ _; have := hpl.out; omega, hD5, hM5, fun q hq => ?_, G5⟩
                      have h1 := hF q hq
                      exact ⟨h1.1, by omega, h1.2.2⟩
                    case measure => simp [intOf]; omega
          · obtain rfl : m = acts.length := by omega
            obtain ⟨V, HV⟩ : ∃ V, Hid (X.crash keep = V) := ⟨_, rfl⟩
            obtain ⟨hVl, hVp, hVd, hVr⟩ := hKX.out.crash keep
            rw [HV.out] at hVl hVp hVd hVr
            have hVr : Hid (∀ i : Nat, i < k → ∃ p, readP V (i : Int) = (p, 0) ∧ GoodP (mayL c ps i) p) := hVr
            have hV1 : V.pend.length ≤ 100000 := by rw [hVp]; decide
            have hVp : Hid (V.pend = []) := hVp
            have hVd : Hid (V.down = false) := hVd
            clear hVl
            go_wp2_with (first
              | (go_at_call 23; go_must (refine (crash_anyW gd _ keep _ hD hpm (fun W hW => hk.fr0 (hf.thenT hW (fun q hq hq' => (by have := hF q hq'.1; omega))))).mono ?_; rw [HV.out]; rintro e w6 ⟨rfl, d6, f6⟩; have z6 := f6.size)))
            have hM6 := hM.fr f6 (fun q => (hF _ q).2.2.1 rfl) (fun i hi q => (hF _ q).2.2.2 i hi rfl)
            have G6 := hf.thenT f6 (fun q hq q' => by have := hF q q'; omega)
            go_loopw [127] (fun i wq => ∃ (r : Nat), r ≤ k ∧ i = .int .i64 (r : Int) ∧ Fr noB w6 wq) (fun i _ => k - (intOf i).toNat)
            case atStart => exact ⟨0, Nat.zero_le _, rfl, Fr.refl _ _⟩
            case round =>
              obtain ⟨r, hrk, rfl, hfr⟩ := hrel
              by_cases hlr : r < k
              · have hlr' : (r : Int) < (k : Int) := by omega
                obtain ⟨p, hrp, hgp⟩ := hVr.out r hlr
                have hrp : Hid (readP V (r : Int) = (p, 0)) := hrp
                have hpl' : Hid (p.length = 256) := hgp.1
                obtain ⟨l, Hl⟩ : ∃ l, Hid (mayL c ps r = l) := ⟨_, rfl⟩
                have hll : l.length ≤ 1000 := by rw [← Hl.out]; have := mayL_len c ps r; have := hpl.out; omega
                rw [Hl.out] at hgp
                have hgp : Hid (GoodP l p) := hgp
                have hMr := hM6.fr0 hfr
                have hOr := hMr.each r hlr
                rw [Hl.out] at hOr
                obtain ⟨orr, cr, hur⟩ := hOr.opn
                rw [List.length_map] at hur
                obtain ⟨cj0, _⟩ := hMr.out.cell r (vs r) (by simp [hlr])
                rw [hur] at cj0 hOr
                go_wp2_with (first
                  | (refine at_idx 59 _ _ rfl ?_; go_must (refine wpList_idxO (sz := 1) rfl 59 _ _ rfl 41 Try.underlying59 size_bytes g2 _ _ rfl .i64 _ r rfl rfl hlr ?_))
                  | (with_reducible refine at_wpP ?_; refine at_ld 41 _ rfl ?_; go_must (refine wpList_ld1w rfl 41 5 Try.underlying41 _ rfl g2 (r * 1) rfl _ (by rw [Nat.mul_one]; exact cj0) ?_))
                  | (go_at_call 10; go_must (refine (read_any gd (r : Int) (by omega) _ (d6.fr0 hfr) hV1).mono ?_; rw [hrp.out]; rintro e w7 ⟨rfl, f7⟩; have z7 := f7.size))
                  | (with_reducible refine at_wpP ?_; refine wpList_allocP rfl rfl ?_; intro ga w8 hga b8 f8 s8; have l8 := b8.lt)
                  | (with_reducible refine at_wpP ?_; refine at_st 25 _ _ rfl ?_; go_must (refine wpList_storeP rfl _ _ rfl ga rfl p rfl _ b8 hpl'.out zeroP_len ?_; intro w9 b9 f9))
                  | (with_reducible refine at_wpP ?_; refine at_ld 25 _ rfl ?_; go_must (refine wpList_loadP rfl _ rfl ga rfl p b9 hpl'.out ?_)))
                have F9 : Fr noB wr w9 := (f7.thenN f8).thenT f9 (fun q hq e => by unfold onB1 at e; omega)
                have hSl := (hOr.fr F9 (fun q => q)).sl
                rw [List.length_map] at hSl
                go_loop [141] (fun i => ∃ (q : Nat), q ≤ 256 ∧ i = .int .i64 (q : Int)) (fun i => 256 - (intOf i).toNat)
                case atStart => exact ⟨0, Nat.zero_le _, rfl⟩
                case round =>
                  obtain ⟨q, hq, rfl⟩ := hrel
                  by_cases hlq : q < 256
                  · have hlq' : (q : Int) < 256 := by omega
                    obtain ⟨y, Hy⟩ : ∃ y, Hid (p.getD q 0 = y) := ⟨_, rfl⟩
                    have hyl : Hid (y ∈ l) := by show _ ∈ _; rw [← Hy.out]; exact (hgp.out.2 q hlq).1
                    have hye : Hid (p.getD (q / 32 * 32) 0 = y) := by show _ = _; rw [← Hy.out]; exact (hgp.out.2 q hlq).2.symm
                    go_wp2_with (first
                      | (with_reducible refine at_wpP ?_; refine at_index 25 _ _ rfl ?_; go_must (refine wpList_indexP rfl _ _ rfl p rfl hpl'.out q rfl hlq ?_; rw [Hy.out])))
                    go_loop [147, 19] (fun i f => ∃ (s : Nat) (fb : Bool), s ≤ l.length ∧ i = .int .i64 (s : Int) ∧ f = .bool fb ∧ Hid (fb = true ↔ y ∈ l.take s)) (fun i _ => l.length - (intOf i).toNat)
                    case atStart => exact ⟨0, false, Nat.zero_le _, rfl, rfl, by show _ ↔ _; simp⟩
                    case round =>
                      obtain ⟨s, fb, hs, rfl, rfl, hfb⟩ := hrel
                      by_cases hls : s < l.length
                      · have hls' : (s : Int) < (l.length : Int) := by omega
                        have hgs : (l.map (Value.int .u8))[s]? = some (.int .u8 l[s]) := by simp [hls]
                        obtain ⟨z, Hz⟩ : ∃ z, Hid (l[s] = z) := ⟨l[s], (rfl : l[s] = l[s])⟩
                        rw [Hz.out] at hgs
                        have htk : Hid (y ∈ l.take (s + 1) ↔ y ∈ l.take s ∨ y = z) := by
                          show _ ↔ _
                          rw [List.take_succ_eq_append_getElem hls, Hz.out]; simp
                        cases fb with
                        | true =>
                          go_wp2_with (first
                            | (refine at_idx 41 _ _ rfl ?_; go_must (refine wpList_idx1 rfl 41 _ _ rfl 5 Try.underlying41 size_u8 _ _ _ rfl hSl _ _ s rfl rfl hls ?_; intro pp u hu hp; rw [hgs] at hu; cases hu)))
                          go_round
                          case rel => exact ⟨s + 1, true, by omega, by go_num, rfl, by show _ ↔ _; rw [htk.out]; exact ⟨fun _ => Or.inl (hfb.out.1 rfl), fun _ => rfl⟩⟩
                          case measure => simp [intOf]; omega
                        | false =>
                          have hny : ¬ y ∈ l.take s := fun h => by have := hfb.out.2 h; cases this
                          go_wp2_with (first
                            | (refine at_idx 41 _ _ rfl ?_; go_must (refine wpList_idx1 rfl 41 _ _ rfl 5 Try.underlying41 size_u8 _ _ _ rfl hSl _ _ s rfl rfl hls ?_; intro pp u hu hp; rw [hgs] at hu; cases hu)))
                          go_round
                          case rel => exact ⟨s + 1, (z == y), by omega, by go_num, rfl, by show _ ↔ _; rw [htk.out]; simp only [beq_iff_eq]; exact ⟨fun h => Or.inr h.symm, fun h => by rcases h with h | h; exact (hny h).elim; exact h.symm⟩⟩
                          case measure => simp [intOf]; omega
                      · obtain rfl : s = l.length := by omega
                        obtain rfl : fb = true := hfb.out.2 (by rw [List.take_length]; exact hyl.out)
                        obtain ⟨u, Hu⟩ : ∃ u, Hid (q / 32 * 32 = u) := ⟨_, rfl⟩
                        have hu2 : u < 256 := by rw [← Hu.out]; omega
                        have hu3 : (u : Int) < 256 := by omega
                        have hui : (q : Int) / 32 * 32 = (u : Int) := by rw [← Hu.out]; omega
                        have k9 : w9.cell? ⟨ga, u, none⟩ = some (.int .u8 y) := by
                          have h1 := (b9.cell u _ (pgv_get p u (by rw [hpl'.out]; exact hu2))).1
                          rw [h1]
                          have h2 := hye.out
                          rw [Hu.out] at h2
                          have h3 : u < p.length := by rw [hpl'.out]; exact hu2
                          rw [← h2]; simp [List.getD, h3]
                        go_wp2
                        go_round
                        case rel => exact ⟨q + 1, by omega, by go_num⟩
                        case measure => simp [intOf]; omega
                  · obtain rfl : q = 256 := by omega
                    go_wp2
                    go_roundw
                    case rel => exact ⟨r + 1, by omega, by go_num, hfr.thenN F9⟩
                    case measure => simp [intOf]; omega
              · obtain rfl : r = k := by omega
                go_wp2_with (first
                  | (go_at_call 28; go_must (refine (pending_any gd _ (d6.fr0 hfr) hV1).mono ?_; rw [hVp.out]; rintro e w7 ⟨v7, rfl, o7, f7⟩; obtain ⟨a7, c7, rfl⟩ := o7.opn))
                  | (go_at_call 15; go_must (refine (down_any gd _ ((d6.fr0 hfr).fr0 f7)).mono ?_; rw [hVd.out]; rintro e w' ⟨rfl, rfl⟩)))
                go_ret
                exact ⟨rfl, ((G6.thenN hfr).thenN f7).below⟩
  · have hcase : (n < 0 ∨ 60 < n) ∨ (80 < (acts.length : Int)) ∨ (200 < (keep.length : Int)) := by omega
    by_cases c0 : n < 0
    · go_enter Try.func5, Try.ntmps5
      go_wp2_with (first
        | (go_at_call 13; go_must (refine (alive_any _).mono ?_; rintro e w0 ⟨rfl, f0⟩)))
      go_ret
      exact ⟨rfl, f0.below⟩
    · by_cases c1 : 60 < n
      · go_enter Try.func5, Try.ntmps5
        go_wp2_with (first
          | (go_at_call 13; go_must (refine (alive_any _).mono ?_; rintro e w0 ⟨rfl, f0⟩)))
        go_ret
        exact ⟨rfl, f0.below⟩
      · by_cases c2 : 80 < (acts.length : Int)
        · go_enter Try.func5, Try.ntmps5
          go_wp2_with (first
            | (go_at_call 13; go_must (refine (alive_any _).mono ?_; rintro e w0 ⟨rfl, f0⟩)))
          go_ret
          exact ⟨rfl, f0.below⟩
        · have c3 : 200 < (keep.length : Int) := by omega
          go_enter Try.func5, Try.ntmps5
          go_wp2_with (first
            | (go_at_call 13; go_must (refine (alive_any _).mono ?_; rintro e w0 ⟨rfl, f0⟩)))
          go_ret
          exact ⟨rfl, f0.below⟩
end Go.Proofs.Ytejjfpdcmaefiaa
