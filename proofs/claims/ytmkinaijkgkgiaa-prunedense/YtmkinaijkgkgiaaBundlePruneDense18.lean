/- Texts JE, JF, JG of the proof of PruneDense, one behind the other. -/
import Derived.Test.YtmkinaijkgkgiaaBundlePruneDense1
import Derived.Test.YtmkinaijkgkgiaaBundlePruneDense2
import Derived.Test.YtmkinaijkgkgiaaBundlePruneDense3
import Derived.Test.YtmkinaijkgkgiaaBundlePruneDense4
import Derived.Test.YtmkinaijkgkgiaaBundlePruneDense5
import Derived.Test.YtmkinaijkgkgiaaBundlePruneDense6
import Derived.Test.YtmkinaijkgkgiaaBundlePruneDense7
import Derived.Test.YtmkinaijkgkgiaaBundlePruneDense8
import Derived.Test.YtmkinaijkgkgiaaBundlePruneDense9
import Derived.Test.YtmkinaijkgkgiaaBundlePruneDense10
import Derived.Test.YtmkinaijkgkgiaaBundlePruneDense11
import Derived.Test.YtmkinaijkgkgiaaBundlePruneDense12
import Derived.Test.YtmkinaijkgkgiaaBundlePruneDense13
import Derived.Test.YtmkinaijkgkgiaaBundlePruneDense14
import Derived.Test.YtmkinaijkgkgiaaBundlePruneDense15
import Derived.Test.YtmkinaijkgkgiaaBundlePruneDense16
import Derived.Test.YtmkinaijkgkgiaaBundlePruneDense17
/- Trees in memory: with, parts; no condition. -/
namespace Go.Proofs.Ytmkinaijkgkgiaa
open Go.RowKit Go.Proofs.U
set_option linter.unusedSimpArgs false
set_option linter.unusedVariables false
theorem EnO.slp {w : World} {base : Nat} {v : Value} {l : List (Int × Int)} (h : EnO w base v l) (hr : ∀ x ∈ l, (Lit.int .i64 x.1).wf = true ∧ (Lit.int .i64 x.2).wf = true) : SlP .i64 .i64 w v l := ⟨h.sl, hr⟩
theorem InsIs.pre {w0 w w' : World} {base : Nat} {v : Value} {l' : List (Int × Int)} {r : Ending} (f : Fr noB w0 w) (h : InsIs w w' base v l' r) : InsIs w0 w' base v l' r := by
  obtain ⟨v', e, o, fr, p⟩ := h
  exact ⟨v', e, o, (f.mono (fun _ _ q => q.elim)).thenT fr (fun _ _ q => q), fun k hk => (p k hk).imp id (fun q => Nat.le_trans f.size q)⟩
theorem one_own {w : World} {g : Nat} {x : Int × Int} (h : BxV w g 36 (enC x)) : EnO w g (.slice (some ⟨g, 0, none⟩) 1 1) [x] :=
  EnO.mk (Nat.le_refl _) h rfl (by simp) (by decide) rfl (by simp [enC, pairC])
set_option maxRecDepth 100000 in
set_option maxHeartbeats 2000000 in
theorem with_any {w : World} {base : Nat} {v : Value} {l : List (Int × Int)} (x : Int × Int) (hb : base ≤ w.heap.size) (hO : EnO w base v l) (hr : ∀ x ∈ l, (Lit.int .i64 x.1).wf = true ∧ (Lit.int .i64 x.2).wf = true) (hl : l.length ≤ 500) :
    Calls Try.prog 57 #[v, enV x] w fun r w' => ∃ i, AtIs l x.1 i ∧ InsIs w w' base v (withL l x i) r := by
  have hA := fun W (f : Fr noB w W) => at_any v l x.1 W (EnO.slp (hO.fr0 f) hr) (by omega)
  go_enter Try.func57, Try.ntmps57
  go_wp2_with (first
    | (with_reducible refine at_wpP ?_; refine wpList_boxG rfl 36 _ rfl (enV x) (enC x) rfl rfl ?_; intro g3 w3 hg3 b3 f3 s3; have l3 := b3.lt; have z3 := f3.size; have c3 := EnB.all b3)
    | (go_at_call 52; go_must (refine (hA _ f3).mono ?_; rintro e w4 ⟨i, rfl, hi, f4⟩; have z4 := f4.size; have b4 := b3.fr0 f4; have c4 := EnB.all b4)))
  have F4 := f3.thenN f4
  have O4 := hO.fr0 F4
  have hIns := fun (i : Nat) (hi : i ≤ l.length) (W : World) (g : Nat) (f : Fr noB w4 W) (hg : w4.heap.size ≤ g) (hB : BxV W g 36 (enC x)) => insE_any (i := i) (base := base) (by have := f.size; omega) (O4.fr0 f) (one_own hB) (fun k hk hk' => by
    have h1 := (O4.newB k hk).2
    simp [Value.ownBlock] at hk'
    omega) (by simp) (by simp; omega) hi
  by_cases hn : i = -1
  · subst hn
    have hw : withL l x (-1) = l.take 0 ++ ([x] ++ l.drop 0) := by unfold withL; rw [if_neg (fun q => q.1 rfl)]; rfl
    have hi0 : ∀ (W : World) (g : Nat), Fr noB w4 W → w4.heap.size ≤ g → BxV W g 36 (enC x) → Calls Try.prog 71 #[v, .int .i64 0, .slice (some ⟨g, 0, none⟩) 1 1] W fun r w' => InsIs W w' base v (l.take 0 ++ ([x] ++ l.drop 0)) r := hIns 0 (Nat.zero_le _)
    obtain ⟨w0, HW⟩ : ∃ w0, Hid (w4.drew = w0) := ⟨_, rfl⟩
    have f0 : Fr noB w4 w0 := by rw [← HW.out]; exact (Fr.refl _ _).drew
    have z0 := f0.size
    have b0 := b4.fr0 f0
    have O0 := O4.fr0 f0
    have c0 := EnB.all b0
    refine wp_region_chain_lay (by kernel_rfl) [] [none, none, none, none, none, none, none, none, none, none, none, none]
      [fun v => v = .int .i64 (-1), fun v => v = .bool false, fun v => v = .bool false, fun v => v = undef, fun v => v = undef, fun v => v = undef, fun v => v = undef, fun v => v = undef, fun v => v = undef, fun v => v = undef, fun v => v = undef, fun v => v = .bool false]
      (JQX w0) (HW.out) (by kernel_rfl) (by kernel_rfl) (by decide) ⟨?o0, ?o1, ?o2, ?o3, ?o4, ?o5, ?o6, ?o7, ?o8, ?o9, ?o10, ?o11, trivial⟩ ?oe
    case o0 =>
      intro A W hv hlen hJ hbase hdL hdH
      have e5 : A.eval (.tmp 5) = .int .i64 (-1) := hbase 5 (by kernel_rfl)
      have f5 : A.tmps[5]?.getD undef = .int .i64 (-1) := by simpa [Act.eval] using e5
      exact light_val rfl (v := .int .i64 (-1)) (by simp [execOp, e5, f5]) hJ rfl
    case o1 =>
      intro A W hv hlen hJ hbase hdL hdH
      have e10 : A.eval (.tmp 10) = .int .i64 (-1) := hdL 0 10 (by kernel_rfl) (by kernel_rfl) (by kernel_rfl)
      have f10 : A.tmps[10]?.getD undef = .int .i64 (-1) := by simpa [Act.eval] using e10
      exact light_val rfl (v := .bool false) (by simp [execOp, go_sem, e10, f10]) hJ rfl
    case o2 =>
      intro A W hv hlen hJ hbase hdL hdH
      have e11 : A.eval (.tmp 11) = .bool false := hdL 1 11 (by kernel_rfl) (by kernel_rfl) (by kernel_rfl)
      have f11 : A.tmps[11]?.getD undef = .bool false := by simpa [Act.eval] using e11
      exact light_val rfl (v := .bool false) (by simp [execOp, e11, f11]) hJ rfl
    case o3 =>
      intro A W hv hlen hJ hbase hdL hdH
      have eg : A.eval (.tmp 12) = .bool false := hdL 2 12 (by kernel_rfl) (by kernel_rfl) (by kernel_rfl)
      exact light_no (unwanted_of rfl (by kernel_rfl) eg) rfl
    case o4 =>
      intro A W hv hlen hJ hbase hdL hdH
      have eg : A.eval (.tmp 12) = .bool false := hdL 2 12 (by kernel_rfl) (by kernel_rfl) (by kernel_rfl)
      exact light_no (unwanted_of rfl (by kernel_rfl) eg) rfl
    case o5 =>
      intro A W hv hlen hJ hbase hdL hdH
      have eg : A.eval (.tmp 12) = .bool false := hdL 2 12 (by kernel_rfl) (by kernel_rfl) (by kernel_rfl)
      exact light_no (unwanted_of rfl (by kernel_rfl) eg) rfl
    case o6 =>
      intro A W hv hlen hJ hbase hdL hdH
      have eg : A.eval (.tmp 12) = .bool false := hdL 2 12 (by kernel_rfl) (by kernel_rfl) (by kernel_rfl)
      exact light_no (unwanted_of rfl (by kernel_rfl) eg) rfl
    case o7 =>
      intro A W hv hlen hJ hbase hdL hdH
      have eg : A.eval (.tmp 12) = .bool false := hdL 2 12 (by kernel_rfl) (by kernel_rfl) (by kernel_rfl)
      exact light_no (unwanted_of rfl (by kernel_rfl) eg) rfl
    case o8 =>
      intro A W hv hlen hJ hbase hdL hdH
      have eg : A.eval (.tmp 12) = .bool false := hdL 2 12 (by kernel_rfl) (by kernel_rfl) (by kernel_rfl)
      exact light_no (unwanted_of rfl (by kernel_rfl) eg) rfl
    case o9 =>
      intro A W hv hlen hJ hbase hdL hdH
      have eg : A.eval (.tmp 12) = .bool false := hdL 2 12 (by kernel_rfl) (by kernel_rfl) (by kernel_rfl)
      exact light_no (unwanted_of rfl (by kernel_rfl) eg) rfl
    case o10 =>
      intro A W hv hlen hJ hbase hdL hdH
      have eg : A.eval (.tmp 12) = .bool false := hdL 2 12 (by kernel_rfl) (by kernel_rfl) (by kernel_rfl)
      exact light_no (unwanted_of rfl (by kernel_rfl) eg) rfl
    case o11 =>
      intro A W hv hlen hJ hbase hdL hdH
      have e12 : A.eval (.tmp 12) = .bool false := hdL 2 12 (by kernel_rfl) (by kernel_rfl) (by kernel_rfl)
      have f12 : A.tmps[12]?.getD undef = .bool false := by simpa [Act.eval] using e12
      have e20 : A.eval (.tmp 20) = undef := hdL 10 20 (by kernel_rfl) (by kernel_rfl) (by kernel_rfl)
      have f20 : A.tmps[20]?.getD undef = undef := by simpa [Act.eval] using e20
      exact light_val rfl (v := .bool false) (by simp [execOp, go_sem, e12, f12, e20, f20]) hJ rfl
    case oe =>
      intro vs W' hv hlen hJ hL hH
      obtain rfl := (show W' = w0 from hJ)
      have x0 : vs 0 = .int .i64 (-1) := hL 0 (by kernel_rfl) (by kernel_rfl)
      have x1 : vs 1 = .bool false := hL 1 (by kernel_rfl) (by kernel_rfl)
      have x2 : vs 2 = .bool false := hL 2 (by kernel_rfl) (by kernel_rfl)
      have x3 : vs 3 = undef := hL 3 (by kernel_rfl) (by kernel_rfl)
      have x4 : vs 4 = undef := hL 4 (by kernel_rfl) (by kernel_rfl)
      have x5 : vs 5 = undef := hL 5 (by kernel_rfl) (by kernel_rfl)
      have x6 : vs 6 = undef := hL 6 (by kernel_rfl) (by kernel_rfl)
      have x7 : vs 7 = undef := hL 7 (by kernel_rfl) (by kernel_rfl)
      have x8 : vs 8 = undef := hL 8 (by kernel_rfl) (by kernel_rfl)
      have x9 : vs 9 = undef := hL 9 (by kernel_rfl) (by kernel_rfl)
      have x10 : vs 10 = undef := hL 10 (by kernel_rfl) (by kernel_rfl)
      have x11 : vs 11 = .bool false := hL 11 (by kernel_rfl) (by kernel_rfl)
      simp only [layL, Nat.reduceAdd, Act.put, List.setIfInBounds_toArray, List.set_cons_zero, List.set_cons_succ, x0, x1, x2, x3, x4, x5, x6, x7, x8, x9, x10, x11]
      clear x0 x1 x2 x3 x4 x5 x6 x7 x8 x9 x10 x11 hL hH
      have cE : ∀ q u, (enC x)[q]? = some u → W'.cell? ⟨g3, 0 + q, none⟩ = some u := fun q u hq => by rw [Nat.zero_add]; exact (b0.cell q u hq).1
      go_wp2_with (first
        | (with_reducible refine at_wpP ?_; refine at_ld 36 _ rfl ?_; go_must (refine wpList_ldE rfl _ rfl g3 0 rfl x cE ?_))
        | (with_reducible refine at_wpP ?_; refine wpList_mkC rfl 38 _ rfl uE _ en_info2 (by decide) (by decide) x (enV x) rfl rfl rfl ?_; intro g5 w5 b5 f5 s5)
        | (go_at_call 71; go_must (refine (hi0 _ g5 (f0.thenN f5) (by omega) b5).mono ?_; rintro e w6 ⟨v6, rfl, o6, f6, p6⟩)))
      go_ret
      refine ⟨-1, hi, v6, rfl, by rw [hw]; exact o6, ?_, fun k hk => (p6 k hk).imp id (fun q => ?_)⟩
      · exact (((F4.thenN f0).thenN f5).mono (fun _ _ q => q.elim)).thenT f6 (fun _ _ q => q)
      · have := f5.size; omega
  · obtain ⟨k, hk, rfl⟩ : ∃ (k : Nat), k < l.length ∧ i = (k : Int) := (hi.some hn).elim fun k h => h.elim fun hk h => ⟨k, hk, h.1⟩
    rcases hO.parts with ⟨_, rfl⟩ | ⟨g, cap, cur, rfl, hbg, hB, hnc, hcm, hcl, hct⟩
    · simp at hk
    obtain ⟨y, Hy⟩ : ∃ y : Int × Int, Hid (l[k] = y) := ⟨l[k], rfl⟩
    have hgd : l.getD ((k : Int).toNat) (0, 0) = l[k] := by rw [Int.toNat_natCast]; simp [List.getD, hk]
    have hk1 : ((k : Int) == -1) = false := by simp
    obtain ⟨w0, HW⟩ : ∃ w0, Hid (w4.drew = w0) := ⟨_, rfl⟩
    have f0 : Fr noB w4 w0 := by rw [← HW.out]; exact (Fr.refl _ _).drew
    have z0 := f0.size
    have b0 := b4.fr0 f0
    have O0 := O4.fr0 f0
    have c0 := EnB.all b0
    have hcy : w0.cell? ⟨g, k * 2, none⟩ = some (.int .i64 y.1) := by
      have hr := O0.rangeK k hk
      rw [Hy.out] at hr
      exact hr 0 _ rfl
    have off_E0 : ((⟨g, k * 2, none⟩ : Addr).add 0) = ⟨g, k * 2, none⟩ := rfl
    by_cases he : y.1 = x.1
    · have hyB : (y.1 == x.1) = true := by simpa using he
      have hw : withL l x (k : Int) = l.set k x := by
        unfold withL
        rw [hgd, Hy.out, if_pos ⟨hn, he⟩, Int.toNat_natCast]
      refine wp_region_chain_lay (by kernel_rfl) [] [none, none, none, none, none, none, none, none, none, none, none, none]
        [fun v => v = .int .i64 (k : Int), fun v => v = .bool true, fun v => v = .bool true, fun v => v = .slice (some ⟨g, 0, none⟩) l.length cap, fun v => v = .int .i64 (k : Int), fun v => v = .pointer (some ⟨g, k * 2, none⟩), fun v => v = .pointer (some ⟨g, k * 2, none⟩), fun v => v = .int .i64 y.1, fun v => v = .pointer (some ⟨g3, 0, none⟩), fun v => v = .int .i64 x.1, fun v => v = .bool true, fun v => v = .bool true]
        (JQX w0) (HW.out) (by kernel_rfl) (by kernel_rfl) (by decide) ⟨?o0, ?o1, ?o2, ?o3, ?o4, ?o5, ?o6, ?o7, ?o8, ?o9, ?o10, ?o11, trivial⟩ ?oe
      case o0 =>
        intro A W hv hlen hJ hbase hdL hdH
        have e5 : A.eval (.tmp 5) = .int .i64 (k : Int) := hbase 5 (by kernel_rfl)
        have f5 : A.tmps[5]?.getD undef = .int .i64 (k : Int) := by simpa [Act.eval] using e5
        exact light_val rfl (v := .int .i64 (k : Int)) (by simp [execOp, e5, f5]) hJ rfl
      case o1 =>
        intro A W hv hlen hJ hbase hdL hdH
        have e10 : A.eval (.tmp 10) = .int .i64 (k : Int) := hdL 0 10 (by kernel_rfl) (by kernel_rfl) (by kernel_rfl)
        have f10 : A.tmps[10]?.getD undef = .int .i64 (k : Int) := by simpa [Act.eval] using e10
        exact light_val rfl (v := .bool true) (by simp [execOp, go_sem, e10, f10, hk1]) hJ rfl
      case o2 =>
        intro A W hv hlen hJ hbase hdL hdH
        have e11 : A.eval (.tmp 11) = .bool true := hdL 1 11 (by kernel_rfl) (by kernel_rfl) (by kernel_rfl)
        have f11 : A.tmps[11]?.getD undef = .bool true := by simpa [Act.eval] using e11
        exact light_val rfl (v := .bool true) (by simp [execOp, e11, f11]) hJ rfl
      case o3 =>
        intro A W hv hlen hJ hbase hdL hdH
        have e0 : A.eval (.tmp 0) = .slice (some ⟨g, 0, none⟩) l.length cap := hbase 0 (by kernel_rfl)
        have f0 : A.tmps[0]?.getD undef = .slice (some ⟨g, 0, none⟩) l.length cap := by simpa [Act.eval] using e0
        have eg : A.eval (.tmp 12) = .bool true := hdL 2 12 (by kernel_rfl) (by kernel_rfl) (by kernel_rfl)
        exact light_val (wanted_of rfl (by kernel_rfl) eg) (v := .slice (some ⟨g, 0, none⟩) l.length cap) (by simp [execOp, e0, f0]) hJ rfl
      case o4 =>
        intro A W hv hlen hJ hbase hdL hdH
        have e5 : A.eval (.tmp 5) = .int .i64 (k : Int) := hbase 5 (by kernel_rfl)
        have f5 : A.tmps[5]?.getD undef = .int .i64 (k : Int) := by simpa [Act.eval] using e5
        have eg : A.eval (.tmp 12) = .bool true := hdL 2 12 (by kernel_rfl) (by kernel_rfl) (by kernel_rfl)
        exact light_val (wanted_of rfl (by kernel_rfl) eg) (v := .int .i64 (k : Int)) (by simp [execOp, e5, f5]) hJ rfl
      case o5 =>
        intro A W hv hlen hJ hbase hdL hdH
        have e13 : A.eval (.tmp 13) = .slice (some ⟨g, 0, none⟩) l.length cap := hdL 3 13 (by kernel_rfl) (by kernel_rfl) (by kernel_rfl)
        have f13 : A.tmps[13]?.getD undef = .slice (some ⟨g, 0, none⟩) l.length cap := by simpa [Act.eval] using e13
        have e14 : A.eval (.tmp 14) = .int .i64 (k : Int) := hdL 4 14 (by kernel_rfl) (by kernel_rfl) (by kernel_rfl)
        have f14 : A.tmps[14]?.getD undef = .int .i64 (k : Int) := by simpa [Act.eval] using e14
        have eg : A.eval (.tmp 12) = .bool true := hdL 2 12 (by kernel_rfl) (by kernel_rfl) (by kernel_rfl)
        have hr := run_idxO (P := Try.prog) (w := W) (sz := 2) 38 36 uE en_size g l.length cap .i64 k hk
        exact light_val (wanted_of rfl (by kernel_rfl) eg) (v := .pointer (some ⟨g, k * 2, none⟩)) (by simp [execOp, e13, e14, hr, Result.andThen]) hJ rfl
      case o6 =>
        intro A W hv hlen hJ hbase hdL hdH
        have e15 : A.eval (.tmp 15) = .pointer (some ⟨g, k * 2, none⟩) := hdL 5 15 (by kernel_rfl) (by kernel_rfl) (by kernel_rfl)
        have f15 : A.tmps[15]?.getD undef = .pointer (some ⟨g, k * 2, none⟩) := by simpa [Act.eval] using e15
        have eg : A.eval (.tmp 12) = .bool true := hdL 2 12 (by kernel_rfl) (by kernel_rfl) (by kernel_rfl)
        exact light_val (wanted_of rfl (by kernel_rfl) eg) (v := .pointer (some ⟨g, k * 2, none⟩)) (by simp [execOp, go_sem, e15, f15, off_E0]) hJ rfl
      case o7 =>
        intro A W hv hlen hJ hbase hdL hdH
        have e16 : A.eval (.tmp 16) = .pointer (some ⟨g, k * 2, none⟩) := hdL 6 16 (by kernel_rfl) (by kernel_rfl) (by kernel_rfl)
        have f16 : A.tmps[16]?.getD undef = .pointer (some ⟨g, k * 2, none⟩) := by simpa [Act.eval] using e16
        have eg : A.eval (.tmp 12) = .bool true := hdL 2 12 (by kernel_rfl) (by kernel_rfl) (by kernel_rfl)
        obtain rfl := (show W = w0 from hJ)
        exact light_val (wanted_of rfl (by kernel_rfl) eg) (v := .int .i64 y.1) (by simp [execOp, go_sem, e16, f16, hcy]) rfl rfl
      case o8 =>
        intro A W hv hlen hJ hbase hdL hdH
        have e3 : A.eval (.tmp 3) = .pointer (some ⟨g3, 0, none⟩) := hbase 3 (by kernel_rfl)
        have f3 : A.tmps[3]?.getD undef = .pointer (some ⟨g3, 0, none⟩) := by simpa [Act.eval] using e3
        have eg : A.eval (.tmp 12) = .bool true := hdL 2 12 (by kernel_rfl) (by kernel_rfl) (by kernel_rfl)
        exact light_val (wanted_of rfl (by kernel_rfl) eg) (v := .pointer (some ⟨g3, 0, none⟩)) (by simp [execOp, go_sem, e3, f3]) hJ rfl
      case o9 =>
        intro A W hv hlen hJ hbase hdL hdH
        have e18 : A.eval (.tmp 18) = .pointer (some ⟨g3, 0, none⟩) := hdL 8 18 (by kernel_rfl) (by kernel_rfl) (by kernel_rfl)
        have f18 : A.tmps[18]?.getD undef = .pointer (some ⟨g3, 0, none⟩) := by simpa [Act.eval] using e18
        have eg : A.eval (.tmp 12) = .bool true := hdL 2 12 (by kernel_rfl) (by kernel_rfl) (by kernel_rfl)
        obtain rfl := (show W = w0 from hJ)
        exact light_val (wanted_of rfl (by kernel_rfl) eg) (v := .int .i64 x.1) (by simp [execOp, go_sem, e18, f18, c0.1]) rfl rfl
      case o10 =>
        intro A W hv hlen hJ hbase hdL hdH
        have e17 : A.eval (.tmp 17) = .int .i64 y.1 := hdL 7 17 (by kernel_rfl) (by kernel_rfl) (by kernel_rfl)
        have f17 : A.tmps[17]?.getD undef = .int .i64 y.1 := by simpa [Act.eval] using e17
        have e19 : A.eval (.tmp 19) = .int .i64 x.1 := hdL 9 19 (by kernel_rfl) (by kernel_rfl) (by kernel_rfl)
        have f19 : A.tmps[19]?.getD undef = .int .i64 x.1 := by simpa [Act.eval] using e19
        have eg : A.eval (.tmp 12) = .bool true := hdL 2 12 (by kernel_rfl) (by kernel_rfl) (by kernel_rfl)
        exact light_val (wanted_of rfl (by kernel_rfl) eg) (v := .bool true) (by simp [execOp, go_sem, e17, f17, e19, f19, hyB]) hJ rfl
      case o11 =>
        intro A W hv hlen hJ hbase hdL hdH
        have e12 : A.eval (.tmp 12) = .bool true := hdL 2 12 (by kernel_rfl) (by kernel_rfl) (by kernel_rfl)
        have f12 : A.tmps[12]?.getD undef = .bool true := by simpa [Act.eval] using e12
        have e20 : A.eval (.tmp 20) = .bool true := hdL 10 20 (by kernel_rfl) (by kernel_rfl) (by kernel_rfl)
        have f20 : A.tmps[20]?.getD undef = .bool true := by simpa [Act.eval] using e20
        exact light_val rfl (v := .bool true) (by simp [execOp, go_sem, e12, f12, e20, f20]) hJ rfl
      case oe =>
        intro vs W' hv hlen hJ hL hH
        obtain rfl := (show W' = w0 from hJ)
        have x0 : vs 0 = .int .i64 (k : Int) := hL 0 (by kernel_rfl) (by kernel_rfl)
        have x1 : vs 1 = .bool true := hL 1 (by kernel_rfl) (by kernel_rfl)
        have x2 : vs 2 = .bool true := hL 2 (by kernel_rfl) (by kernel_rfl)
        have x3 : vs 3 = .slice (some ⟨g, 0, none⟩) l.length cap := hL 3 (by kernel_rfl) (by kernel_rfl)
        have x4 : vs 4 = .int .i64 (k : Int) := hL 4 (by kernel_rfl) (by kernel_rfl)
        have x5 : vs 5 = .pointer (some ⟨g, k * 2, none⟩) := hL 5 (by kernel_rfl) (by kernel_rfl)
        have x6 : vs 6 = .pointer (some ⟨g, k * 2, none⟩) := hL 6 (by kernel_rfl) (by kernel_rfl)
        have x7 : vs 7 = .int .i64 y.1 := hL 7 (by kernel_rfl) (by kernel_rfl)
        have x8 : vs 8 = .pointer (some ⟨g3, 0, none⟩) := hL 8 (by kernel_rfl) (by kernel_rfl)
        have x9 : vs 9 = .int .i64 x.1 := hL 9 (by kernel_rfl) (by kernel_rfl)
        have x10 : vs 10 = .bool true := hL 10 (by kernel_rfl) (by kernel_rfl)
        have x11 : vs 11 = .bool true := hL 11 (by kernel_rfl) (by kernel_rfl)
        simp only [layL, Nat.reduceAdd, Act.put, List.setIfInBounds_toArray, List.set_cons_zero, List.set_cons_succ, x0, x1, x2, x3, x4, x5, x6, x7, x8, x9, x10, x11]
        clear x0 x1 x2 x3 x4 x5 x6 x7 x8 x9 x10 x11 hL hH
        have cE : ∀ q u, (enC x)[q]? = some u → W'.cell? ⟨g3, 0 + q, none⟩ = some u := fun q u hq => by rw [Nat.zero_add]; exact (b0.cell q u hq).1
        go_wp2_with (first
          | (with_reducible refine at_wpP ?_; refine at_ld 36 _ rfl ?_; go_must (refine wpList_ldE rfl _ rfl g3 0 rfl x cE ?_))
          | (refine at_idx 38 _ _ rfl ?_; go_must (refine wpList_idxO rfl 38 _ _ rfl 36 uE en_size g l.length cap rfl .i64 (k : Int) k rfl rfl hk ?_))
          | (with_reducible refine at_wpP ?_; refine at_st 36 _ _ rfl ?_; go_must (refine wpList_stR rfl 36 _ _ rfl g l.length cap O0 k hk rfl x rfl rfl (en_one x) en_size ?_; intro w5 o5 f5)))
        go_ret
        refine ⟨(k : Int), hi, _, rfl, by rw [hw]; exact o5, ?_, fun q hq => Or.inl hq⟩
        exact ((F4.thenN f0).mono (fun _ _ q => q.elim)).thenT f5 (fun q _ hq => by unfold onB1 at hq; subst hq; rfl)
    · have hyB : (y.1 == x.1) = false := by simpa using he
      have hw : withL l x (k : Int) = l.take (k + 1) ++ ([x] ++ l.drop (k + 1)) := by
        unfold withL
        rw [hgd, Hy.out, if_neg (fun q => he q.2), show ((k : Int) + 1).toNat = k + 1 by omega]
        rfl
      refine wp_region_chain_lay (by kernel_rfl) [] [none, none, none, none, none, none, none, none, none, none, none, none]
        [fun v => v = .int .i64 (k : Int), fun v => v = .bool true, fun v => v = .bool true, fun v => v = .slice (some ⟨g, 0, none⟩) l.length cap, fun v => v = .int .i64 (k : Int), fun v => v = .pointer (some ⟨g, k * 2, none⟩), fun v => v = .pointer (some ⟨g, k * 2, none⟩), fun v => v = .int .i64 y.1, fun v => v = .pointer (some ⟨g3, 0, none⟩), fun v => v = .int .i64 x.1, fun v => v = .bool false, fun v => v = .bool false]
        (JQX w0) (HW.out) (by kernel_rfl) (by kernel_rfl) (by decide) ⟨?o0, ?o1, ?o2, ?o3, ?o4, ?o5, ?o6, ?o7, ?o8, ?o9, ?o10, ?o11, trivial⟩ ?oe
      case o0 =>
        intro A W hv hlen hJ hbase hdL hdH
        have e5 : A.eval (.tmp 5) = .int .i64 (k : Int) := hbase 5 (by kernel_rfl)
        have f5 : A.tmps[5]?.getD undef = .int .i64 (k : Int) := by simpa [Act.eval] using e5
        exact light_val rfl (v := .int .i64 (k : Int)) (by simp [execOp, e5, f5]) hJ rfl
      case o1 =>
        intro A W hv hlen hJ hbase hdL hdH
        have e10 : A.eval (.tmp 10) = .int .i64 (k : Int) := hdL 0 10 (by kernel_rfl) (by kernel_rfl) (by kernel_rfl)
        have f10 : A.tmps[10]?.getD undef = .int .i64 (k : Int) := by simpa [Act.eval] using e10
        exact light_val rfl (v := .bool true) (by simp [execOp, go_sem, e10, f10, hk1]) hJ rfl
      case o2 =>
        intro A W hv hlen hJ hbase hdL hdH
        have e11 : A.eval (.tmp 11) = .bool true := hdL 1 11 (by kernel_rfl) (by kernel_rfl) (by kernel_rfl)
        have f11 : A.tmps[11]?.getD undef = .bool true := by simpa [Act.eval] using e11
        exact light_val rfl (v := .bool true) (by simp [execOp, e11, f11]) hJ rfl
      case o3 =>
        intro A W hv hlen hJ hbase hdL hdH
        have e0 : A.eval (.tmp 0) = .slice (some ⟨g, 0, none⟩) l.length cap := hbase 0 (by kernel_rfl)
        have f0 : A.tmps[0]?.getD undef = .slice (some ⟨g, 0, none⟩) l.length cap := by simpa [Act.eval] using e0
        have eg : A.eval (.tmp 12) = .bool true := hdL 2 12 (by kernel_rfl) (by kernel_rfl) (by kernel_rfl)
        exact light_val (wanted_of rfl (by kernel_rfl) eg) (v := .slice (some ⟨g, 0, none⟩) l.length cap) (by simp [execOp, e0, f0]) hJ rfl
      case o4 =>
        intro A W hv hlen hJ hbase hdL hdH
        have e5 : A.eval (.tmp 5) = .int .i64 (k : Int) := hbase 5 (by kernel_rfl)
        have f5 : A.tmps[5]?.getD undef = .int .i64 (k : Int) := by simpa [Act.eval] using e5
        have eg : A.eval (.tmp 12) = .bool true := hdL 2 12 (by kernel_rfl) (by kernel_rfl) (by kernel_rfl)
        exact light_val (wanted_of rfl (by kernel_rfl) eg) (v := .int .i64 (k : Int)) (by simp [execOp, e5, f5]) hJ rfl
      case o5 =>
        intro A W hv hlen hJ hbase hdL hdH
        have e13 : A.eval (.tmp 13) = .slice (some ⟨g, 0, none⟩) l.length cap := hdL 3 13 (by kernel_rfl) (by kernel_rfl) (by kernel_rfl)
        have f13 : A.tmps[13]?.getD undef = .slice (some ⟨g, 0, none⟩) l.length cap := by simpa [Act.eval] using e13
        have e14 : A.eval (.tmp 14) = .int .i64 (k : Int) := hdL 4 14 (by kernel_rfl) (by kernel_rfl) (by kernel_rfl)
        have f14 : A.tmps[14]?.getD undef = .int .i64 (k : Int) := by simpa [Act.eval] using e14
        have eg : A.eval (.tmp 12) = .bool true := hdL 2 12 (by kernel_rfl) (by kernel_rfl) (by kernel_rfl)
        have hr := run_idxO (P := Try.prog) (w := W) (sz := 2) 38 36 uE en_size g l.length cap .i64 k hk
        exact light_val (wanted_of rfl (by kernel_rfl) eg) (v := .pointer (some ⟨g, k * 2, none⟩)) (by simp [execOp, e13, e14, hr, Result.andThen]) hJ rfl
      case o6 =>
        intro A W hv hlen hJ hbase hdL hdH
        have e15 : A.eval (.tmp 15) = .pointer (some ⟨g, k * 2, none⟩) := hdL 5 15 (by kernel_rfl) (by kernel_rfl) (by kernel_rfl)
        have f15 : A.tmps[15]?.getD undef = .pointer (some ⟨g, k * 2, none⟩) := by simpa [Act.eval] using e15
        have eg : A.eval (.tmp 12) = .bool true := hdL 2 12 (by kernel_rfl) (by kernel_rfl) (by kernel_rfl)
        exact light_val (wanted_of rfl (by kernel_rfl) eg) (v := .pointer (some ⟨g, k * 2, none⟩)) (by simp [execOp, go_sem, e15, f15, off_E0]) hJ rfl
      case o7 =>
        intro A W hv hlen hJ hbase hdL hdH
        have e16 : A.eval (.tmp 16) = .pointer (some ⟨g, k * 2, none⟩) := hdL 6 16 (by kernel_rfl) (by kernel_rfl) (by kernel_rfl)
        have f16 : A.tmps[16]?.getD undef = .pointer (some ⟨g, k * 2, none⟩) := by simpa [Act.eval] using e16
        have eg : A.eval (.tmp 12) = .bool true := hdL 2 12 (by kernel_rfl) (by kernel_rfl) (by kernel_rfl)
        obtain rfl := (show W = w0 from hJ)
        exact light_val (wanted_of rfl (by kernel_rfl) eg) (v := .int .i64 y.1) (by simp [execOp, go_sem, e16, f16, hcy]) rfl rfl
      case o8 =>
        intro A W hv hlen hJ hbase hdL hdH
        have e3 : A.eval (.tmp 3) = .pointer (some ⟨g3, 0, none⟩) := hbase 3 (by kernel_rfl)
        have f3 : A.tmps[3]?.getD undef = .pointer (some ⟨g3, 0, none⟩) := by simpa [Act.eval] using e3
        have eg : A.eval (.tmp 12) = .bool true := hdL 2 12 (by kernel_rfl) (by kernel_rfl) (by kernel_rfl)
        exact light_val (wanted_of rfl (by kernel_rfl) eg) (v := .pointer (some ⟨g3, 0, none⟩)) (by simp [execOp, go_sem, e3, f3]) hJ rfl
      case o9 =>
        intro A W hv hlen hJ hbase hdL hdH
        have e18 : A.eval (.tmp 18) = .pointer (some ⟨g3, 0, none⟩) := hdL 8 18 (by kernel_rfl) (by kernel_rfl) (by kernel_rfl)
        have f18 : A.tmps[18]?.getD undef = .pointer (some ⟨g3, 0, none⟩) := by simpa [Act.eval] using e18
        have eg : A.eval (.tmp 12) = .bool true := hdL 2 12 (by kernel_rfl) (by kernel_rfl) (by kernel_rfl)
        obtain rfl := (show W = w0 from hJ)
        exact light_val (wanted_of rfl (by kernel_rfl) eg) (v := .int .i64 x.1) (by simp [execOp, go_sem, e18, f18, c0.1]) rfl rfl
      case o10 =>
        intro A W hv hlen hJ hbase hdL hdH
        have e17 : A.eval (.tmp 17) = .int .i64 y.1 := hdL 7 17 (by kernel_rfl) (by kernel_rfl) (by kernel_rfl)
        have f17 : A.tmps[17]?.getD undef = .int .i64 y.1 := by simpa [Act.eval] using e17
        have e19 : A.eval (.tmp 19) = .int .i64 x.1 := hdL 9 19 (by kernel_rfl) (by kernel_rfl) (by kernel_rfl)
        have f19 : A.tmps[19]?.getD undef = .int .i64 x.1 := by simpa [Act.eval] using e19
        have eg : A.eval (.tmp 12) = .bool true := hdL 2 12 (by kernel_rfl) (by kernel_rfl) (by kernel_rfl)
        exact light_val (wanted_of rfl (by kernel_rfl) eg) (v := .bool false) (by simp [execOp, go_sem, e17, f17, e19, f19, hyB]) hJ rfl
      case o11 =>
        intro A W hv hlen hJ hbase hdL hdH
        have e12 : A.eval (.tmp 12) = .bool true := hdL 2 12 (by kernel_rfl) (by kernel_rfl) (by kernel_rfl)
        have f12 : A.tmps[12]?.getD undef = .bool true := by simpa [Act.eval] using e12
        have e20 : A.eval (.tmp 20) = .bool false := hdL 10 20 (by kernel_rfl) (by kernel_rfl) (by kernel_rfl)
        have f20 : A.tmps[20]?.getD undef = .bool false := by simpa [Act.eval] using e20
        exact light_val rfl (v := .bool false) (by simp [execOp, go_sem, e12, f12, e20, f20]) hJ rfl
      case oe =>
        intro vs W' hv hlen hJ hL hH
        obtain rfl := (show W' = w0 from hJ)
        have x0 : vs 0 = .int .i64 (k : Int) := hL 0 (by kernel_rfl) (by kernel_rfl)
        have x1 : vs 1 = .bool true := hL 1 (by kernel_rfl) (by kernel_rfl)
        have x2 : vs 2 = .bool true := hL 2 (by kernel_rfl) (by kernel_rfl)
        have x3 : vs 3 = .slice (some ⟨g, 0, none⟩) l.length cap := hL 3 (by kernel_rfl) (by kernel_rfl)
        have x4 : vs 4 = .int .i64 (k : Int) := hL 4 (by kernel_rfl) (by kernel_rfl)
        have x5 : vs 5 = .pointer (some ⟨g, k * 2, none⟩) := hL 5 (by kernel_rfl) (by kernel_rfl)
        have x6 : vs 6 = .pointer (some ⟨g, k * 2, none⟩) := hL 6 (by kernel_rfl) (by kernel_rfl)
        have x7 : vs 7 = .int .i64 y.1 := hL 7 (by kernel_rfl) (by kernel_rfl)
        have x8 : vs 8 = .pointer (some ⟨g3, 0, none⟩) := hL 8 (by kernel_rfl) (by kernel_rfl)
        have x9 : vs 9 = .int .i64 x.1 := hL 9 (by kernel_rfl) (by kernel_rfl)
        have x10 : vs 10 = .bool false := hL 10 (by kernel_rfl) (by kernel_rfl)
        have x11 : vs 11 = .bool false := hL 11 (by kernel_rfl) (by kernel_rfl)
        simp only [layL, Nat.reduceAdd, Act.put, List.setIfInBounds_toArray, List.set_cons_zero, List.set_cons_succ, x0, x1, x2, x3, x4, x5, x6, x7, x8, x9, x10, x11]
        clear x0 x1 x2 x3 x4 x5 x6 x7 x8 x9 x10 x11 hL hH
        have cE : ∀ q u, (enC x)[q]? = some u → W'.cell? ⟨g3, 0 + q, none⟩ = some u := fun q u hq => by rw [Nat.zero_add]; exact (b0.cell q u hq).1
        have hi1 : ∀ (W : World) (g' : Nat), Fr noB w4 W → w4.heap.size ≤ g' → BxV W g' 36 (enC x) → Calls Try.prog 71 #[.slice (some ⟨g, 0, none⟩) l.length cap, .int .i64 ((k : Int) + 1), .slice (some ⟨g', 0, none⟩) 1 1] W fun r w' => InsIs W w' base (.slice (some ⟨g, 0, none⟩) l.length cap) (l.take (k + 1) ++ ([x] ++ l.drop (k + 1))) r := hIns (k + 1) (by omega)
        have hw1 : IntKind.i64.wrap ((k : Int) + 1) = (k : Int) + 1 := wrap_sm (by omega)
        go_wp2_with (first
          | (with_reducible refine at_wpP ?_; refine at_ld 36 _ rfl ?_; go_must (refine wpList_ldE rfl _ rfl g3 0 rfl x cE ?_))
          | (with_reducible refine at_wpP ?_; refine wpList_mkC rfl 38 _ rfl uE _ en_info2 (by decide) (by decide) x (enV x) rfl rfl rfl ?_; intro g5 w5 b5 f5 s5)
          | (go_at_call 71; go_must (refine (hi1 _ g5 (f0.thenN f5) (by omega) b5).mono ?_; rintro e w6 ⟨v6, rfl, o6, f6, p6⟩)))
        go_ret
        refine ⟨(k : Int), hi, v6, rfl, by rw [hw]; exact o6, ?_, fun k hk => (p6 k hk).imp id (fun q => ?_)⟩
        · exact (((F4.thenN f0).thenN f5).mono (fun _ _ q => q.elim)).thenT f6 (fun _ _ q => q)
        · have := f5.size; omega
end Go.Proofs.Ytmkinaijkgkgiaa
/- Trees in memory: parts; no condition. -/
namespace Go.Proofs.Ytmkinaijkgkgiaa
open Go.RowKit Go.Proofs.U
set_option linter.unusedSimpArgs false
set_option linter.unusedVariables false
/-- A slice in a row of slices. -/
def en1 (v : Value) : List Value := [v]
theorem en1_fl : ∀ vs : List Value, vs.flatMap en1 = vs
  | [] => rfl
  | v :: vs => by rw [List.flatMap_cons, en1_fl vs]; rfl
theorem uS : Try.prog.underlying 100 = some (.slice 38) := Try.underlying100
theorem vs_own {w : World} {g : Nat} {vs : List Value} (h : BxV w g 38 vs) (hl : vs.length ≤ 1000) : OwnR en1 1 38 w g (.slice (some ⟨g, 0, none⟩) vs.length vs.length) vs :=
  ⟨fun _ _ => rfl, by rw [en1_fl]; omega, Or.inr ⟨g, vs.length, vs.toArray, rfl, Nat.le_refl _, h, Nat.le_refl _, by unfold maxLen; omega, by simp, by rw [en1_fl]; simp⟩⟩
theorem run_mk1S (a : Option Addr) (n c : Nat) (w : World) : (Instr.buildSlice 100 1 #[(0, .slice a n c)]).run Try.prog w = .ok (.slice (some ⟨w.heap.size, 0, none⟩) 1 1) (w.alloc (.cells #[.slice a n c] 38)) := by simp [go_sem]
theorem run_mk2S (a a' : Option Addr) (n c n' c' : Nat) (w : World) : (Instr.buildSlice 100 2 #[(0, .slice a n c), (1, .slice a' n' c')]).run Try.prog w = .ok (.slice (some ⟨w.heap.size, 0, none⟩) 2 2) (w.alloc (.cells #[.slice a n c, .slice a' n' c'] 38)) := by simp [go_sem]
theorem wpList_mk1S {w : World} {ops : Array Oper} {rest : List Oper} {o : Oper} {b : Act} {Q : Exit → Act → World → Prop} (hgd : Region.wanted o (yielded ops b.tmps) = true) (y : Operand) (ho : o.op = .buildSlice 100 1 #[(0, y)]) (a : Option Addr) (n c : Nat) (hy : b.eval y = .slice a n c)
    (h : ∀ g w', BxV w' g 38 [.slice a n c] → Fr noB w w' → w.heap.size ≤ g → wpList Try.prog ops Q rest (b.put o.dst (.slice (some ⟨g, 0, none⟩) 1 1)) w') : wpList Try.prog ops Q (o :: rest) b w := by
  refine wpList_wanted hgd fun K hK => ?_
  have hr := run_mk1S a n c w
  unfold Oper.wp
  simp [execOp, ho, hy, hr, Result.andThen]
  exact hK _ _ (h w.heap.size _ (heap_alloc_new w _) ((Fr.refl _ _).alloc _) (Nat.le_refl _))
theorem step_mk2S {w : World} {ops : Array Oper} {o : Oper} {b : Act} {K : Act → World → Prop} {Q : Exit → Act → World → Prop} {E : Prop} (hgd : o.guard = none) (y z : Operand) (ho : o.op = .buildSlice 100 2 #[(0, y), (1, z)]) (a a' : Option Addr) (n c n' c' : Nat) (hy : b.eval y = .slice a n c) (hz : b.eval z = .slice a' n' c')
    (h : K (b.put o.dst (.slice (some ⟨w.heap.size, 0, none⟩) 2 2)) (w.alloc (.cells #[.slice a n c, .slice a' n' c'] 38))) : if Region.wanted o (yielded ops b.tmps) = true then o.wp Try.prog b w K Q else E := by
  have hw : Region.wanted o (yielded ops b.tmps) = true := by simp [Region.wanted, hgd]
  rw [if_pos hw]
  have hr := run_mk2S a a' n c n' c' w
  unfold Oper.wp
  simp [execOp, ho, hy, hz, hr, Result.andThen]
  exact h
theorem fl_drop (l : List (Int × Int)) (i : Nat) (hi : i ≤ l.length) : (l.flatMap enC).drop (i * 2) = (l.drop i).flatMap enC := by
  conv => lhs; rw [← List.take_append_drop i l]
  rw [List.flatMap_append, List.drop_left' (by rw [fl_len, List.length_take]; omega)]
theorem SlE.take {w : World} {a : Option Addr} {n cap : Nat} {l : List (Int × Int)} (h : SlR enC 2 w (.slice a n cap) l) (hn : n = l.length) (i : Nat) (hi : i ≤ l.length) : SlR enC 2 w (.slice a i cap) (l.take i) := by
  subst hn
  refine ⟨fun x _ => enC_len x, ?_⟩
  have hc := Sl.cut h.2 0 i (by omega) (ao' := a) (fun _ => rfl) (fun _ => by cases a <;> rfl) (c' := cap) (by omega)
  have e : ((l.flatMap enC).drop (0 * 2)).take (i * 2) = (l.take i).flatMap enC := by rw [Nat.zero_mul, List.drop_zero]; exact fl_take l i hi
  rw [e] at hc
  have : (l.take i).length = i := by rw [List.length_take]; omega
  rw [this]
  exact hc
theorem SlE.drop {w : World} {a : Option Addr} {n cap : Nat} {l : List (Int × Int)} (h : SlR enC 2 w (.slice a n cap) l) (hn : n = l.length) (i : Nat) (hi : i ≤ l.length) (hc : ¬ cap = i) : SlR enC 2 w (.slice (a.map fun x => x.add (i * 2)) (l.length - i) (cap - i)) (l.drop i) := by
  subst hn
  refine ⟨fun x _ => enC_len x, ?_⟩
  have hcc := Sl.cut h.2 i (l.length - i) (by omega) (ao' := a.map fun x => x.add (i * 2)) (fun q => absurd q hc) (fun _ => rfl) (c' := cap - i) rfl
  have e : ((l.flatMap enC).drop (i * 2)).take ((l.length - i) * 2) = (l.drop i).flatMap enC := by
    rw [fl_drop l i hi, List.take_of_length_le (by rw [fl_len, List.length_drop]; omega)]
  rw [e] at hcc
  have : (l.drop i).length = l.length - i := List.length_drop
  rw [this]
  exact hcc
theorem own_map {a : Option Addr} {n c n' c' i : Nat} : ∀ k, (Value.slice (a.map fun x => x.add i) n c).ownBlock = some k → (Value.slice a n' c').ownBlock = some k := by
  intro k hk
  cases a with
  | none => exact hk
  | some ad => simp [Value.ownBlock] at hk ⊢; rw [← hk]; unfold Addr.add; split <;> rfl
/-- Parts of a row, as slices of it. -/
def PartsIs (w w' : World) (v : Value) (l : List (Int × Int)) (r : Ending) : Prop := ∃ u vs, r = .returned u ∧ OwnR en1 1 38 w' w.heap.size u vs ∧ vs.length = (partsL l).length ∧
  (∀ (j : Nat) (hj : j < vs.length) (hj' : j < (partsL l).length), SlR enC 2 w' vs[j] (partsL l)[j] ∧ ∀ k, vs[j].ownBlock = some k → v.ownBlock = some k) ∧ Fr noB w w'
set_option maxRecDepth 100000 in
set_option maxHeartbeats 2000000 in
theorem parts_any {w : World} {v : Value} {l : List (Int × Int)} (hS : SlR enC 2 w v l) (hl : l.length ≤ 500) :
    Calls Try.prog 56 #[v] w fun r w' => PartsIs w w' v l r := by
  obtain ⟨a, cap, hv, hcap⟩ := hS.opn
  subst hv
  unfold PartsIs partsL
  by_cases h0 : l.length = 0
  · have h0' : ((l.length : Int) == 0) = true := by simp [h0]
    rw [if_pos h0]
    go_enter Try.func56, Try.ntmps56
    go_wp2
    go_ret
    exact ⟨_, [], rfl, OwnR.none _ _, rfl, (fun j hj => by simp at hj), Fr.refl _ _⟩
  · have h0' : ((l.length : Int) == 0) = false := beq_eq_false_iff_ne.2 (by omega)
    rw [if_neg h0]
    by_cases h6 : l.length ≤ 6
    · have h6' : decide ((l.length : Int) ≤ 6) = true := by simp; omega
      rw [if_pos h6]
      go_enter Try.func56, Try.ntmps56
      go_wp2_with (first
        | (with_reducible refine at_wpP ?_; refine wpList_mk1S rfl _ rfl a l.length cap rfl ?_; intro g1 w1 b1 f1 s1))
      go_ret
      refine ⟨_, [.slice a l.length cap], rfl, (vs_own b1 (by simp)).rebase s1, rfl, fun j hj hj' => ?_, f1⟩
      have : j = 0 := by simp at hj; omega
      subst this
      exact ⟨hS.fr0 f1, fun k hk => hk⟩
    · have h6' : decide ((l.length : Int) ≤ 6) = false := by simp; omega
      rw [if_neg h6]
      obtain ⟨H, HH⟩ : ∃ H, Hid (l.length / 2 = H) := ⟨_, rfl⟩
      have hq : (Int.tdiv (l.length : Int) 2) = (H : Int) := by rw [← HH.out]; rfl
      have hHb : H < l.length ∧ 0 < H := by have := HH.out; omega
      have hc1 : ¬ (cap = H) := by omega
      have hc2 : H ≤ cap := by omega
      have hc3 : H ≤ l.length := by omega
      have zE := Try.sizeOf36
      have mixed : Try.prog.follows Departure.mixedOrders = true := by kernel_rfl
      have uE1 := run_underlying uE
      go_enter Try.func56, Try.ntmps56
      go_wp2
      go_region_law_o (refine step_mk2S rfl _ _ rfl a (a.map fun x => x.add (H * 2)) H cap (l.length - H) (cap - H) (by simp [Act.eval, Act.put]) (by simp [Act.eval, Act.put]) ?_)
      have b1 : BxV ((w.alloc (.cells #[.slice a H cap, .slice (a.map fun x => x.add (H * 2)) (l.length - H) (cap - H)] 38)).drew) w.heap.size 38 [.slice a H cap, .slice (a.map fun x => x.add (H * 2)) (l.length - H) (cap - H)] := heap_alloc_new w _
      have f1 : Fr noB w ((w.alloc (.cells #[.slice a H cap, .slice (a.map fun x => x.add (H * 2)) (l.length - H) (cap - H)] 38)).drew) := ((Fr.refl _ w).alloc _).drew
      obtain ⟨w1, H1⟩ : ∃ x, Hid ((w.alloc (.cells #[.slice a H cap, .slice (a.map fun x => x.add (H * 2)) (l.length - H) (cap - H)] 38)).drew = x) := ⟨_, rfl⟩
      rw [H1.out] at b1 f1 ⊢
      go_wp2
      go_ret
      rw [HH.out]
      refine ⟨_, [.slice a H cap, .slice (a.map fun x => x.add (H * 2)) (l.length - H) (cap - H)], rfl, (vs_own b1 (by simp)), rfl, fun j hj hj' => ?_, f1⟩
      simp only [List.length_cons, List.length_nil] at hj
      rcases (by omega : j = 0 ∨ j = 1) with rfl | rfl
      · refine ⟨(SlE.take hS rfl H hc3).fr0 f1, fun k (hk : (Value.slice a H cap).ownBlock = some k) => ?_⟩
        cases a <;> exact hk
      · exact ⟨(SlE.drop hS rfl H hc3 hc1).fr0 f1, fun k hk => own_map k hk⟩
end Go.Proofs.Ytmkinaijkgkgiaa
/- Trees in memory: Split; no condition. -/
namespace Go.Proofs.Ytmkinaijkgkgiaa
open Go.RowKit Go.Proofs.U
set_option linter.unusedSimpArgs false
set_option linter.unusedVariables false
/-- The store, behind what turned it: its disk in F'. -/
structure StT (w w' : World) (F F' : Nat → Prop) (gs gp : Nat) (S : DSt × List Pg) (m : Nat) : Prop where
  st : Sto w' F' gs gp S.1 S.2 m
  ft : ∀ k, F' k → (F k ∨ w.heap.size ≤ k) ∧ k < w'.heap.size
  fr : Fr (stB F gp) w w'
theorem StT.fr0 {w w1 w2 : World} {F F' : Nat → Prop} {gs gp : Nat} {S : DSt × List Pg} {m : Nat} (h : StT w w1 F F' gs gp S m) (f : Fr noB w1 w2) : StT w w2 F F' gs gp S m :=
  ⟨h.st.fr0 f, fun k hk => ⟨(h.ft k hk).1, Nat.lt_of_lt_of_le (h.ft k hk).2 f.size⟩, h.fr.thenN f⟩
theorem StT.trans {w w1 w2 : World} {F F1 F2 : Nat → Prop} {gs gp : Nat} {S S2 : DSt × List Pg} {m m2 : Nat} (hF : ∀ k, F k → k < w.heap.size) (h : StT w w1 F F1 gs gp S m) (k : StT w1 w2 F1 F2 gs gp S2 m2) : StT w w2 F F2 gs gp S2 m2 :=
  ⟨k.st, fun x hx => ⟨by
    rcases (k.ft x hx).1 with q | q
    · exact (h.ft x q).1
    · exact Or.inr (Nat.le_trans h.fr.size q), (k.ft x hx).2⟩,
   h.fr.thenT k.fr fun i hi q => by
    rcases q with q | q
    · rcases (h.ft i q).1 with q | q
      · exact Or.inl q
      · omega
    · exact Or.inr q⟩
theorem StT.pre {w0 w w1 : World} {F F' : Nat → Prop} {gs gp : Nat} {S : DSt × List Pg} {m : Nat} (f : Fr noB w0 w) (h : StT w w1 F F' gs gp S m) : StT w0 w1 F F' gs gp S m :=
  ⟨h.st, fun k hk => ⟨(h.ft k hk).1.imp id (fun q => Nat.le_trans f.size q), (h.ft k hk).2⟩, (f.mono (fun _ _ q => q.elim)).thenT h.fr (fun _ _ q => q)⟩
theorem StT.mono {w w1 : World} {F F' : Nat → Prop} {gs gp : Nat} {S : DSt × List Pg} {m m' : Nat} (h : StT w w1 F F' gs gp S m) (hm : m ≤ m') : StT w w1 F F' gs gp S m' := ⟨h.st.mono hm, h.ft, h.fr⟩
theorem StT.start {w : World} {F : Nat → Prop} {gs gp : Nat} {X : DSt} {L : List Pg} {m : Nat} (h : Sto w F gs gp X L m) : StT w w F F gs gp (X, L) m := ⟨h, fun k hk => ⟨Or.inl hk, h.ft k hk⟩, Fr.refl _ _⟩
/-- .. behind what turned a block of one's own. -/
theorem StT.own {w w1 w2 : World} {F F' : Nat → Prop} {gs gp : Nat} {S : DSt × List Pg} {m : Nat} {B : Nat → Prop} (h : StT w w1 F F' gs gp S m) (f : Fr B w1 w2) (hs : ∀ k, B k → ¬ F' k ∧ k ≠ gp ∧ k ≠ gs ∧ w.heap.size ≤ k) : StT w w2 F F' gs gp S m :=
  ⟨h.st.fr f (fun k _ q b => by
    obtain ⟨h1, h2, h3, _⟩ := hs k b
    rcases q with q | q | q
    · exact h1 q
    · exact h2 q
    · exact h3 q), fun k hk => ⟨(h.ft k hk).1, Nat.lt_of_lt_of_le (h.ft k hk).2 f.size⟩, h.fr.thenT f (fun i hi b => by have := (hs i b).2.2.2; omega)⟩
/-- A row of entries and an error's number that are handed back by what turned the store. -/
def SplitIs (w w' : World) (F : Nat → Prop) (gs gp : Nat) (R : (DSt × List Pg) × List (Int × Int) × Int) (m : Nat) (r : Ending) : Prop :=
  ∃ F' u, r = .returned (.tuple #[u, .int .i64 R.2.2]) ∧ StT w w' F F' gs gp R.1 m ∧ EnO w' w.heap.size u R.2.1 ∧ ∀ k, u.ownBlock = some k → ¬ F' k
theorem parts_len {es : List (Int × Int)} (h : es.length ≤ 12) : (partsL es).length ≤ 2 ∧ ∀ p ∈ partsL es, 1 ≤ p.length ∧ p.length ≤ 6 ∧ ∀ x ∈ p, x ∈ es := by
  unfold partsL
  split
  · exact ⟨by simp, by simp⟩
  · split
    · exact ⟨by simp, fun p hp => by simp at hp; subst hp; exact ⟨by omega, by omega, fun x hx => hx⟩⟩
    · refine ⟨by simp, fun p hp => ?_⟩
      simp at hp
      rcases hp with rfl | rfl
      · exact ⟨by rw [List.length_take]; omega, by rw [List.length_take]; omega, fun x hx => List.mem_of_mem_take hx⟩
      · exact ⟨by rw [List.length_drop]; omega, by rw [List.length_drop]; omega, fun x hx => List.mem_of_mem_drop hx⟩
theorem key0_get {p : List (Int × Int)} (h : 0 < p.length) : key0 p = p[0].1 := by
  cases p with
  | nil => simp at h
  | cons x r => rfl
set_option maxRecDepth 100000 in
set_option maxHeartbeats 4000000 in
theorem split_no {F : Nat → Prop} {gs gp : Nat} {X : DSt} {L : List Pg} {m : Nat} (k : Int) (b : List Int) (es : List (Int × Int)) (v : Value) (w : World) (h : Sto w F gs gp X L m) (hn : NdS w v ⟨k, b, es⟩) (hl : 12 < es.length) :
    Calls Try.prog 39 #[trV gs, ndV k b v] w fun r w' => SplitIs w w' F gs gp (splF (X, L) k es) m r := by
  unfold splF
  rw [if_pos hl]
  have hb : b.length = 16 := hn.2.1.1
  have Hb : Hid (b.length = 16) := hb
  clear hb
  obtain ⟨a, cap, hv, hcap⟩ := hn.1.1.opn
  subst hv
  simp only at hn
  have hl' : decide ((12 : Int) < (es.length : Int)) = true := by simp; omega
  go_enter Try.func39, Try.ntmps39
  go_wp2_with (first
    | (with_reducible refine at_wpP ?_; refine wpList_boxG rfl 24 _ rfl (trV gs) [ptr gs] rfl rfl ?_; intro g2 w2 hg2 b2 f2 s2; have l2 := b2.lt; have z2 := f2.size)
    | (with_reducible refine at_wpP ?_; refine wpList_boxN rfl _ rfl k b _ rfl ?_; intro g3 w3 hg3 b3 f3 s3; have l3 := b3.lt; have z3 := f3.size; have q3 := NdB.ents b3 Hb.out))
  go_ret2
  exact ⟨F, _, rfl, (StT.start h).fr0 (f2.thenN f3), OwnR.none _ _, fun k hk => by cases hk⟩
theorem sE_size : (Try.prog.info? 38).map (·.size) = some 1 := by kernel_rfl
/-- Between two rounds of Split. -/
structure SplR (w5 W : World) (F F' : Nat → Prop) (gs gp : Nat) (k : Int) (es : List (Int × Int)) (R : (DSt × List Pg) × List (Int × Int) × Int) (m j : Nat) (S : DSt × List Pg) (tp : List (Int × Int)) (u : Value) : Prop where
  st : StT w5 W F F' gs gp S (m + j)
  ow : EnO W w5.heap.size u tp
  ap : ∀ x, u.ownBlock = some x → ¬ F' x
  tl : tp.length = j
  eq : splA k S tp ((partsL es).drop j) = R
set_option maxRecDepth 100000 in
set_option maxHeartbeats 4000000 in
theorem split_yes {F : Nat → Prop} {gs gp : Nat} {X : DSt} {L : List Pg} {m : Nat} (k : Int) (b : List Int) (es : List (Int × Int)) (v : Value) (w : World) (h : Sto w F gs gp X L m) (hm : m ≤ 99000) (hn : NdS w v ⟨k, b, es⟩) (hvF : ∀ x, v.ownBlock = some x → ¬ F x ∧ x ≠ gp ∧ x < w.heap.size) (hl : es.length ≤ 12) :
    Calls Try.prog 39 #[trV gs, ndV k b v] w fun r w' => SplitIs w w' F gs gp (splF (X, L) k es) (m + 2) r := by
  unfold splF
  rw [if_neg (by omega)]
  have hb : b.length = 16 := hn.2.1.1
  have Hb : Hid (b.length = 16) := hb
  clear hb
  obtain ⟨a, cap, hv, hcap⟩ := hn.1.1.opn
  obtain ⟨hpl, hpp⟩ := parts_len hl
  obtain ⟨R, HR⟩ : ∃ R, Hid (splA k (X, L) [] (partsL es) = R) := ⟨_, rfl⟩
  rw [HR.out]
  have hS := hn.1.1
  have hwf := hn.1.2
  have hkw := hn.2.2.2
  subst hv
  simp only at hn hS hwf hkw hcap
  have hl' : decide ((12 : Int) < (es.length : Int)) = false := by simp; omega
  have hP := fun W (f : Fr noB w W) => parts_any (hS.fr0 f) (by omega)
  have hFt := h.ft
  have hgs := h.lts
  have hgp := h.ltp
  go_enter Try.func39, Try.ntmps39
  go_wp2_with (first
    | (with_reducible refine at_wpP ?_; refine wpList_boxG rfl 24 _ rfl (trV gs) [ptr gs] rfl rfl ?_; intro g2 w2 hg2 b2 f2 s2; have l2 := b2.lt; have z2 := f2.size)
    | (with_reducible refine at_wpP ?_; refine wpList_boxN rfl _ rfl k b _ rfl ?_; intro g3 w3 hg3 b3 f3 s3; have l3 := b3.lt; have z3 := f3.size; have q3 := NdB.ents b3 Hb.out)
    | (go_at_call 56; go_must (refine (hP _ (f2.thenN f3)).mono ?_; rintro e w5 ⟨pu, vs, rfl, op, pl, pv, f5⟩; have z5 := f5.size; have pl' := show Hid _ from pl; clear pl; obtain ⟨pa, pc, hpu⟩ := op.opn; subst hpu)))
  have F5 : Fr noB w w5 := (f2.thenN f3).thenN f5
  have H5 := h.fr0 F5
  have b2' := (b2.fr0 f3).fr0 f5
  have b3' := b3.fr0 f5
  have hvb : ∀ x, (Value.slice a es.length cap).ownBlock = some x → ¬ stB F gp x ∧ x < w5.heap.size := fun x hx => by
    obtain ⟨h1, h2, h3⟩ := hvF x hx
    exact ⟨fun q => q.elim h1 h2, by omega⟩
  have hnew : ∀ x, w.heap.size ≤ x → ¬ stB F gp x := fun x hx q => by
    rcases q with q | q
    · have := hFt x q; omega
    · omega
  have T0 : SplR w5 w5 F F gs gp k es R m 0 (X, L) [] nilS := ⟨StT.start H5, OwnR.none _ _, (fun x hx => by cases hx), rfl, by rw [List.drop_zero]; exact HR.out⟩
  go_loopw [19, 6] (fun i u wr => ∃ (j : Nat) (F' : Nat → Prop) (S : DSt × List Pg) (tp : List (Int × Int)), j ≤ vs.length ∧ i = .int .i64 (j : Int) ∧ SplR w5 wr F F' gs gp k es R m j S tp u) (fun i _ _ => vs.length - (intOf i).toNat)
  case atStart => exact ⟨0, F, (X, L), [], Nat.zero_le _, rfl, T0⟩
  case round =>
    obtain ⟨j, F', S, tp, hj, rfl, T⟩ := hrel
    clear T0
    have zr := T.st.fr.size
    have B2 := b2'.fr T.st.fr (hnew g2 (by omega))
    have B3 := b3'.fr T.st.fr (hnew g3 (by omega))
    have OP := op.fr T.st.fr (fun x hx => hnew x (by have := (op.newB x hx).1; omega))
    by_cases hlt : j < vs.length
    · have hlt' : (j : Int) < (vs.length : Int) := by omega
      have hjp : j < (partsL es).length := by have := pl'.out; omega
      obtain ⟨P, HP⟩ : ∃ P : List (Int × Int), Hid ((partsL es)[j] = P) := ⟨(partsL es)[j], rfl⟩
      have hPm := hpp (partsL es)[j] (by simp)
      have hPv := pv j hlt hjp
      have hd : (partsL es).drop j = P :: (partsL es).drop (j + 1) := by rw [← HP.out]; exact List.drop_eq_getElem_cons hjp
      rw [HP.out] at hPm hPv
      have hT := T.eq
      rw [hd] at hT
      obtain ⟨V, HV⟩ : ∃ V : Value, Hid (vs[j] = V) := ⟨vs[j], rfl⟩
      rw [HV.out] at hPv
      obtain ⟨va, vc, hV, _⟩ := hPv.1.opn
      subst hV
      have hPS : SlR enC 2 wr (.slice va P.length vc) P := hPv.1.fr T.st.fr (fun x hx => (hvb x (hPv.2 x hx)).1)
      have hnP : NdS wr (.slice va P.length vc) ⟨k, zerB 16, P⟩ := ⟨⟨hPS, fun x hx => hwf x (hPm.2.2 x hx)⟩, ⟨zerB_len 16, zerB_byt 16⟩, by show P.length ≤ 1000; omega, hkw⟩
      have hMk := make_any (gs := gs) (gp := gp) (⟨k, zerB 16, P⟩ : Nd) (.slice va P.length vc) wr T.st.st (by omega) hnP
      obtain ⟨M, HM⟩ : ∃ M, Hid (makeF S.1 S.2 ⟨k, zerB 16, P⟩ = M) := ⟨_, rfl⟩
      rw [HM.out] at hMk
      obtain ⟨S', pg, e⟩ := M
      simp only at hMk
      have kB3 := NdB.kind B3
      have eB3 := NdB.ents B3 Hb.out
      have cB2 := tr_cell B2
      by_cases he : e = 0
      · subst he
        have hT2 : splA k S' (tp ++ [(key0 P, pg)]) ((partsL es).drop (j + 1)) = R := by rw [← hT, splA_cons0 HM.out]
        clear hT
        have hub := fun x hx => (T.ow.newB x hx)
        have hP0 : 0 < P.length := hPm.1
        have hkey := key0_get hP0
        obtain ⟨K0, HK0⟩ : ∃ x : Int, Hid (key0 P = x) := ⟨_, rfl⟩
        rw [HK0.out] at hT2 hkey
        obtain ⟨x0, Hx0⟩ : ∃ x : Int × Int, Hid (P[0] = x) := ⟨P[0], rfl⟩
        rw [Hx0.out] at hkey
        have hx0 := show Hid _ from hkey
        clear hkey
        have hPF : ∀ W, Fr (stB F' gp) wr W → SlR enC 2 W (.slice va P.length vc) P := fun W f => hPS.fr f (fun x hx q => by
          have h1 := hvb x (hPv.2 x hx)
          rcases q with q | q
          · exact (T.st.ft x q).1.elim (fun q => h1.1 (Or.inl q)) (fun q => by omega)
          · exact h1.1 (Or.inr q))
        have how : ∀ W W', Fr (stB F' gp) wr W → Fr noB W W' → EnO W' w5.heap.size u6 tp := fun W W' f f' => (T.ow.fr f (fun x hx q => by
          rcases q with q | q
          · exact T.ap x hx q
          · have := (hub x hx).1; omega)).fr0 f'
        go_wp2_with (first
        | (with_reducible refine at_wpP ?_; refine at_idx 38 _ _ rfl ?_; have q := fr6; go_must (refine wpList_idxR rfl 38 _ _ rfl 36 uE 2 en_size enC (.slice va P.length vc) P rfl (hPF _ fr6) (by decide) .i64 0 0 rfl rfl hP0 ?_; intro eb eo heb hec; have hec0 := hec 0 _ rfl; rw [Hx0.out, Nat.add_zero] at hec0))
        |(with_reducible refine at_wpP ?_; refine at_idx 100 _ _ rfl ?_; go_must (refine wpList_idxR rfl 100 _ _ rfl 38 uS 1 sE_size en1 (.slice pa vs.length pc) vs rfl OP.sl (by decide) .i64 (j : Int) j rfl rfl hlt ?_; intro pb po hpb hpc; have hpc0 := hpc 0 _ rfl; rw [HV.out, Nat.add_zero] at hpc0))
        | (with_reducible refine at_wpP ?_; refine wpList_bldN rfl _ rfl k (zerB 16) (.slice va P.length vc) [(0, .int .i64 k), (2, .slice va P.length vc)] rfl (built_ndE k _ ⟨_, _, _, rfl⟩) ?_)
        | (go_at_call 18; go_must (refine hMk.mono ?_; rintro e1 w6 ⟨rfl, F2, sto6, ft6, fr6⟩; have z6 := fr6.size))
        | (with_reducible refine at_wpP ?_; refine wpList_bldE rfl _ _ rfl x0.1 pg rfl rfl ?_)
        | (with_reducible refine at_wpP ?_; refine wpList_mkC rfl 38 _ rfl uE _ en_info2 (by decide) (by decide) (x0.1, pg) (enV (x0.1, pg)) rfl rfl rfl ?_; intro g7 w7 b7 f7 s7; have z7 := f7.size)
        | (at_builtin; go_must (refine wpList_appL rfl _ _ 38 rfl _ 16 uE en_info rfl (by decide) u6 rfl (how _ _ fr6 f7) g7 rfl (x0.1, pg) rfl _ b7 (en_one _) ?hq1 ?hq2 ?hq3 ?_; rotate_left 3; intro u8 w8 o8 f8 p8)))
        case hq1 => have := T.tl; have := pl'.out; unfold maxLen; omega
        case hq2 => have := T.tl; have := pl'.out; omega
        case hq3 => omega
        have U6 : StT w5 w6 F F2 gs gp S' (m + j + 1) := T.st.trans (fun x hx => by have := hFt x hx; omega) ⟨sto6, ft6, fr6⟩
        have U8 : StT w5 w8 F F2 gs gp S' (m + (j + 1)) := ((U6.fr0 f7).own f8 (fun x hx => by
          have h1 := hub x hx
          refine ⟨fun q => ?_, by omega, by omega, by omega⟩
          rcases (ft6 x q).1 with q | q
          · exact T.ap x hx q
          · omega)).mono (by omega)
        go_roundw
        case rel =>
          refine ⟨j + 1, F2, S', tp ++ [(K0, pg)], by omega, by go_num, U8, ?_, fun x hx q => ?_, by rw [List.length_append, T.tl]; rfl, hT2⟩
          · rw [hx0.out]; exact o8
          · rcases p8 x hx with hx | hx
            · rcases (ft6 x q).1 with q | q
              · exact T.ap x hx q
              · have := (hub x hx).2; omega
            · have := (ft6 x q).2; omega
        case measure => simp [intOf]; omega
      · have hT2 : ((S', [], e) : (DSt × List Pg) × List (Int × Int) × Int) = R := by rw [← hT, splA_cons1 HM.out he]
        clear hT
        go_wp2_with (first
        | (with_reducible refine at_wpP ?_; refine at_idx 100 _ _ rfl ?_; go_must (refine wpList_idxR rfl 100 _ _ rfl 38 uS 1 sE_size en1 (.slice pa vs.length pc) vs rfl OP.sl (by decide) .i64 (j : Int) j rfl rfl hlt ?_; intro pb po hpb hpc; have hpc0 := hpc 0 _ rfl; rw [HV.out, Nat.add_zero] at hpc0))
        | (with_reducible refine at_wpP ?_; refine wpList_bldN rfl _ rfl k (zerB 16) (.slice va P.length vc) [(0, .int .i64 k), (2, .slice va P.length vc)] rfl (built_ndE k _ ⟨_, _, _, rfl⟩) ?_)
        | (go_at_call 18; go_must (refine hMk.mono ?_; rintro e1 w6 ⟨rfl, F2, sto6, ft6, fr6⟩; have z6 := fr6.size)))
        go_ret2
        have U6 : StT w5 w6 F F2 gs gp S' (m + j + 1) := T.st.trans (fun x hx => by have := hFt x hx; omega) ⟨sto6, ft6, fr6⟩
        subst hT2
        refine ⟨F2, nilS, rfl, ?_, OwnR.none _ _, fun x hx => by cases hx⟩
        exact (StT.pre F5 U6).mono (by have := pl'.out; omega)
    · have hjj : j = vs.length := by omega
      have hT2 : ((S, tp, 0) : (DSt × List Pg) × List (Int × Int) × Int) = R := by
        have := T.eq
        rw [hjj, pl'.out, List.drop_length] at this
        exact this
      have hlt' : ¬ (j : Int) < (vs.length : Int) := by omega
      obtain ⟨ua, uc, hu6⟩ := T.ow.opn
      subst hu6
      go_wp2
      go_ret2
      subst hT2
      refine ⟨F', _, rfl, ?_, T.ow.rebase (by omega), T.ap⟩
      exact (StT.pre F5 T.st).mono (by have := pl'.out; omega)
/-- Split. -/
theorem split_any {F : Nat → Prop} {gs gp : Nat} {X : DSt} {L : List Pg} {m : Nat} (k : Int) (b : List Int) (es : List (Int × Int)) (v : Value) (w : World) (h : Sto w F gs gp X L m) (hm : m ≤ 99000) (hn : NdS w v ⟨k, b, es⟩) (hvF : ∀ x, v.ownBlock = some x → ¬ F x ∧ x ≠ gp ∧ x < w.heap.size) :
    Calls Try.prog 39 #[trV gs, ndV k b v] w fun r w' => SplitIs w w' F gs gp (splF (X, L) k es) (m + 2) r := by
  by_cases hl : es.length ≤ 12
  · exact split_yes k b es v w h hm hn hvF hl
  · refine (split_no k b es v w h hn (by omega)).mono ?_
    rintro r w' ⟨F', u, e, s, o, a⟩
    exact ⟨F', u, e, s.mono (by omega), o, a⟩
end Go.Proofs.Ytmkinaijkgkgiaa
