/- Texts UQ, UN, UO of the proof of PruneTrims, one behind the other. -/
import Derived.Deep.CutRange
import Derived.Test.YtmkinaijkgkgiaaGreatBundlePruneTrims1
import Derived.Test.YtmkinaijkgkgiaaGreatBundlePruneTrims2
import Derived.Test.YtmkinaijkgkgiaaGreatBundlePruneTrims3
import Derived.Test.YtmkinaijkgkgiaaGreatBundlePruneTrims4
import Derived.Test.YtmkinaijkgkgiaaGreatBundlePruneTrims5
import Derived.Test.YtmkinaijkgkgiaaGreatBundlePruneTrims6
import Derived.Test.YtmkinaijkgkgiaaGreatBundlePruneTrims7
import Derived.Test.YtmkinaijkgkgiaaGreatBundlePruneTrims8
import Derived.Test.YtmkinaijkgkgiaaGreatBundlePruneTrims9
import Derived.Test.YtmkinaijkgkgiaaGreatBundlePruneTrims10
import Derived.Test.YtmkinaijkgkgiaaGreatBundlePruneTrims11
import Derived.Test.YtmkinaijkgkgiaaGreatBundlePruneTrims12
import Derived.Test.YtmkinaijkgkgiaaGreatBundlePruneTrims13
import Derived.Test.YtmkinaijkgkgiaaGreatBundlePruneTrims14
import Derived.Test.YtmkinaijkgkgiaaGreatBundlePruneTrims15
import Derived.Test.YtmkinaijkgkgiaaGreatBundlePruneTrims16
import Derived.Test.YtmkinaijkgkgiaaGreatBundlePruneTrims17
import Derived.Test.YtmkinaijkgkgiaaGreatBundlePruneTrims18
import Derived.Test.YtmkinaijkgkgiaaGreatBundlePruneTrims19
import Derived.Test.YtmkinaijkgkgiaaGreatBundlePruneTrims20
import Derived.Test.YtmkinaijkgkgiaaGreatBundlePruneTrims21
import Derived.Test.YtmkinaijkgkgiaaGreatBundlePruneTrims22
import Derived.Test.YtmkinaijkgkgiaaGreatBundlePruneTrims23
import Derived.Test.YtmkinaijkgkgiaaGreatBundlePruneTrims24
import Derived.Test.YtmkinaijkgkgiaaGreatBundlePruneTrims25
/- beside: which neighbour has room; no condition. (Written by uq_gen.py.) -/
namespace Go.Proofs.YtmkinaijkgkgiaaGreat
open Go.RowKit Go.Proofs.U
set_option linter.unusedSimpArgs false
set_option linter.unusedVariables false
theorem run_mk2_int (x y : Int) (w : World) : (Instr.buildSlice 52 2 #[(0, .int .i64 x), (1, .int .i64 y)]).run Tryz.prog w = .ok (.slice (some ⟨w.heap.size, 0, none⟩) 2 2) (w.alloc (.cells #[.int .i64 x, .int .i64 y] 3)) := by simp [go_sem]
/-- What beside answers. -/
def BesIs (w w' : World) (j : Nat) (l : List (Int × Int)) (r : Ending) : Prop := ∃ u, r = .returned (.tuple #[.int .i64 (j : Int), u, .int .i64 0]) ∧ EnO w' w.heap.size u l ∧ Fr noB w w'
set_option maxRecDepth 100000 in
set_option maxHeartbeats 8000000 in
theorem bes_any {F : Nat → Prop} {gs gp : Nat} {X : DSt} {L : List Pg} {m : Nat} {l : List (Int × Int)} {v : Value} {i n : Nat} (w : World) (h : Sto w F gs gp X L m) (hm : m ≤ 100000) (hS : SlR enC 2 w v l) (hi : i < l.length) (hl : l.length ≤ 100) (hn : n ≤ 100) (hg : ∀ y ∈ l, getF X L y.2 = ((rdN X y.2).1, 0) ∧ (rdN X y.2).1.es.length ≤ 6) :
    Calls Tryz.prog 96 #[trV gs, v, .int .i64 (i : Int), .int .i64 (n : Int)] w fun r w' => BesIs w w' (besF X l i n) (othF X l i (besF X l i n)) r := by
  obtain ⟨a, c, hv, _⟩ := hS.opn
  subst hv
  obtain ⟨B, HB⟩ : ∃ B, Hid (besF X l i n = B) := ⟨_, rfl⟩
  obtain ⟨O, HO⟩ : ∃ O, Hid (othF X l i (besF X l i n) = O) := ⟨_, rfl⟩
  rw [HO.out, HB.out]
  have hG := fun (p : Int) W (s : Sto W F gs gp X L m) => nget_own p W s hm
  obtain ⟨M, HM⟩ : ∃ M, Hid (l.length = M) := ⟨_, rfl⟩
  rw [HM.out] at hi hl ⊢
  have hg' := show Hid _ from hg
  clear hg
  go_enter Tryz.func96, Tryz.ntmps96
  have hw1 : IntKind.i64.wrap ((i : Int) - 1) = (i : Int) - 1 := wrap_sm (by omega)
  have hw2 : IntKind.i64.wrap ((i : Int) + 1) = (i : Int) + 1 := wrap_sm (by omega)
  go_wp2_with (first
    | (with_reducible refine at_wpP ?_; refine wpList_boxG rfl 28 _ rfl (trV gs) [ptr gs] rfl rfl ?_; intro g4 w4 hg4 b4 f4 s4; have l4 := b4.lt; have z4 := f4.size)
    | (with_reducible refine at_wpP ?_; refine wpList_mk2I rfl 52 _ _ rfl 3 .i64 ((i : Int) - 1) ((i : Int) + 1) rfl rfl (run_mk2_int _ _) ?_; intro gj w5 oj f5 sj tj; have z5 := f5.size))
  have F5 := f4.thenN f5
  have hSj : SlI .i64 w5 (.slice (some ⟨gj, 0, none⟩) 2 2) [(i : Int) - 1, (i : Int) + 1] := oj.sl (fun z hz => by
    rcases List.mem_cons.1 hz with rfl | hz
    · exact wfSm (by omega) (by omega)
    · obtain rfl := List.mem_singleton.1 hz; exact wfSm (by omega) (by omega))
  go_loopw [21] (fun k wr => ∃ q : Nat, q ≤ 2 ∧ k = .int .i64 (q : Int) ∧ Fr noB w5 wr ∧ Hid (1 ≤ q → ¬ (1 ≤ i ∧ szX X (l.getD (i - 1) (0, 0)).2 + n ≤ 6)) ∧ Hid (2 ≤ q → ¬ (i + 1 < l.length ∧ szX X (l.getD (i + 1) (0, 0)).2 + n ≤ 6))) (fun k _ => 2 - (intOf k).toNat)
  case atStart => exact ⟨0, by omega, rfl, Fr.refl _ _, fun q => absurd q (by decide), fun q => absurd q (by decide)⟩
  case round =>
    obtain ⟨q, hq, rfl, fr, h1, h2⟩ := hrel
    have Fr5 := F5.thenN fr
    have zr := Fr5.size
    have br := (b4.fr0 f5).fr0 fr
    have Sr := hS.fr0 Fr5
    rw [HM.out] at Sr
    have hr := h.fr0 Fr5
    have jr : Sl wr 1 (.slice (some ⟨gj, 0, none⟩) 2 2) 2 [.int .i64 ((i : Int) - 1), .int .i64 ((i : Int) + 1)] := (hSj.fr0 fr).1
    have pr := pr_cell br
    rcases (by omega : q = 0 ∨ q = 1 ∨ q = 2) with rfl | rfl | rfl
    · by_cases hx : 1 ≤ i
      · obtain ⟨y, Hy⟩ : ∃ y, Hid (l.getD (i - 1) (0, 0) = y) := ⟨_, rfl⟩
        have hjl : (i - 1) < l.length := by have := HM.out; omega
        have hyl : l[(i - 1)] = y := by rw [← Hy.out]; simp [List.getD, hjl]
        have hgy := hg'.out y (by rw [← hyl]; simp)
        obtain ⟨N, HN⟩ : ∃ N, Hid ((rdN X y.2).1 = N) := ⟨_, rfl⟩
        rw [HN.out] at hgy
        have hsz : szX X y.2 = N.es.length := by rw [← HN.out]; rfl
        have hGy := fun W (f : Fr noB wr W) => hG y.2 W (hr.fr0 f)
        rw [hgy.1] at hGy
        have t1 : decide (((i : Int) - 1 : Int) < 0) = false := by simp; omega
        have t2 : decide ((M : Int) ≤ ((i : Int) - 1 : Int)) = false := by simp; omega
        have hyl' := show Hid _ from hyl
        have hjM : (i - 1) < M := by omega
        have hje : Hid (((i : Int) - 1 : Int) = (((i - 1) : Nat) : Int)) := by show _ = _; omega
        clear hyl
        go_upto_region 5 with (first
          | (with_reducible refine at_wpP ?_; refine at_idx 52 _ _ rfl ?_; go_must (refine wpList_idx1 rfl 52 _ _ rfl 3 Tryz.underlying52 size_int (.slice (some ⟨gj, 0, none⟩) 2 2) 2 _ rfl jr _ _ 0 rfl rfl (by simp) ?_; intro pj uj huj hcj; simp only [List.getElem?_cons_zero, List.getElem?_cons_succ, Option.some.injEq] at huj; subst huj)))
        obtain ⟨w0q, HWq⟩ : ∃ w0, Hid (wr.drew = w0) := ⟨_, rfl⟩
        have f0q : Fr noB wr w0q := by rw [← HWq.out]; exact (Fr.refl _ _).drew
        have z0q := f0q.size
        obtain ⟨be, oe, hix, hcc⟩ := idx_raw Sr (j := (i - 1)) (by rw [HM.out]; exact hjM)
        rw [hyl'.out] at hcc
        have hix : ∀ W, (Instr.indexAt 31 (.slice a M c) (.int .i64 ((i : Int) - 1))).run Tryz.prog W = .ok (.pointer (some ⟨be, oe, none⟩)) W := by rw [hje.out]; exact hix
        have hc2 := f0q.cell (hcc 1 _ rfl) (fun q => q)
        have pr0 := f0q.cell pr (fun q => q)
        have hGy0 := fun (W : World) (f : Fr noB w0q W) => hGy W (f0q.thenN f)
        refine wp_region_M_lay (by kernel_rfl) [8, 9, 10, 12, 13] [false, false, false, false, false, false, false, false, true, true, true, false, true, true, false]
          [fun v => v = .pointer (some ⟨g4, 0, none⟩), fun v => v = .pointer (some ⟨g4, 0, none⟩), fun v => v = ptr gs, fun v => v = .slice a M c, fun v => v = .int .i64 ((i : Int) - 1), fun v => v = .pointer (some ⟨be, oe, none⟩), fun v => v = .pointer (some ⟨be, oe + 1, none⟩), fun v => v = .int .i64 y.2, fun _ => True, fun _ => True, fun _ => True, fun v => v = .int .i64 0, fun _ => True, fun _ => True, fun v => v = .int .i64 0]
          (JGet w0q 8 N) (by rw [HWq.out]; exact JGet.start) (by kernel_rfl) (by kernel_rfl) ⟨?o0, ?o1, ?o2, ?o3, ?o4, ?o5, ?o6, ?o7, ?o8, ?o9, ?o10, ?o11, ?o12, ?o13, ?o14, trivial⟩ ?oe
        case o0 =>
          intro A W m hB hA hJ hbase hdL hdH
          have e4 : A.eval (.tmp 4) = .pointer (some ⟨g4, 0, none⟩) := hbase 4 (by kernel_rfl)
          have f4 : A.tmps[4]?.getD undef = .pointer (some ⟨g4, 0, none⟩) := by simpa [Act.eval] using e4
          exact lightM_val rfl (v := .pointer (some ⟨g4, 0, none⟩)) (by simp [execOp, go_sem, e4, f4]) hJ rfl
        case o1 =>
          intro A W m hB hA hJ hbase hdL hdH
          have e34 : A.eval (.tmp 34) = .pointer (some ⟨g4, 0, none⟩) := hdL 0 34 (by kernel_rfl) (by kernel_rfl) (by kernel_rfl)
          have f34 : A.tmps[34]?.getD undef = .pointer (some ⟨g4, 0, none⟩) := by simpa [Act.eval] using e34
          exact lightM_val rfl (v := .pointer (some ⟨g4, 0, none⟩)) (by simp [execOp, go_sem, e34, f34]) hJ rfl
        case o2 =>
          intro A W m hB hA hJ hbase hdL hdH
          have e35 : A.eval (.tmp 35) = .pointer (some ⟨g4, 0, none⟩) := hdL 1 35 (by kernel_rfl) (by kernel_rfl) (by kernel_rfl)
          have f35 : A.tmps[35]?.getD undef = .pointer (some ⟨g4, 0, none⟩) := by simpa [Act.eval] using e35
          have hc := hJ.1.cell pr0 (fun q => q)
          exact lightM_val rfl (v := ptr gs) (by simp [execOp, go_sem, e35, f35, hc]) hJ rfl
        case o3 =>
          intro A W m hB hA hJ hbase hdL hdH
          have e1 : A.eval (.tmp 1) = .slice a M c := hbase 1 (by kernel_rfl)
          have f1 : A.tmps[1]?.getD undef = .slice a M c := by simpa [Act.eval] using e1
          exact lightM_val rfl (v := .slice a M c) (by simp [execOp, e1, f1]) hJ rfl
        case o4 =>
          intro A W m hB hA hJ hbase hdL hdH
          have e12 : A.eval (.tmp 12) = .int .i64 ((i : Int) - 1) := hbase 12 (by kernel_rfl)
          have f12 : A.tmps[12]?.getD undef = .int .i64 ((i : Int) - 1) := by simpa [Act.eval] using e12
          exact lightM_val rfl (v := .int .i64 ((i : Int) - 1)) (by simp [execOp, e12, f12]) hJ rfl
        case o5 =>
          intro A W m hB hA hJ hbase hdL hdH
          have e37 : A.eval (.tmp 37) = .slice a M c := hdL 3 37 (by kernel_rfl) (by kernel_rfl) (by kernel_rfl)
          have f37 : A.tmps[37]?.getD undef = .slice a M c := by simpa [Act.eval] using e37
          have e38 : A.eval (.tmp 38) = .int .i64 ((i : Int) - 1) := hdL 4 38 (by kernel_rfl) (by kernel_rfl) (by kernel_rfl)
          have f38 : A.tmps[38]?.getD undef = .int .i64 ((i : Int) - 1) := by simpa [Act.eval] using e38
          have hr := hix W
          exact lightM_val rfl (v := .pointer (some ⟨be, oe, none⟩)) (by simp [execOp, e37, e38, hr, Result.andThen]) hJ rfl
        case o6 =>
          intro A W m hB hA hJ hbase hdL hdH
          have e39 : A.eval (.tmp 39) = .pointer (some ⟨be, oe, none⟩) := hdL 5 39 (by kernel_rfl) (by kernel_rfl) (by kernel_rfl)
          have f39 : A.tmps[39]?.getD undef = .pointer (some ⟨be, oe, none⟩) := by simpa [Act.eval] using e39
          exact lightM_val rfl (v := .pointer (some ⟨be, oe + 1, none⟩)) (by simp [execOp, go_sem, e39, f39]) hJ rfl
        case o7 =>
          intro A W m hB hA hJ hbase hdL hdH
          have e40 : A.eval (.tmp 40) = .pointer (some ⟨be, oe + 1, none⟩) := hdL 6 40 (by kernel_rfl) (by kernel_rfl) (by kernel_rfl)
          have f40 : A.tmps[40]?.getD undef = .pointer (some ⟨be, oe + 1, none⟩) := by simpa [Act.eval] using e40
          have hc := hJ.1.cell hc2 (fun q => q)
          exact lightM_val rfl (v := .int .i64 y.2) (by simp [execOp, go_sem, e40, f40, hc]) hJ rfl
        case o8 =>
          intro A W m hB hA hmi hJ hbase hdL hdH
          have e36 : A.eval (.tmp 36) = ptr gs := hdL 2 36 (by kernel_rfl) (by kernel_rfl) (by kernel_rfl)
          have f36 : A.tmps[36]?.getD undef = ptr gs := by simpa [Act.eval] using e36
          have e41 : A.eval (.tmp 41) = .int .i64 y.2 := hdL 7 41 (by kernel_rfl) (by kernel_rfl) (by kernel_rfl)
          have f41 : A.tmps[41]?.getD undef = .int .i64 y.2 := by simpa [Act.eval] using e41
          refine heavyM_call rfl (args := #[ptr gs, .int .i64 y.2]) (f := 40) (by simp [execOp, resolve, invoke, go_sem, e36, f36, e41, f41]) ?_
          refine (hGy0 W hJ.1).mono ?_
          rintro e w' ⟨v, rfl, n, o, f, q⟩
          exact ⟨_, rfl, hJ.call (hB 1 9 (by kernel_rfl)) (hB 2 10 (by kernel_rfl)) (hB 4 13 (by kernel_rfl)) f n q⟩
        case o9 =>
          intro A W m hB hA hmi hJ hbase hdL hdH
          have e0 := hdH 8 42 (by kernel_rfl) (by kernel_rfl) (by kernel_rfl)
          exact heavyM_val rfl (v := A.eval (.tmp 42)) (by simp [execOp]) (hJ.move e0)
        case o10 =>
          intro A W m hB hA hmi hJ hbase hdL hdH
          have e1 := hdH 9 33 (by kernel_rfl) (by kernel_rfl) (by kernel_rfl)
          have e0 := hJ.2.2.1 _ e1
          obtain ⟨u, ey, _⟩ := hJ.2.1 _ e0
          rw [ey] at e0
          have fy : A.tmps[33]?.getD undef = .tuple #[ndV N.k N.b u, .int .i64 0] := by simpa [Act.eval] using ey
          exact heavyM_val rfl (v := ndV N.k N.b u) (by simp [execOp, go_sem, ey, fy]) (hJ.extr e0 (hB 2 13 (by kernel_rfl)))
        case o11 =>
          intro A W m hB hA hJ hbase hdL hdH
          have e1 := hdH 9 33 (by kernel_rfl) (by kernel_rfl) (by kernel_rfl)
          have e0 := hJ.2.2.1 _ e1
          obtain ⟨u, ey, _⟩ := hJ.2.1 _ e0
          have fy : A.tmps[33]?.getD undef = .tuple #[ndV N.k N.b u, .int .i64 0] := by simpa [Act.eval] using ey
          exact lightM_val rfl (v := .int .i64 0) (by simp [execOp, go_sem, ey, fy]) hJ rfl
        case o12 =>
          intro A W m hB hA hmi hJ hbase hdL hdH
          refine heavyM_wp rfl ?_
          refine wp_allocN rfl ?_
          intro g w' hb hf hg
          exact ⟨_, rfl, hJ.alloc (hB 1 13 (by kernel_rfl)) hb hf hg⟩
        case o13 =>
          intro A W m hB hA hmi hJ hbase hdL hdH
          have e2 := hdH 10 43 (by kernel_rfl) (by kernel_rfl) (by kernel_rfl)
          have e4 := hdH 12 13 (by kernel_rfl) (by kernel_rfl) (by kernel_rfl)
          obtain ⟨u, g, ey, ex, hb, hn, ho, hg⟩ := hJ.got e2 e4 hmi
          rw [ey] at e2
          rw [ex] at e4
          refine heavyM_wp rfl ?_
          refine wp_stN _ _ rfl g ex N.k N.b u ey hn.2.1.1 (NdS.sl hn) 0 (zerB 16) nilS hb (zerB_len 16) ?_
          intro w' hb' hf'
          exact ⟨_, rfl, hJ.store e2 e4 hmi hb' hf' _⟩
        case o14 =>
          intro A W m hB hA hJ hbase hdL hdH
          have ee : A.eval (.tmp 44) = .int .i64 0 := hdL 11 44 (by kernel_rfl) (by kernel_rfl) (by kernel_rfl)
          exact lightM_val rfl (v := .int .i64 0) (by simp [execOp, ee]) hJ rfl
        case oe =>
          intro vs W'q m hall hJ hL hH
          obtain ⟨uq, gq, y0, y1, y2, y4, Gq⟩ := hJ.done (hH 8 (by kernel_rfl) (by kernel_rfl)) (hH 9 (by kernel_rfl) (by kernel_rfl)) (hH 10 (by kernel_rfl) (by kernel_rfl)) (hH 12 (by kernel_rfl) (by kernel_rfl)) (hall 13 (by kernel_rfl))
          have x0 : vs 0 = .pointer (some ⟨g4, 0, none⟩) := hL 0 (by kernel_rfl) (by kernel_rfl)
          have x1 : vs 1 = .pointer (some ⟨g4, 0, none⟩) := hL 1 (by kernel_rfl) (by kernel_rfl)
          have x2 : vs 2 = ptr gs := hL 2 (by kernel_rfl) (by kernel_rfl)
          have x3 : vs 3 = .slice a M c := hL 3 (by kernel_rfl) (by kernel_rfl)
          have x4 : vs 4 = .int .i64 ((i : Int) - 1) := hL 4 (by kernel_rfl) (by kernel_rfl)
          have x5 : vs 5 = .pointer (some ⟨be, oe, none⟩) := hL 5 (by kernel_rfl) (by kernel_rfl)
          have x6 : vs 6 = .pointer (some ⟨be, oe + 1, none⟩) := hL 6 (by kernel_rfl) (by kernel_rfl)
          have x7 : vs 7 = .int .i64 y.2 := hL 7 (by kernel_rfl) (by kernel_rfl)
          have x11 : vs 11 = .int .i64 0 := hL 11 (by kernel_rfl) (by kernel_rfl)
          have x14 : vs 14 = .int .i64 0 := hL 14 (by kernel_rfl) (by kernel_rfl)
          simp only [layL, Nat.reduceAdd, Act.put, List.setIfInBounds_toArray, List.set_cons_zero, List.set_cons_succ, y0, y1, y2, y4, x0, x1, x2, x3, x4, x5, x6, x7, x11, x14]
          clear hL hH hall hJ
          clear y0 y1 y2 y4 x0 x1 x2 x3 x4 x5 x6 x7 x11 x14
          have Fq : Fr noB wr W'q := f0q.thenN Gq.fr
          have Zq := Fq.size
          clear HWq

          obtain ⟨ua, uc, hu, _⟩ := Gq.ow.sl.opn
          subst hu
          have hbl := NdS.bl Gq.ns
          have e17 := NdB.ents Gq.nd hbl.out
          have e17d : W'q.drew.cell? ⟨gq, 17, none⟩ = some (.slice ua N.es.length uc) := e17
          have hN6 := hgy.2
          have hEo := Gq.ow
          have hEr := hEo.rebase (show w.heap.size ≤ w0q.heap.size by omega)
          obtain ⟨K, HK⟩ : ∃ K, Hid (N.es.length = K) := ⟨_, rfl⟩
          rw [HK.out] at hN6 e17 e17d hsz hEo hEr ⊢
          have hw3 : IntKind.i64.wrap ((K : Int) + (n : Int)) = (K : Int) + (n : Int) := wrap_sm (by omega)
          by_cases h6 : K + n ≤ 6
          · have t3 : decide ((K : Int) + (n : Int) ≤ 6) = true := by simp; omega
            have hb : besF X l i n = (i - 1) := by
              unfold besF; rw [if_pos ⟨hx, by rw [Hy.out, hsz]; exact h6⟩]
            have hB : B = (i - 1) := by rw [← HB.out]; exact hb
            have hO : O = N.es := by
              rw [← HO.out, hb]
              unfold othF
              rw [if_neg (by omega), Hy.out, ← HN.out]
              rfl
            have hB := show Hid _ from hB
            have hO := show Hid _ from hO
            go_upto_region 9 with fail
            go_quiet (fail)
            go_wp2
            go_ret3
            rw [hB.out, hO.out]
            exact ⟨.slice ua K uc, by first | rfl | (rw [← hje.out]; rfl), hEr.fr0 ((Fr.refl _ _).drewN _), (Fr5.thenN Fq).drewN _⟩
          · have t3 : decide ((K : Int) + (n : Int) ≤ 6) = false := by simp; omega
            have hno : ¬ szX X (l.getD (i - 1) (0, 0)).2 + n ≤ 6 := by rw [Hy.out, hsz]; exact h6
            go_wp2
            go_roundw
            case rel => exact ⟨0 + 1, by omega, rfl, fr.thenN Fq, fun _ q => hno q.2, fun q => absurd q (by decide)⟩
            case measure => simp [intOf]
      · have t1 : decide (((i : Int) - 1) < 0) = true := by simp; omega
        go_wp2_with (first
          | (with_reducible refine at_wpP ?_; refine at_idx 52 _ _ rfl ?_; go_must (refine wpList_idx1 rfl 52 _ _ rfl 3 Tryz.underlying52 size_int (.slice (some ⟨gj, 0, none⟩) 2 2) 2 _ rfl jr _ _ 0 rfl rfl (by simp) ?_; intro pj uj huj hcj; simp only [List.getElem?_cons_zero, List.getElem?_cons_succ, Option.some.injEq] at huj; subst huj)))
        go_roundw
        case rel => exact ⟨1, by omega, rfl, fr, fun _ q => hx q.1, fun q => absurd q (by decide)⟩
        case measure => simp [intOf]
    · by_cases hx : i + 1 < M
      · obtain ⟨y, Hy⟩ : ∃ y, Hid (l.getD (i + 1) (0, 0) = y) := ⟨_, rfl⟩
        have hjl : (i + 1) < l.length := by have := HM.out; omega
        have hyl : l[(i + 1)] = y := by rw [← Hy.out]; simp [List.getD, hjl]
        have hgy := hg'.out y (by rw [← hyl]; simp)
        obtain ⟨N, HN⟩ : ∃ N, Hid ((rdN X y.2).1 = N) := ⟨_, rfl⟩
        rw [HN.out] at hgy
        have hsz : szX X y.2 = N.es.length := by rw [← HN.out]; rfl
        have hGy := fun W (f : Fr noB wr W) => hG y.2 W (hr.fr0 f)
        rw [hgy.1] at hGy
        have t1 : decide (((i : Int) + 1 : Int) < 0) = false := by simp; omega
        have t2 : decide ((M : Int) ≤ ((i : Int) + 1 : Int)) = false := by simp; omega
        have hyl' := show Hid _ from hyl
        have hjM : (i + 1) < M := by omega
        have hje : Hid (((i : Int) + 1 : Int) = (((i + 1) : Nat) : Int)) := by show _ = _; omega
        clear hyl
        go_upto_region 5 with (first
          | (with_reducible refine at_wpP ?_; refine at_idx 52 _ _ rfl ?_; go_must (refine wpList_idx1 rfl 52 _ _ rfl 3 Tryz.underlying52 size_int (.slice (some ⟨gj, 0, none⟩) 2 2) 2 _ rfl jr _ _ 1 rfl rfl (by simp) ?_; intro pj uj huj hcj; simp only [List.getElem?_cons_zero, List.getElem?_cons_succ, Option.some.injEq] at huj; subst huj)))
        obtain ⟨w0q, HWq⟩ : ∃ w0, Hid (wr.drew = w0) := ⟨_, rfl⟩
        have f0q : Fr noB wr w0q := by rw [← HWq.out]; exact (Fr.refl _ _).drew
        have z0q := f0q.size
        obtain ⟨be, oe, hix, hcc⟩ := idx_raw Sr (j := (i + 1)) (by rw [HM.out]; exact hjM)
        rw [hyl'.out] at hcc
        have hix : ∀ W, (Instr.indexAt 31 (.slice a M c) (.int .i64 ((i : Int) + 1))).run Tryz.prog W = .ok (.pointer (some ⟨be, oe, none⟩)) W := by rw [hje.out]; exact hix
        have hc2 := f0q.cell (hcc 1 _ rfl) (fun q => q)
        have pr0 := f0q.cell pr (fun q => q)
        have hGy0 := fun (W : World) (f : Fr noB w0q W) => hGy W (f0q.thenN f)
        refine wp_region_M_lay (by kernel_rfl) [8, 9, 10, 12, 13] [false, false, false, false, false, false, false, false, true, true, true, false, true, true, false]
          [fun v => v = .pointer (some ⟨g4, 0, none⟩), fun v => v = .pointer (some ⟨g4, 0, none⟩), fun v => v = ptr gs, fun v => v = .slice a M c, fun v => v = .int .i64 ((i : Int) + 1), fun v => v = .pointer (some ⟨be, oe, none⟩), fun v => v = .pointer (some ⟨be, oe + 1, none⟩), fun v => v = .int .i64 y.2, fun _ => True, fun _ => True, fun _ => True, fun v => v = .int .i64 0, fun _ => True, fun _ => True, fun v => v = .int .i64 0]
          (JGet w0q 8 N) (by rw [HWq.out]; exact JGet.start) (by kernel_rfl) (by kernel_rfl) ⟨?o0, ?o1, ?o2, ?o3, ?o4, ?o5, ?o6, ?o7, ?o8, ?o9, ?o10, ?o11, ?o12, ?o13, ?o14, trivial⟩ ?oe
        case o0 =>
          intro A W m hB hA hJ hbase hdL hdH
          have e4 : A.eval (.tmp 4) = .pointer (some ⟨g4, 0, none⟩) := hbase 4 (by kernel_rfl)
          have f4 : A.tmps[4]?.getD undef = .pointer (some ⟨g4, 0, none⟩) := by simpa [Act.eval] using e4
          exact lightM_val rfl (v := .pointer (some ⟨g4, 0, none⟩)) (by simp [execOp, go_sem, e4, f4]) hJ rfl
        case o1 =>
          intro A W m hB hA hJ hbase hdL hdH
          have e34 : A.eval (.tmp 34) = .pointer (some ⟨g4, 0, none⟩) := hdL 0 34 (by kernel_rfl) (by kernel_rfl) (by kernel_rfl)
          have f34 : A.tmps[34]?.getD undef = .pointer (some ⟨g4, 0, none⟩) := by simpa [Act.eval] using e34
          exact lightM_val rfl (v := .pointer (some ⟨g4, 0, none⟩)) (by simp [execOp, go_sem, e34, f34]) hJ rfl
        case o2 =>
          intro A W m hB hA hJ hbase hdL hdH
          have e35 : A.eval (.tmp 35) = .pointer (some ⟨g4, 0, none⟩) := hdL 1 35 (by kernel_rfl) (by kernel_rfl) (by kernel_rfl)
          have f35 : A.tmps[35]?.getD undef = .pointer (some ⟨g4, 0, none⟩) := by simpa [Act.eval] using e35
          have hc := hJ.1.cell pr0 (fun q => q)
          exact lightM_val rfl (v := ptr gs) (by simp [execOp, go_sem, e35, f35, hc]) hJ rfl
        case o3 =>
          intro A W m hB hA hJ hbase hdL hdH
          have e1 : A.eval (.tmp 1) = .slice a M c := hbase 1 (by kernel_rfl)
          have f1 : A.tmps[1]?.getD undef = .slice a M c := by simpa [Act.eval] using e1
          exact lightM_val rfl (v := .slice a M c) (by simp [execOp, e1, f1]) hJ rfl
        case o4 =>
          intro A W m hB hA hJ hbase hdL hdH
          have e12 : A.eval (.tmp 12) = .int .i64 ((i : Int) + 1) := hbase 12 (by kernel_rfl)
          have f12 : A.tmps[12]?.getD undef = .int .i64 ((i : Int) + 1) := by simpa [Act.eval] using e12
          exact lightM_val rfl (v := .int .i64 ((i : Int) + 1)) (by simp [execOp, e12, f12]) hJ rfl
        case o5 =>
          intro A W m hB hA hJ hbase hdL hdH
          have e37 : A.eval (.tmp 37) = .slice a M c := hdL 3 37 (by kernel_rfl) (by kernel_rfl) (by kernel_rfl)
          have f37 : A.tmps[37]?.getD undef = .slice a M c := by simpa [Act.eval] using e37
          have e38 : A.eval (.tmp 38) = .int .i64 ((i : Int) + 1) := hdL 4 38 (by kernel_rfl) (by kernel_rfl) (by kernel_rfl)
          have f38 : A.tmps[38]?.getD undef = .int .i64 ((i : Int) + 1) := by simpa [Act.eval] using e38
          have hr := hix W
          exact lightM_val rfl (v := .pointer (some ⟨be, oe, none⟩)) (by simp [execOp, e37, e38, hr, Result.andThen]) hJ rfl
        case o6 =>
          intro A W m hB hA hJ hbase hdL hdH
          have e39 : A.eval (.tmp 39) = .pointer (some ⟨be, oe, none⟩) := hdL 5 39 (by kernel_rfl) (by kernel_rfl) (by kernel_rfl)
          have f39 : A.tmps[39]?.getD undef = .pointer (some ⟨be, oe, none⟩) := by simpa [Act.eval] using e39
          exact lightM_val rfl (v := .pointer (some ⟨be, oe + 1, none⟩)) (by simp [execOp, go_sem, e39, f39]) hJ rfl
        case o7 =>
          intro A W m hB hA hJ hbase hdL hdH
          have e40 : A.eval (.tmp 40) = .pointer (some ⟨be, oe + 1, none⟩) := hdL 6 40 (by kernel_rfl) (by kernel_rfl) (by kernel_rfl)
          have f40 : A.tmps[40]?.getD undef = .pointer (some ⟨be, oe + 1, none⟩) := by simpa [Act.eval] using e40
          have hc := hJ.1.cell hc2 (fun q => q)
          exact lightM_val rfl (v := .int .i64 y.2) (by simp [execOp, go_sem, e40, f40, hc]) hJ rfl
        case o8 =>
          intro A W m hB hA hmi hJ hbase hdL hdH
          have e36 : A.eval (.tmp 36) = ptr gs := hdL 2 36 (by kernel_rfl) (by kernel_rfl) (by kernel_rfl)
          have f36 : A.tmps[36]?.getD undef = ptr gs := by simpa [Act.eval] using e36
          have e41 : A.eval (.tmp 41) = .int .i64 y.2 := hdL 7 41 (by kernel_rfl) (by kernel_rfl) (by kernel_rfl)
          have f41 : A.tmps[41]?.getD undef = .int .i64 y.2 := by simpa [Act.eval] using e41
          refine heavyM_call rfl (args := #[ptr gs, .int .i64 y.2]) (f := 40) (by simp [execOp, resolve, invoke, go_sem, e36, f36, e41, f41]) ?_
          refine (hGy0 W hJ.1).mono ?_
          rintro e w' ⟨v, rfl, n, o, f, q⟩
          exact ⟨_, rfl, hJ.call (hB 1 9 (by kernel_rfl)) (hB 2 10 (by kernel_rfl)) (hB 4 13 (by kernel_rfl)) f n q⟩
        case o9 =>
          intro A W m hB hA hmi hJ hbase hdL hdH
          have e0 := hdH 8 42 (by kernel_rfl) (by kernel_rfl) (by kernel_rfl)
          exact heavyM_val rfl (v := A.eval (.tmp 42)) (by simp [execOp]) (hJ.move e0)
        case o10 =>
          intro A W m hB hA hmi hJ hbase hdL hdH
          have e1 := hdH 9 33 (by kernel_rfl) (by kernel_rfl) (by kernel_rfl)
          have e0 := hJ.2.2.1 _ e1
          obtain ⟨u, ey, _⟩ := hJ.2.1 _ e0
          rw [ey] at e0
          have fy : A.tmps[33]?.getD undef = .tuple #[ndV N.k N.b u, .int .i64 0] := by simpa [Act.eval] using ey
          exact heavyM_val rfl (v := ndV N.k N.b u) (by simp [execOp, go_sem, ey, fy]) (hJ.extr e0 (hB 2 13 (by kernel_rfl)))
        case o11 =>
          intro A W m hB hA hJ hbase hdL hdH
          have e1 := hdH 9 33 (by kernel_rfl) (by kernel_rfl) (by kernel_rfl)
          have e0 := hJ.2.2.1 _ e1
          obtain ⟨u, ey, _⟩ := hJ.2.1 _ e0
          have fy : A.tmps[33]?.getD undef = .tuple #[ndV N.k N.b u, .int .i64 0] := by simpa [Act.eval] using ey
          exact lightM_val rfl (v := .int .i64 0) (by simp [execOp, go_sem, ey, fy]) hJ rfl
        case o12 =>
          intro A W m hB hA hmi hJ hbase hdL hdH
          refine heavyM_wp rfl ?_
          refine wp_allocN rfl ?_
          intro g w' hb hf hg
          exact ⟨_, rfl, hJ.alloc (hB 1 13 (by kernel_rfl)) hb hf hg⟩
        case o13 =>
          intro A W m hB hA hmi hJ hbase hdL hdH
          have e2 := hdH 10 43 (by kernel_rfl) (by kernel_rfl) (by kernel_rfl)
          have e4 := hdH 12 13 (by kernel_rfl) (by kernel_rfl) (by kernel_rfl)
          obtain ⟨u, g, ey, ex, hb, hn, ho, hg⟩ := hJ.got e2 e4 hmi
          rw [ey] at e2
          rw [ex] at e4
          refine heavyM_wp rfl ?_
          refine wp_stN _ _ rfl g ex N.k N.b u ey hn.2.1.1 (NdS.sl hn) 0 (zerB 16) nilS hb (zerB_len 16) ?_
          intro w' hb' hf'
          exact ⟨_, rfl, hJ.store e2 e4 hmi hb' hf' _⟩
        case o14 =>
          intro A W m hB hA hJ hbase hdL hdH
          have ee : A.eval (.tmp 44) = .int .i64 0 := hdL 11 44 (by kernel_rfl) (by kernel_rfl) (by kernel_rfl)
          exact lightM_val rfl (v := .int .i64 0) (by simp [execOp, ee]) hJ rfl
        case oe =>
          intro vs W'q m hall hJ hL hH
          obtain ⟨uq, gq, y0, y1, y2, y4, Gq⟩ := hJ.done (hH 8 (by kernel_rfl) (by kernel_rfl)) (hH 9 (by kernel_rfl) (by kernel_rfl)) (hH 10 (by kernel_rfl) (by kernel_rfl)) (hH 12 (by kernel_rfl) (by kernel_rfl)) (hall 13 (by kernel_rfl))
          have x0 : vs 0 = .pointer (some ⟨g4, 0, none⟩) := hL 0 (by kernel_rfl) (by kernel_rfl)
          have x1 : vs 1 = .pointer (some ⟨g4, 0, none⟩) := hL 1 (by kernel_rfl) (by kernel_rfl)
          have x2 : vs 2 = ptr gs := hL 2 (by kernel_rfl) (by kernel_rfl)
          have x3 : vs 3 = .slice a M c := hL 3 (by kernel_rfl) (by kernel_rfl)
          have x4 : vs 4 = .int .i64 ((i : Int) + 1) := hL 4 (by kernel_rfl) (by kernel_rfl)
          have x5 : vs 5 = .pointer (some ⟨be, oe, none⟩) := hL 5 (by kernel_rfl) (by kernel_rfl)
          have x6 : vs 6 = .pointer (some ⟨be, oe + 1, none⟩) := hL 6 (by kernel_rfl) (by kernel_rfl)
          have x7 : vs 7 = .int .i64 y.2 := hL 7 (by kernel_rfl) (by kernel_rfl)
          have x11 : vs 11 = .int .i64 0 := hL 11 (by kernel_rfl) (by kernel_rfl)
          have x14 : vs 14 = .int .i64 0 := hL 14 (by kernel_rfl) (by kernel_rfl)
          simp only [layL, Nat.reduceAdd, Act.put, List.setIfInBounds_toArray, List.set_cons_zero, List.set_cons_succ, y0, y1, y2, y4, x0, x1, x2, x3, x4, x5, x6, x7, x11, x14]
          clear hL hH hall hJ
          clear y0 y1 y2 y4 x0 x1 x2 x3 x4 x5 x6 x7 x11 x14
          have Fq : Fr noB wr W'q := f0q.thenN Gq.fr
          have Zq := Fq.size
          clear HWq

          obtain ⟨ua, uc, hu, _⟩ := Gq.ow.sl.opn
          subst hu
          have hbl := NdS.bl Gq.ns
          have e17 := NdB.ents Gq.nd hbl.out
          have e17d : W'q.drew.cell? ⟨gq, 17, none⟩ = some (.slice ua N.es.length uc) := e17
          have hN6 := hgy.2
          have hEo := Gq.ow
          have hEr := hEo.rebase (show w.heap.size ≤ w0q.heap.size by omega)
          obtain ⟨K, HK⟩ : ∃ K, Hid (N.es.length = K) := ⟨_, rfl⟩
          rw [HK.out] at hN6 e17 e17d hsz hEo hEr ⊢
          have hw3 : IntKind.i64.wrap ((K : Int) + (n : Int)) = (K : Int) + (n : Int) := wrap_sm (by omega)
          by_cases h6 : K + n ≤ 6
          · have t3 : decide ((K : Int) + (n : Int) ≤ 6) = true := by simp; omega
            have hb : besF X l i n = (i + 1) := by
              unfold besF; rw [if_neg (h1.out (by omega)), if_pos ⟨by rw [HM.out]; exact hx, by rw [Hy.out, hsz]; exact h6⟩]
            have hB : B = (i + 1) := by rw [← HB.out]; exact hb
            have hO : O = N.es := by
              rw [← HO.out, hb]
              unfold othF
              rw [if_neg (by omega), Hy.out, ← HN.out]
              rfl
            have hB := show Hid _ from hB
            have hO := show Hid _ from hO
            go_upto_region 9 with fail
            go_quiet (fail)
            go_wp2
            go_ret3
            rw [hB.out, hO.out]
            exact ⟨.slice ua K uc, by first | rfl | (rw [← hje.out]; rfl), hEr.fr0 ((Fr.refl _ _).drewN _), (Fr5.thenN Fq).drewN _⟩
          · have t3 : decide ((K : Int) + (n : Int) ≤ 6) = false := by simp; omega
            have hno : ¬ szX X (l.getD (i + 1) (0, 0)).2 + n ≤ 6 := by rw [Hy.out, hsz]; exact h6
            go_wp2
            go_roundw
            case rel => exact ⟨1 + 1, by omega, rfl, fr.thenN Fq, fun _ => h1.out (by omega), fun _ q => hno q.2⟩
            case measure => simp [intOf]
      · have t1 : decide (((i : Int) + 1) < 0) = false := by simp; omega
        have t2 : decide ((M : Int) ≤ ((i : Int) + 1)) = true := by simp; omega
        go_wp2_with (first
          | (with_reducible refine at_wpP ?_; refine at_idx 52 _ _ rfl ?_; go_must (refine wpList_idx1 rfl 52 _ _ rfl 3 Tryz.underlying52 size_int (.slice (some ⟨gj, 0, none⟩) 2 2) 2 _ rfl jr _ _ 1 rfl rfl (by simp) ?_; intro pj uj huj hcj; simp only [List.getElem?_cons_zero, List.getElem?_cons_succ, Option.some.injEq] at huj; subst huj)))
        go_roundw
        case rel => exact ⟨2, by omega, rfl, fr, fun _ => h1.out (by omega), fun _ q => hx (by have := HM.out; omega)⟩
        case measure => simp [intOf]
    · have hB : B = i := by rw [← HB.out]; unfold besF; rw [if_neg (h1.out (by omega)), if_neg (h2.out (by omega))]
      have hO : O = [] := by rw [← HO.out, HB.out, hB]; unfold othF; rw [if_pos rfl]
      subst hB
      subst hO
      go_wp2
      go_ret3
      exact ⟨_, rfl, OwnR.none _ _, Fr5⟩
end Go.Proofs.YtmkinaijkgkgiaaGreat
/- slices.Replace of two entries by one; no condition. -/
namespace Go.Proofs.YtmkinaijkgkgiaaGreat
open Go.RowKit Go.Proofs.U
set_option linter.unusedSimpArgs false
set_option linter.unusedVariables false
/-- One entry's cells put over another one's. -/
theorem set_take {cur : List Value} {l : List (Int × Int)} {i : Nat} (t : Int × Int) (hi : i < l.length) (hl : l.length * 2 ≤ cur.length) (hct : cur.take (l.length * 2) = l.flatMap enC) :
    (putAt cur (i * 2) ([t].flatMap enC)).take (l.length * 2) = (l.take i ++ ([t] ++ l.drop (i + 1))).flatMap enC := by
  have hdl : (l.drop (i + 1)).length = l.length - (i + 1) := List.length_drop
  have hA : ((l.take i).flatMap enC).length = i * 2 := by rw [fl_len, List.length_take]; omega
  have hflm : ([t].flatMap enC).length = 2 := by rw [fl_len]; rfl
  have h1 : cur.take (i * 2) = (l.take i).flatMap enC := cur_take hct i (by omega)
  have h2 : (cur.drop (i * 2 + 2)).take (l.length * 2 - (i * 2 + 2)) = (l.drop (i + 1)).flatMap enC := by
    rw [← List.drop_take, hct]
    conv => lhs; rw [← List.take_append_drop (i + 1) l]
    rw [List.flatMap_append, List.drop_left' (by rw [fl_len, List.length_take]; omega)]
  unfold putAt
  rw [hflm, h1, List.flatMap_append, List.flatMap_append, List.append_assoc, ← h2]
  rw [← List.append_assoc, List.take_append, ← List.append_assoc, List.length_append, hA, hflm, List.take_of_length_le (by rw [List.length_append, hA, hflm]; omega)]
theorem put_beyond {cur cs : List Value} {N : Nat} (h : N ≤ cur.length) : (putAt cur N cs).take N = cur.take N := by
  unfold putAt
  rw [List.append_assoc, List.take_left' (by rw [List.length_take]; omega)]
set_option maxRecDepth 100000 in
set_option maxHeartbeats 4000000 in
theorem rep2_end {w : World} {base bu : Nat} {v u : Value} {l : List (Int × Int)} {t : Int × Int} {i : Nat} (hb : base ≤ w.heap.size) (hO : EnO w base v l) (hu : EnO w bu u [t]) (hap : ∀ k, v.ownBlock = some k → u.ownBlock = some k → False) (hl : l.length ≤ 500) (hi : i + 2 = l.length) :
    Calls Tryz.prog 55 #[v, .int .i64 (i : Int), .int .i64 ((i : Int) + 2), u] w fun r w' => InsIs w w' base v (l.take i ++ ([t] ++ l.drop (i + 2))) r := by
  rcases hO.parts with ⟨_, rfl⟩ | ⟨g, cap, cur, hv', hbg, hB, hnc, hcm, hcl, hct⟩
  · simp at hi
  subst hv'
  rcases hu.parts with ⟨_, e⟩ | ⟨gu, capu, curu, hvu, hbgu, hBu, hnu, hcmu, hclu, hctu⟩
  · cases e
  subst hvu
  have hne : gu ≠ g := fun q => hap g rfl (by rw [q]; rfl)
  have hcu := drop_src hBu hctu 0
  rw [List.drop_zero] at hcu
  have hset := set_take t (i := i) (by omega) (by omega) hct
  have hml : (l.take i ++ ([t] ++ l.drop (i + 2))).length = i + 1 := by simp; omega
  have hdr : l.drop (i + 2) = [] := by rw [hi]; exact List.drop_length
  have hres : (putAt cur (i * 2) ([t].flatMap enC)).take ((i + 1) * 2) = (l.take i ++ ([t] ++ l.drop (i + 2))).flatMap enC := by
    have h1 := cur_take (l := l.take i ++ ([t] ++ l.drop (i + 1))) (by rw [show (l.take i ++ ([t] ++ l.drop (i + 1))).length = l.length by simp; omega]; exact hset) (i + 1) (by simp; omega)
    rw [h1, hdr, ← List.append_assoc, List.take_left' (by simp; omega), List.append_nil]
  have hset := show Hid _ from hset
  have hml' := show Hid _ from hml
  have hres' := show Hid _ from hres
  obtain ⟨T, HT⟩ : ∃ T, Hid ([t].flatMap enC = T) := ⟨_, rfl⟩
  have hTl : Hid (T.length = 1 * 2) := by rw [← HT.out]; exact fl_len [t]
  have hTo : ∀ x ∈ T, x.oneCell' = true := by rw [← HT.out]; exact fl_one [t]
  rw [HT.out] at hcu
  obtain ⟨R, HR⟩ : ∃ R, Hid (l.take i ++ ([t] ++ l.drop (i + 2)) = R) := ⟨_, rfl⟩
  rw [HR.out] at hml' hres' ⊢
  have hi' := show Hid _ from hi
  obtain ⟨n, Hn⟩ : ∃ n, Hid (l.length = n) := ⟨_, rfl⟩
  have hnu1 : 1 ≤ capu := hnu
  rw [Hn.out] at hnc hi hl ⊢
  clear hml hres hdr hset hct hctu hnu
  have hn2 : Hid (n = i + 2) := hi.symm
  have hi2 : i + 2 ≤ n := by omega
  have hi3 : n ≤ i + 2 := by omega
  clear hi hi'
  have hp1 : (0 : Int) ≤ (i : Int) + 2 := by omega
  have hp3 : ((i : Int) + 2).toNat = i + 2 := by omega
  have hp4 : (i : Int) + 2 ≤ (n : Int) := by omega
  have hz1 : ((i : Int) == (i : Int) + 2) = false := by simp; omega
  have hz2 : ((i : Int) + 2 == (n : Int)) = true := by simp; omega
  have hz3 : decide (((i + 1 : Nat) : Int) < (n : Int)) = true := by simp; omega
  have hz4 : decide ((i : Int) + 1 < (n : Int)) = true := by simp; omega
  have hf1 : i * 2 + T.length ≤ cur.length := by rw [hTl.out]; omega
  have hq1 : n - (i + 1) = 1 := by omega
  go_enter Tryz.func55, Tryz.ntmps55
  go_wp2_with (first
    | (refine at_cut 31 (.tmp 30) none _ _ rfl ?_; go_must (refine wpList_cuth rfl 31 _ _ rfl 40 uE 2 en_size _ n cap rfl .i64 (i : Int) i rfl rfl (by omega) ?_))
    | (refine at_cut 31 (.tmp 15) _ _ _ rfl ?_; go_must (refine wpList_cut rfl 31 _ _ _ rfl 40 uE 2 en_size _ n _ rfl (by have := hO.sl.2; rw [Hn.out] at this; exact this) .i64 .i64 (i : Int) ((i : Int) + 2) i (i + 2) rfl rfl rfl (by omega) (by omega) (by omega) ?_; intro v1 _ _))
    | (refine at_cut 31 (.tmp 40) _ _ _ rfl ?_; go_must (refine wpList_cutlo1 rfl 31 _ _ rfl 40 uE 2 en_size g n cap rfl .i64 ((i + 1 : Nat) : Int) (i + 1) (by simp [Act.eval, Act.put]) rfl (by omega) (by omega) ?_))
    | (at_builtin; go_must (refine wpList_appRm rfl _ _ 31 rfl 40 2 uE en_size g 40 cur hB i cap rfl ⟨gu, 0 * 2, none⟩ 1 capu rfl T hTl.out hcu (by omega) hf1 hTo ?_; intro w1 b1 f1))
    | (refine at_clrP _ _ rfl ?_; go_must (refine wpList_clrN rfl _ 31 40 rfl _ 2 uE en_zz rfl en_zone g 40 _ b1 ((i + 1) * 2) 1 (cap - (i + 1)) (by simp [Act.eval, Act.put, hq1]) (by omega) (by rw [putAt_len _ _ _ hf1]; omega) ?_; intro cs w2 hcs b2 f2)))
  go_ret
  have hl1 : (putAt cur (i * 2) T).length = cap * 2 := by rw [putAt_len _ _ _ hf1, hcl]
  have hl2 : (putAt (putAt cur (i * 2) T) ((i + 1) * 2) cs).length = cap * 2 := by rw [putAt_len _ _ _ (by rw [hcs, hl1]; omega), hl1]
  have hr := hres'.out
  rw [HT.out] at hr
  refine ⟨_, rfl, EnO.mk hbg b2 hml'.out.symm (by rw [hml'.out]; omega) hcm hl2 ?_, (f1.thenT f2 (fun _ _ q => q)).mono (fun k _ q => by unfold onB1 at q; subst q; rfl), fun k hk => Or.inl hk⟩
  rw [hml'.out, put_beyond (by rw [hl1]; omega)]
  exact hr
set_option maxRecDepth 100000 in
set_option maxHeartbeats 4000000 in
theorem rep2_mid {w : World} {base bu : Nat} {v u : Value} {l : List (Int × Int)} {t : Int × Int} {i : Nat} (hb : base ≤ w.heap.size) (hO : EnO w base v l) (hu : EnO w bu u [t]) (hap : ∀ k, v.ownBlock = some k → u.ownBlock = some k → False) (hl : l.length ≤ 500) (hi : i + 2 < l.length) :
    Calls Tryz.prog 55 #[v, .int .i64 (i : Int), .int .i64 ((i : Int) + 2), u] w fun r w' => InsIs w w' base v (l.take i ++ ([t] ++ l.drop (i + 2))) r := by
  rcases hO.parts with ⟨_, rfl⟩ | ⟨g, cap, cur, hv', hbg, hB, hnc, hcm, hcl, hct⟩
  · simp at hi
  subst hv'
  rcases hu.parts with ⟨_, e⟩ | ⟨gu, capu, curu, hvu, hbgu, hBu, hnu, hcmu, hclu, hctu⟩
  · cases e
  subst hvu
  have hne : gu ≠ g := fun q => hap g rfl (by rw [q]; rfl)
  have hcu := drop_src hBu hctu 0
  rw [List.drop_zero] at hcu
  have hset := set_take t (i := i) (by omega) (by omega) hct
  have hdl : (l.drop (i + 2)).length = l.length - (i + 2) := List.length_drop
  have hml : (l.take i ++ ([t] ++ l.drop (i + 2))).length = l.length - 1 := by simp; omega
  have hgap := (gap_en (cur := cur) (l := l) (m := [t]) (b := l.drop (i + 2)) (i := i) (N := l.length - 1) (by omega) (cur_take hct i (by omega)) (by rw [hdl]; simp; omega) (by omega)).2
  rw [show i + [t].length = i + 1 from rfl] at hgap
  have hsl : (l.take i ++ ([t] ++ l.drop (i + 1))).length = l.length := by simp; omega
  have hsd : (l.take i ++ ([t] ++ l.drop (i + 1))).drop (i + 2) = l.drop (i + 2) := by
    rw [← List.append_assoc, List.drop_append, List.drop_eq_nil_of_le (by simp; omega), List.drop_drop]
    simp only [List.nil_append]
    congr 1
    simp
    omega
  have hsrc2 : ∀ (W : World), BxV W g 40 (putAt cur (i * 2) ([t].flatMap enC)) → ∀ j x, ((l.drop (i + 2)).flatMap enC)[j]? = some x → W.cell? ((⟨g, (i + 2) * 2, none⟩ : Addr).add j) = some x := fun W hW => by
    have h1 := drop_src hW (l := l.take i ++ ([t] ++ l.drop (i + 1))) (by rw [hsl]; exact hset) (i + 2)
    rw [hsd] at h1
    exact h1
  have hdlh := show Hid _ from hdl
  have hmlh := show Hid _ from hml
  have hgaph := show Hid _ from hgap
  clear hset hdl hml hgap hsl hsd hct hctu
  obtain ⟨T, HT⟩ : ∃ T, Hid ([t].flatMap enC = T) := ⟨_, rfl⟩
  have hTl : Hid (T.length = 1 * 2) := by rw [← HT.out]; exact fl_len [t]
  have hTo : ∀ x ∈ T, x.oneCell' = true := by rw [← HT.out]; exact fl_one [t]
  rw [HT.out] at hcu hsrc2 hgaph
  obtain ⟨D, HD⟩ : ∃ D, Hid ((l.drop (i + 2)).flatMap enC = D) := ⟨_, rfl⟩
  have hDo : ∀ x ∈ D, x.oneCell' = true := by rw [← HD.out]; exact fl_one _
  have hDl : Hid (D.length = (l.length - (i + 2)) * 2) := by show _ = _; rw [← HD.out, fl_len, hdlh.out]
  rw [HD.out] at hsrc2 hgaph
  obtain ⟨R, HR⟩ : ∃ R, Hid (l.take i ++ ([t] ++ l.drop (i + 2)) = R) := ⟨_, rfl⟩
  rw [HR.out] at hmlh hgaph ⊢
  obtain ⟨n, Hn⟩ : ∃ n, Hid (l.length = n) := ⟨_, rfl⟩
  have hnu1 : 1 ≤ capu := hnu
  rw [Hn.out] at hnc hi hl hDl hmlh hgaph ⊢
  clear hnu hdlh
  have hp1 : (0 : Int) ≤ (i : Int) + 2 := by omega
  have hp2 : i + 2 ≤ n := by omega
  have hp3 : ((i : Int) + 2).toNat = i + 2 := by omega
  have hp4 : (i : Int) + 2 ≤ (n : Int) := by omega
  have hp6 : i ≤ cap := by omega
  have hp7 : i + 2 ≤ cap := by omega
  have hz1 : ((i : Int) == (i : Int) + 2) = false := by simp; omega
  have hz2 : ((i : Int) + 2 == (n : Int)) = false := by simp; omega
  have hc1 : ¬ (cap = i + 2) := by omega
  have zE := Tryz.sizeOf40
  have mixed : Tryz.prog.follows Departure.mixedOrders = true := by kernel_rfl
  have uE1 := run_underlying uE
  obtain ⟨N, HN⟩ : ∃ N, Hid (n - 1 = N) := ⟨_, rfl⟩
  have hN1 : N + 1 ≤ n := by have := HN.out; omega
  have hN2 : n ≤ N + 1 := by have := HN.out; omega
  have hw1 : IntKind.i64.wrap ((i : Int) + 1) = (i : Int) + 1 := wrap_sm (by omega)
  have hw2 : IntKind.i64.wrap ((i : Int) + 1 + ((n - (i + 2) : Nat) : Int)) = (N : Int) := by rw [wrap_sm (by omega)]; omega
  have hf1 : i * 2 + T.length ≤ cur.length := by rw [hTl.out]; omega
  have hl1 : (putAt cur (i * 2) T).length = cap * 2 := by rw [putAt_len _ _ _ hf1, hcl]
  rw [HN.out] at hmlh hgaph
  go_enter Tryz.func55, Tryz.ntmps55
  go_wp2_with (first
    | (refine at_cut 31 (.tmp 15) _ _ _ rfl ?_; go_must (refine wpList_cut rfl 31 _ _ _ rfl 40 uE 2 en_size _ n _ rfl (by have := hO.sl.2; rw [Hn.out] at this; exact this) .i64 .i64 (i : Int) ((i : Int) + 2) i (i + 2) rfl rfl rfl (by omega) (by omega) (by omega) ?_; intro v1 _ _)))
  go_region_with (fail)
  have b0d : BxV w.drew g 40 cur := hB
  have bud : BxV w.drew gu 40 curu := hBu
  have hcu0 : ∀ j x, T[j]? = some x → w.drew.cell? ((⟨gu, 0 * 2, none⟩ : Addr).add j) = some x := hcu
  have hz3 : decide ((cap : Int) < (N : Int)) = false := by simp; omega
  have hz4 : decide ((i : Int) + 1 ≤ (i : Int) + 2) = true := by simp
  go_wp2_with (first
    | (refine at_cut 31 (.tmp 84) _ _ _ rfl ?_; go_must (refine wpList_cuth rfl 31 _ _ rfl 40 uE 2 en_size _ n cap rfl .i64 (N : Int) N rfl rfl (by omega) ?_))
    | (refine at_cut 31 (.tmp 93) _ _ _ rfl ?_; go_must (refine wpList_cutlo1 rfl 31 _ _ rfl 40 uE 2 en_size g N cap rfl .i64 (i : Int) i rfl rfl (by omega) (by omega) ?_))
    | (refine at_cpy _ _ _ _ rfl ?_; go_must (refine wpList_cpyN rfl _ _ 31 rfl 40 2 uE en_size g 40 cur b0d (i * 2) (N - i) (cap - i) 1 capu ⟨gu, 0 * 2, none⟩ T rfl rfl (by rw [hTl.out, Nat.min_eq_left (by omega)]) hcu0 hf1 hTo ?_; intro w2 b2 f2)))
  have F2 : Fr (onB1 g) w w2 := ⟨f2.os, f2.tape, f2.output, f2.size, f2.block⟩
  have hc2 : ¬ (cap = i + 1) := by omega
  have hq1 : (0 : Int) ≤ (i : Int) + 1 := by omega
  have hq2 : i + 1 ≤ N := by omega
  have hq3 : ((i : Int) + 1).toNat = i + 1 := by omega
  have hq4 : (i : Int) + 1 ≤ (N : Int) := by omega
  have b2d : BxV w2.drew g 40 (putAt cur (i * 2) T) := b2
  have hcd2 := hsrc2 _ b2d
  have hfitd : (i + 1) * 2 + D.length ≤ (putAt cur (i * 2) T).length := by rw [hl1, hDl.out]; omega
  have hld : D.length = min (n - (i + 2)) (N - (i + 1)) * 2 := by rw [hDl.out]; congr 1; omega
  have hld' := show Hid _ from hld
  clear hld
  go_region_law_o (refine step_cpyN rfl _ _ 31 rfl 40 2 uE en_size g 40 _ b2d ((i + 1) * 2) (N - (i + 1)) (cap - (i + 1)) (n - (i + 2)) (cap - (i + 2)) ⟨g, (i + 2) * 2, none⟩ D (by simp [Act.eval, Act.put]) (by simp [Act.eval, Act.put]) hld'.out hcd2 hfitd hDo ?_)
  have b3 := setCells_bx D ((i + 1) * 2) w2.drew _ b2d hfitd
  have f3 := setCells_fr1 w2.drew g D ((i + 1) * 2)
  obtain ⟨w3, H3⟩ : ∃ x, Hid (w2.drew.setCells g ((i + 1) * 2) D = x) := ⟨_, rfl⟩
  rw [H3.out] at b3 f3 ⊢
  have F3 : Fr (onB1 g) w w3 := (F2.drew).thenT f3 (fun _ _ q => q)
  have hl3 : (putAt (putAt cur (i * 2) T) ((i + 1) * 2) D).length = cap * 2 := by rw [putAt_len _ _ _ hfitd, hl1]
  have hq6 : n - N = 1 := by omega
  have hq7 : ¬ cap = N := by omega
  have hq8 : N ≤ n := by omega
  go_wp2_with (first
    | (refine at_cut 31 (.tmp 108) _ _ _ rfl ?_; go_must (refine wpList_cutlo1 rfl 31 _ _ rfl 40 uE 2 en_size g n cap rfl .i64 (N : Int) N rfl rfl (by omega) (by omega) ?_))
    | (refine at_clrP _ _ rfl ?_; go_must (refine wpList_clrN rfl _ 31 40 rfl _ 2 uE en_zz rfl en_zone g 40 _ b3 (N * 2) 1 (cap - N) (by simp [Act.eval, Act.put, hq6]) (by omega) (by rw [hl3]; omega) ?_; intro cs w4 hcs b4 f4)))
  go_ret
  have hl4 : (putAt (putAt (putAt cur (i * 2) T) ((i + 1) * 2) D) (N * 2) cs).length = cap * 2 := by rw [putAt_len _ _ _ (by rw [hcs, hl3]; omega), hl3]
  refine ⟨_, rfl, EnO.mk hbg b4 hmlh.out.symm (by rw [hmlh.out]; omega) hcm hl4 ?_, (F3.thenT f4 (fun _ _ q => q)).mono (fun k _ q => by unfold onB1 at q; subst q; rfl), fun k hk => Or.inl hk⟩
  rw [hmlh.out, put_beyond (by rw [hl3]; omega)]
  exact hgaph.out
/-- slices.Replace of two entries by one. -/
theorem rep2_any {w : World} {base bu : Nat} {v u : Value} {l : List (Int × Int)} {t : Int × Int} {i : Nat} (hb : base ≤ w.heap.size) (hO : EnO w base v l) (hu : EnO w bu u [t]) (hap : ∀ k, v.ownBlock = some k → u.ownBlock = some k → False) (hl : l.length ≤ 500) (hi : i + 2 ≤ l.length) :
    Calls Tryz.prog 55 #[v, .int .i64 (i : Int), .int .i64 ((i : Int) + 2), u] w fun r w' => InsIs w w' base v (l.take i ++ ([t] ++ l.drop (i + 2))) r := by
  by_cases he : i + 2 = l.length
  · exact rep2_end hb hO hu hap hl he
  · exact rep2_mid hb hO hu hap hl (by omega)
end Go.Proofs.YtmkinaijkgkgiaaGreat
/- slices.Grow of nil, slices.Concat of two rows of entries; no condition. -/
namespace Go.Proofs.YtmkinaijkgkgiaaGreat
open Go.RowKit Go.Proofs.U
set_option linter.unusedSimpArgs false
set_option linter.unusedVariables false
set_option maxRecDepth 100000 in
set_option maxHeartbeats 2000000 in
theorem grow_any {w : World} {n : Nat} (h1 : 1 ≤ n) (hl : n ≤ 1000) :
    Calls Tryz.prog 107 #[.slice none 0 0, .int .i64 (n : Int)] w fun r w' => ∃ v', r = .returned v' ∧ EnO w' w.heap.size v' [] ∧ Fr noB w w' := by
  have hz1 : decide ((n : Int) < (0 : Int)) = false := by simp
  have hz2 : decide ((0 : Int) < (n : Int)) = true := by simp; omega
  have hz3 : decide (0 < n) = true := by simp; omega
  have hw1 : IntKind.i64.wrap (n : Int) = (n : Int) := wrap_sm (by omega)
  go_enter Tryz.func107, Tryz.ntmps107
  go_wp2_with (first
    | (at_builtin; go_must (refine wpList_appN0 rfl _ _ 31 3 rfl 40 _ 2 16 uE .i64 Tryz.underlying3 en_info rfl (by decide) (by simp [Act.eval, Act.put]) .i64 n (by simp [Act.eval, Act.put, hw1]) (by omega) (by unfold maxLen; omega) (by omega) ?_; intro g1 c1 cur1 w1 b1 f1 s1 n1 m1 l1; have z1 := f1.size))
    | (refine at_cut 31 (.tmp 22) none _ _ rfl ?_; go_must (refine wpList_cuth rfl 31 _ _ rfl 40 uE 2 en_size _ n c1 rfl .i64 (0 : Int) 0 rfl rfl (by omega) ?_)))
  go_ret
  exact ⟨_, rfl, EnO.mk s1 b1 rfl (Nat.zero_le _) m1 l1 (by simp), f1⟩
theorem wpList_appE {w : World} {base : Nat} {l : List (Int × Int)} {ops : Array Oper} {rest : List Oper} {o : Oper} {a : Act} {Q : Exit → Act → World → Prop} (hgd : o.guard = none) (s x : Operand) (ho : o.op = .call { callee := .builtin .append, args := #[s, x], argTypes := #[31, 31] })
    (v : Value) (hs : a.eval s = v) (hO : EnO w base v l) (vx : Value) (m : List (Int × Int)) (hx : a.eval x = vx) (hS : SlR enC 2 w vx m) (hl : l.length + m.length ≤ 1000) (hbase : base ≤ w.heap.size)
    (h : ∀ v' w', EnO w' base v' (l ++ m) → Fr (fun k => v.ownBlock = some k) w w' → (∀ k, v'.ownBlock = some k → v.ownBlock = some k ∨ w.heap.size ≤ k) → wpList Tryz.prog ops Q rest (a.put o.dst v') w') : wpList Tryz.prog ops Q (o :: rest) a w := by
  by_cases hm : 1 ≤ m.length
  · exact wpList_appM hgd s x 31 ho _ 16 uE en_info rfl (by decide) v hs hO vx m hx hS hm (fun y _ => en_one y) (by unfold maxLen; omega) (by omega) hbase h
  · have hm0 : m = [] := List.eq_nil_of_length_eq_zero (by omega)
    subst hm0
    obtain ⟨a1, c1, hv, hc1⟩ := hO.sl.opn
    subst hv
    obtain ⟨a2, c2, hvx, _⟩ := hS.opn
    subst hvx
    refine wpList_app0 hgd s x 31 ho 40 2 uE en_size a1 l.length c1 hs hc1 a2 c2 hx ?_
    have := h (.slice a1 l.length c1) w (by rw [List.append_nil]; exact hO) (Fr.refl _ _) (fun k hk => Or.inl hk)
    exact this
def szK (la lb k : Nat) : Nat := if k = 0 then 0 else if k = 1 then la else la + lb
def ctK (a b : List (Int × Int)) (k : Nat) : List (Int × Int) := if k = 0 then [] else if k = 1 then a else a ++ b
set_option maxRecDepth 100000 in
set_option maxHeartbeats 4000000 in
theorem cat_any {w : World} {vt va vb : Value} {a b : List (Int × Int)} (hrow : SlR en1 1 w vt [va, vb]) (ha : SlR enC 2 w va a) (hb : SlR enC 2 w vb b) (hn : 1 ≤ a.length + b.length) (hl : a.length + b.length ≤ 100) :
    Calls Tryz.prog 97 #[vt] w fun r w' => ∃ v', r = .returned v' ∧ EnO w' w.heap.size v' (a ++ b) ∧ Fr noB w w' := by
  obtain ⟨ta, tc, hv, _⟩ := hrow.opn
  subst hv
  obtain ⟨aa, ac, hva, _⟩ := ha.opn
  subst hva
  obtain ⟨ba, bc, hvb, _⟩ := hb.opn
  subst hvb
  have hgr := fun W (n : Nat) (h1 : 1 ≤ n) (h2 : n ≤ 1000) => grow_any (w := W) h1 h2
  obtain ⟨la, Hla⟩ : ∃ n, Hid (a.length = n) := ⟨_, rfl⟩
  obtain ⟨lb, Hlb⟩ : ∃ n, Hid (b.length = n) := ⟨_, rfl⟩
  rw [Hla.out] at hn hl hrow ha
  rw [Hlb.out] at hn hl hrow hb
  have hsz : ∀ k, szK la lb k ≤ 100 := fun k => by
    unfold szK
    by_cases h0 : k = 0
    · rw [if_pos h0]; omega
    · by_cases h1 : k = 1
      · rw [if_neg h0, if_pos h1]; omega
      · rw [if_neg h0, if_neg h1]; omega
  have hrow : SlR en1 1 w (.slice ta 2 tc) [.slice aa la ac, .slice ba lb bc] := hrow
  show Calls Tryz.prog _ #[.slice ta 2 tc] w _
  go_enter Tryz.func97, Tryz.ntmps97
  go_wp2
  go_loop [11, 3] (fun i s => ∃ k : Nat, k ≤ 2 ∧ i = .int .i64 (k : Int) ∧ s = .int .i64 ((szK la lb k : Nat) : Int)) (fun i _ => 2 - (intOf i).toNat)
  case atStart => exact ⟨0, by omega, rfl, rfl⟩
  case round =>
    obtain ⟨k, hk, rfl, rfl⟩ := hrel
    rcases (by omega : k = 0 ∨ k = 1 ∨ k = 2) with rfl | rfl | rfl
    · have hw1 : IntKind.i64.wrap (((szK la lb 0 : Nat) : Int) + (la : Int)) = ((szK la lb 1 : Nat) : Int) := by rw [wrap_sm (by have := hsz 0; omega)]; unfold szK; simp
      have hw2 : decide (((szK la lb 1 : Nat) : Int) < 0) = false := by simp
      go_wp2_with (first
        | (with_reducible refine at_wpP ?_; refine at_idx 107 _ _ rfl ?_; go_must (refine wpList_idxR rfl 107 _ _ rfl 31 Tryz.underlying107 1 sE_size _ _ _ rfl hrow (by decide) _ _ 0 rfl rfl (by simp) ?_; intro ca oa hca hcc; have hc0 : World.cell? _ ⟨ca, oa, none⟩ = some (.slice aa la ac) := hcc 0 _ rfl)))
      go_roundw
      case rel => exact ⟨1, by omega, rfl, rfl⟩
      case measure => simp [intOf]
    · have hw1 : IntKind.i64.wrap (((szK la lb 1 : Nat) : Int) + (lb : Int)) = ((szK la lb 2 : Nat) : Int) := by rw [wrap_sm (by have := hsz 1; omega)]; unfold szK; simp
      have hw2 : decide (((szK la lb 2 : Nat) : Int) < 0) = false := by simp
      go_wp2_with (first
        | (with_reducible refine at_wpP ?_; refine at_idx 107 _ _ rfl ?_; go_must (refine wpList_idxR rfl 107 _ _ rfl 31 Tryz.underlying107 1 sE_size _ _ _ rfl hrow (by decide) _ _ 1 rfl rfl (by simp) ?_; intro ca oa hca hcc; have hc0 : World.cell? _ ⟨ca, oa, none⟩ = some (.slice ba lb bc) := hcc 0 _ rfl)))
      go_roundw
      case rel => exact ⟨2, by omega, rfl, rfl⟩
      case measure => simp [intOf]
    · have hs2 : szK la lb 2 = la + lb := rfl
      go_wp2_with (first
        | (go_at_call 107; go_must (refine (hgr _ (szK la lb 2) (by rw [hs2]; exact hn) (by have := hsz 2; omega)).mono ?_; rintro e w1 ⟨v1, rfl, o1, f1⟩; have z1 := f1.size; obtain ⟨a1, c1, hv1⟩ := o1.opn; subst hv1)))
      have hrow1 := hrow.fr0 f1
      have ha1 := ha.fr0 f1
      have hb1 := hb.fr0 f1
      go_loopw [27, 6] (fun i s wr => ∃ (k : Nat) (v : Value), k ≤ 2 ∧ i = .int .i64 (k : Int) ∧ s = v ∧ EnO wr w.heap.size v (ctK a b k) ∧ Fr noB w wr) (fun i _ _ => 2 - (intOf i).toNat)
      case atStart => exact ⟨0, _, by omega, rfl, rfl, o1, f1⟩
      case round =>
        obtain ⟨k, v, hk, rfl, rfl, ok, fk⟩ := hrel
        have hrk := hrow.fr0 fk
        have hak := ha.fr0 fk
        have hbk := hb.fr0 fk
        have zk := fk.size
        obtain ⟨va, vc, hvk⟩ := ok.opn
        subst hvk
        rcases (by omega : k = 0 ∨ k = 1 ∨ k = 2) with rfl | rfl | rfl
        · have hlen : (ctK a b 0).length + a.length ≤ 1000 := by rw [Hla.out]; show 0 + la ≤ 1000; omega
          have hlen := show Hid _ from hlen
          go_wp2_with (first
            | (with_reducible refine at_wpP ?_; refine at_idx 107 _ _ rfl ?_; go_must (refine wpList_idxR rfl 107 _ _ rfl 31 Tryz.underlying107 1 sE_size _ _ _ rfl hrk (by decide) _ _ 0 rfl rfl (by simp) ?_; intro ca oa hca hcc; have hc0 : World.cell? _ ⟨ca, oa, none⟩ = some (.slice aa la ac) := hcc 0 _ rfl))
            | (at_builtin; go_must (refine wpList_appE rfl _ _ rfl _ rfl ok _ a rfl hak hlen.out (by omega) ?_; intro v2 w2 o2 f2 p2)))
          go_roundw
          case rel =>
            refine ⟨1, v2, by omega, rfl, rfl, ?_, fk.thenT f2 (fun x hx q => by have := (ok.newB x q).1; omega)⟩
            exact o2
          case measure => simp [intOf]
        · have hlen : (ctK a b 1).length + b.length ≤ 1000 := by rw [Hlb.out]; show a.length + lb ≤ 1000; rw [Hla.out]; omega
          have hlen := show Hid _ from hlen
          go_wp2_with (first
            | (with_reducible refine at_wpP ?_; refine at_idx 107 _ _ rfl ?_; go_must (refine wpList_idxR rfl 107 _ _ rfl 31 Tryz.underlying107 1 sE_size _ _ _ rfl hrk (by decide) _ _ 1 rfl rfl (by simp) ?_; intro ca oa hca hcc; have hc0 : World.cell? _ ⟨ca, oa, none⟩ = some (.slice ba lb bc) := hcc 0 _ rfl))
            | (at_builtin; go_must (refine wpList_appE rfl _ _ rfl _ rfl ok _ b rfl hbk hlen.out (by omega) ?_; intro v2 w2 o2 f2 p2)))
          go_roundw
          case rel =>
            refine ⟨2, v2, by omega, rfl, rfl, ?_, fk.thenT f2 (fun x hx q => by have := (ok.newB x q).1; omega)⟩
            exact o2
          case measure => simp [intOf]
        · go_wp2
          go_ret
          exact ⟨_, rfl, ok, fk⟩
end Go.Proofs.YtmkinaijkgkgiaaGreat
