/- Texts TH1, VK, VN, VF, VH, VI, TH2, VJ, VO of the proof of PruneTrims, one behind the other. -/
import Derived.Test.YtmkinaijkgkgiaaGreatBundlePruneTrims1
import Derived.Test.YtmkinaijkgkgiaaGreatBundlePruneTrims2
import Derived.Test.YtmkinaijkgkgiaaGreatBundlePruneTrims3
import Derived.Test.YtmkinaijkgkgiaaGreatBundlePruneTrims4
import Derived.Test.YtmkinaijkgkgiaaGreatBundlePruneTrims5
import Derived.Test.YtmkinaijkgkgiaaGreatBundlePruneTrims6
import Derived.Test.YtmkinaijkgkgiaaGreatBundlePruneTrims7
import Derived.Test.YtmkinaijkgkgiaaGreatBundlePruneTrims8
import Derived.Test.YtmkinaijkgkgiaaGreatBundlePruneTrims9
import Derived.Test.YtmkinaijkgkgiaaGreatBundlePruneTrims10
import Derived.Test.YtmkinaijkgkgiaaGreatBundlePruneTrims11
import Derived.Test.YtmkinaijkgkgiaaGreatBundlePruneTrims12
import Derived.Test.YtmkinaijkgkgiaaGreatBundlePruneTrims13
import Derived.Test.YtmkinaijkgkgiaaGreatBundlePruneTrims14
import Derived.Test.YtmkinaijkgkgiaaGreatBundlePruneTrims15
import Derived.Test.YtmkinaijkgkgiaaGreatBundlePruneTrims16
import Derived.Test.YtmkinaijkgkgiaaGreatBundlePruneTrims17
import Derived.Test.YtmkinaijkgkgiaaGreatBundlePruneTrims18
import Derived.Test.YtmkinaijkgkgiaaGreatBundlePruneTrims19
import Derived.Test.YtmkinaijkgkgiaaGreatBundlePruneTrims20
import Derived.Test.YtmkinaijkgkgiaaGreatBundlePruneTrims21
import Derived.Test.YtmkinaijkgkgiaaGreatBundlePruneTrims22
import Derived.Test.YtmkinaijkgkgiaaGreatBundlePruneTrims23
import Derived.Test.YtmkinaijkgkgiaaGreatBundlePruneTrims24
import Derived.Test.YtmkinaijkgkgiaaGreatBundlePruneTrims25
import Derived.Test.YtmkinaijkgkgiaaGreatBundlePruneTrims26
import Derived.Test.YtmkinaijkgkgiaaGreatBundlePruneTrims27
import Derived.Test.YtmkinaijkgkgiaaGreatBundlePruneTrims28
import Derived.Test.YtmkinaijkgkgiaaGreatBundlePruneTrims29
/- The document's Put and Find; no condition. (Written by th1_gen.py.) -/
namespace Go.Proofs.YtmkinaijkgkgiaaGreat
open Go.RowKit Go.Proofs.U
set_option linter.unusedSimpArgs false
set_option linter.unusedVariables false
/-- What is still to come. -/
def tailR (d : Bool) (r : List (Int × Int)) (x : Int × Int) : List (Int × Int) := if d then r.filter (fun z => !(z.1 == x.1)) else putL r x
theorem tailR_t1 {r : List (Int × Int)} {x y : Int × Int} (h : y.1 = x.1) : tailR true (y :: r) x = tailR true r x := by
  unfold tailR; simp [h]
theorem tailR_t0 {r : List (Int × Int)} {x y : Int × Int} (h : ¬ y.1 = x.1) : tailR true (y :: r) x = y :: tailR true r x := by
  unfold tailR; simp [h]
theorem tailR_f1 {r : List (Int × Int)} {x y : Int × Int} (h : y.1 = x.1) : tailR false (y :: r) x = x :: tailR true r x := by
  unfold tailR; simp [putL, h]
theorem tailR_f0 {r : List (Int × Int)} {x y : Int × Int} (h0 : x.1 ≤ y.1) (h : ¬ y.1 = x.1) : tailR false (y :: r) x = x :: y :: tailR true r x := by
  unfold tailR; simp [putL, h0, h]
theorem tailR_fl {r : List (Int × Int)} {x y : Int × Int} (h0 : ¬ x.1 ≤ y.1) : tailR false (y :: r) x = y :: tailR false r x := by
  unfold tailR; simp [putL, h0]
theorem bx_cells {w : World} {g : Nat} {x : Int × Int} (b : BxV w g 40 (enC x)) : ∀ q u, (enC x)[q]? = some u → w.cell? ⟨g, 0 + q, none⟩ = some u := fun q u h => by rw [Nat.zero_add]; exact (b.cell q u h).1
set_option maxRecDepth 100000 in
set_option maxHeartbeats 16000000 in
theorem refPut_no (v : Value) (x : Int × Int) (w : World) (hx : x.1 < 0 ∨ 63 < x.1) :
    Calls Tryz.prog 9 #[v, enV x] w fun r w' => r = .returned (.tuple #[v, .int .i64 101]) ∧ Fr noB w w' := by
  by_cases h0 : x.1 < 0
  · have d0 : decide (x.1 < (0 : Int)) = true := decide_eq_true h0
    go_enter Tryz.func9, Tryz.ntmps9
    go_wp2_with (first
      | (with_reducible refine at_wpP ?_; refine wpList_boxG rfl 40 _ rfl (enV x) (enC x) rfl rfl ?_; intro g1 w1 hg1 b1 f1 s1; have q1 := (b1.cell 0 _ rfl).1))
    go_ret2
    exact ⟨rfl, f1⟩
  · have d0 : decide (x.1 < (0 : Int)) = false := decide_eq_false h0
    have d1 : decide ((63 : Int) < x.1) = true := decide_eq_true (by omega)
    go_enter Tryz.func9, Tryz.ntmps9
    go_wp2_with (first
      | (with_reducible refine at_wpP ?_; refine wpList_boxG rfl 40 _ rfl (enV x) (enC x) rfl rfl ?_; intro g1 w1 hg1 b1 f1 s1; have q1 := (b1.cell 0 _ rfl).1))
    go_ret2
    exact ⟨rfl, f1⟩
set_option maxRecDepth 100000 in
set_option maxHeartbeats 16000000 in
theorem refPut_any (v : Value) (la : List (Int × Int)) (x : Int × Int) (w : World) (hv : SlR enC 2 w v la) (hx : 0 ≤ x.1 ∧ x.1 ≤ 63) (hl : la.length ≤ 1000) :
    Calls Tryz.prog 9 #[v, enV x] w fun r w' => ∃ u, r = .returned (.tuple #[u, .int .i64 0]) ∧ EnO w' w.heap.size u (putL la x) ∧ Fr noB w w' := by
  obtain ⟨a0, c0, rfl, hc0⟩ := hv.opn
  have d0 : decide (x.1 < (0 : Int)) = false := decide_eq_false (by omega)
  have d1 : decide ((63 : Int) < x.1) = false := decide_eq_false (by omega)
  go_enter Tryz.func9, Tryz.ntmps9
  go_wp2_with (first
    | (with_reducible refine at_wpP ?_; refine wpList_boxG rfl 40 _ rfl (enV x) (enC x) rfl rfl ?_; intro g1 w1 hg1 b1 f1 s1; have q1 := (b1.cell 0 _ rfl).1; have z1 := f1.size; have l1 := b1.lt)
    | (with_reducible refine at_wpP ?_; refine wpList_mk0 enC 2 rfl 31 rfl 40 Tryz.underlying31 en_size ?_; intro g4 w4 o4 f4 s4 t4; have z4 := f4.size))
  go_loopw [22, 6, 7] (fun i v d wr => ∃ (k : Nat) (o : List (Int × Int)) (dn : Bool), k ≤ la.length ∧ i = .int .i64 (k : Int) ∧ OwnR enC 2 40 wr w1.heap.size v o ∧ d = .bool dn ∧ Hid (o ++ tailR dn (la.drop k) x = putL la x) ∧ o.length ≤ 2 * k ∧ Fr noB w1 wr) (fun i _ _ _ => la.length - (intOf i).toNat)
  case atStart => exact ⟨0, [], false, Nat.zero_le _, rfl, o4, rfl, rfl, by simp, f4⟩
  case round =>
    obtain ⟨j, o, dn, hj, rfl, ho, rfl, he, hol, hf⟩ := hrel
    have hSj := (hv.fr0 f1).fr0 hf
    have zf := hf.size
    have cr := b1.fr0 hf
    have kr := (cr.cell 0 _ rfl).1
    have hnb := ho.newB
    obtain ⟨ao, co, rfl⟩ := ho.opn
    by_cases hlt : j < la.length
    · obtain ⟨y, Hy⟩ : ∃ y, Hid (la[j] = y) := ⟨la[j], (rfl : la[j] = la[j])⟩
      have hlt' : (j : Int) < (la.length : Int) := by omega
      have hdr : la.drop j = y :: la.drop (j + 1) := by rw [List.drop_eq_getElem_cons hlt, Hy.out]
      rw [hdr] at he
      clear hdr
      by_cases e : y.1 = x.1
      · cases dn with
        | true =>
          have de : (y.1 == x.1) = true := by simpa using e
          have hn := show Hid _ from (by have := he.out; rwa [tailR_t1 e] at this : o ++ tailR true (la.drop (j + 1)) x = putL la x)
          clear he
          go_wp2_with (first
            | (with_reducible refine at_wpP ?_; refine at_idx 31 _ _ rfl ?_; go_must (refine wpList_idxR rfl 31 _ _ rfl 40 Tryz.underlying31 2 en_size _ _ _ rfl hSj (by decide) _ _ j rfl rfl hlt ?_; rw [Hy.out]; intro ba oa hba hca))
            | (with_reducible refine at_wpP ?_; refine at_ld 40 _ rfl ?_; have q := hca; go_must (refine wpList_ldE rfl _ rfl ba oa rfl y hca ?_))
            | (with_reducible refine at_wpP ?_; refine wpList_allocE rfl rfl ?_; intro gl w5 hgl b5 f5 sl; have l5 := b5.lt; have z5 := f5.size)
            | (with_reducible refine at_wpP ?_; refine at_st 40 _ _ rfl ?_; go_must (refine wpList_stE rfl _ _ rfl gl rfl (0, 0) y b5 rfl ?_; intro w6 B6 f6; have F6 := Fr.ownX f5 sl f6; have z6 := f6.size; obtain ⟨k0, k1⟩ := B6.all; have c6 := b1.fr0 (hf.thenN F6); have q6 := (c6.cell 0 _ rfl).1; have o6 := ho.fr0 F6)))
          go_roundw
          case rel => exact ⟨j + 1, o, true, by omega, by go_num, o6, rfl, hn, by omega, hf.thenN F6⟩
          case measure => simp [intOf]; omega
        | false =>
          have de : (y.1 == x.1) = true := by simpa using e
          have dl : decide (x.1 ≤ y.1) = true := decide_eq_true (by omega)
          have hn := show Hid _ from (by have := he.out; rwa [tailR_f1 e] at this : o ++ (x :: tailR true (la.drop (j + 1)) x) = putL la x)
          clear he
          go_wp2_with (first
            | (with_reducible refine at_wpP ?_; refine at_ld 40 _ rfl ?_; have q := c6; go_must (refine wpList_ldE rfl _ rfl g1 0 rfl x (bx_cells c6) ?_))
            | (with_reducible refine at_wpP ?_; refine wpList_mkC rfl 31 _ rfl uE _ en_info2 (by decide) (by decide) x (enV x) rfl rfl rfl ?_; intro g7 w7 b7 f7 s7; have z7 := f7.size)
            | (at_builtin; have q := b7; go_must (refine wpList_appL rfl _ _ 31 rfl _ 16 uE en_info rfl (by decide) (.slice ao o.length co) rfl (o6.fr0 f7) g7 rfl x rfl _ b7 (en_one _) ?hq1 ?hq2 ?hq3 ?_; rotate_left 3; intro u8 w8 o8 f8 p8; have z8 := f8.size; have c8 := (c6.fr0 f7).fr f8 (fun q => by have := (hnb _ q).1; omega); have q8 := (c8.cell 0 _ rfl).1; have B8 := (B6.fr0 f7).fr f8 (fun q => by have := (hnb _ q).2; omega); obtain ⟨k08, k18⟩ := EnB.all B8))
            | (with_reducible refine at_wpP ?_; refine at_idx 31 _ _ rfl ?_; go_must (refine wpList_idxR rfl 31 _ _ rfl 40 Tryz.underlying31 2 en_size _ _ _ rfl hSj (by decide) _ _ j rfl rfl hlt ?_; rw [Hy.out]; intro ba oa hba hca))
            | (with_reducible refine at_wpP ?_; refine at_ld 40 _ rfl ?_; have q := hca; go_must (refine wpList_ldE rfl _ rfl ba oa rfl y hca ?_))
            | (with_reducible refine at_wpP ?_; refine wpList_allocE rfl rfl ?_; intro gl w5 hgl b5 f5 sl; have l5 := b5.lt; have z5 := f5.size)
            | (with_reducible refine at_wpP ?_; refine at_st 40 _ _ rfl ?_; go_must (refine wpList_stE rfl _ _ rfl gl rfl (0, 0) y b5 rfl ?_; intro w6 B6 f6; have F6 := Fr.ownX f5 sl f6; have z6 := f6.size; obtain ⟨k0, k1⟩ := B6.all; have c6 := b1.fr0 (hf.thenN F6); have q6 := (c6.cell 0 _ rfl).1; have o6 := ho.fr0 F6)))
          case hq1 => unfold maxLen; omega
          case hq2 => omega
          case hq3 => omega
          go_roundw
          case rel => exact ⟨j + 1, _, true, by omega, by go_num, o8, rfl, (by show _ = _; rw [List.append_assoc]; exact hn.out), by simp; omega, ((hf.thenN F6).thenN f7).thenT f8 (fun k hk e => by have := (hnb k e).1; omega)⟩
          case measure => simp [intOf]; omega
      · cases dn with
        | true =>
          have de : (y.1 == x.1) = false := by simpa using e
          have hn := show Hid _ from (by have := he.out; rwa [tailR_t0 e] at this : o ++ (y :: tailR true (la.drop (j + 1)) x) = putL la x)
          clear he
          go_wp2_with (first
            | (with_reducible refine at_wpP ?_; refine at_ld 40 _ rfl ?_; have q := B6; go_must (refine wpList_ldE rfl _ rfl gl 0 rfl y (bx_cells B6) ?_))
            | (with_reducible refine at_wpP ?_; refine wpList_mkC rfl 31 _ rfl uE _ en_info2 (by decide) (by decide) y (enV y) rfl rfl rfl ?_; intro g7 w7 b7 f7 s7; have z7 := f7.size)
            | (at_builtin; have q := b7; go_must (refine wpList_appL rfl _ _ 31 rfl _ 16 uE en_info rfl (by decide) (.slice ao o.length co) rfl (o6.fr0 f7) g7 rfl y rfl _ b7 (en_one _) ?hq1 ?hq2 ?hq3 ?_; rotate_left 3; intro u8 w8 o8 f8 p8; have z8 := f8.size))
            | (with_reducible refine at_wpP ?_; refine at_idx 31 _ _ rfl ?_; go_must (refine wpList_idxR rfl 31 _ _ rfl 40 Tryz.underlying31 2 en_size _ _ _ rfl hSj (by decide) _ _ j rfl rfl hlt ?_; rw [Hy.out]; intro ba oa hba hca))
            | (with_reducible refine at_wpP ?_; refine at_ld 40 _ rfl ?_; have q := hca; go_must (refine wpList_ldE rfl _ rfl ba oa rfl y hca ?_))
            | (with_reducible refine at_wpP ?_; refine wpList_allocE rfl rfl ?_; intro gl w5 hgl b5 f5 sl; have l5 := b5.lt; have z5 := f5.size)
            | (with_reducible refine at_wpP ?_; refine at_st 40 _ _ rfl ?_; go_must (refine wpList_stE rfl _ _ rfl gl rfl (0, 0) y b5 rfl ?_; intro w6 B6 f6; have F6 := Fr.ownX f5 sl f6; have z6 := f6.size; obtain ⟨k0, k1⟩ := B6.all; have c6 := b1.fr0 (hf.thenN F6); have q6 := (c6.cell 0 _ rfl).1; have o6 := ho.fr0 F6)))
          case hq1 => unfold maxLen; omega
          case hq2 => omega
          case hq3 => omega
          go_roundw
          case rel => exact ⟨j + 1, _, true, by omega, by go_num, o8, rfl, (by show _ = _; rw [List.append_assoc]; exact hn.out), by simp; omega, ((hf.thenN F6).thenN f7).thenT f8 (fun k hk e => by have := (hnb k e).1; omega)⟩
          case measure => simp [intOf]; omega
        | false =>
          by_cases hle : x.1 ≤ y.1
          · skip
            have de : (y.1 == x.1) = false := by simpa using e
            have dl : decide (x.1 ≤ y.1) = true := decide_eq_true (by omega)
            have hn := show Hid _ from (by have := he.out; rwa [tailR_f0 hle e] at this : o ++ (x :: y :: tailR true (la.drop (j + 1)) x) = putL la x)
            clear he
            go_upto_region 11 with (first
              | (with_reducible refine at_wpP ?_; refine at_ld 40 _ rfl ?_; have q := c6; go_must (refine wpList_ldE rfl _ rfl g1 0 rfl x (bx_cells c6) ?_))
              | (with_reducible refine at_wpP ?_; refine wpList_mkC rfl 31 _ rfl uE _ en_info2 (by decide) (by decide) x (enV x) rfl rfl rfl ?_; intro g7 w7 b7 f7 s7; have z7 := f7.size)
              | (at_builtin; have q := b7; go_must (refine wpList_appL rfl _ _ 31 rfl _ 16 uE en_info rfl (by decide) (.slice ao o.length co) rfl (o6.fr0 f7) g7 rfl x rfl _ b7 (en_one _) ?hq1 ?hq2 ?hq3 ?_; rotate_left 3; intro u8 w8 o8 f8 p8; have z8 := f8.size; have c8 := (c6.fr0 f7).fr f8 (fun q => by have := (hnb _ q).1; omega); have q8 := (c8.cell 0 _ rfl).1; have B8 := (B6.fr0 f7).fr f8 (fun q => by have := (hnb _ q).2; omega); obtain ⟨k08, k18⟩ := EnB.all B8))
              | (with_reducible refine at_wpP ?_; refine at_idx 31 _ _ rfl ?_; go_must (refine wpList_idxR rfl 31 _ _ rfl 40 Tryz.underlying31 2 en_size _ _ _ rfl hSj (by decide) _ _ j rfl rfl hlt ?_; rw [Hy.out]; intro ba oa hba hca))
              | (with_reducible refine at_wpP ?_; refine at_ld 40 _ rfl ?_; have q := hca; go_must (refine wpList_ldE rfl _ rfl ba oa rfl y hca ?_))
              | (with_reducible refine at_wpP ?_; refine wpList_allocE rfl rfl ?_; intro gl w5 hgl b5 f5 sl; have l5 := b5.lt; have z5 := f5.size)
              | (with_reducible refine at_wpP ?_; refine at_st 40 _ _ rfl ?_; go_must (refine wpList_stE rfl _ _ rfl gl rfl (0, 0) y b5 rfl ?_; intro w6 B6 f6; have F6 := Fr.ownX f5 sl f6; have z6 := f6.size; obtain ⟨k0, k1⟩ := B6.all; have c6 := b1.fr0 (hf.thenN F6); have q6 := (c6.cell 0 _ rfl).1; have o6 := ho.fr0 F6)))
            case hq1 => unfold maxLen; omega
            case hq2 => omega
            case hq3 => omega
            have hnb8 := o8.newB
            have hl8 : (o ++ [x]).length = o.length + 1 := by simp
            obtain ⟨o', HO⟩ : ∃ o', Hid (o ++ [x] = o') := ⟨_, rfl⟩
            rw [HO.out] at o8 hl8
            obtain ⟨a8, c8', hu8⟩ := o8.opn
            subst hu8
            go_wp2_with (first
              | (with_reducible refine at_wpP ?_; refine at_ld 40 _ rfl ?_; have q := B8; go_must (refine wpList_ldE rfl _ rfl gl 0 rfl y (bx_cells B8) ?_))
              | (with_reducible refine at_wpP ?_; refine wpList_mkC rfl 31 _ rfl uE _ en_info2 (by decide) (by decide) y (enV y) rfl rfl rfl ?_; intro g9 w9 b9 f9 s9; have z9 := f9.size)
              | (at_builtin; have q := b9; go_must (refine wpList_appL rfl _ _ 31 rfl _ 16 uE en_info rfl (by decide) (.slice a8 o'.length c8') rfl (o8.fr0 f9) g9 rfl y rfl _ b9 (en_one _) ?hq1 ?hq2 ?hq3 ?_; rotate_left 3; intro u10 w10 o10 f10 p10; have z10 := f10.size)))
            case hq1 => unfold maxLen; omega
            case hq2 => omega
            case hq3 => omega
            go_roundw
            case rel => exact ⟨j + 1, _, true, by omega, by go_num, o10, rfl, (by show _ = _; rw [← HO.out, List.append_assoc, List.append_assoc]; exact hn.out), by simp; omega, ((((hf.thenN F6).thenN f7).thenT f8 (fun k hk e => by have := (hnb k e).1; omega)).thenN f9).thenT f10 (fun k hk e => by have := (hnb8 k e).1; omega)⟩
            case measure => simp [intOf]; omega
          · skip
            have de : (y.1 == x.1) = false := by simpa using e
            have dl : decide (x.1 ≤ y.1) = false := decide_eq_false (by omega)
            have hn := show Hid _ from (by have := he.out; rwa [tailR_fl hle] at this : o ++ (y :: tailR false (la.drop (j + 1)) x) = putL la x)
            clear he
            go_wp2_with (first
              | (with_reducible refine at_wpP ?_; refine at_ld 40 _ rfl ?_; have q := B6; go_must (refine wpList_ldE rfl _ rfl gl 0 rfl y (bx_cells B6) ?_))
              | (with_reducible refine at_wpP ?_; refine wpList_mkC rfl 31 _ rfl uE _ en_info2 (by decide) (by decide) y (enV y) rfl rfl rfl ?_; intro g7 w7 b7 f7 s7; have z7 := f7.size)
              | (at_builtin; have q := b7; go_must (refine wpList_appL rfl _ _ 31 rfl _ 16 uE en_info rfl (by decide) (.slice ao o.length co) rfl (o6.fr0 f7) g7 rfl y rfl _ b7 (en_one _) ?hq1 ?hq2 ?hq3 ?_; rotate_left 3; intro u8 w8 o8 f8 p8; have z8 := f8.size))
              | (with_reducible refine at_wpP ?_; refine at_idx 31 _ _ rfl ?_; go_must (refine wpList_idxR rfl 31 _ _ rfl 40 Tryz.underlying31 2 en_size _ _ _ rfl hSj (by decide) _ _ j rfl rfl hlt ?_; rw [Hy.out]; intro ba oa hba hca))
              | (with_reducible refine at_wpP ?_; refine at_ld 40 _ rfl ?_; have q := hca; go_must (refine wpList_ldE rfl _ rfl ba oa rfl y hca ?_))
              | (with_reducible refine at_wpP ?_; refine wpList_allocE rfl rfl ?_; intro gl w5 hgl b5 f5 sl; have l5 := b5.lt; have z5 := f5.size)
              | (with_reducible refine at_wpP ?_; refine at_st 40 _ _ rfl ?_; go_must (refine wpList_stE rfl _ _ rfl gl rfl (0, 0) y b5 rfl ?_; intro w6 B6 f6; have F6 := Fr.ownX f5 sl f6; have z6 := f6.size; obtain ⟨k0, k1⟩ := B6.all; have c6 := b1.fr0 (hf.thenN F6); have q6 := (c6.cell 0 _ rfl).1; have o6 := ho.fr0 F6)))
            case hq1 => unfold maxLen; omega
            case hq2 => omega
            case hq3 => omega
            go_roundw
            case rel => exact ⟨j + 1, _, false, by omega, by go_num, o8, rfl, (by show _ = _; rw [List.append_assoc]; exact hn.out), by simp; omega, ((hf.thenN F6).thenN f7).thenT f8 (fun k hk e => by have := (hnb k e).1; omega)⟩
            case measure => simp [intOf]; omega
    · obtain rfl : j = la.length := by omega
      rw [List.drop_length] at he
      cases dn with
      | true =>
        have he : o = putL la x := by have := he.out; simpa [tailR] using this
        subst he
        go_wp2
        go_ret2
        exact ⟨_, rfl, ho.rebase (by omega), f1.thenN hf⟩
      | false =>
        have he := show Hid _ from (by have := he.out; simpa [tailR, putL] using this : o ++ [x] = putL la x)
        go_wp2_with (first
          | (with_reducible refine at_wpP ?_; refine at_ld 40 _ rfl ?_; have q := cr; go_must (refine wpList_ldE rfl _ rfl g1 0 rfl x (bx_cells cr) ?_))
          | (with_reducible refine at_wpP ?_; refine wpList_mkC rfl 31 _ rfl uE _ en_info2 (by decide) (by decide) x (enV x) rfl rfl rfl ?_; intro g7 w7 b7 f7 s7; have z7 := f7.size)
          | (at_builtin; have q := b7; go_must (refine wpList_appL rfl _ _ 31 rfl _ 16 uE en_info rfl (by decide) (.slice ao o.length co) rfl (ho.fr0 f7) g7 rfl x rfl _ b7 (en_one _) ?hq1 ?hq2 ?hq3 ?_; rotate_left 3; intro u8 w8 o8 f8 p8; have z8 := f8.size)))
        case hq1 => unfold maxLen; omega
        case hq2 => omega
        case hq3 => omega
        go_ret2
        exact ⟨_, rfl, by rw [← he.out]; exact o8.rebase (by omega), ((f1.thenN hf).thenN f7).thenT f8 (fun k hk e => by have := (hnb k e).1; omega)⟩
end Go.Proofs.YtmkinaijkgkgiaaGreat
/- The document's Cut of layer 10; no condition. (Written by vk_gen.py.) -/
namespace Go.Proofs.YtmkinaijkgkgiaaGreat
open Go.RowKit Go.Proofs.U
set_option linter.unusedSimpArgs false
set_option linter.unusedVariables false
theorem cutL_t {r : List (Int × Int)} {y : Int × Int} {k : Int} (h : y.1 = k) : cutL (y :: r) k = cutL r k := by unfold cutL; simp [h]
theorem cutL_f {r : List (Int × Int)} {y : Int × Int} {k : Int} (h : ¬ y.1 = k) : cutL (y :: r) k = y :: cutL r k := by unfold cutL; simp [h]
set_option maxRecDepth 100000 in
set_option maxHeartbeats 16000000 in
theorem refCut_any (v : Value) (la : List (Int × Int)) (key : Int) (w : World) (hv : SlR enC 2 w v la) (hl : la.length ≤ 1000) :
    Calls Tryz.prog 11 #[v, .int .i64 key] w fun r w' => ∃ u, r = .returned (.tuple #[u, .bool (decide ((cutL la key).length < la.length))]) ∧ EnO w' w.heap.size u (cutL la key) ∧ Fr noB w w' := by
  obtain ⟨a0, c0, rfl, hc0⟩ := hv.opn
  go_enter Tryz.func11, Tryz.ntmps11
  go_wp2_with (first
    | (with_reducible refine at_wpP ?_; refine wpList_mk0 enC 2 rfl 31 rfl 40 Tryz.underlying31 en_size ?_; intro g4 w4 o4 f4 s4 t4; have z4 := f4.size))
  go_loopw [12, 6] (fun i v wr => ∃ (k : Nat) (o : List (Int × Int)), k ≤ la.length ∧ i = .int .i64 (k : Int) ∧ OwnR enC 2 40 wr w.heap.size v o ∧ Hid (o ++ cutL (la.drop k) key = cutL la key) ∧ o.length ≤ k ∧ Fr noB w wr) (fun i _ _ => la.length - (intOf i).toNat)
  case atStart => exact ⟨0, [], Nat.zero_le _, rfl, o4, rfl, by simp, f4⟩
  case round =>
    obtain ⟨j, o, hj, rfl, ho, he, hol, hf⟩ := hrel
    have hSj := hv.fr0 hf
    have zf := hf.size
    have hnb := ho.newB
    obtain ⟨ao, co, rfl⟩ := ho.opn
    by_cases hlt : j < la.length
    · obtain ⟨y, Hy⟩ : ∃ y, Hid (la[j] = y) := ⟨la[j], (rfl : la[j] = la[j])⟩
      have hlt' : (j : Int) < (la.length : Int) := by omega
      have hdr : la.drop j = y :: la.drop (j + 1) := by rw [List.drop_eq_getElem_cons hlt, Hy.out]
      rw [hdr] at he
      clear hdr
      by_cases e : y.1 = key
      · have de : (y.1 == key) = true := by simpa using e
        have hn := show Hid _ from (by have := he.out; rwa [cutL_t e] at this : o ++ cutL (la.drop (j + 1)) key = cutL la key)
        clear he
        go_wp2_with (first
          | (with_reducible refine at_wpP ?_; refine at_idx 31 _ _ rfl ?_; go_must (refine wpList_idxR rfl 31 _ _ rfl 40 Tryz.underlying31 2 en_size _ _ _ rfl hSj (by decide) _ _ j rfl rfl hlt ?_; rw [Hy.out]; intro ba oa hba hca))
          | (with_reducible refine at_wpP ?_; refine at_ld 40 _ rfl ?_; have q := hca; go_must (refine wpList_ldE rfl _ rfl ba oa rfl y hca ?_))
          | (with_reducible refine at_wpP ?_; refine wpList_allocE rfl rfl ?_; intro gl w5 hgl b5 f5 sl; have l5 := b5.lt; have z5 := f5.size)
          | (with_reducible refine at_wpP ?_; refine at_st 40 _ _ rfl ?_; go_must (refine wpList_stE rfl _ _ rfl gl rfl (0, 0) y b5 rfl ?_; intro w6 B6 f6; have F6 := Fr.ownX f5 sl f6; have z6 := f6.size; obtain ⟨k0, k1⟩ := B6.all; have o6 := ho.fr0 F6)))
        go_roundw
        case rel => exact ⟨j + 1, o, by omega, by go_num, o6, hn, by omega, hf.thenN F6⟩
        case measure => simp [intOf]; omega
      · have de : (y.1 == key) = false := by simpa using e
        have hn := show Hid _ from (by have := he.out; rw [cutL_f e] at this; simpa using this : (o ++ [y]) ++ cutL (la.drop (j + 1)) key = cutL la key)
        clear he
        go_wp2_with (first
          | (with_reducible refine at_wpP ?_; refine at_ld 40 _ rfl ?_; have q := B6; go_must (refine wpList_ldE rfl _ rfl gl 0 rfl y (bx_cells B6) ?_))
          | (with_reducible refine at_wpP ?_; refine wpList_mkC rfl 31 _ rfl uE _ en_info2 (by decide) (by decide) y (enV y) rfl rfl rfl ?_; intro g7 w7 b7 f7 s7; have z7 := f7.size)
          | (at_builtin; have q := b7; go_must (refine wpList_appL rfl _ _ 31 rfl _ 16 uE en_info rfl (by decide) (.slice ao o.length co) rfl (o6.fr0 f7) g7 rfl y rfl _ b7 (en_one _) ?hq1 ?hq2 ?hq3 ?_; rotate_left 3; intro u8 w8 o8 f8 p8; have z8 := f8.size))
          | (with_reducible refine at_wpP ?_; refine at_idx 31 _ _ rfl ?_; go_must (refine wpList_idxR rfl 31 _ _ rfl 40 Tryz.underlying31 2 en_size _ _ _ rfl hSj (by decide) _ _ j rfl rfl hlt ?_; rw [Hy.out]; intro ba oa hba hca))
          | (with_reducible refine at_wpP ?_; refine at_ld 40 _ rfl ?_; have q := hca; go_must (refine wpList_ldE rfl _ rfl ba oa rfl y hca ?_))
          | (with_reducible refine at_wpP ?_; refine wpList_allocE rfl rfl ?_; intro gl w5 hgl b5 f5 sl; have l5 := b5.lt; have z5 := f5.size)
          | (with_reducible refine at_wpP ?_; refine at_st 40 _ _ rfl ?_; go_must (refine wpList_stE rfl _ _ rfl gl rfl (0, 0) y b5 rfl ?_; intro w6 B6 f6; have F6 := Fr.ownX f5 sl f6; have z6 := f6.size; obtain ⟨k0, k1⟩ := B6.all; have o6 := ho.fr0 F6)))
        case hq1 => unfold maxLen; omega
        case hq2 => omega
        case hq3 => omega
        go_roundw
        case rel => exact ⟨j + 1, o ++ [y], by omega, by go_num, o8, hn, by rw [List.length_append, List.length_singleton]; omega, ((hf.thenN F6).thenN f7).thenT f8 (fun k hk e => by have := (hnb k e).1; omega)⟩
        case measure => simp [intOf]; omega
    · obtain rfl : j = la.length := by omega
      have hn : o = cutL la key := by have := he.out; rw [List.drop_length] at this; simpa [cutL] using this
      subst hn
      go_wp2
      go_ret2
      exact ⟨_, rfl, ho, hf⟩
end Go.Proofs.YtmkinaijkgkgiaaGreat
/- One key trimmed; a key put and cut again, cut and put again, plain; no condition. -/
namespace Go.Proofs.YtmkinaijkgkgiaaGreat
open Go.RowKit Go.Proofs.U
set_option linter.unusedSimpArgs false
set_option linter.unusedVariables false
/-- The law's own entries: keys there can be, each with the page. -/
def ownE (pg : Int) (ks : List Int) : List (Int × Int) := (ks.filter fun k => decide (0 ≤ k) && decide (k < 64)).map fun k => (k, pg)
theorem ownE_snoc (pg : Int) (ks : List Int) (k : Int) : ownE pg (ks ++ [k]) = ownE pg ks ++ (if 0 ≤ k ∧ k < 64 then [(k, pg)] else []) := by
  unfold ownE
  rw [List.filter_append, List.map_append]
  congr 1
  by_cases h : 0 ≤ k ∧ k < 64
  · rw [if_pos h]; simp [h.1, h.2]
  · rw [if_neg h]
    have : (decide (0 ≤ k) && decide (k < 64)) = false := by
      by_cases a : 0 ≤ k
      · have b : ¬ k < 64 := fun q => h ⟨a, q⟩
        simp [b]
      · simp [a]
    simp [this]
theorem ownE_mem {pg : Int} {ks : List Int} {x : Int × Int} (h : x ∈ ownE pg ks) : (0 ≤ x.1 ∧ x.1 ≤ 63) ∧ x.2 ∈ [pg] := by
  unfold ownE at h
  obtain ⟨k, hk, rfl⟩ := List.mem_map.1 h
  have := (List.mem_filter.1 hk).2
  simp at this
  exact ⟨⟨this.1, by show k ≤ 63; omega⟩, by simp⟩
end Go.Proofs.YtmkinaijkgkgiaaGreat
/- Stage 11's laws: made; no condition. -/
namespace Go.Proofs.YtmkinaijkgkgiaaGreat
open Go.RowKit Go.Proofs.U
set_option linter.unusedSimpArgs false
set_option linter.unusedVariables false
theorem pr_zero : (Tryz.prog.info? 28).map (·.zero) = some (some (.agg #[.pointer none])) := by kernel_rfl
theorem built_pr (g : Nat) : Tryz.prog.built 28 [(0, trV g)] = some #[ptr g] := by
  have hp : (Tryz.prog.fieldsOf 28).toList.mapM (fun f => (Tryz.prog.info? f.type).map fun i => (f.offset, i.size)) = some [(0, 1)] := by kernel_rfl
  rw [built_struct _ _ pr_struct _ pr_zero _ hp]
  rfl
theorem results_pr3 {fn : Func} {q u v : Tmp} (h : fn.results = #[.cell q 28, .tmp u, .tmp v]) (tmps : Array Value) (w : World) (g gs : Nat) (hq : tmps.getD q undef = .pointer (some ⟨g, 0, none⟩)) (hB : BxV w g 28 [ptr gs]) :
    (results fn tmps).run Tryz.prog w = .ok (.tuple #[trV gs, tmps.getD u undef, tmps.getD v undef]) w := by
  have hr := run_loadVar_mid (P := Tryz.prog) w g 0 28 [ptr gs] _ (hB.range 0 _ rfl) pr_struct rfl pr_size
  have hc : (results fn tmps).run Tryz.prog w = ((asAddr (tmps.getD q undef)).run Tryz.prog w).andThen fun a w₁ => ((loadVar 28 a).run Tryz.prog w₁).andThen fun x w₂ => .ok (.tuple #[x, tmps.getD u undef, tmps.getD v undef]) w₂ := by
    simp only [results, h]
    simp [Sem.run_bind, Result.andThen]
  rw [hc, hq]
  simp only [asAddr, Sem.run_pure, Result.andThen_ok, hr]
theorem wpList_bldP {w : World} {ops : Array Oper} {rest : List Oper} {o : Oper} {a : Act} {Q : Exit → Act → World → Prop} (hgd : Region.wanted o (yielded ops a.tmps) = true) (y : Operand) (ho : o.op = .build 28 #[(0, y)]) (g : Nat) (hy : a.eval y = trV g)
    (h : wpList Tryz.prog ops Q rest (a.put o.dst (trV g)) w) : wpList Tryz.prog ops Q (o :: rest) a w := by
  refine wpList_wanted hgd fun K hK => ?_
  have hrun := run_build (P := Tryz.prog) w 28 #[(0, trV g)] _ (built_pr g)
  unfold Oper.wp
  simp [execOp, ho, hy, hrun, Result.andThen]
  exact hK _ _ h
theorem wpList_stP {w : World} {ops : Array Oper} {rest : List Oper} {o : Oper} {a : Act} {Q : Exit → Act → World → Prop} (hgd : o.guard = none) (y z : Operand) (ho : o.op = .store 28 y z) (g : Nat) (hy : a.eval y = .pointer (some ⟨g, 0, none⟩)) (gs : Nat) (hz : a.eval z = trV gs) (v0 : Value) (hB : BxV w g 28 [v0])
    (h : ∀ w', BxV w' g 28 [ptr gs] → Fr (onB1 g) w w' → wpList Tryz.prog ops Q rest (a.put o.dst undef) w') : wpList Tryz.prog ops Q (o :: rest) a w := by
  refine wpList_storeV hgd _ y z ho g 0 hy [ptr gs] hz _ [v0] hB pr_size (Nat.le_refl _) (by intro u hu; simp at hu; subst hu; rfl) ?_
  intro w' h1 h2
  rw [putAt_all [v0] [ptr gs] rfl] at h1
  exact h w' h1 h2
set_option maxRecDepth 100000 in
set_option maxHeartbeats 2000000 in
theorem made_P (n : Int) (hn : 5 ≤ n ∧ n ≤ 1000) (w : World) :
    Calls Tryz.prog 7 #[.int .i64 n] w fun r w' => ∃ gs gp F X L pg, r = .returned (.tuple #[trV gs, .int .i64 pg, .bool true]) ∧ Sto w' F gs gp X L 1 ∧ Above w w' F gs gp ∧ Base1 X L pg (plN (sizeN n)) := by
  obtain ⟨X', L1, p, L2, em, eh, hB1⟩ := base1 hn.1
  have hU := Up.new (n := n) (by omega)
  have hok := plNew_ok (sizeN n)
  rw [← plNew_len] at hU
  have hd := fun W => new_any n (by omega) W
  have hp := fun W => pnew_any (sizeN n) W
  have hz := fun W => nsize_any n W
  obtain ⟨D, HD⟩ : ∃ D, Hid (newD n = D) := ⟨_, rfl⟩
  obtain ⟨P, HP⟩ : ∃ P, Hid (plNew (sizeN n) = P) := ⟨_, rfl⟩
  obtain ⟨s, HS⟩ : ∃ s, Hid (sizeN n = s) := ⟨_, rfl⟩
  rw [HD.out] at hU hd em
  rw [HP.out] at hU hp hok em
  rw [HS.out] at hz hp hB1 ⊢
  obtain ⟨B9, HB9⟩ : ∃ B9, Hid (bk9 = B9) := ⟨_, rfl⟩
  have hb9 := show Hid _ from built_bk9
  have hl9 := show Hid _ from bk9_len
  have hby9 := bk9_byt
  rw [HB9.out] at hb9 hl9 hby9 em
  have hbn := show Hid _ from built_ndB 1 B9 hl9.out
  have em' := show Hid _ from em
  have eh' := show Hid _ from eh
  clear em eh
  go_enter Tryz.func7, Tryz.ntmps7
  go_upto_region 4 with (first
    | (with_reducible refine at_wpP ?_; refine wpList_allocG rfl 28 rfl (.agg #[.pointer none]) [.pointer none] pr_zero rfl ?_; intro g2 w0 hg2 b2 f0 s0; have l2 := b2.lt; have z0 := f0.size)
    | (go_at_call 26; go_must (refine (hd _).mono ?_; rintro e w1 ⟨gd, rfl, d1, f1⟩; have z1 := f1.size; have t1 := d1.tight))
    | (go_at_call 28; go_must (refine (hz _).mono ?_; rintro e w2 ⟨rfl, rfl⟩))
    | (go_at_call 27; go_must (refine (hp _).mono ?_; rintro e w3 ⟨gp, rfl, s3, b3, f3⟩; have z3 := f3.size; have l3 := b3.lt))
    | (go_at_call 25; go_must (refine (nnew_any gd gp _).mono ?_; rintro e w4 ⟨gs, rfl, s4, b4, f4⟩; have z4 := f4.size; have l4 := b4.lt)))
  have st : Sto w4 _ gs gp D P 0 := ⟨⟨gd, b4, (t1.fr0 f3).fr0 f4⟩, b3.fr0 f4, hok, hU, (by intro q; omega), (by intro q; omega), by omega, (by intro k hk; omega)⟩
  have F4 : Fr noB w w4 := ((f0.thenN f1).thenN f3).thenN f4
  have b2' := (((b2.fr0 f1).fr0 f3).fr0 f4)
  have hS4 : ∀ k, stB (fun k => w0.heap.size ≤ k ∧ k < w1.heap.size) gp k → w0.heap.size ≤ k ∧ ¬ k = g2 := fun k q => by
    rcases q with q | q
    · exact ⟨q.1, by omega⟩
    · exact ⟨by omega, by omega⟩
  go_wp2_with (first
    | (with_reducible refine at_wpP ?_; refine wpList_blkC rfl rfl B9 hb9.out ?_)
    | (with_reducible refine at_wpP ?_; refine wpList_bldN rfl _ rfl 1 B9 nilS [(0, .int .i64 1), (1, pgV B9)] rfl hbn.out ?_)
    | (go_at_call 29; go_must (refine (make_F (⟨1, B9, []⟩ : Nd) nilS st (by omega) ⟨⟨⟨by simp, Sl.nil _ 2⟩, by simp⟩, ⟨hl9.out, hby9⟩, by simp, rfl⟩ em'.out).mono ?_; rintro e w5 ⟨rfl, F5, st5, ft5, fr5⟩; have z5 := fr5.size; have b25 := b2'.fr fr5 (fun q => (hS4 _ q).2 rfl)))
    | (go_at_call 30; go_must (refine (hold_F p st5 eh'.out).mono ?_; rintro e w6 ⟨rfl, st6, f6⟩; have z6 := f6.size; have b26 := b25.ne f6 (by omega)))
    | (with_reducible refine at_wpP ?_; refine wpList_bldT rfl _ rfl gs rfl ?_)
    | (with_reducible refine at_wpP ?_; refine wpList_bldP rfl _ rfl gs rfl ?_)
    | (with_reducible refine at_wpP ?_; refine at_st 28 _ _ rfl ?_; go_must (refine wpList_stP rfl _ _ rfl g2 rfl gs rfl (.pointer none) b26 ?_; intro w7 b7 f7)))
  have hF5 : ∀ k, F5 k → w0.heap.size ≤ k ∧ ¬ k = g2 := fun k q => by
    rcases (ft5 k q).1 with q | q
    · exact ⟨q.1, by omega⟩
    · exact ⟨by omega, by omega⟩
  have st7 : Sto w7 F5 gs gp X' L2 1 := st6.fr f7 (fun k _ q h => by
    unfold onB1 at h
    subst h
    rcases q with q | q | q
    · exact (hF5 _ q).2 rfl
    · omega
    · omega)
  refine bodyPost_ret (results_pr3 Tryz.results7 _ w7 g2 gs rfl b7) rfl ⟨gs, gp, F5, X', L2, p, rfl, st7, ⟨fun k q => by have := (hF5 k q).1; omega, by omega, by omega, ?_⟩, hB1⟩
  exact ((F4.thenT fr5 (fun k hk q => by have := (hS4 k q).1; omega)).thenT f6 (fun k hk q => by unfold onB1 at q; omega)).thenT f7 (fun k hk q => by unfold onB1 at q; omega)
end Go.Proofs.YtmkinaijkgkgiaaGreat
/- Stage 11's laws: pruneAlive, PruneNames; no condition. -/
namespace Go.Proofs.YtmkinaijkgkgiaaGreat
open Go.RowKit Go.Proofs.U
set_option linter.unusedSimpArgs false
set_option linter.unusedVariables false
theorem run_mk2E (w : World) (x y : Int × Int) : (Instr.buildSlice 31 2 #[(0, enV x), (1, enV y)]).run Tryz.prog w = .ok (.slice (some ⟨w.heap.size, 0, none⟩) 2 2) (w.alloc (.cells #[.int .i64 x.1, .int .i64 x.2, .int .i64 y.1, .int .i64 y.2] 40)) := by kernel_rfl
theorem ownE_new2 (w : World) (x y : Int × Int) : EnO (w.alloc (.cells #[.int .i64 x.1, .int .i64 x.2, .int .i64 y.1, .int .i64 y.2] 40)) w.heap.size (.slice (some ⟨w.heap.size, 0, none⟩) 2 2) [x, y] :=
  ⟨by simp [pairC], by simp [pairC], .inr ⟨w.heap.size, 2, _, rfl, Nat.le_refl _, heap_alloc_new w _, Nat.le_refl _, by unfold maxLen; simp, by simp [pairC], by simp [pairC]⟩⟩
section
variable {w : World} {ops : Array Oper} {rest : List Oper} {o : Oper} {a : Act} {Q : Exit → Act → World → Prop}
theorem wpList_mk2E (hgd : Region.wanted o (yielded ops a.tmps) = true) (y z : Operand) (ho : o.op = .buildSlice 31 2 #[(0, y), (1, z)]) (x x' : Int × Int) (hy : a.eval y = enV x) (hz : a.eval z = enV x')
    (h : ∀ g w', EnO w' w.heap.size (.slice (some ⟨g, 0, none⟩) 2 2) [x, x'] → Fr noB w w' → w.heap.size ≤ g → g < w'.heap.size → wpList Tryz.prog ops Q rest (a.put o.dst (.slice (some ⟨g, 0, none⟩) 2 2)) w') : wpList Tryz.prog ops Q (o :: rest) a w := by
  refine wpList_wanted hgd fun K hK => ?_
  have hr := run_mk2E w x x'
  unfold Oper.wp
  simp [execOp, ho, hy, hz, hr, Result.andThen]
  exact hK _ _ (h w.heap.size _ (ownE_new2 w x x') ((Fr.refl _ _).alloc _) (Nat.le_refl _) (by simp))
end
theorem find2a (p q : Int) : findL [(1, p), (2, q)] 1 = p := by simp [findL]
theorem find2b (p q : Int) : findL [(1, p), (2, q)] 3 = -1 := by simp [findL]
theorem cut2 (p q : Int) : cutL [(1, p), (2, q)] 1 = [(2, q)] := by simp [cutL]
theorem put2 (p q : Int) : putL (putL [] (1, p)) (2, q) = [(1, p), (2, q)] := by simp [putL]
set_option maxRecDepth 100000 in
set_option maxHeartbeats 4000000 in
theorem palive_any (w : World) :
    Calls Tryz.prog 6 #[] w fun r w' => r = .returned (.bool true) ∧ Fr noB w w' := by
  have hN : plN (sizeN 30) = 26 := by decide
  have hM := fun W => made_P 30 (by decide) W
  rw [hN] at hM
  go_enter Tryz.func6, Tryz.ntmps6
  go_upto_region 2 with (first
    | (go_at_call 7; go_must (refine (hM _).mono ?_; rintro e w1 ⟨gs, gp, F, X, L, pg, rfl, st1, A1, B1⟩; have z1 := A1.fr.size))
    | (with_reducible refine at_wpP ?_; refine wpList_allocG rfl 28 rfl (.agg #[.pointer none]) [.pointer none] pr_zero rfl ?_; intro g2 w2 hg2 b2 f2 s2; have l2 := b2.lt; have z2 := f2.size)
    | (with_reducible refine at_wpP ?_; refine at_st 28 _ _ rfl ?_; go_must (refine wpList_stP rfl _ _ rfl g2 rfl gs rfl (.pointer none) b2 ?_; intro w3 b3 f3)))
  have F3 := Fr.ownX f2 s2 f3
  have z3 := F3.size
  have hg23 := b3.lt
  have st3 := st1.fr0 F3
  have A3 := A1.fr0 F3
  have c3 := pr_cell b3
  have hgp := st3.ltp
  have hgs := st3.lts
  have hFt := st3.ft
  have hln := B1.ln
  have hpg0 := B1.p0
  obtain ⟨s, s0, sS, sK⟩ := KT.steps (s0 := ⟨X, L, 0, -1⟩) [(1, pg), (2, pg)] B1.kt (m := 1) (by decide) (by simp) (by intro x hx; simp at hx; rcases hx with rfl | rfl <;> simp) st1.up (by simp) (by simp; omega)
  obtain ⟨k2, ln2, up2⟩ := sK 2 (by simp)
  have e2 : (([(1, pg), (2, pg)] : List (Int × Int)).take 2).foldl putL [] = [(1, pg), (2, pg)] := put2 pg pg
  rw [e2] at k2
  have hocc := k2.occ
  obtain ⟨X5, L5, p5, lv5, L6, hCut, KS, hways⟩ := k2.cut (m := 41) up2 (by decide) 1 (by decide) (by rw [find2a]; omega) (by simp) (by simp) (by
    have h1 : [pg].length = 1 := rfl
    have h2 : ([(1, pg), (2, pg)] : List (Int × Int)).length = 2 := rfl
    have h3 : (⟨X, L, 0, -1⟩ : BSt).L.length = L.length := rfl
    omega)
  obtain ⟨T5, I5, r5, q5⟩ := KS.mid
  rw [cut2] at q5
  have hB := fun W v (st : Sto W F gs gp (s 0).X (s 0).L 1) (hS : SlR enC 2 W v [(1, pg), (2, pg)]) (hv : ∀ x, v.ownBlock = some x → ¬ F x ∧ x ≠ gp) => Build_steps s _ (by rw [s0]) (fun k hk => (sS k hk).1) (by decide) (by simp) v W st hS hv
  rw [s0] at hB
  have hN3 := fun F' W (st : Sto W F' gs gp X5 L5 61) => Cut_not I5 (by decide) r5 3 (by decide) (find2b pg pg) W st
  have hL5 := fun F' W (st : Sto W F' gs gp X5 L5 61) => List_ok I5 (by decide) q5 W st
  obtain ⟨rt, Hrt⟩ : ∃ x, Hid ((s 2).root = x) := ⟨_, rfl⟩
  have Hrt1 : (s (List.length [((1 : Int), pg), (2, pg)])).root = rt := Hrt.out
  obtain ⟨S2, HS2⟩ : ∃ x, Hid (((s 2).X, (s 2).L) = x) := ⟨_, rfl⟩
  have HS21 : ((s (List.length [((1 : Int), pg), (2, pg)])).X, (s (List.length [((1 : Int), pg), (2, pg)])).L) = S2 := HS2.out
  have e41 : 1 + 20 * List.length [((1 : Int), pg), (2, pg)] = 41 := rfl
  simp only [Hrt1, HS21, e41] at hB
  simp only [Hrt.out] at hN3 hCut
  have hC := fun F' W (st : Sto W F' gs gp S2.1 S2.2 41) => hCut F' gs gp W (by rw [← HS2.out] at st; exact st)
  have hrr : (rt == rt) = true := by simp
  have hl1 : 0 < [((2 : Int), pg)].length := by simp
  clear sS sK k2 KS r5 q5 I5 hCut hways e2 hocc Hrt1 HS21 e41 s0 ln2 up2
  have hnB : ∀ q, w1.heap.size ≤ q → ¬ F q ∧ q ≠ gp := fun q hq => ⟨fun s => by have := st1.ft _ s; omega, by have := st1.ltp; omega⟩
  go_wp2_with (first
    | (with_reducible refine at_wpP ?_; refine at_ld 26 _ rfl ?_; have q := b3; go_must (first | refine wpList_ldPT rfl _ rfl g2 rfl gs b7 ?_ | refine wpList_ldPT rfl _ rfl g2 rfl gs b3 ?_))
    | (with_reducible refine at_wpP ?_; refine wpList_bldE rfl _ _ rfl _ _ rfl rfl ?_)
    | (with_reducible refine at_wpP ?_; refine wpList_mk2E rfl _ _ rfl (1, pg) (2, pg) rfl rfl ?_; intro g4 w4 o4 f4 s4 t4; have z4 := f4.size; have b4 := b3.fr0 f4)
    | (go_at_call 17; go_must (refine (hB _ _ (st3.fr0 f4) o4.sl (fun q hq => by have := (o4.newB q hq).1; exact hnB q (by omega))).mono ?_; rintro e w5 ⟨F5, rfl, T5⟩; have z5 := T5.fr.size; have b5 := b4.fr T5.fr (fun q => by
        rcases q with q | q
        · exact (hnB _ s2).1 q
        · exact (hnB _ s2).2 q); have c5 := pr_cell b5; have hF5 := T5.ft))
    | (with_reducible refine at_wpP ?_; refine at_ld 28 _ rfl ?_; have q := b5; go_must (first | refine wpList_ldP rfl _ rfl g2 rfl gs b6 ?_ | refine wpList_ldP rfl _ rfl g2 rfl gs b5 ?_))
    | (go_at_call 10; have q := T6; go_must (refine (hN3 _ _ T6.st).mono ?_; rintro e w7 ⟨rfl, f7⟩; have z7 := f7.size; have b7 := b6.fr0 f7; have c7 := pr_cell b7))
    | (go_at_call 10; go_must (refine (hC _ _ T5.st).mono ?_; rintro e w6 ⟨F6, rfl, T6⟩; have z6 := T6.fr.size; have b6 := b5.fr T6.fr (fun q => by
        rcases q with q | q
        · rcases (hF5 _ q).1 with q | q
          · exact (hnB _ s2).1 q
          · omega
        · exact (hnB _ s2).2 q); have c6 := pr_cell b6))
    | (go_at_call 12; go_must (refine (hL5 _ _ (T6.st.fr0 f7)).mono ?_; rintro e w8 ⟨u8, rfl, o8, f8⟩; obtain ⟨a8, c8, hu8⟩ := o8.opn; subst hu8; have z8 := f8.size))
    | (with_reducible refine at_wpP ?_; refine at_idx 31 _ _ rfl ?_; go_must (refine wpList_idxR rfl 31 _ _ rfl 40 Tryz.underlying31 2 en_size _ _ [(2, pg)] rfl o8.sl (by decide) _ _ 0 rfl rfl hl1 ?_; intro ba oa hba hca; have hk0 := show w8.cell? ⟨ba, oa, none⟩ = some (.int .i64 2) from hca 0 _ rfl)))
  go_ret
  exact ⟨rfl, ((((A3.fr0 f4).st T5).st T6).fr0 (f7.thenN f8)).fr⟩
theorem put1 (p : Int) : putL [] (7, p) = [(7, p)] := by simp [putL]
end Go.Proofs.YtmkinaijkgkgiaaGreat
/- What is reached of a tree whatever its root's size, and that just so many pages are used; also behind a mark; plain; no condition. -/
namespace Go.Proofs.YtmkinaijkgkgiaaGreat
open Go.RowKit Go.Proofs.U
set_option linter.unusedSimpArgs false
set_option linter.unusedVariables false
theorem cntL_tidy (L : List Pg) : cntL (plTidy L) = cntL L := by
  funext q
  unfold cntL plTidy
  rw [plAt_map _ _ tidy0]
  unfold tidyP
  split <;> rfl
theorem Inv.tidy {X : DSt} {L : List Pg} {R : List Int} (h : Inv X L R) : Inv X (plTidy L) R := by
  refine ⟨h.nn, ⟨tidy_ok h.di.ok, h.di.ex.tidy, fun i hi => ?_, fun q hq => h.di.rd q (by rwa [cntL_tidy] at hq)⟩, by rw [cntL_tidy]; exact h.fl⟩
  have hm : (plAt (plTidy L) i) = tidyP (plAt L i) := by unfold plTidy; rw [plAt_map _ _ tidy0]
  rw [hm] at hi ⊢
  unfold tidyP at hi ⊢
  split at hi
  · unfold Pg.frsh at hi; simp at hi
  · rename_i h1
    rw [if_neg h1]
    exact h.di.nf i hi
/-- Pages are fresh, or young, or nothing. -/
def PlTd (L : List Pg) : Prop := ∀ i, (plAt L i).s = 1 ∨ (plAt L i).s = 2 ∨ ((plAt L i).s = 0 ∧ (plAt L i).c = 0)
theorem PlM.tidy {k : Nat} {L : List Pg} (hok : plOk L) (h : PlM k L) : PlTd (plTidy L) := by
  intro i
  have hm : (plAt (plTidy L) i) = tidyP (plAt L i) := by unfold plTidy; rw [plAt_map _ _ tidy0]
  rw [hm]
  unfold tidyP
  rcases h.ok i with q | q | q | q
  · rw [if_neg (by omega)]; exact Or.inl q
  · rw [if_neg (by omega)]; exact Or.inr (Or.inl q)
  · rw [if_pos q]
    exact Or.inr (Or.inr ⟨rfl, (hok.2 i).2.2.2 (by omega)⟩)
  · rw [if_neg (by omega)]; exact Or.inr (Or.inr q)
theorem used_liveT {X : DSt} {L : List Pg} {R : List Int} (h : Inv X L R) (y : PlTd L) : plFree L + (U.live L.length (cntL L)).length = L.length := by
  have key : ∀ n, n ≤ L.length → (L.take n).countP Pg.free + ((List.range n).filter fun q => decide (0 < cntL L q)).length = n := by
    intro n
    induction n with
    | zero => intro _; rfl
    | succ n ih =>
      intro hn
      have := ih (by omega)
      rw [List.take_succ_eq_append_getElem (by omega), List.countP_append, List.range_succ, List.filter_append, List.length_append]
      have hx : [L[n]].countP Pg.free + ([n].filter fun q => decide (0 < cntL L q)).length = 1 := by
        have hp : plAt L n = L[n] := plAt_get L n (by omega)
        have hy12 : ((plAt L n).s = 1 ∨ (plAt L n).s = 2) ∨ ((plAt L n).s = 0 ∧ (plAt L n).c = 0) := by
          rcases y n with q | q | q
          · exact Or.inl (Or.inl q)
          · exact Or.inl (Or.inr q)
          · exact Or.inr q
        rcases hy12 with hy | ⟨hs, hc⟩
        · have hf : (plAt L n).frsh = true := by unfold Pg.frsh; rcases hy with hy | hy <;> rw [hy] <;> rfl
          have hc := h.di.nf n hf
          have h1 : 0 < cntL L n := (cnt_pos n).2 hc
          have h2 : L[n].free = false := by rw [← hp]; unfold Pg.free; rcases hy with hy | hy <;> rw [hy] <;> simp
          simp [List.filter, List.countP_cons, h1, h2]
        · have h1 : L[n].free = true := by rw [← hp]; unfold Pg.free; rw [hs, hc]; rfl
          have h2 : ¬ 0 < cntL L n := fun q => by have := (cnt_pos n).1 q; omega
          simp [List.filter, List.countP_cons, h1, h2]
      omega
  have := key L.length (Nat.le_refl _)
  rwa [List.take_length] at this
/-- A pool whose blocks and tree are all that it holds. -/
structure KE (X : DSt) (L : List Pg) (B : List Int) (lv : Nat) (root : Int) : Prop where
  iv : Inv X L (rtsB B root)
  fam : FamK X (rtsB B root) B (oneTs [] lv root)
  bl : ∀ b ∈ B, 0 ≤ b ∧ (rdN X b).1.k = 1 ∧ (rdN X b).1.es = []
  rt : root = -1 ∨ (0 ≤ root ∧ okT X lv root 0 64)
  yt : PlTd L
theorem KT.tidied {X : DSt} {L : List Pg} {B : List Int} {lv : Nat} {root : Int} {l : List (Int × Int)} {d k : Nat} (o : KT X L B lv root l d k) : KE X (plTidy L) B lv root :=
  ⟨o.iv.tidy, o.fam, o.bl, o.rt.imp (fun q => q.1) (fun q => ⟨q.1, q.2.2.1⟩), o.pm.tidy o.iv.di.ok⟩
theorem KE.reach {X : DSt} {L : List Pg} {B : List Int} {lv : Nat} {root : Int} (o : KE X L B lv root) : ∃ S, reachF (getF X L) [root] = (S, 0) ∧ (∀ x, S x = true → 0 ≤ x ∧ 0 < cntL L x.toNat) ∧ (¬ root = -1 → ∀ q ∈ occT X lv root, S q = true) := by
  rcases o.rt with hr | ⟨r0, t⟩
  · subst hr
    exact ⟨fun _ => false, rfl, fun x hx => (by cases hx), fun h => absurd rfl h⟩
  · have hr : ¬ root = -1 := by omega
    have hp := (o.iv.toT.root (r := root) (by unfold rtsB; rw [if_neg hr]; simp)).2
    rw [cntT_nil] at hp
    have hf : ∀ S p, nS S < 241 → 0 ≤ p → 0 < cntL L p.toNat → (rootF (getF X L) S p).2 = 0 ∧ PostS X L S (rootF (getF X L) S p).1 ∧ (rootF (getF X L) S p).1 p = true := by
      intro S p hn h0 hc
      have e : rootF (getF X L) S p = seeF (getF X L) 241 S p := by unfold rootF; rw [if_neg (by omega)]
      rw [e]
      exact see_good o.iv.di 241 S p hn h0 hc
    obtain ⟨k1, k2, k3⟩ := each_see hf [root] (fun _ => false) (nS_lt _) (fun p h => by obtain rfl := List.mem_singleton.1 h; exact ⟨r0, hp⟩)
    refine ⟨(reachF (getF X L) [root]).1, by unfold reachF; rw [← k1], fun x hx => ?_, fun _ => ?_⟩
    · rcases k2.2 x hx with q | q
      · cases q
      · exact ⟨q.1, q.2.1⟩
    · refine occ_seen (fun x hx => ?_) t (k3 root (by simp))
      rcases k2.2 x hx with q | q
      · cases q
      · exact q.2.2
theorem KE.exactL {X : DSt} {L : List Pg} {B : List Int} {lv : Nat} {root : Int} (o : KE X L B lv root) (hn : B.Nodup) {S : Int → Bool} (h1 : ∀ x, S x = true → 0 ≤ x ∧ 0 < cntL L x.toNat) (h2 : ¬ root = -1 → ∀ q ∈ occT X lv root, S q = true) {l' : List Int} (hl : SeenL S l') :
    plFree L + ((inL X l').length + B.length) = L.length := by
  have hu := used_liveT o.iv o.yt
  have hf := o.fam
  have hin : ∀ x ∈ inL X l', 0 ≤ x ∧ 0 < cntL L x.toNat ∧ ¬ (rdN X x).1.k = 1 := fun x hx => by
    obtain ⟨a, b⟩ := List.mem_filter.1 hx
    have := h1 x ((hl.mem x).1 a)
    exact ⟨this.1, this.2, by simpa using b⟩
  have hroot : ∀ b ∈ B, 0 ≤ b ∧ 0 < cntL L b.toNat := fun b hb => by
    have := o.iv.toT.root (rtsB_B (root := root) hb)
    rwa [cntT_nil] at this
  have hlt : ∀ q : Nat, 0 < cntL L q → q < L.length := fun q hq => (o.iv.toT.live (by rwa [cntT_nil])).2.1
  have hle : (U.live L.length (cntL L)).length ≤ (B ++ inL X l').length := by
    have := len_sub (W := (B ++ inL X l').map Int.toNat) (live_nodup L.length (cntL L)) fun r hr => by
      have hc := (mem_live.1 hr).2
      have hm := hf.live o.iv hc
      refine List.mem_map.2 ⟨(r : Int), ?_, by simp⟩
      unfold famP at hm
      rcases List.mem_append.1 hm with q | q
      · exact List.mem_append_left _ q
      · obtain ⟨t, ht, hq⟩ := List.mem_flatMap.1 q
        rcases oneTs_mem ht with h | ⟨hne, rfl⟩
        · cases h
        · rcases o.rt with e | ⟨_, t⟩
          · exact absurd e hne
          refine List.mem_append_right _ (List.mem_filter.2 ⟨(hl.mem _).2 (h2 hne _ hq), ?_⟩)
          have := occ_kd t _ hq
          simpa using this
    rwa [List.length_map] at this
  have hge : (B ++ inL X l').length ≤ (U.live L.length (cntL L)).length := by
    have hnd : ((B ++ inL X l').map Int.toNat).Nodup := by
      have h3 : (B ++ inL X l').Nodup := List.nodup_append.2 ⟨hn, hl.nd.filter _, fun a ha c hc e => by
        subst e
        exact (hin a hc).2.2 (o.bl a ha).2.1⟩
      refine List.pairwise_map.2 (List.Pairwise.imp_of_mem (fun {a b} ha hb hab => ?_) h3)
      have pa : 0 ≤ a := by
        rcases List.mem_append.1 ha with q | q
        · exact (hroot a q).1
        · exact (hin a q).1
      have pb : 0 ≤ b := by
        rcases List.mem_append.1 hb with q | q
        · exact (hroot b q).1
        · exact (hin b q).1
      omega
    have := len_sub (W := U.live L.length (cntL L)) hnd fun r hr => by
      obtain ⟨x, hx, rfl⟩ := List.mem_map.1 hr
      have hc : 0 < cntL L x.toNat := by
        rcases List.mem_append.1 hx with q | q
        · exact (hroot x q).2
        · exact (hin x q).2.1
      exact mem_live.2 ⟨hlt _ hc, hc⟩
    rwa [List.length_map] at this
  rw [List.length_append] at hle hge
  omega
end Go.Proofs.YtmkinaijkgkgiaaGreat
/- Pages of blocks, and whether just so many pages are used as are reached; no condition. (Written by th2_gen.py.) -/
namespace Go.Proofs.YtmkinaijkgkgiaaGreat
open Go.RowKit Go.Proofs.U
set_option linter.unusedSimpArgs false
set_option linter.unusedVariables false
theorem one_int {w : World} {g : Nat} {x : Int} (b : BxV w g 3 (en64 x)) (hx : (Lit.int .i64 x).wf = true) : SlI .i64 w (.slice (some ⟨g, 0, none⟩) 1 1) [x] := by
  refine ⟨⟨_, _, rfl, Nat.le_refl _, rfl, (fun h => by cases h), fun z hz => ?_⟩, fun y hy => by rw [List.mem_singleton.1 hy]; exact hx⟩
  cases hz
  intro j u hj
  rw [Addr.plain, Nat.zero_add]
  exact (b.cell j u hj).1
theorem inL_snoc {X : DSt} (l : List Int) (x : Int) : inL X (l ++ [x]) = inL X l ++ (if (rdN X x).1.k = 1 then [] else [x]) := by
  unfold inL
  rw [List.filter_append]
  by_cases h : (rdN X x).1.k = 1
  · rw [if_pos h]; simp [h]
  · rw [if_neg h]; simp [h]
end Go.Proofs.YtmkinaijkgkgiaaGreat
/- Whether just so many pages are used as are reached: law 11's; no condition. (Written by vj_gen.py.) -/
namespace Go.Proofs.YtmkinaijkgkgiaaGreat
open Go.RowKit Go.Proofs.U
set_option linter.unusedSimpArgs false
set_option linter.unusedVariables false
set_option maxRecDepth 100000 in
set_option maxHeartbeats 16000000 in
theorem exact_P {F : Nat → Prop} {gs gp : Nat} {X : DSt} {L0 : List Pg} {pg : Int} {m lv : Nat} {root : Int} {l : List (Int × Int)} {d k : Nat} (o0 : KT X L0 [pg] lv root l d k) (hm : m ≤ 100000) (w : World) (h : Sto w F gs gp X L0 m) :
    Calls Tryz.prog 16 #[trV gs, .int .i64 root] w fun r w' => r = .returned (.bool true) ∧ Fr (onB1 gp) w w' := by
  have hgp := h.ltp
  have hgs := h.lts
  have hFt := h.ft
  have o := o0.tidied
  have hti := ptidy_any h.ok gp
  have hok2 := tidy_ok h.ok
  have hlen2 := tidy_len L0
  have hL0 := h.ok.1
  obtain ⟨L, HL⟩ : ∃ L, Hid (plTidy L0 = L) := ⟨_, rfl⟩
  rw [HL.out] at o hti hok2 hlen2
  obtain ⟨S, hS, hS1, hS2⟩ := o.reach
  have hEx := fun l' (hl : SeenL S l') => show Hid (plFree L + ((inL X l').length + 1) = L.length) from o.exactL (by simp) hS1 hS2 hl
  have hdi := o.iv.di
  have hrw : (Lit.int .i64 root).wf = true := by
    by_cases hr : root = -1
    · rw [hr]; rfl
    · have hq := o0.live hr
      have := o0.iv.toT.low hq.2
      exact wfSm (by omega) (by omega)
  have hL240 := hok2.1
  obtain ⟨NN, HNN⟩ : ∃ NN : Nat, Hid (L.length = NN) := ⟨_, rfl⟩
  have hre := fun W v (s : Sto W F gs gp X L m) (hv : SlI .i64 W v [root]) => reach_any hm v [root] (by simp) W s hv
  rw [hS] at hre
  clear hS
  go_enter Tryz.func16, Tryz.ntmps16
  go_upto_region 5 with (first
    | (with_reducible refine at_wpP ?_; refine wpList_boxG rfl 28 _ rfl (trV gs) [ptr gs] rfl rfl ?_; intro g3 w1 hg3 b1 f1 s1; have l1 := b1.lt; have z1 := f1.size; have k1 := (b1.cell 0 _ rfl).1; have st1 := h.fr0 f1)
    | (go_at_call 19; go_must (refine (npool_any _ st1).mono ?_; rintro e w1 ⟨rfl, rfl⟩))
    | (go_at_call 38; go_must (refine (hti _ st1.pl).mono ?_; rintro e w2 ⟨rfl, p2, f2⟩; have z2 := f2.size; have b2 := b1.ne f2 (by omega); have k2 := (b2.cell 0 _ rfl).1; have st2 := st1.pool f2 p2 hok2 hlen2))
    | (with_reducible refine at_wpP ?_; have q := st2; refine wpList_mkC (ec := en64) (sz := 1) rfl 52 _ rfl Tryz.underlying52 _ info_int2 (by decide) (by decide) root (.int .i64 root) rfl rfl rfl ?_; intro g4 w3 b4 f3 s4; have z3 := f3.size)
    | (go_at_call 39; go_must (refine (hre _ _ (st2.fr0 f3) (one_int b4 hrw)).mono ?_; rintro e w4 ⟨u, l', rfl, hse, hSl, hnew, f4⟩; have z4 := f4.size)))
  have hl' := hse (by first | trivial | rfl)
  obtain ⟨au, cu, rfl, hcu⟩ := hSl.opn
  have hlen := hl'.len
  have st4 := (st2.fr0 f3).fr0 f4
  have D4 : Fr (onB1 gp) w w4 := ((((f1.mono (fun _ _ q => q.elim)).trans f2).thenN f3).thenN f4)
  have b4' := (b2.fr0 f3).fr0 f4
  have e4 := hEx l' hl'
  go_wp2
  go_loopw [30, 7] (fun i c wr => ∃ (k : Nat), k ≤ l'.length ∧ i = .int .i64 (k : Int) ∧ c = .int .i64 ((inL X (l'.take k)).length : Int) ∧ Fr noB w4 wr) (fun i _ _ => l'.length - (intOf i).toNat)
  case atStart => exact ⟨0, Nat.zero_le _, rfl, rfl, Fr.refl _ _⟩
  case round =>
    obtain ⟨j, hj, rfl, rfl, hf⟩ := hrel
    have zf := hf.size
    have str := st4.fr0 hf
    have br := b4'.fr0 hf
    have kr := (br.cell 0 _ rfl).1
    by_cases hlt : j < l'.length
    · have hv1 := (hSl.fr0 hf).1
      obtain ⟨x, Hx⟩ : ∃ x, Hid (l'[j] = x) := ⟨l'[j], (rfl : l'[j] = l'[j])⟩
      have hlt' : (j : Int) < (l'.length : Int) := by omega
      have hx1 := hS1 x ((hl'.mem x).1 (by rw [← Hx.out]; simp))
      obtain ⟨hg1, hg2⟩ := getF_live hdi hx1.1 hx1.2
      have hts : inL X (l'.take (j + 1)) = inL X (l'.take j) ++ (if (rdN X x).1.k = 1 then [] else [x]) := by rw [List.take_succ_eq_append_getElem hlt, Hx.out, inL_snoc]
      have hil : (inL X (l'.take j)).length ≤ j := by
        have h1 : (inL X (l'.take j)).length ≤ (l'.take j).length := List.length_filter_le _ _
        rw [List.length_take] at h1
        omega
      generalize hR : rdN X x = R at *
      obtain ⟨n, e0⟩ := R
      simp only at hg2 hts
      subst hg2
      have hget := fun W (s : Sto W F gs gp X L m) => get_F x s hm hg1
      clear hg1 hR hx1
      by_cases hk1 : n.k = 1
      · have d1 : (n.k == 1) = true := by simpa using hk1
        rw [if_pos hk1, List.append_nil] at hts
        have hts := show Hid _ from hts
        clear hk1
        go_wp2_with (first
          | (with_reducible refine at_wpP ?_; refine at_idx 52 _ _ rfl ?_; go_must (refine wpList_idx1 rfl 52 _ _ rfl 3 Tryz.underlying52 int_size1 (.slice au l'.length cu) _ _ rfl hv1 .i64 (j : Int) j rfl rfl hlt ?_; intro pp u hu hcu; obtain rfl := getX hu hlt Hx.out))
          | (go_at_call 40; go_must (refine (hget _ str).mono ?_; rintro e w5 ⟨vk, rfl, nk, hvk, f5⟩; have z5 := f5.size; have hbl := nk.bl))
          | (with_reducible refine at_wpP ?_; have q := nk; refine wpList_allocN rfl rfl ?_; intro gn w6 hgn b6 f6 sn; have z6 := f6.size; have l6 := b6.lt)
          | (with_reducible refine at_wpP ?_; refine at_st 72 _ _ rfl ?_; have q := b6; go_must (refine wpList_stN rfl _ _ rfl gn rfl n.k n.b vk rfl hbl.out nk.sl 0 (zerB 16) nilS b6 (zerB_len 16) ?_; intro w7 b7 f7; have z7 := f7.size; have F7 := Fr.ownX f6 sn f7; have q7 := NdB.kind b7)))
        go_roundw
        case rel => exact ⟨j + 1, by omega, by go_num, by rw [hts.out], (hf.thenN f5).thenN F7⟩
        case measure => simp [intOf]; omega
      · have d1 : (n.k == 1) = false := by simpa using hk1
        rw [if_neg hk1] at hts
        have hts : Hid (((inL X (l'.take (j + 1))).length : Int) = ((inL X (l'.take j)).length : Int) + 1) := by show _ = _; rw [hts]; simp
        clear hk1
        generalize (inL X (l'.take j)).length = c at *
        go_wp2_with (first
          | (with_reducible refine at_wpP ?_; refine at_idx 52 _ _ rfl ?_; go_must (refine wpList_idx1 rfl 52 _ _ rfl 3 Tryz.underlying52 int_size1 (.slice au l'.length cu) _ _ rfl hv1 .i64 (j : Int) j rfl rfl hlt ?_; intro pp u hu hcu; obtain rfl := getX hu hlt Hx.out))
          | (go_at_call 40; go_must (refine (hget _ str).mono ?_; rintro e w5 ⟨vk, rfl, nk, hvk, f5⟩; have z5 := f5.size; have hbl := nk.bl))
          | (with_reducible refine at_wpP ?_; have q := nk; refine wpList_allocN rfl rfl ?_; intro gn w6 hgn b6 f6 sn; have z6 := f6.size; have l6 := b6.lt)
          | (with_reducible refine at_wpP ?_; refine at_st 72 _ _ rfl ?_; have q := b6; go_must (refine wpList_stN rfl _ _ rfl gn rfl n.k n.b vk rfl hbl.out nk.sl 0 (zerB 16) nilS b6 (zerB_len 16) ?_; intro w7 b7 f7; have z7 := f7.size; have F7 := Fr.ownX f6 sn f7; have q7 := NdB.kind b7)))
        go_roundw
        case rel => exact ⟨j + 1, by omega, by go_num, by rw [hts.out], (hf.thenN f5).thenN F7⟩
        case measure => simp [intOf]; omega
    · obtain rfl : j = l'.length := by omega
      rw [List.take_length]
      have he := show Hid _ from (by have := e4.out; omega : (L0.length : Int) - (plFree L : Int) = ((inL X l').length : Int) + 1)
      have hb1 : (inL X l').length ≤ 240 := by
        have h1 : (inL X l').length ≤ l'.length := List.length_filter_le _ _
        omega
      have hfl := plFree_le L
      generalize (inL X l').length = c at *
      have hsd := fun n => str.fr0 ((Fr.refl noB wr).drewN n)
      go_wp2_with fail
      go_quiet ((first
        | (go_at_call 19; exact Calls.quiet_of_same ((npool_any _ (hsd _)).mono (fun _ _ h => ⟨h.1, h.2.symm⟩)))
        | (go_at_call 41; exact Calls.quiet_of_same ((psize_any _ _ (hsd _).pl).mono (fun _ _ h => ⟨h.1, h.2.symm⟩)))
        | (go_at_call 20; exact Calls.quiet_of_same ((free_F (hsd _) rfl).mono (fun _ _ h => ⟨h.1, h.2.symm⟩)))))
      go_wp2
      go_ret
      exact ⟨by rw [he.out]; simp, (D4.thenN hf).drewN nq⟩
end Go.Proofs.YtmkinaijkgkgiaaGreat
/- PruneBack. (Written by vo_gen.py.) -/
namespace Go.Proofs.YtmkinaijkgkgiaaGreat
open Go.RowKit Go.Proofs.U
set_option linter.unusedSimpArgs false
set_option linter.unusedVariables false
theorem StT.off {wa wb : World} {Fa Fb : Nat → Prop} {gs gp g : Nat} {S : DSt × List Pg} {m : Nat} (T : StT wa wb Fa Fb gs gp S m) (hg : ¬ stB Fa gp g) (hl : g < wa.heap.size) : ¬ stB Fb gp g := fun q => by
  rcases q with q | q
  · rcases (T.ft _ q).1 with r | r
    · exact hg (Or.inl r)
    · omega
  · exact hg (Or.inr q)
theorem StT.offR {wa wb : World} {Fa Fb : Nat → Prop} {gs gp : Nat} {S : DSt × List Pg} {m : Nat} {v : Value} (T : StT wa wb Fa Fb gs gp S m) (hg : ∀ k, v.ownBlock = some k → ¬ stB Fa gp k ∧ k < wa.heap.size) : ∀ k, v.ownBlock = some k → ¬ stB Fb gp k ∧ k < wb.heap.size := fun k hk => ⟨T.off (hg k hk).1 (hg k hk).2, Nat.lt_of_lt_of_le (hg k hk).2 T.fr.size⟩
end Go.Proofs.YtmkinaijkgkgiaaGreat
