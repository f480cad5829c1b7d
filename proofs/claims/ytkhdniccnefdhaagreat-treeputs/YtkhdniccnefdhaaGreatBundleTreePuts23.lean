/- Texts TH1, TH0, TH2 of the proof of TreePuts, one behind the other. -/
import Derived.Test.YtkhdniccnefdhaaGreatBundleTreePuts1
import Derived.Test.YtkhdniccnefdhaaGreatBundleTreePuts2
import Derived.Test.YtkhdniccnefdhaaGreatBundleTreePuts3
import Derived.Test.YtkhdniccnefdhaaGreatBundleTreePuts4
import Derived.Test.YtkhdniccnefdhaaGreatBundleTreePuts5
import Derived.Test.YtkhdniccnefdhaaGreatBundleTreePuts6
import Derived.Test.YtkhdniccnefdhaaGreatBundleTreePuts7
import Derived.Test.YtkhdniccnefdhaaGreatBundleTreePuts8
import Derived.Test.YtkhdniccnefdhaaGreatBundleTreePuts9
import Derived.Test.YtkhdniccnefdhaaGreatBundleTreePuts10
import Derived.Test.YtkhdniccnefdhaaGreatBundleTreePuts11
import Derived.Test.YtkhdniccnefdhaaGreatBundleTreePuts12
import Derived.Test.YtkhdniccnefdhaaGreatBundleTreePuts13
import Derived.Test.YtkhdniccnefdhaaGreatBundleTreePuts14
import Derived.Test.YtkhdniccnefdhaaGreatBundleTreePuts15
import Derived.Test.YtkhdniccnefdhaaGreatBundleTreePuts16
import Derived.Test.YtkhdniccnefdhaaGreatBundleTreePuts17
import Derived.Test.YtkhdniccnefdhaaGreatBundleTreePuts18
import Derived.Test.YtkhdniccnefdhaaGreatBundleTreePuts19
import Derived.Test.YtkhdniccnefdhaaGreatBundleTreePuts20
import Derived.Test.YtkhdniccnefdhaaGreatBundleTreePuts21
import Derived.Test.YtkhdniccnefdhaaGreatBundleTreePuts22
/- The document's Put and Find; no condition. (Written by th1_gen.py.) -/
namespace Go.Proofs.YtkhdniccnefdhaaGreat
open Go.RowKit Go.Proofs.U
set_option linter.unusedSimpArgs false
set_option linter.unusedVariables false
/-- What is still to come. -/
def tailR (d : Bool) (r : List (Int × Int)) (x : Int × Int) : List (Int × Int) := if d then r.filter (fun z => !(z.1 == x.1)) else putL r x
theorem tailR_t1 {r : List (Int × Int)} {x y : Int × Int} (h : y.1 = x.1) : tailR true (y :: r) x = tailR true r x := by
  unfold tailR; simp [h]
theorem tailR_t0 {r : List (Int × Int)} {x y : Int × Int} (h : ¬ y.1 = x.1) : tailR true (y :: r) x = y :: tailR true r x := by
  unfold tailR; simp [h]
theorem tailR_f1 {r : List (Int × Int)} {x y : Int × Int} (h : y.1 = x.1) : tailR false (y :: r) x = x :: tailR true r x := by
  unfold tailR; simp [putL, h]
theorem tailR_f0 {r : List (Int × Int)} {x y : Int × Int} (h0 : x.1 ≤ y.1) (h : ¬ y.1 = x.1) : tailR false (y :: r) x = x :: y :: tailR true r x := by
  unfold tailR; simp [putL, h0, h]
theorem tailR_fl {r : List (Int × Int)} {x y : Int × Int} (h0 : ¬ x.1 ≤ y.1) : tailR false (y :: r) x = y :: tailR false r x := by
  unfold tailR; simp [putL, h0]
theorem bx_cells {w : World} {g : Nat} {x : Int × Int} (b : BxV w g 33 (enC x)) : ∀ q u, (enC x)[q]? = some u → w.cell? ⟨g, 0 + q, none⟩ = some u := fun q u h => by rw [Nat.zero_add]; exact (b.cell q u h).1
set_option maxRecDepth 100000 in
set_option maxHeartbeats 16000000 in
theorem refPut_no (v : Value) (x : Int × Int) (w : World) (hx : x.1 < 0 ∨ 63 < x.1) :
    Calls Tryz.prog 10 #[v, enV x] w fun r w' => r = .returned (.tuple #[v, .int .i64 101]) ∧ Fr noB w w' := by
  by_cases h0 : x.1 < 0
  · have d0 : decide (x.1 < (0 : Int)) = true := decide_eq_true h0
    go_enter Tryz.func10, Tryz.ntmps10
    go_wp2_with (first
      | (with_reducible refine at_wpP ?_; refine wpList_boxG rfl 33 _ rfl (enV x) (enC x) rfl rfl ?_; intro g1 w1 hg1 b1 f1 s1; have q1 := (b1.cell 0 _ rfl).1))
    go_ret2
    exact ⟨rfl, f1⟩
  · have d0 : decide (x.1 < (0 : Int)) = false := decide_eq_false h0
    have d1 : decide ((63 : Int) < x.1) = true := decide_eq_true (by omega)
    go_enter Tryz.func10, Tryz.ntmps10
    go_wp2_with (first
      | (with_reducible refine at_wpP ?_; refine wpList_boxG rfl 33 _ rfl (enV x) (enC x) rfl rfl ?_; intro g1 w1 hg1 b1 f1 s1; have q1 := (b1.cell 0 _ rfl).1))
    go_ret2
    exact ⟨rfl, f1⟩
set_option maxRecDepth 100000 in
set_option maxHeartbeats 16000000 in
theorem refPut_any (v : Value) (la : List (Int × Int)) (x : Int × Int) (w : World) (hv : SlR enC 2 w v la) (hx : 0 ≤ x.1 ∧ x.1 ≤ 63) (hl : la.length ≤ 1000) :
    Calls Tryz.prog 10 #[v, enV x] w fun r w' => ∃ u, r = .returned (.tuple #[u, .int .i64 0]) ∧ EnO w' w.heap.size u (putL la x) ∧ Fr noB w w' := by
  obtain ⟨a0, c0, rfl, hc0⟩ := hv.opn
  have d0 : decide (x.1 < (0 : Int)) = false := decide_eq_false (by omega)
  have d1 : decide ((63 : Int) < x.1) = false := decide_eq_false (by omega)
  go_enter Tryz.func10, Tryz.ntmps10
  go_wp2_with (first
    | (with_reducible refine at_wpP ?_; refine wpList_boxG rfl 33 _ rfl (enV x) (enC x) rfl rfl ?_; intro g1 w1 hg1 b1 f1 s1; have q1 := (b1.cell 0 _ rfl).1; have z1 := f1.size; have l1 := b1.lt)
    | (with_reducible refine at_wpP ?_; refine wpList_mk0 enC 2 rfl 22 rfl 33 Tryz.underlying22 en_size ?_; intro g4 w4 o4 f4 s4 t4; have z4 := f4.size))
  go_loopw [22, 6, 7] (fun i v d wr => ∃ (k : Nat) (o : List (Int × Int)) (dn : Bool), k ≤ la.length ∧ i = .int .i64 (k : Int) ∧ OwnR enC 2 33 wr w1.heap.size v o ∧ d = .bool dn ∧ Hid (o ++ tailR dn (la.drop k) x = putL la x) ∧ o.length ≤ 2 * k ∧ Fr noB w1 wr) (fun i _ _ _ => la.length - (intOf i).toNat)
  case atStart => exact ⟨0, [], false, Nat.zero_le _, rfl, o4, rfl, rfl, by simp, f4⟩
  case round =>
    obtain ⟨j, o, dn, hj, rfl, ho, rfl, he, hol, hf⟩ := hrel
    have hSj := (hv.fr0 f1).fr0 hf
    have zf := hf.size
    have cr := b1.fr0 hf
    have kr := (cr.cell 0 _ rfl).1
    have hnb := ho.newB
    obtain ⟨ao, co, rfl⟩ := ho.opn
    by_cases hlt : j < la.length
    · obtain ⟨y, Hy⟩ : ∃ y, Hid (la[j] = y) := ⟨la[j], (rfl : la[j] = la[j])⟩
      have hlt' : (j : Int) < (la.length : Int) := by omega
      have hdr : la.drop j = y :: la.drop (j + 1) := by rw [List.drop_eq_getElem_cons hlt, Hy.out]
      rw [hdr] at he
      clear hdr
      by_cases e : y.1 = x.1
      · cases dn with
        | true =>
          have de : (y.1 == x.1) = true := by simpa using e
          have hn := show Hid _ from (by have := he.out; rwa [tailR_t1 e] at this : o ++ tailR true (la.drop (j + 1)) x = putL la x)
          clear he
          go_wp2_with (first
            | (with_reducible refine at_wpP ?_; refine at_idx 22 _ _ rfl ?_; go_must (refine wpList_idxR rfl 22 _ _ rfl 33 Tryz.underlying22 2 en_size _ _ _ rfl hSj (by decide) _ _ j rfl rfl hlt ?_; rw [Hy.out]; intro ba oa hba hca))
            | (with_reducible refine at_wpP ?_; refine at_ld 33 _ rfl ?_; have q := hca; go_must (refine wpList_ldE rfl _ rfl ba oa rfl y hca ?_))
            | (with_reducible refine at_wpP ?_; refine wpList_allocE rfl rfl ?_; intro gl w5 hgl b5 f5 sl; have l5 := b5.lt; have z5 := f5.size)
            | (with_reducible refine at_wpP ?_; refine at_st 33 _ _ rfl ?_; go_must (refine wpList_stE rfl _ _ rfl gl rfl (0, 0) y b5 rfl ?_; intro w6 B6 f6; have F6 := Fr.ownX f5 sl f6; have z6 := f6.size; obtain ⟨k0, k1⟩ := B6.all; have c6 := b1.fr0 (hf.thenN F6); have q6 := (c6.cell 0 _ rfl).1; have o6 := ho.fr0 F6)))
          go_roundw
          case rel => exact ⟨j + 1, o, true, by omega, by go_num, o6, rfl, hn, by omega, hf.thenN F6⟩
          case measure => simp [intOf]; omega
        | false =>
          have de : (y.1 == x.1) = true := by simpa using e
          have dl : decide (x.1 ≤ y.1) = true := decide_eq_true (by omega)
          have hn := show Hid _ from (by have := he.out; rwa [tailR_f1 e] at this : o ++ (x :: tailR true (la.drop (j + 1)) x) = putL la x)
          clear he
          go_wp2_with (first
            | (with_reducible refine at_wpP ?_; refine at_ld 33 _ rfl ?_; have q := c6; go_must (refine wpList_ldE rfl _ rfl g1 0 rfl x (bx_cells c6) ?_))
            | (with_reducible refine at_wpP ?_; refine wpList_mkC rfl 22 _ rfl uE _ en_info2 (by decide) (by decide) x (enV x) rfl rfl rfl ?_; intro g7 w7 b7 f7 s7; have z7 := f7.size)
            | (at_builtin; have q := b7; go_must (refine wpList_appL rfl _ _ 22 rfl _ 16 uE en_info rfl (by decide) (.slice ao o.length co) rfl (o6.fr0 f7) g7 rfl x rfl _ b7 (en_one _) ?hq1 ?hq2 ?hq3 ?_; rotate_left 3; intro u8 w8 o8 f8 p8; have z8 := f8.size; have c8 := (c6.fr0 f7).fr f8 (fun q => by have := (hnb _ q).1; omega); have q8 := (c8.cell 0 _ rfl).1; have B8 := (B6.fr0 f7).fr f8 (fun q => by have := (hnb _ q).2; omega); obtain ⟨k08, k18⟩ := EnB.all B8))
            | (with_reducible refine at_wpP ?_; refine at_idx 22 _ _ rfl ?_; go_must (refine wpList_idxR rfl 22 _ _ rfl 33 Tryz.underlying22 2 en_size _ _ _ rfl hSj (by decide) _ _ j rfl rfl hlt ?_; rw [Hy.out]; intro ba oa hba hca))
            | (with_reducible refine at_wpP ?_; refine at_ld 33 _ rfl ?_; have q := hca; go_must (refine wpList_ldE rfl _ rfl ba oa rfl y hca ?_))
            | (with_reducible refine at_wpP ?_; refine wpList_allocE rfl rfl ?_; intro gl w5 hgl b5 f5 sl; have l5 := b5.lt; have z5 := f5.size)
            | (with_reducible refine at_wpP ?_; refine at_st 33 _ _ rfl ?_; go_must (refine wpList_stE rfl _ _ rfl gl rfl (0, 0) y b5 rfl ?_; intro w6 B6 f6; have F6 := Fr.ownX f5 sl f6; have z6 := f6.size; obtain ⟨k0, k1⟩ := B6.all; have c6 := b1.fr0 (hf.thenN F6); have q6 := (c6.cell 0 _ rfl).1; have o6 := ho.fr0 F6)))
          case hq1 => unfold maxLen; omega
          case hq2 => omega
          case hq3 => omega
          go_roundw
          case rel => exact ⟨j + 1, _, true, by omega, by go_num, o8, rfl, (by show _ = _; rw [List.append_assoc]; exact hn.out), by simp; omega, ((hf.thenN F6).thenN f7).thenT f8 (fun k hk e => by have := (hnb k e).1; omega)⟩
          case measure => simp [intOf]; omega
      · cases dn with
        | true =>
          have de : (y.1 == x.1) = false := by simpa using e
          have hn := show Hid _ from (by have := he.out; rwa [tailR_t0 e] at this : o ++ (y :: tailR true (la.drop (j + 1)) x) = putL la x)
          clear he
          go_wp2_with (first
            | (with_reducible refine at_wpP ?_; refine at_ld 33 _ rfl ?_; have q := B6; go_must (refine wpList_ldE rfl _ rfl gl 0 rfl y (bx_cells B6) ?_))
            | (with_reducible refine at_wpP ?_; refine wpList_mkC rfl 22 _ rfl uE _ en_info2 (by decide) (by decide) y (enV y) rfl rfl rfl ?_; intro g7 w7 b7 f7 s7; have z7 := f7.size)
            | (at_builtin; have q := b7; go_must (refine wpList_appL rfl _ _ 22 rfl _ 16 uE en_info rfl (by decide) (.slice ao o.length co) rfl (o6.fr0 f7) g7 rfl y rfl _ b7 (en_one _) ?hq1 ?hq2 ?hq3 ?_; rotate_left 3; intro u8 w8 o8 f8 p8; have z8 := f8.size))
            | (with_reducible refine at_wpP ?_; refine at_idx 22 _ _ rfl ?_; go_must (refine wpList_idxR rfl 22 _ _ rfl 33 Tryz.underlying22 2 en_size _ _ _ rfl hSj (by decide) _ _ j rfl rfl hlt ?_; rw [Hy.out]; intro ba oa hba hca))
            | (with_reducible refine at_wpP ?_; refine at_ld 33 _ rfl ?_; have q := hca; go_must (refine wpList_ldE rfl _ rfl ba oa rfl y hca ?_))
            | (with_reducible refine at_wpP ?_; refine wpList_allocE rfl rfl ?_; intro gl w5 hgl b5 f5 sl; have l5 := b5.lt; have z5 := f5.size)
            | (with_reducible refine at_wpP ?_; refine at_st 33 _ _ rfl ?_; go_must (refine wpList_stE rfl _ _ rfl gl rfl (0, 0) y b5 rfl ?_; intro w6 B6 f6; have F6 := Fr.ownX f5 sl f6; have z6 := f6.size; obtain ⟨k0, k1⟩ := B6.all; have c6 := b1.fr0 (hf.thenN F6); have q6 := (c6.cell 0 _ rfl).1; have o6 := ho.fr0 F6)))
          case hq1 => unfold maxLen; omega
          case hq2 => omega
          case hq3 => omega
          go_roundw
          case rel => exact ⟨j + 1, _, true, by omega, by go_num, o8, rfl, (by show _ = _; rw [List.append_assoc]; exact hn.out), by simp; omega, ((hf.thenN F6).thenN f7).thenT f8 (fun k hk e => by have := (hnb k e).1; omega)⟩
          case measure => simp [intOf]; omega
        | false =>
          by_cases hle : x.1 ≤ y.1
          · skip
            have de : (y.1 == x.1) = false := by simpa using e
            have dl : decide (x.1 ≤ y.1) = true := decide_eq_true (by omega)
            have hn := show Hid _ from (by have := he.out; rwa [tailR_f0 hle e] at this : o ++ (x :: y :: tailR true (la.drop (j + 1)) x) = putL la x)
            clear he
            go_upto_region 11 with (first
              | (with_reducible refine at_wpP ?_; refine at_ld 33 _ rfl ?_; have q := c6; go_must (refine wpList_ldE rfl _ rfl g1 0 rfl x (bx_cells c6) ?_))
              | (with_reducible refine at_wpP ?_; refine wpList_mkC rfl 22 _ rfl uE _ en_info2 (by decide) (by decide) x (enV x) rfl rfl rfl ?_; intro g7 w7 b7 f7 s7; have z7 := f7.size)
              | (at_builtin; have q := b7; go_must (refine wpList_appL rfl _ _ 22 rfl _ 16 uE en_info rfl (by decide) (.slice ao o.length co) rfl (o6.fr0 f7) g7 rfl x rfl _ b7 (en_one _) ?hq1 ?hq2 ?hq3 ?_; rotate_left 3; intro u8 w8 o8 f8 p8; have z8 := f8.size; have c8 := (c6.fr0 f7).fr f8 (fun q => by have := (hnb _ q).1; omega); have q8 := (c8.cell 0 _ rfl).1; have B8 := (B6.fr0 f7).fr f8 (fun q => by have := (hnb _ q).2; omega); obtain ⟨k08, k18⟩ := EnB.all B8))
              | (with_reducible refine at_wpP ?_; refine at_idx 22 _ _ rfl ?_; go_must (refine wpList_idxR rfl 22 _ _ rfl 33 Tryz.underlying22 2 en_size _ _ _ rfl hSj (by decide) _ _ j rfl rfl hlt ?_; rw [Hy.out]; intro ba oa hba hca))
              | (with_reducible refine at_wpP ?_; refine at_ld 33 _ rfl ?_; have q := hca; go_must (refine wpList_ldE rfl _ rfl ba oa rfl y hca ?_))
              | (with_reducible refine at_wpP ?_; refine wpList_allocE rfl rfl ?_; intro gl w5 hgl b5 f5 sl; have l5 := b5.lt; have z5 := f5.size)
              | (with_reducible refine at_wpP ?_; refine at_st 33 _ _ rfl ?_; go_must (refine wpList_stE rfl _ _ rfl gl rfl (0, 0) y b5 rfl ?_; intro w6 B6 f6; have F6 := Fr.ownX f5 sl f6; have z6 := f6.size; obtain ⟨k0, k1⟩ := B6.all; have c6 := b1.fr0 (hf.thenN F6); have q6 := (c6.cell 0 _ rfl).1; have o6 := ho.fr0 F6)))
            case hq1 => unfold maxLen; omega
            case hq2 => omega
            case hq3 => omega
            have hnb8 := o8.newB
            have hl8 : (o ++ [x]).length = o.length + 1 := by simp
            obtain ⟨o', HO⟩ : ∃ o', Hid (o ++ [x] = o') := ⟨_, rfl⟩
            rw [HO.out] at o8 hl8
            obtain ⟨a8, c8', hu8⟩ := o8.opn
            subst hu8
            go_wp2_with (first
              | (with_reducible refine at_wpP ?_; refine at_ld 33 _ rfl ?_; have q := B8; go_must (refine wpList_ldE rfl _ rfl gl 0 rfl y (bx_cells B8) ?_))
              | (with_reducible refine at_wpP ?_; refine wpList_mkC rfl 22 _ rfl uE _ en_info2 (by decide) (by decide) y (enV y) rfl rfl rfl ?_; intro g9 w9 b9 f9 s9; have z9 := f9.size)
              | (at_builtin; have q := b9; go_must (refine wpList_appL rfl _ _ 22 rfl _ 16 uE en_info rfl (by decide) (.slice a8 o'.length c8') rfl (o8.fr0 f9) g9 rfl y rfl _ b9 (en_one _) ?hq1 ?hq2 ?hq3 ?_; rotate_left 3; intro u10 w10 o10 f10 p10; have z10 := f10.size)))
            case hq1 => unfold maxLen; omega
            case hq2 => omega
            case hq3 => omega
            go_roundw
            case rel => exact ⟨j + 1, _, true, by omega, by go_num, o10, rfl, (by show _ = _; rw [← HO.out, List.append_assoc, List.append_assoc]; exact hn.out), by simp; omega, ((((hf.thenN F6).thenN f7).thenT f8 (fun k hk e => by have := (hnb k e).1; omega)).thenN f9).thenT f10 (fun k hk e => by have := (hnb8 k e).1; omega)⟩
            case measure => simp [intOf]; omega
          · skip
            have de : (y.1 == x.1) = false := by simpa using e
            have dl : decide (x.1 ≤ y.1) = false := decide_eq_false (by omega)
            have hn := show Hid _ from (by have := he.out; rwa [tailR_fl hle] at this : o ++ (y :: tailR false (la.drop (j + 1)) x) = putL la x)
            clear he
            go_wp2_with (first
              | (with_reducible refine at_wpP ?_; refine at_ld 33 _ rfl ?_; have q := B6; go_must (refine wpList_ldE rfl _ rfl gl 0 rfl y (bx_cells B6) ?_))
              | (with_reducible refine at_wpP ?_; refine wpList_mkC rfl 22 _ rfl uE _ en_info2 (by decide) (by decide) y (enV y) rfl rfl rfl ?_; intro g7 w7 b7 f7 s7; have z7 := f7.size)
              | (at_builtin; have q := b7; go_must (refine wpList_appL rfl _ _ 22 rfl _ 16 uE en_info rfl (by decide) (.slice ao o.length co) rfl (o6.fr0 f7) g7 rfl y rfl _ b7 (en_one _) ?hq1 ?hq2 ?hq3 ?_; rotate_left 3; intro u8 w8 o8 f8 p8; have z8 := f8.size))
              | (with_reducible refine at_wpP ?_; refine at_idx 22 _ _ rfl ?_; go_must (refine wpList_idxR rfl 22 _ _ rfl 33 Tryz.underlying22 2 en_size _ _ _ rfl hSj (by decide) _ _ j rfl rfl hlt ?_; rw [Hy.out]; intro ba oa hba hca))
              | (with_reducible refine at_wpP ?_; refine at_ld 33 _ rfl ?_; have q := hca; go_must (refine wpList_ldE rfl _ rfl ba oa rfl y hca ?_))
              | (with_reducible refine at_wpP ?_; refine wpList_allocE rfl rfl ?_; intro gl w5 hgl b5 f5 sl; have l5 := b5.lt; have z5 := f5.size)
              | (with_reducible refine at_wpP ?_; refine at_st 33 _ _ rfl ?_; go_must (refine wpList_stE rfl _ _ rfl gl rfl (0, 0) y b5 rfl ?_; intro w6 B6 f6; have F6 := Fr.ownX f5 sl f6; have z6 := f6.size; obtain ⟨k0, k1⟩ := B6.all; have c6 := b1.fr0 (hf.thenN F6); have q6 := (c6.cell 0 _ rfl).1; have o6 := ho.fr0 F6)))
            case hq1 => unfold maxLen; omega
            case hq2 => omega
            case hq3 => omega
            go_roundw
            case rel => exact ⟨j + 1, _, false, by omega, by go_num, o8, rfl, (by show _ = _; rw [List.append_assoc]; exact hn.out), by simp; omega, ((hf.thenN F6).thenN f7).thenT f8 (fun k hk e => by have := (hnb k e).1; omega)⟩
            case measure => simp [intOf]; omega
    · obtain rfl : j = la.length := by omega
      rw [List.drop_length] at he
      cases dn with
      | true =>
        have he : o = putL la x := by have := he.out; simpa [tailR] using this
        subst he
        go_wp2
        go_ret2
        exact ⟨_, rfl, ho.rebase (by omega), f1.thenN hf⟩
      | false =>
        have he := show Hid _ from (by have := he.out; simpa [tailR, putL] using this : o ++ [x] = putL la x)
        go_wp2_with (first
          | (with_reducible refine at_wpP ?_; refine at_ld 33 _ rfl ?_; have q := cr; go_must (refine wpList_ldE rfl _ rfl g1 0 rfl x (bx_cells cr) ?_))
          | (with_reducible refine at_wpP ?_; refine wpList_mkC rfl 22 _ rfl uE _ en_info2 (by decide) (by decide) x (enV x) rfl rfl rfl ?_; intro g7 w7 b7 f7 s7; have z7 := f7.size)
          | (at_builtin; have q := b7; go_must (refine wpList_appL rfl _ _ 22 rfl _ 16 uE en_info rfl (by decide) (.slice ao o.length co) rfl (ho.fr0 f7) g7 rfl x rfl _ b7 (en_one _) ?hq1 ?hq2 ?hq3 ?_; rotate_left 3; intro u8 w8 o8 f8 p8; have z8 := f8.size)))
        case hq1 => unfold maxLen; omega
        case hq2 => omega
        case hq3 => omega
        go_ret2
        exact ⟨_, rfl, by rw [← he.out]; exact o8.rebase (by omega), ((f1.thenN hf).thenN f7).thenT f8 (fun k hk e => by have := (hnb k e).1; omega)⟩
set_option maxRecDepth 100000 in
set_option maxHeartbeats 16000000 in
theorem refFind_any (v : Value) (la : List (Int × Int)) (key : Int) (w : World) (hv : SlR enC 2 w v la) (hl : la.length ≤ 1000) :
    Calls Tryz.prog 15 #[v, .int .i64 key] w fun r w' => r = .returned (.int .i64 (findL la key)) ∧ Fr noB w w' := by
  obtain ⟨a0, c0, rfl, hc0⟩ := hv.opn
  go_enter Tryz.func15, Tryz.ntmps15
  go_wp2
  go_loopw [9] (fun i wr => ∃ (k : Nat), k ≤ la.length ∧ i = .int .i64 (k : Int) ∧ Hid (findL la key = findL (la.drop k) key) ∧ Fr noB w wr) (fun i _ => la.length - (intOf i).toNat)
  case atStart => exact ⟨0, Nat.zero_le _, rfl, rfl, Fr.refl _ _⟩
  case round =>
    obtain ⟨j, hj, rfl, he, hf⟩ := hrel
    have hSj := hv.fr0 hf
    by_cases hlt : j < la.length
    · obtain ⟨y, Hy⟩ : ∃ y, Hid (la[j] = y) := ⟨la[j], (rfl : la[j] = la[j])⟩
      have hlt' : (j : Int) < (la.length : Int) := by omega
      have hdr : la.drop j = y :: la.drop (j + 1) := by rw [List.drop_eq_getElem_cons hlt, Hy.out]
      rw [hdr] at he
      clear hdr
      by_cases e : y.1 = key
      · have de : (y.1 == key) = true := by simpa using e
        have hr := show Hid _ from (by have := he.out; rw [this]; unfold findL; simp [e] : findL la key = y.2)
        clear he
        go_wp2_with (first
          | (with_reducible refine at_wpP ?_; refine at_idx 22 _ _ rfl ?_; go_must (refine wpList_idxR rfl 22 _ _ rfl 33 Tryz.underlying22 2 en_size _ _ _ rfl hSj (by decide) _ _ j rfl rfl hlt ?_; rw [Hy.out]; intro ba oa hba hca))
          | (with_reducible refine at_wpP ?_; refine at_ld 33 _ rfl ?_; have q := hca; go_must (refine wpList_ldE rfl _ rfl ba oa rfl y hca ?_))
          | (with_reducible refine at_wpP ?_; refine wpList_allocE rfl rfl ?_; intro gl w5 hgl b5 f5 sl; have l5 := b5.lt; have z5 := f5.size)
          | (with_reducible refine at_wpP ?_; refine at_st 33 _ _ rfl ?_; go_must (refine wpList_stE rfl _ _ rfl gl rfl (0, 0) y b5 rfl ?_; intro w6 B6 f6; have F6 := Fr.ownX f5 sl f6; have z6 := f6.size; obtain ⟨k0, k1⟩ := B6.all)))
        go_ret
        exact ⟨by rw [hr.out]; rfl, hf.thenN F6⟩
      · have de : (y.1 == key) = false := by simpa using e
        have hr := show Hid _ from (by have := he.out; rw [this]; unfold findL; simp [e] : findL la key = findL (la.drop (j + 1)) key)
        clear he
        go_wp2_with (first
          | (with_reducible refine at_wpP ?_; refine at_idx 22 _ _ rfl ?_; go_must (refine wpList_idxR rfl 22 _ _ rfl 33 Tryz.underlying22 2 en_size _ _ _ rfl hSj (by decide) _ _ j rfl rfl hlt ?_; rw [Hy.out]; intro ba oa hba hca))
          | (with_reducible refine at_wpP ?_; refine at_ld 33 _ rfl ?_; have q := hca; go_must (refine wpList_ldE rfl _ rfl ba oa rfl y hca ?_))
          | (with_reducible refine at_wpP ?_; refine wpList_allocE rfl rfl ?_; intro gl w5 hgl b5 f5 sl; have l5 := b5.lt; have z5 := f5.size)
          | (with_reducible refine at_wpP ?_; refine at_st 33 _ _ rfl ?_; go_must (refine wpList_stE rfl _ _ rfl gl rfl (0, 0) y b5 rfl ?_; intro w6 B6 f6; have F6 := Fr.ownX f5 sl f6; have z6 := f6.size; obtain ⟨k0, k1⟩ := B6.all)))
        go_roundw
        case rel => exact ⟨j + 1, by omega, by go_num, hr, hf.thenN F6⟩
        case measure => simp [intOf]; omega
    · obtain rfl : j = la.length := by omega
      rw [List.drop_length] at he
      go_wp2
      go_ret
      exact ⟨by rw [he.out]; rfl, hf⟩
end Go.Proofs.YtkhdniccnefdhaaGreat
/- Pages of blocks, and that just so many pages are used as are reached, plain; no condition. -/
namespace Go.Proofs.YtkhdniccnefdhaaGreat
open Go.RowKit Go.Proofs.U
set_option linter.unusedSimpArgs false
set_option linter.unusedVariables false
/-- A store that holds pages of blocks alone, each once. -/
structure Bks (X : DSt) (L : List Pg) (B : List Int) (N : Nat) : Prop where
  iv : Inv X L B
  yg : PlY L
  bl : ∀ b ∈ B, 0 ≤ b ∧ (rdN X b).1.k = 1 ∧ (rdN X b).1.es = []
  nd : B.Nodup
  fr : plFree L + B.length = N
  ln : L.length = N
  ct : ∀ q, cntL L q ≤ B.length
theorem Bks.base {X : DSt} {L : List Pg} {pg : Int} {N : Nat} (b : Base1 X L pg N) : Bks X L [pg] N :=
  ⟨b.iv, b.yg, by intro x hx; simp at hx; subst hx; exact ⟨b.p0, by rw [b.rd], by rw [b.rd]⟩, by simp, b.fr, b.ln, fun q => by simpa using b.ct q⟩
theorem Bks.blk {X : DSt} {L : List Pg} {B : List Int} {N m : Nat} {b : List Int} (h : Bks X L B N) (hU : Up X L.length m) (hb : b.length = 16) (hby : Byt b) (hN : B.length < N) (hB : B.length ≤ 100) : ∃ X' L1 p L2, BlkIs X L B b X' L1 p L2 m ∧ Bks X' L2 (B ++ [p]) N := by
  have hf := h.fr
  obtain ⟨X', L1, p, L2, k⟩ := h.iv.block hU hb hby (by omega) (fun q => by have := h.ct q; omega)
  have hlive : ∀ x ∈ B, (plAt L x.toNat).free = false ∧ rdN X' x = rdN X x := fun x hx => by
    have hr := h.iv.toT.root hx
    refine ⟨(h.iv.toT.live hr.2).1, ?_⟩
    have := k.kp x.toNat (by have := hr.2; rwa [cntT_nil] at this)
    rwa [Int.toNat_of_nonneg hr.1] at this
  refine ⟨X', L1, p, L2, k, k.iv, k.yg h.yg, fun x hx => ?_, ?_, ?_, k.ln.trans h.ln, fun q => ?_⟩
  · rcases List.mem_append.1 hx with q | q
    · rw [(hlive x q).2]; exact h.bl x q
    · obtain rfl := List.mem_singleton.1 q
      rw [k.rd]; exact ⟨k.p0, rfl, rfl⟩
  · refine List.nodup_append.2 ⟨h.nd, by simp, fun a ha c hc => ?_⟩
    obtain rfl := List.mem_singleton.1 hc
    intro e
    subst e
    have := (hlive a ha).1
    rw [k.pf] at this
    cases this
  · rw [List.length_append, List.length_singleton]
    have := k.fr
    omega
  · rw [k.ct q, List.length_append, List.length_singleton]
    have := h.ct q
    split <;> omega
theorem Bks.one {X : DSt} {L : List Pg} {B : List Int} {N : Nat} (h : Bks X L B N) : OneT X L B [] 0 (-1) [] := OneT.start (by simpa using h.iv) (by intro t ht; simp at ht) h.bl
theorem tidy_yg {L : List Pg} (y : PlY L) : plTidy L = L := by
  unfold plTidy
  conv => rhs; rw [← List.map_id L]
  refine List.map_congr_left fun x hx => ?_
  obtain ⟨i, hi, rfl⟩ := List.mem_iff_getElem.1 hx
  have := y i
  rw [plAt_get L i hi] at this
  unfold tidyP
  rw [if_neg (by rcases this with q | q <;> omega)]
  rfl
/-- A tree's nodes are seen where the root is. -/
theorem occ_seen {X : DSt} {T : Int → Bool} (hT : ∀ x, T x = true → ∀ y ∈ kids (rdN X x).1, T y = true) : ∀ {lv : Nat} {p lo hi : Int}, okT X lv p lo hi → T p = true → ∀ q ∈ occT X lv p, T q = true
  | 0, p, lo, hi, _, hp, q, hq => by simp [occT] at hq; subst hq; exact hp
  | lv + 1, p, lo, hi, h, hp, q, hq => by
    unfold occT at hq
    rcases List.mem_cons.1 hq with rfl | hq
    · exact hp
    · obtain ⟨y, hy, hq⟩ := List.mem_flatMap.1 hq
      obtain ⟨b, hb⟩ := h.child y hy
      exact occ_seen hT hb (hT p hp y.2 (List.mem_map_of_mem hy)) q hq
theorem OneT.reach {X : DSt} {L : List Pg} {B : List Int} {lv : Nat} {root : Int} {l : List (Int × Int)} (o : OneT X L B [] lv root l) : ∃ S, reachF (getF X L) [root] = (S, 0) ∧ (∀ x, S x = true → 0 ≤ x ∧ 0 < cntL L x.toNat) ∧ (¬ root = -1 → ∀ q ∈ occT X lv root, S q = true) := by
  by_cases hr : root = -1
  · subst hr
    exact ⟨fun _ => false, rfl, fun x hx => (by cases hx), fun h => absurd rfl h⟩
  · obtain ⟨r0, _, t⟩ := o.tree hr
    have hp := (o.iv.toT.root (r := root) (by unfold rtsB; rw [if_neg hr]; simp)).2
    rw [cntT_nil] at hp
    have hf : ∀ S p, nS S < 241 → 0 ≤ p → 0 < cntL L p.toNat → (rootF (getF X L) S p).2 = 0 ∧ PostS X L S (rootF (getF X L) S p).1 ∧ (rootF (getF X L) S p).1 p = true := by
      intro S p hn h0 hc
      have e : rootF (getF X L) S p = seeF (getF X L) 241 S p := by unfold rootF; rw [if_neg (by omega)]
      rw [e]
      exact see_good o.iv.di 241 S p hn h0 hc
    obtain ⟨k1, k2, k3⟩ := each_see hf [root] (fun _ => false) (nS_lt _) (fun p h => by obtain rfl := List.mem_singleton.1 h; exact ⟨r0, hp⟩)
    refine ⟨(reachF (getF X L) [root]).1, by unfold reachF; rw [← k1], fun x hx => ?_, fun _ => ?_⟩
    · rcases k2.2 x hx with q | q
      · cases q
      · exact ⟨q.1, q.2.1⟩
    · refine occ_seen (fun x hx => ?_) t.ok (k3 root (by simp))
      rcases k2.2 x hx with q | q
      · cases q
      · exact q.2.2
def inL (X : DSt) (l : List Int) : List Int := l.filter fun p => !((rdN X p).1.k == 1)
theorem used_live {X : DSt} {L : List Pg} {R : List Int} (h : Inv X L R) (y : PlY L) : plFree L + (U.live L.length (cntL L)).length = L.length := by
  have key : ∀ n, n ≤ L.length → (L.take n).countP Pg.free + ((List.range n).filter fun q => decide (0 < cntL L q)).length = n := by
    intro n
    induction n with
    | zero => intro _; rfl
    | succ n ih =>
      intro hn
      have := ih (by omega)
      rw [List.take_succ_eq_append_getElem (by omega), List.countP_append, List.range_succ, List.filter_append, List.length_append]
      have hx : [L[n]].countP Pg.free + ([n].filter fun q => decide (0 < cntL L q)).length = 1 := by
        have hp : plAt L n = L[n] := plAt_get L n (by omega)
        rcases y n with hy | ⟨hs, hc⟩
        · have hf : (plAt L n).frsh = true := by unfold Pg.frsh; rw [hy]; rfl
          have hc := h.di.nf n hf
          have h1 : 0 < cntL L n := (cnt_pos n).2 hc
          have h2 : L[n].free = false := by rw [← hp]; unfold Pg.free; rw [hy]; simp
          simp [List.filter, List.countP_cons, h1, h2]
        · have h1 : L[n].free = true := by rw [← hp]; unfold Pg.free; rw [hs, hc]; rfl
          have h2 : ¬ 0 < cntL L n := fun q => by have := (cnt_pos n).1 q; omega
          simp [List.filter, List.countP_cons, h1, h2]
      omega
  have := key L.length (Nat.le_refl _)
  rw [List.take_length] at this
  exact this
theorem OneT.exactL {X : DSt} {L : List Pg} {B : List Int} {lv : Nat} {root : Int} {l : List (Int × Int)} (o : OneT X L B [] lv root l) (y : PlY L) (hn : B.Nodup) {S : Int → Bool} (h1 : ∀ x, S x = true → 0 ≤ x ∧ 0 < cntL L x.toNat) (h2 : ¬ root = -1 → ∀ q ∈ occT X lv root, S q = true) {l' : List Int} (hl : SeenL S l') :
    plFree L + ((inL X l').length + B.length) = L.length := by
  have hu := used_live o.iv y
  have hf := o.fam
  have hin : ∀ x ∈ inL X l', 0 ≤ x ∧ 0 < cntL L x.toNat ∧ ¬ (rdN X x).1.k = 1 := fun x hx => by
    obtain ⟨a, b⟩ := List.mem_filter.1 hx
    have := h1 x ((hl.mem x).1 a)
    exact ⟨this.1, this.2, by simpa using b⟩
  have hroot : ∀ b ∈ B, 0 ≤ b ∧ 0 < cntL L b.toNat := fun b hb => by
    have := o.iv.toT.root (rtsB_B (root := root) (List.mem_append_left (([] : List (Nat × Int)).map (·.2)) hb))
    rwa [cntT_nil] at this
  have hlt : ∀ q : Nat, 0 < cntL L q → q < L.length := fun q hq => (o.iv.toT.live (by rwa [cntT_nil])).2.1
  have hle : (U.live L.length (cntL L)).length ≤ (B ++ inL X l').length := by
    have := len_sub (W := (B ++ inL X l').map Int.toNat) (live_nodup L.length (cntL L)) fun r hr => by
      have hc := (mem_live.1 hr).2
      have hm := hf.live o.iv hc
      refine List.mem_map.2 ⟨(r : Int), ?_, by simp⟩
      unfold famP at hm
      rcases List.mem_append.1 hm with q | q
      · exact List.mem_append_left _ q
      · obtain ⟨t, ht, hq⟩ := List.mem_flatMap.1 q
        rcases oneTs_mem ht with h | ⟨hne, rfl⟩
        · cases h
        · obtain ⟨_, _, t⟩ := o.tree hne
          refine List.mem_append_right _ (List.mem_filter.2 ⟨(hl.mem _).2 (h2 hne _ hq), ?_⟩)
          have := occ_kd t.ok _ hq
          simpa using this
    rwa [List.length_map] at this
  have hge : (B ++ inL X l').length ≤ (U.live L.length (cntL L)).length := by
    have hnd : ((B ++ inL X l').map Int.toNat).Nodup := by
      have h3 : (B ++ inL X l').Nodup := List.nodup_append.2 ⟨hn, hl.nd.filter _, fun a ha c hc e => by
        subst e
        exact (hin a hc).2.2 (o.bl a ha).2.1⟩
      refine List.pairwise_map.2 (List.Pairwise.imp_of_mem (fun {a b} ha hb hab => ?_) h3)
      have pa : 0 ≤ a := by
        rcases List.mem_append.1 ha with q | q
        · exact (hroot a q).1
        · exact (hin a q).1
      have pb : 0 ≤ b := by
        rcases List.mem_append.1 hb with q | q
        · exact (hroot b q).1
        · exact (hin b q).1
      omega
    have := len_sub (W := U.live L.length (cntL L)) hnd fun r hr => by
      obtain ⟨x, hx, rfl⟩ := List.mem_map.1 hr
      have hc : 0 < cntL L x.toNat := by
        rcases List.mem_append.1 hx with q | q
        · exact (hroot x q).2
        · exact (hin x q).2.1
      exact mem_live.2 ⟨hlt _ hc, hc⟩
    rwa [List.length_map] at this
  rw [List.length_append] at hle hge
  omega
end Go.Proofs.YtkhdniccnefdhaaGreat
/- Pages of blocks, and whether just so many pages are used as are reached; no condition. (Written by th2_gen.py.) -/
namespace Go.Proofs.YtkhdniccnefdhaaGreat
open Go.RowKit Go.Proofs.U
set_option linter.unusedSimpArgs false
set_option linter.unusedVariables false
/-- A block whose first byte is so much. -/
def bkK (n : Int) : List Int := n :: zerB 15
theorem bkK_len (n : Int) : (bkK n).length = 16 := rfl
theorem bkK_byt {n : Int} (h : 0 ≤ n ∧ n ≤ 255) : Byt (bkK n) := by
  intro x hx
  rcases List.mem_cons.1 hx with rfl | hx
  · obtain ⟨h0, h1⟩ := h
    simp [Lit.wf, IntKind.min, IntKind.max, IntKind.signed, IntKind.bits]
    omega
  · exact zerB_byt 15 x hx
theorem built_bkK : ∀ {n : Int}, (n = 0 ∨ n = 1 ∨ n = 2 ∨ n = 3) → Tryz.prog.built 58 [(0, .int .u8 n)] = some (pgv (bkK n)).toArray := by
  rintro n (rfl | rfl | rfl | rfl) <;> kernel_rfl
theorem wpList_blkV {w : World} {ops : Array Oper} {rest : List Oper} {o : Oper} {a : Act} {Q : Exit → Act → World → Prop} {n : Int} (hgd : Region.wanted o (yielded ops a.tmps) = true) (y : Operand) (ho : o.op = .build 58 #[(0, y)]) (hy : a.eval y = .int .u8 n) (C : List Int) (hb : Tryz.prog.built 58 [(0, .int .u8 n)] = some (pgv C).toArray)
    (h : wpList Tryz.prog ops Q rest (a.put o.dst (pgV C)) w) : wpList Tryz.prog ops Q (o :: rest) a w := by
  refine wpList_wanted hgd fun K hK => ?_
  have hrun := run_build (P := Tryz.prog) w 58 #[(0, .int .u8 n)] _ hb
  unfold Oper.wp
  simp [execOp, ho, hy, hrun, Result.andThen]
  exact hK _ _ h
set_option maxRecDepth 100000 in
set_option maxHeartbeats 16000000 in
theorem pages_T {F : Nat → Prop} {gs gp : Nat} {X : DSt} {L : List Pg} {B : List Int} {N m : Nat} (w : World) (h : Sto w F gs gp X L m) (hm : m ≤ 1000) (hb : Bks X L B N) (hN : B.length + 4 < N) (hB : B.length ≤ 50) :
    Calls Tryz.prog 7 #[trV gs, .int .i64 4] w fun r w' => ∃ F' X' L' ps v, r = .returned (.tuple #[v, .bool true]) ∧ StT w w' F F' gs gp (X', L') (m + 4) ∧ Bks X' L' (B ++ ps) N ∧ ps.length = 4 ∧ OwnR en64 1 3 w' w.heap.size v ps ∧ ∀ k, v.ownBlock = some k → ¬ F' k ∧ k ≠ gp := by
  have hgp := h.ltp
  have hgs := h.lts
  have hFt := h.ft
  go_enter Tryz.func7, Tryz.ntmps7
  go_wp2_with (first
    | (with_reducible refine at_wpP ?_; refine wpList_boxG rfl 26 _ rfl (trV gs) [ptr gs] rfl rfl ?_; intro g2 w2 hg2 b2 f2 s2; have l2 := b2.lt; have z2 := f2.size)
    | (with_reducible refine at_wpP ?_; refine wpList_mk0 en64 1 rfl 29 rfl 3 Tryz.underlying29 int_size1 ?_; intro g3 w3 o3 f3 s3 t3; have z3 := f3.size))
  have H2 := h.fr0 f2
  go_loopw [7, 6] (fun i v wr => ∃ (k : Nat) (Fk : Nat → Prop) (Xk : DSt) (Lk : List Pg) (ps : List Int), k ≤ 4 ∧ i = .int .i64 (k : Int) ∧ OwnR en64 1 3 wr w2.heap.size v ps ∧ ps.length = k ∧ StT w2 wr F Fk gs gp (Xk, Lk) (m + k) ∧ Hid (Bks Xk Lk (B ++ ps) N) ∧ ∀ q, v.ownBlock = some q → ¬ Fk q ∧ q ≠ gp) (fun i _ _ => 4 - (intOf i).toNat)
  case atStart =>
    refine ⟨0, F, X, L, [], by omega, rfl, o3, rfl, (StT.start H2).fr0 f3, (by show Bks X L (B ++ []) N; rw [List.append_nil]; exact hb), fun q hq => ?_⟩
    have := (o3.newB q hq).1
    exact ⟨fun r => by have := hFt _ r; omega, by omega⟩
  case round =>
    obtain ⟨j, Fk, Xk, Lk, ps, hj, rfl, ho, hpl, T, hbk, hvF⟩ := hrel
    have zj := T.fr.size
    have hnF : ∀ q, w.heap.size ≤ q → ¬ stB F gp q := fun q hq s => by
      rcases s with s | s
      · have := hFt _ s; omega
      · omega
    have bj := (b2.fr T.fr (hnF _ s2))
    have kj := (bj.cell 0 _ rfl).1
    have hnb := ho.newB
    have hFj := T.st.ft
    have hgpj := T.st.ltp
    have hgk : ¬ stB Fk gp g2 := fun q => by
      rcases q with q | q
      · rcases (T.ft _ q).1 with q | q
        · have := hFt _ q; omega
        · omega
      · omega
    by_cases hlt : j < 4
    · obtain ⟨X', L1, p, L2, K, hb2⟩ := hbk.out.blk T.st.up (bkK_len (j : Int)) (bkK_byt (by omega)) (by rw [List.length_append]; omega) (by rw [List.length_append]; omega)
      have hbd := show Hid _ from built_bkK (n := (j : Int)) (by omega)
      have hl := show Hid _ from bkK_len (j : Int)
      have hby := bkK_byt (n := (j : Int)) (by omega)
      have hem := show Hid _ from K.em
      have hhd := show Hid _ from K.hd
      have hb2' : Hid (Bks X' L2 (B ++ (ps ++ [p])) N) := by show Bks _ _ _ _; rw [← List.append_assoc]; exact hb2
      obtain ⟨C, HC⟩ : ∃ C, Hid (bkK (j : Int) = C) := ⟨_, rfl⟩
      rw [HC.out] at hbd hl hby hem
      have hbn := show Hid _ from built_ndB 1 C hl.out
      clear hb2 K hbk
      obtain ⟨ao, co, rfl⟩ := ho.opn
      rw [hpl] at ho hvF hnb ⊢
      have hpl1 : Hid ((ps ++ [p]).length = j + 1) := by show _ = _; simp [hpl]
      have hjc : j = 0 ∨ j = 1 ∨ j = 2 ∨ j = 3 := by omega
      rcases hjc with rfl | rfl | rfl | rfl
      · skip
        have hj0 : True := trivial
        go_wp2_with (first
          | (with_reducible refine at_wpP ?_; refine wpList_blkV rfl _ rfl rfl C hbd.out ?_)
          | (with_reducible refine at_wpP ?_; refine wpList_bldN rfl _ rfl 1 C nilS [(0, .int .i64 1), (1, pgV C)] rfl hbn.out ?_)
          | (go_at_call 22; go_must (refine (make_F (⟨1, C, []⟩ : Nd) nilS T.st (by omega) ⟨⟨⟨by simp, Sl.nil _ 2⟩, by simp⟩, ⟨hl.out, hby⟩, by simp, rfl⟩ hem.out).mono ?_; rintro e w5 ⟨rfl, F5, st5, ft5, fr5⟩; have z5 := fr5.size; have b5 := bj.fr fr5 hgk; have k5 := (b5.cell 0 _ rfl).1; have o5 := ho.fr fr5 (fun q hq s => by rcases s with s | s; exact (hvF q hq).1 s; exact (hvF q hq).2 s)))
          | (go_at_call 23; go_must (refine (hold_F p st5 hhd.out).mono ?_; rintro e w6 ⟨rfl, st6, f6⟩; have z6 := f6.size; have o6 := o5.ne f6 (fun q hq => (hvF q hq).2); have T6 : StT w2 w6 F F5 gs gp (X', L2) (m + 0 + 1) := (T.trans H2.ft (⟨st5, ft5, fr5⟩ : StT _ _ _ _ _ _ (X', L1) _)).pool f6 st6))
          | (with_reducible refine at_wpP ?_; refine wpList_mkC (ec := en64) (sz := 1) rfl 29 _ rfl Tryz.underlying29 _ info_int2 (by decide) (by decide) p (.int .i64 p) rfl rfl rfl ?_; intro g7 w7 b7 f7 s7; have z7 := f7.size)
          | (at_builtin; have q := b7; go_must (refine wpList_appL (ec := en64) (sz := 1) rfl _ _ 29 rfl _ 8 Tryz.underlying29 info_int rfl (by decide) (.slice ao 0 co) rfl (o6.fr0 f7) g7 rfl p rfl _ b7 (fun u hu => by simp at hu; subst hu; rfl) ?hq1 ?hq2 ?hq3 ?_; rotate_left 3; intro u8 w8 o8 f8 p8; have z8 := f8.size)))
        case hq1 => unfold maxLen; omega
        case hq2 => omega
        case hq3 => omega
        go_roundw
        case rel =>
          refine ⟨0 + 1, F5, X', L2, ps ++ [p], by omega, by go_num, o8, hpl1.out, ?_, hb2', fun q hq => ?_⟩
          · have T7 := T6.fr0 f7
            exact T7.own f8 (fun k hk => by
              have h1 := hvF k hk
              have h2 := hnb k hk
              exact ⟨fun r => by rcases (ft5 k r).1 with r | r; exact h1.1 r; omega, h1.2, by omega, by omega⟩)
          · rcases p8 q hq with r | r
            · have h1 := hvF q r
              have h2 := hnb q r
              exact ⟨fun s => by rcases (ft5 q s).1 with s | s; exact h1.1 s; omega, h1.2⟩
            · exact ⟨fun s => by have := (ft5 q s).2; omega, by omega⟩
        case measure => simp [intOf]
      · skip
        have hj1 : True := trivial
        go_wp2_with (first
          | (with_reducible refine at_wpP ?_; refine wpList_blkV rfl _ rfl rfl C hbd.out ?_)
          | (with_reducible refine at_wpP ?_; refine wpList_bldN rfl _ rfl 1 C nilS [(0, .int .i64 1), (1, pgV C)] rfl hbn.out ?_)
          | (go_at_call 22; go_must (refine (make_F (⟨1, C, []⟩ : Nd) nilS T.st (by omega) ⟨⟨⟨by simp, Sl.nil _ 2⟩, by simp⟩, ⟨hl.out, hby⟩, by simp, rfl⟩ hem.out).mono ?_; rintro e w5 ⟨rfl, F5, st5, ft5, fr5⟩; have z5 := fr5.size; have b5 := bj.fr fr5 hgk; have k5 := (b5.cell 0 _ rfl).1; have o5 := ho.fr fr5 (fun q hq s => by rcases s with s | s; exact (hvF q hq).1 s; exact (hvF q hq).2 s)))
          | (go_at_call 23; go_must (refine (hold_F p st5 hhd.out).mono ?_; rintro e w6 ⟨rfl, st6, f6⟩; have z6 := f6.size; have o6 := o5.ne f6 (fun q hq => (hvF q hq).2); have T6 : StT w2 w6 F F5 gs gp (X', L2) (m + 1 + 1) := (T.trans H2.ft (⟨st5, ft5, fr5⟩ : StT _ _ _ _ _ _ (X', L1) _)).pool f6 st6))
          | (with_reducible refine at_wpP ?_; refine wpList_mkC (ec := en64) (sz := 1) rfl 29 _ rfl Tryz.underlying29 _ info_int2 (by decide) (by decide) p (.int .i64 p) rfl rfl rfl ?_; intro g7 w7 b7 f7 s7; have z7 := f7.size)
          | (at_builtin; have q := b7; go_must (refine wpList_appL (ec := en64) (sz := 1) rfl _ _ 29 rfl _ 8 Tryz.underlying29 info_int rfl (by decide) (.slice ao 1 co) rfl (o6.fr0 f7) g7 rfl p rfl _ b7 (fun u hu => by simp at hu; subst hu; rfl) ?hq1 ?hq2 ?hq3 ?_; rotate_left 3; intro u8 w8 o8 f8 p8; have z8 := f8.size)))
        case hq1 => unfold maxLen; omega
        case hq2 => omega
        case hq3 => omega
        go_roundw
        case rel =>
          refine ⟨1 + 1, F5, X', L2, ps ++ [p], by omega, by go_num, o8, hpl1.out, ?_, hb2', fun q hq => ?_⟩
          · have T7 := T6.fr0 f7
            exact T7.own f8 (fun k hk => by
              have h1 := hvF k hk
              have h2 := hnb k hk
              exact ⟨fun r => by rcases (ft5 k r).1 with r | r; exact h1.1 r; omega, h1.2, by omega, by omega⟩)
          · rcases p8 q hq with r | r
            · have h1 := hvF q r
              have h2 := hnb q r
              exact ⟨fun s => by rcases (ft5 q s).1 with s | s; exact h1.1 s; omega, h1.2⟩
            · exact ⟨fun s => by have := (ft5 q s).2; omega, by omega⟩
        case measure => simp [intOf]
      · skip
        have hj2 : True := trivial
        go_wp2_with (first
          | (with_reducible refine at_wpP ?_; refine wpList_blkV rfl _ rfl rfl C hbd.out ?_)
          | (with_reducible refine at_wpP ?_; refine wpList_bldN rfl _ rfl 1 C nilS [(0, .int .i64 1), (1, pgV C)] rfl hbn.out ?_)
          | (go_at_call 22; go_must (refine (make_F (⟨1, C, []⟩ : Nd) nilS T.st (by omega) ⟨⟨⟨by simp, Sl.nil _ 2⟩, by simp⟩, ⟨hl.out, hby⟩, by simp, rfl⟩ hem.out).mono ?_; rintro e w5 ⟨rfl, F5, st5, ft5, fr5⟩; have z5 := fr5.size; have b5 := bj.fr fr5 hgk; have k5 := (b5.cell 0 _ rfl).1; have o5 := ho.fr fr5 (fun q hq s => by rcases s with s | s; exact (hvF q hq).1 s; exact (hvF q hq).2 s)))
          | (go_at_call 23; go_must (refine (hold_F p st5 hhd.out).mono ?_; rintro e w6 ⟨rfl, st6, f6⟩; have z6 := f6.size; have o6 := o5.ne f6 (fun q hq => (hvF q hq).2); have T6 : StT w2 w6 F F5 gs gp (X', L2) (m + 2 + 1) := (T.trans H2.ft (⟨st5, ft5, fr5⟩ : StT _ _ _ _ _ _ (X', L1) _)).pool f6 st6))
          | (with_reducible refine at_wpP ?_; refine wpList_mkC (ec := en64) (sz := 1) rfl 29 _ rfl Tryz.underlying29 _ info_int2 (by decide) (by decide) p (.int .i64 p) rfl rfl rfl ?_; intro g7 w7 b7 f7 s7; have z7 := f7.size)
          | (at_builtin; have q := b7; go_must (refine wpList_appL (ec := en64) (sz := 1) rfl _ _ 29 rfl _ 8 Tryz.underlying29 info_int rfl (by decide) (.slice ao 2 co) rfl (o6.fr0 f7) g7 rfl p rfl _ b7 (fun u hu => by simp at hu; subst hu; rfl) ?hq1 ?hq2 ?hq3 ?_; rotate_left 3; intro u8 w8 o8 f8 p8; have z8 := f8.size)))
        case hq1 => unfold maxLen; omega
        case hq2 => omega
        case hq3 => omega
        go_roundw
        case rel =>
          refine ⟨2 + 1, F5, X', L2, ps ++ [p], by omega, by go_num, o8, hpl1.out, ?_, hb2', fun q hq => ?_⟩
          · have T7 := T6.fr0 f7
            exact T7.own f8 (fun k hk => by
              have h1 := hvF k hk
              have h2 := hnb k hk
              exact ⟨fun r => by rcases (ft5 k r).1 with r | r; exact h1.1 r; omega, h1.2, by omega, by omega⟩)
          · rcases p8 q hq with r | r
            · have h1 := hvF q r
              have h2 := hnb q r
              exact ⟨fun s => by rcases (ft5 q s).1 with s | s; exact h1.1 s; omega, h1.2⟩
            · exact ⟨fun s => by have := (ft5 q s).2; omega, by omega⟩
        case measure => simp [intOf]
      · skip
        have hj3 : True := trivial
        go_wp2_with (first
          | (with_reducible refine at_wpP ?_; refine wpList_blkV rfl _ rfl rfl C hbd.out ?_)
          | (with_reducible refine at_wpP ?_; refine wpList_bldN rfl _ rfl 1 C nilS [(0, .int .i64 1), (1, pgV C)] rfl hbn.out ?_)
          | (go_at_call 22; go_must (refine (make_F (⟨1, C, []⟩ : Nd) nilS T.st (by omega) ⟨⟨⟨by simp, Sl.nil _ 2⟩, by simp⟩, ⟨hl.out, hby⟩, by simp, rfl⟩ hem.out).mono ?_; rintro e w5 ⟨rfl, F5, st5, ft5, fr5⟩; have z5 := fr5.size; have b5 := bj.fr fr5 hgk; have k5 := (b5.cell 0 _ rfl).1; have o5 := ho.fr fr5 (fun q hq s => by rcases s with s | s; exact (hvF q hq).1 s; exact (hvF q hq).2 s)))
          | (go_at_call 23; go_must (refine (hold_F p st5 hhd.out).mono ?_; rintro e w6 ⟨rfl, st6, f6⟩; have z6 := f6.size; have o6 := o5.ne f6 (fun q hq => (hvF q hq).2); have T6 : StT w2 w6 F F5 gs gp (X', L2) (m + 3 + 1) := (T.trans H2.ft (⟨st5, ft5, fr5⟩ : StT _ _ _ _ _ _ (X', L1) _)).pool f6 st6))
          | (with_reducible refine at_wpP ?_; refine wpList_mkC (ec := en64) (sz := 1) rfl 29 _ rfl Tryz.underlying29 _ info_int2 (by decide) (by decide) p (.int .i64 p) rfl rfl rfl ?_; intro g7 w7 b7 f7 s7; have z7 := f7.size)
          | (at_builtin; have q := b7; go_must (refine wpList_appL (ec := en64) (sz := 1) rfl _ _ 29 rfl _ 8 Tryz.underlying29 info_int rfl (by decide) (.slice ao 3 co) rfl (o6.fr0 f7) g7 rfl p rfl _ b7 (fun u hu => by simp at hu; subst hu; rfl) ?hq1 ?hq2 ?hq3 ?_; rotate_left 3; intro u8 w8 o8 f8 p8; have z8 := f8.size)))
        case hq1 => unfold maxLen; omega
        case hq2 => omega
        case hq3 => omega
        go_roundw
        case rel =>
          refine ⟨3 + 1, F5, X', L2, ps ++ [p], by omega, by go_num, o8, hpl1.out, ?_, hb2', fun q hq => ?_⟩
          · have T7 := T6.fr0 f7
            exact T7.own f8 (fun k hk => by
              have h1 := hvF k hk
              have h2 := hnb k hk
              exact ⟨fun r => by rcases (ft5 k r).1 with r | r; exact h1.1 r; omega, h1.2, by omega, by omega⟩)
          · rcases p8 q hq with r | r
            · have h1 := hvF q r
              have h2 := hnb q r
              exact ⟨fun s => by rcases (ft5 q s).1 with s | s; exact h1.1 s; omega, h1.2⟩
            · exact ⟨fun s => by have := (ft5 q s).2; omega, by omega⟩
        case measure => simp [intOf]
    · obtain rfl : j = 4 := by omega
      go_wp2
      go_ret2
      exact ⟨Fk, Xk, Lk, ps, _, rfl, T.pre f2, hbk.out, hpl, ho.rebase (by omega), hvF⟩
theorem one_int {w : World} {g : Nat} {x : Int} (b : BxV w g 3 (en64 x)) (hx : (Lit.int .i64 x).wf = true) : SlI .i64 w (.slice (some ⟨g, 0, none⟩) 1 1) [x] := by
  refine ⟨⟨_, _, rfl, Nat.le_refl _, rfl, (fun h => by cases h), fun z hz => ?_⟩, fun y hy => by rw [List.mem_singleton.1 hy]; exact hx⟩
  cases hz
  intro j u hj
  rw [Addr.plain, Nat.zero_add]
  exact (b.cell j u hj).1
theorem inL_snoc {X : DSt} (l : List Int) (x : Int) : inL X (l ++ [x]) = inL X l ++ (if (rdN X x).1.k = 1 then [] else [x]) := by
  unfold inL
  rw [List.filter_append]
  by_cases h : (rdN X x).1.k = 1
  · rw [if_pos h]; simp [h]
  · rw [if_neg h]; simp [h]
set_option maxRecDepth 100000 in
set_option maxHeartbeats 16000000 in
theorem exact_T {F : Nat → Prop} {gs gp : Nat} {X : DSt} {L : List Pg} {B : List Int} {m lv : Nat} {root : Int} {l : List (Int × Int)} (o : OneT X L B [] lv root l) (y : PlY L) (hn : B.Nodup) (hB : B.length = 5) (hm : m ≤ 100000) (w : World) (h : Sto w F gs gp X L m) :
    Calls Tryz.prog 16 #[trV gs, .int .i64 root, .int .i64 5] w fun r w' => r = .returned (.bool true) ∧ Fr (onB1 gp) w w' := by
  have hgp := h.ltp
  have hgs := h.lts
  have hFt := h.ft
  obtain ⟨S, hS, hS1, hS2⟩ := o.reach
  have hEx := fun l' (hl : SeenL S l') => show Hid _ from o.exactL y hn hS1 hS2 hl
  have hdi := o.iv.di
  have hti := ptidy_any h.ok gp
  rw [tidy_yg y] at hti
  have hrw : (Lit.int .i64 root).wf = true := by
    rcases o.rt with ⟨rfl, _⟩ | ⟨h0, hp, _⟩
    · rfl
    · have := o.iv.toT.low hp
      exact wfSm (by omega) (by omega)
  have hL240 := h.ok.1
  obtain ⟨NN, HNN⟩ : ∃ NN : Nat, Hid (L.length = NN) := ⟨_, rfl⟩
  have hre := fun W v (s : Sto W F gs gp X L m) (hv : SlI .i64 W v [root]) => reach_any hm v [root] (by simp) W s hv
  rw [hS] at hre
  clear hS
  go_enter Tryz.func16, Tryz.ntmps16
  go_upto_region 5 with (first
    | (with_reducible refine at_wpP ?_; refine wpList_boxG rfl 26 _ rfl (trV gs) [ptr gs] rfl rfl ?_; intro g3 w1 hg3 b1 f1 s1; have l1 := b1.lt; have z1 := f1.size; have k1 := (b1.cell 0 _ rfl).1; have st1 := h.fr0 f1)
    | (go_at_call 30; go_must (refine (npool_any _ st1).mono ?_; rintro e w1 ⟨rfl, rfl⟩))
    | (go_at_call 31; go_must (refine (hti _ st1.pl).mono ?_; rintro e w2 ⟨rfl, p2, f2⟩; have z2 := f2.size; have b2 := b1.ne f2 (by omega); have k2 := (b2.cell 0 _ rfl).1; have st2 := st1.pool f2 p2 h.ok rfl))
    | (with_reducible refine at_wpP ?_; have q := st2; refine wpList_mkC (ec := en64) (sz := 1) rfl 29 _ rfl Tryz.underlying29 _ info_int2 (by decide) (by decide) root (.int .i64 root) rfl rfl rfl ?_; intro g4 w3 b4 f3 s4; have z3 := f3.size)
    | (go_at_call 32; go_must (refine (hre _ _ (st2.fr0 f3) (one_int b4 hrw)).mono ?_; rintro e w4 ⟨u, l', rfl, hse, hSl, hnew, f4⟩; have z4 := f4.size)))
  have hl' := hse (by first | trivial | rfl)
  obtain ⟨au, cu, rfl, hcu⟩ := hSl.opn
  have hlen := hl'.len
  have st4 := (st2.fr0 f3).fr0 f4
  have D4 : Fr (onB1 gp) w w4 := ((((f1.mono (fun _ _ q => q.elim)).trans f2).thenN f3).thenN f4)
  have b4' := (b2.fr0 f3).fr0 f4
  have e4 := hEx l' hl'
  go_wp2
  go_loopw [30, 9] (fun i c wr => ∃ (k : Nat), k ≤ l'.length ∧ i = .int .i64 (k : Int) ∧ c = .int .i64 ((inL X (l'.take k)).length : Int) ∧ Fr noB w4 wr) (fun i _ _ => l'.length - (intOf i).toNat)
  case atStart => exact ⟨0, Nat.zero_le _, rfl, rfl, Fr.refl _ _⟩
  case round =>
    obtain ⟨j, hj, rfl, rfl, hf⟩ := hrel
    have zf := hf.size
    have str := st4.fr0 hf
    have br := b4'.fr0 hf
    have kr := (br.cell 0 _ rfl).1
    by_cases hlt : j < l'.length
    · have hv1 := (hSl.fr0 hf).1
      obtain ⟨x, Hx⟩ : ∃ x, Hid (l'[j] = x) := ⟨l'[j], (rfl : l'[j] = l'[j])⟩
      have hlt' : (j : Int) < (l'.length : Int) := by omega
      have hx1 := hS1 x ((hl'.mem x).1 (by rw [← Hx.out]; simp))
      obtain ⟨hg1, hg2⟩ := getF_live hdi hx1.1 hx1.2
      have hts : inL X (l'.take (j + 1)) = inL X (l'.take j) ++ (if (rdN X x).1.k = 1 then [] else [x]) := by rw [List.take_succ_eq_append_getElem hlt, Hx.out, inL_snoc]
      have hil : (inL X (l'.take j)).length ≤ j := by
        have h1 : (inL X (l'.take j)).length ≤ (l'.take j).length := List.length_filter_le _ _
        rw [List.length_take] at h1
        omega
      generalize hR : rdN X x = R at *
      obtain ⟨n, e0⟩ := R
      simp only at hg2 hts
      subst hg2
      have hget := fun W (s : Sto W F gs gp X L m) => get_F x s hm hg1
      clear hg1 hR hx1
      by_cases hk1 : n.k = 1
      · have d1 : (n.k == 1) = true := by simpa using hk1
        rw [if_pos hk1, List.append_nil] at hts
        have hts := show Hid _ from hts
        clear hk1
        go_wp2_with (first
          | (with_reducible refine at_wpP ?_; refine at_idx 29 _ _ rfl ?_; go_must (refine wpList_idx1 rfl 29 _ _ rfl 3 Tryz.underlying29 int_size1 (.slice au l'.length cu) _ _ rfl hv1 .i64 (j : Int) j rfl rfl hlt ?_; intro pp u hu hcu; obtain rfl := getX hu hlt Hx.out))
          | (go_at_call 33; go_must (refine (hget _ str).mono ?_; rintro e w5 ⟨vk, rfl, nk, hvk, f5⟩; have z5 := f5.size; have hbl := nk.bl))
          | (with_reducible refine at_wpP ?_; have q := nk; refine wpList_allocN rfl rfl ?_; intro gn w6 hgn b6 f6 sn; have z6 := f6.size; have l6 := b6.lt)
          | (with_reducible refine at_wpP ?_; refine at_st 60 _ _ rfl ?_; have q := b6; go_must (refine wpList_stN rfl _ _ rfl gn rfl n.k n.b vk rfl hbl.out nk.sl 0 (zerB 16) nilS b6 (zerB_len 16) ?_; intro w7 b7 f7; have z7 := f7.size; have F7 := Fr.ownX f6 sn f7; have q7 := NdB.kind b7)))
        go_roundw
        case rel => exact ⟨j + 1, by omega, by go_num, by rw [hts.out], (hf.thenN f5).thenN F7⟩
        case measure => simp [intOf]; omega
      · have d1 : (n.k == 1) = false := by simpa using hk1
        rw [if_neg hk1] at hts
        have hts : Hid (((inL X (l'.take (j + 1))).length : Int) = ((inL X (l'.take j)).length : Int) + 1) := by show _ = _; rw [hts]; simp
        clear hk1
        generalize (inL X (l'.take j)).length = c at *
        go_wp2_with (first
          | (with_reducible refine at_wpP ?_; refine at_idx 29 _ _ rfl ?_; go_must (refine wpList_idx1 rfl 29 _ _ rfl 3 Tryz.underlying29 int_size1 (.slice au l'.length cu) _ _ rfl hv1 .i64 (j : Int) j rfl rfl hlt ?_; intro pp u hu hcu; obtain rfl := getX hu hlt Hx.out))
          | (go_at_call 33; go_must (refine (hget _ str).mono ?_; rintro e w5 ⟨vk, rfl, nk, hvk, f5⟩; have z5 := f5.size; have hbl := nk.bl))
          | (with_reducible refine at_wpP ?_; have q := nk; refine wpList_allocN rfl rfl ?_; intro gn w6 hgn b6 f6 sn; have z6 := f6.size; have l6 := b6.lt)
          | (with_reducible refine at_wpP ?_; refine at_st 60 _ _ rfl ?_; have q := b6; go_must (refine wpList_stN rfl _ _ rfl gn rfl n.k n.b vk rfl hbl.out nk.sl 0 (zerB 16) nilS b6 (zerB_len 16) ?_; intro w7 b7 f7; have z7 := f7.size; have F7 := Fr.ownX f6 sn f7; have q7 := NdB.kind b7)))
        go_roundw
        case rel => exact ⟨j + 1, by omega, by go_num, by rw [hts.out], (hf.thenN f5).thenN F7⟩
        case measure => simp [intOf]; omega
    · obtain rfl : j = l'.length := by omega
      rw [List.take_length]
      have he := show Hid _ from (by have := e4.out; omega : (L.length : Int) - (plFree L : Int) = ((inL X l').length : Int) + 5)
      have hb1 : (inL X l').length ≤ 240 := by
        have h1 : (inL X l').length ≤ l'.length := List.length_filter_le _ _
        omega
      have hfl := plFree_le L
      generalize (inL X l').length = c at *
      have hsd := fun n => str.fr0 ((Fr.refl noB wr).drewN n)
      go_wp2_with fail
      go_quiet ((first
        | (go_at_call 30; exact Calls.quiet_of_same ((npool_any _ (hsd _)).mono (fun _ _ h => ⟨h.1, h.2.symm⟩)))
        | (go_at_call 34; exact Calls.quiet_of_same ((psize_any _ _ (hsd _).pl).mono (fun _ _ h => ⟨h.1, h.2.symm⟩)))
        | (go_at_call 35; exact Calls.quiet_of_same ((free_F (hsd _) rfl).mono (fun _ _ h => ⟨h.1, h.2.symm⟩)))))
      go_wp2
      go_ret
      exact ⟨by rw [he.out]; simp, (D4.thenN hf).drewN nq⟩
end Go.Proofs.YtkhdniccnefdhaaGreat
