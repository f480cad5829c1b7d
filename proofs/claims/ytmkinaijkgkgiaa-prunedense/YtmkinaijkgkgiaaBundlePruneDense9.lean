/- Texts Y2, Y3 of the proof of PruneDense, one behind the other. -/
import Derived.Test.YtmkinaijkgkgiaaBundlePruneDense1
import Derived.Test.YtmkinaijkgkgiaaBundlePruneDense2
import Derived.Test.YtmkinaijkgkgiaaBundlePruneDense3
import Derived.Test.YtmkinaijkgkgiaaBundlePruneDense4
import Derived.Test.YtmkinaijkgkgiaaBundlePruneDense5
import Derived.Test.YtmkinaijkgkgiaaBundlePruneDense6
import Derived.Test.YtmkinaijkgkgiaaBundlePruneDense7
import Derived.Test.YtmkinaijkgkgiaaBundlePruneDense8
/- A pool in memory, cell by cell; its small functions: has, Size, free, Fresh, held, Count, givenUp. -/
namespace Go.Proofs.Ytmkinaijkgkgiaa
open Go.RowKit Go.Proofs.U
set_option linter.unusedSimpArgs false
set_option linter.unusedVariables false
def plKinds (L : List Pg) : List Int := (List.range 240).map fun i => ((plAt L i).s : Int)
theorem plKinds_len (L : List Pg) : (plKinds L).length = 240 := by simp [plKinds]
/-- A pool's cells: how many pages, their counts, what they are. -/
def poolL (L : List Pg) : List Value := .int .i64 (L.length : Int) :: (pgv (plCounts L) ++ pgv (plKinds L))
theorem poolL_len (L : List Pg) : (poolL L).length = 481 := by simp [poolL, pgv_len, plCounts_len, plKinds_len]
theorem poolL_size (L : List Pg) : (poolL L)[0]? = some (.int .i64 (L.length : Int)) := rfl
theorem poolL_cnt (L : List Pg) (i : Nat) (h : i < 240) : (poolL L)[1 + i]? = some (.int .u8 (plAt L i).c) := by
  rw [Nat.add_comm]
  unfold poolL
  rw [List.getElem?_cons_succ, List.getElem?_append_left (by rw [pgv_len, plCounts_len]; exact h)]
  simp [pgv, plCounts, h]
theorem poolL_knd (L : List Pg) (i : Nat) (h : i < 240) : (poolL L)[241 + i]? = some (.int .u8 ((plAt L i).s : Int)) := by
  rw [show 241 + i = (240 + i) + 1 by omega]
  unfold poolL
  rw [List.getElem?_cons_succ, List.getElem?_append_right (by rw [pgv_len, plCounts_len]; omega), pgv_len, plCounts_len, Nat.add_sub_cancel_left]
  simp [pgv, plKinds, h]
theorem poolL_ext {cs : List Value} {L : List Pg} (hl : cs.length = 481) (h0 : cs[0]? = some (.int .i64 (L.length : Int))) (h1 : ∀ i, i < 240 → cs[1 + i]? = some (.int .u8 (plAt L i).c)) (h2 : ∀ i, i < 240 → cs[241 + i]? = some (.int .u8 ((plAt L i).s : Int))) : cs = poolL L := by
  refine List.ext_getElem? fun j => ?_
  by_cases hj : j < 481
  · rcases Nat.lt_or_ge j 1 with h | h
    · obtain rfl : j = 0 := by omega
      rw [h0, poolL_size]
    · rcases Nat.lt_or_ge j 241 with h' | h'
      · have e : j = 1 + (j - 1) := by omega
        rw [e, h1 _ (by omega), poolL_cnt _ _ (by omega)]
      · have e : j = 241 + (j - 241) := by omega
        rw [e, h2 _ (by omega), poolL_knd _ _ (by omega)]
  · rw [List.getElem?_eq_none (by omega), List.getElem?_eq_none (by rw [poolL_len]; omega)]
theorem poolL_setK (L : List Pg) (i : Nat) (hi : i < L.length) (h : L.length ≤ 240) (s : Nat) (z : Int) (hz : z = (s : Int)) : (poolL L).set (241 + i) (.int .u8 z) = poolL (L.set i ⟨(plAt L i).c, s⟩) := by
  subst hz
  refine poolL_ext (by rw [List.length_set, poolL_len]) ?_ ?_ ?_
  · rw [List.getElem?_set_ne (by omega), poolL_size, List.length_set]
  · intro j hj
    rw [List.getElem?_set_ne (by omega), poolL_cnt _ _ hj, plAt_set _ _ _ _ hi]
    split
    · rename_i e; subst e; rfl
    · rfl
  · intro j hj
    rw [plAt_set _ _ _ _ hi]
    by_cases e : j = i
    · subst e
      rw [List.getElem?_set_self (by rw [poolL_len]; omega), if_pos rfl]
    · rw [List.getElem?_set_ne (by omega), poolL_knd _ _ hj, if_neg e]
theorem poolL_setC (L : List Pg) (i : Nat) (hi : i < L.length) (h : L.length ≤ 240) (c : Int) : (poolL L).set (1 + i) (.int .u8 c) = poolL (L.set i ⟨c, (plAt L i).s⟩) := by
  refine poolL_ext (by rw [List.length_set, poolL_len]) ?_ ?_ ?_
  · rw [List.getElem?_set_ne (by omega), poolL_size, List.length_set]
  · intro j hj
    rw [plAt_set _ _ _ _ hi]
    by_cases e : j = i
    · subst e
      rw [List.getElem?_set_self (by rw [poolL_len]; omega), if_pos rfl]
    · rw [List.getElem?_set_ne (by omega), poolL_cnt _ _ hj, if_neg e]
  · intro j hj
    rw [List.getElem?_set_ne (by omega), poolL_knd _ _ hj, plAt_set _ _ _ _ hi]
    split
    · rename_i e; subst e; rfl
    · rfl
theorem putAt_get (cs : List Value) (o : Nat) (ds : List Value) (h : o + ds.length ≤ cs.length) (j : Nat) : (putAt cs o ds)[j]? = if o ≤ j ∧ j < o + ds.length then ds[j - o]? else cs[j]? := by
  unfold putAt
  rcases Nat.lt_or_ge j o with h1 | h1
  · rw [if_neg (by omega), List.getElem?_append_left (by simp; omega), List.getElem?_append_left (by simp; omega), List.getElem?_take, if_pos h1]
  · rcases Nat.lt_or_ge j (o + ds.length) with h2 | h2
    · rw [if_pos ⟨h1, h2⟩, List.getElem?_append_left (by simp; omega), List.getElem?_append_right (by simp; omega), List.length_take, Nat.min_eq_left (by omega)]
    · rw [if_neg (by omega), List.getElem?_append_right (by simp; omega), List.getElem?_drop]
      congr 1
      simp; omega
theorem putAt_len (cs : List Value) (o : Nat) (ds : List Value) (h : o + ds.length ≤ cs.length) : (putAt cs o ds).length = cs.length := by
  unfold putAt; simp; omega
theorem plNew_at (n : Int) (i : Nat) : plAt (plNew n) i = Pg0 := by
  unfold plAt plNew
  simp only [List.getD, List.getElem?_replicate]
  split <;> rfl
theorem poolL_one (L : List Pg) : ∀ v ∈ poolL L, v.oneCell' = true := by
  intro v hv
  rcases List.mem_cons.1 hv with rfl | hv
  · rfl
  · rcases List.mem_append.1 hv with hv | hv <;> exact pgv_one _ v hv
/-- The pool at block g. -/
abbrev PoolB (w : World) (g : Nat) (L : List Pg) : Prop := BxV w g 69 (poolL L)
theorem PoolB.size {w : World} {g : Nat} {L : List Pg} (h : PoolB w g L) : w.cell? ⟨g, 0, none⟩ = some (.int .i64 (L.length : Int)) := (h.cell 0 _ (poolL_size L)).1
theorem PoolB.cnt {w : World} {g : Nat} {L : List Pg} (h : PoolB w g L) (i : Nat) (hi : i < 240) : w.cell? ⟨g, 1 + i, none⟩ = some (.int .u8 (plAt L i).c) := (h.cell _ _ (poolL_cnt L i hi)).1
theorem PoolB.knd {w : World} {g : Nat} {L : List Pg} (h : PoolB w g L) (i : Nat) (hi : i < 240) : w.cell? ⟨g, 241 + i, none⟩ = some (.int .u8 ((plAt L i).s : Int)) := (h.cell _ _ (poolL_knd L i hi)).1
theorem arr1_counts : Arr1 Try.prog 65 5 240 := ⟨by kernel_rfl, by kernel_rfl, by kernel_rfl, by kernel_rfl⟩
theorem arr1_kinds : Arr1 Try.prog 67 66 240 := ⟨by kernel_rfl, by kernel_rfl, by kernel_rfl, by kernel_rfl⟩

theorem cast_beq0 (a : Nat) : ((a : Int) == 0) = (a == 0) := by rw [Bool.eq_iff_iff]; simp
theorem cast_beq1 (a : Nat) : ((a : Int) == 1) = (a == 1) := by rw [Bool.eq_iff_iff]; simp; omega
theorem cast_beq2 (a : Nat) : ((a : Int) == 2) = (a == 2) := by rw [Bool.eq_iff_iff]; simp; omega

theorem phas_any {L : List Pg} (g : Nat) (i : Int) (w : World) (h : PoolB w g L) :
    Calls Try.prog 63 #[ptr g, .int .i64 i] w fun r w' => r = .returned (.bool (plIn L i)) ∧ w = w' := by
  have k0 := h.size
  by_cases h0 : 0 ≤ i
  · go_enter Try.func63, Try.ntmps63
    go_wp2
    go_ret
    exact ⟨by simp [h0, plIn], rfl⟩
  · have h1 : decide (0 ≤ i) = false := by simpa using h0
    go_enter Try.func63, Try.ntmps63
    go_wp2
    go_ret
    exact ⟨by simp [plIn, h1], rfl⟩
theorem psize_any {L : List Pg} (g : Nat) (w : World) (h : PoolB w g L) :
    Calls Try.prog 12 #[ptr g] w fun r w' => r = .returned (.int .i64 (L.length : Int)) ∧ w = w' := by
  have k0 := h.size
  go_enter Try.func12, Try.ntmps12
  go_wp2
  go_ret
  exact ⟨rfl, rfl⟩
theorem pfree_any {L : List Pg} (hL : plOk L) (g : Nat) (i : Nat) (hi : i < 240) (w : World) (h : PoolB w g L) :
    Calls Try.prog 27 #[ptr g, .int .i64 (i : Int)] w fun r w' => r = .returned (.bool (plAt L i).free) ∧ w = w' := by
  have k1 := h.cnt i hi
  have k2 := h.knd i hi
  obtain ⟨x, Hx⟩ : ∃ x, Hid (plAt L i = x) := ⟨_, rfl⟩
  rw [Hx.out] at k1 k2 ⊢
  by_cases h0 : x.c = 0
  · rw [h0] at k1
    go_enter Try.func27, Try.ntmps27
    go_wp2_with (first
      | (refine at_idx 65 _ _ rfl ?_; go_must (refine wpList_idxOff arr1_counts rfl _ _ rfl g 1 rfl .i64 _ i rfl rfl hi ?_))
      | (refine at_idx 67 _ _ rfl ?_; go_must (refine wpList_idxOff arr1_kinds rfl _ _ rfl g 241 rfl .i64 _ i rfl rfl hi ?_)))
    go_ret
    refine ⟨?_, rfl⟩
    unfold Pg.free
    rw [h0]
    simp [cast_beq0]
  · have h0' : (x.c == 0) = false := by simpa using h0
    go_enter Try.func27, Try.ntmps27
    go_wp2_with (first
      | (refine at_idx 65 _ _ rfl ?_; go_must (refine wpList_idxOff arr1_counts rfl _ _ rfl g 1 rfl .i64 _ i rfl rfl hi ?_)))
    go_ret
    refine ⟨?_, rfl⟩
    unfold Pg.free
    rw [h0']
    rfl
def Pg.frsh (x : Pg) : Bool := x.s == 1 || x.s == 2
def plFresh (L : List Pg) (i : Int) : Bool := plIn L i && (plAt L i.toNat).frsh
def plHeld (L : List Pg) (i : Int) : Bool := plIn L i && (plAt L i.toNat).held
def plCount (L : List Pg) (i : Int) : Int := if plIn L i then (plAt L i.toNat).c else 0
theorem plFresh_nat {L : List Pg} (i : Nat) : plFresh L (i : Int) = (plAt L i).frsh := by
  unfold plFresh plIn
  by_cases h : i < L.length
  · simp [h]
  · rw [Int.toNat_natCast, plAt_out _ _ (by omega)]
    simp [Pg.frsh, Pg0]
theorem pfresh_any {L : List Pg} (hL : plOk L) (g : Nat) (i : Int) (w : World) (h : PoolB w g L) :
    Calls Try.prog 48 #[ptr g, .int .i64 i] w fun r w' => r = .returned (.bool (plFresh L i)) ∧ w = w' := by
  unfold plFresh
  cases hin : plIn L i with
  | false =>
    go_enter Try.func48, Try.ntmps48
    go_wp2_with (first
      | (go_at_call 63; go_must (refine (phas_any g i _ h).mono ?_; rintro e w' ⟨rfl, rfl⟩; rw [hin])))
    go_ret
    exact ⟨rfl, rfl⟩
  | true =>
    obtain ⟨hlt, hi⟩ := plIn_lt hin
    obtain ⟨j, rfl⟩ : ∃ j : Nat, i = (j : Int) := ⟨_, hi.symm⟩
    have hj : j < 240 := by have := hL.1; rw [Int.toNat_natCast] at hlt; omega
    rw [Int.toNat_natCast] at *
    have k2 := h.knd j hj
    obtain ⟨x, Hx⟩ : ∃ x, Hid (plAt L j = x) := ⟨_, rfl⟩
    rw [Hx.out] at k2 ⊢
    by_cases h1 : x.s = 1
    · rw [h1] at k2
      have k2 : w.cell? ⟨g, 241 + j, none⟩ = some (.int .u8 1) := k2
      go_enter Try.func48, Try.ntmps48
      go_wp2_with (first
        | (go_at_call 63; go_must (refine (phas_any g j _ h).mono ?_; rintro e w' ⟨rfl, rfl⟩; rw [hin]))
        | (refine at_idx 67 _ _ rfl ?_; refine wpList_idxOff arr1_kinds rfl _ _ rfl g 241 rfl .i64 _ j rfl rfl hj ?_))
      go_ret
      exact ⟨by simp [Pg.frsh, h1], rfl⟩
    · have h1' : ((x.s : Int) == 1) = false := by rw [cast_beq1]; simpa using h1
      go_enter Try.func48, Try.ntmps48
      go_wp2_with (first
        | (go_at_call 63; go_must (refine (phas_any g j _ h).mono ?_; rintro e w' ⟨rfl, rfl⟩; rw [hin]))
        | (refine at_idx 67 _ _ rfl ?_; refine wpList_idxOff arr1_kinds rfl _ _ rfl g 241 rfl .i64 _ j rfl rfl hj ?_))
      go_ret
      exact ⟨by simp [Pg.frsh, h1, cast_beq2], rfl⟩
theorem pheld_any {L : List Pg} (hL : plOk L) (g : Nat) (i : Int) (w : World) (h : PoolB w g L) :
    Calls Try.prog 51 #[ptr g, .int .i64 i] w fun r w' => r = .returned (.bool (plHeld L i)) ∧ w = w' := by
  unfold plHeld
  cases hin : plIn L i with
  | false =>
    go_enter Try.func51, Try.ntmps51
    go_wp2_with (first
      | (go_at_call 63; go_must (refine (phas_any g i _ h).mono ?_; rintro e w' ⟨rfl, rfl⟩; rw [hin])))
    go_ret
    exact ⟨rfl, rfl⟩
  | true =>
    obtain ⟨hlt, hi⟩ := plIn_lt hin
    obtain ⟨j, rfl⟩ : ∃ j : Nat, i = (j : Int) := ⟨_, hi.symm⟩
    have hj : j < 240 := by have := hL.1; rw [Int.toNat_natCast] at hlt; omega
    rw [Int.toNat_natCast] at *
    have k1 := h.cnt j hj
    have hf := pfresh_any hL g (j : Int) w h
    rw [plFresh_nat] at hf
    obtain ⟨x, Hx⟩ : ∃ x, Hid (plAt L j = x) := ⟨_, rfl⟩
    rw [Hx.out] at k1 hf ⊢
    by_cases h1 : x.c = 0
    · rw [h1] at k1
      go_enter Try.func51, Try.ntmps51
      go_wp2_with (first
        | (go_at_call 63; go_must (refine (phas_any g j _ h).mono ?_; rintro e w' ⟨rfl, rfl⟩; rw [hin]))
        | (go_at_call 48; go_must (refine hf.mono ?_; rintro e w' ⟨rfl, rfl⟩))
        | (refine at_idx 65 _ _ rfl ?_; refine wpList_idxOff arr1_counts rfl _ _ rfl g 1 rfl .i64 _ j rfl rfl hj ?_))
      go_ret
      exact ⟨by simp [Pg.frsh, Pg.held, h1], rfl⟩
    · have h1' : ¬ (x.c = 0) := h1
      go_enter Try.func51, Try.ntmps51
      go_wp2_with (first
        | (go_at_call 63; go_must (refine (phas_any g j _ h).mono ?_; rintro e w' ⟨rfl, rfl⟩; rw [hin]))
        | (refine at_idx 65 _ _ rfl ?_; refine wpList_idxOff arr1_counts rfl _ _ rfl g 1 rfl .i64 _ j rfl rfl hj ?_))
      go_ret
      exact ⟨by simp [Pg.held, h1], rfl⟩
theorem pcount_any {L : List Pg} (hL : plOk L) (g : Nat) (i : Int) (w : World) (h : PoolB w g L) :
    Calls Try.prog 47 #[ptr g, .int .i64 i] w fun r w' => r = .returned (.int .i64 (plCount L i)) ∧ w = w' := by
  unfold plCount
  cases hin : plIn L i with
  | false =>
    go_enter Try.func47, Try.ntmps47
    go_wp2_with (first
      | (go_at_call 63; go_must (refine (phas_any g i _ h).mono ?_; rintro e w' ⟨rfl, rfl⟩; rw [hin])))
    go_ret
    exact ⟨rfl, rfl⟩
  | true =>
    obtain ⟨hlt, hi⟩ := plIn_lt hin
    obtain ⟨j, rfl⟩ : ∃ j : Nat, i = (j : Int) := ⟨_, hi.symm⟩
    have hj : j < 240 := by have := hL.1; rw [Int.toNat_natCast] at hlt; omega
    rw [Int.toNat_natCast] at *
    have k1 := h.cnt j hj
    have hx := hL.2 j
    obtain ⟨x, Hx⟩ : ∃ x, Hid (plAt L j = x) := ⟨_, rfl⟩
    rw [Hx.out] at k1 hx ⊢
    have hcv : IntKind.i64.wrap x.c = x.c := by rw [IntKind.wrap_i64]; have := hx.1; have := hx.2.1; omega
    go_enter Try.func47, Try.ntmps47
    go_wp2_with (first
      | (go_at_call 63; go_must (refine (phas_any g j _ h).mono ?_; rintro e w' ⟨rfl, rfl⟩; rw [hin]))
      | (refine at_idx 65 _ _ rfl ?_; go_must (refine wpList_idxOff arr1_counts rfl _ _ rfl g 1 rfl .i64 _ j rfl rfl hj ?_)))
    go_ret
    exact ⟨by simp [hcv], rfl⟩
theorem givenUp_any (s : Nat) (w : World) :
    Calls Try.prog 75 #[.int .u8 (s : Int)] w fun r w' => r = .returned (.int .u8 ((dropS s : Nat) : Int)) ∧ w = w' := by
  unfold dropS
  by_cases h1 : s = 1
  · subst h1
    go_enter Try.func75, Try.ntmps75
    go_wp2
    go_ret
    exact ⟨rfl, rfl⟩
  · by_cases h2 : s = 2
    · subst h2
      go_enter Try.func75, Try.ntmps75
      go_wp2
      go_ret
      exact ⟨rfl, rfl⟩
    · have h1' : ((s : Int) == 1) = false := by rw [cast_beq1]; simpa using h1
      have h2' : ((s : Int) == 2) = false := by rw [cast_beq2]; simpa using h2
      rw [if_neg h1, if_neg h2]
      clear h1 h2
      go_enter Try.func75, Try.ntmps75
      go_wp2
      go_ret
      exact ⟨rfl, rfl⟩
end Go.Proofs.Ytmkinaijkgkgiaa
/- A pool in memory: Counts, Clone, Commit, New, Free, turn, Mark, Tidy, Take, Hold, Drop, Load. -/
namespace Go.Proofs.Ytmkinaijkgkgiaa
open Go.RowKit Go.Proofs.U
set_option linter.unusedSimpArgs false
set_option linter.unusedVariables false
theorem pool_size : (Try.prog.info? 69).map (·.size) = some 481 := by kernel_rfl
theorem pool_under : ∃ d, Try.prog.underlying 69 = some d ∧ d.isRow = true := ⟨.struct (Try.prog.fieldsOf 69), by kernel_rfl, rfl⟩
theorem pool_zero : (Try.prog.info? 69).map (·.zero) = some (some (.agg (poolL []).toArray)) := by kernel_rfl
theorem kind_size : (Try.prog.info? 66).map (·.size) = some 1 := by kernel_rfl
set_option maxRecDepth 100000 in
theorem pclone_any {L : List Pg} (g : Nat) (w : World) (h : PoolB w g L) :
    Calls Try.prog 21 #[ptr g] w fun r w' => ∃ g', r = .returned (ptr g') ∧ w.heap.size ≤ g' ∧ PoolB w' g' L ∧ Fr noB w w' := by
  obtain ⟨X, HX⟩ : ∃ X, Hid (poolL L = X) := ⟨_, rfl⟩
  have hXl : Hid (X.length = 481) := by show _ = _; rw [← HX.out, poolL_len]
  have hX1 : ∀ v ∈ X, v.oneCell' = true := by rw [← HX.out]; exact poolL_one L
  obtain ⟨Z, HZ⟩ : ∃ Z, Hid (poolL [] = Z) := ⟨_, rfl⟩
  have hZl : Hid (Z.length = 481) := by show _ = _; rw [← HZ.out, poolL_len]
  have hz0 := pool_zero
  rw [HZ.out] at hz0
  unfold PoolB at h ⊢
  rw [HX.out] at h ⊢
  have hl := h.lt
  obtain ⟨d, hu, hd⟩ := pool_under
  go_enter Try.func21, Try.ntmps21
  go_wp2_with (first
    | (with_reducible refine at_wpP ?_; refine at_ld 69 _ rfl ?_; go_must (refine wpList_loadV rfl 69 _ rfl g 0 rfl _ X X d h hu hd (by rw [pool_size, hXl.out]) (by rw [List.drop_zero, List.take_length]) ?_))
    | (with_reducible refine at_wpP ?_; refine wpList_allocV rfl 69 rfl Z hz0 ?_; intro g2 w2 hg2 b2 f2 s2)
    | (with_reducible refine at_wpP ?_; refine at_st 69 _ _ rfl ?_; go_must (refine wpList_storeV rfl 69 _ _ rfl g2 0 rfl X rfl _ _ b2 (by rw [pool_size, hXl.out]) (by rw [hXl.out, hZl.out]; decide) hX1 ?_; intro w3 b3 f3; rw [putAt_all _ _ (by rw [hXl.out, hZl.out])] at b3)))
  go_ret
  exact ⟨g2, rfl, s2, b3, f2.thenT f3 (fun i hi q => by unfold onB1 at q; omega)⟩

theorem pool_places : (Try.prog.fieldsOf 69).toList.mapM (fun f => (Try.prog.info? f.type).map fun i => (f.offset, i.size)) = some [(0, 1), (1, 240), (241, 240)] := by kernel_rfl
theorem pool_struct : Try.prog.underlying 69 = some (.struct (Try.prog.fieldsOf 69)) := by kernel_rfl
theorem built_pool (n : Int) : Try.prog.built 69 [(0, .int .i64 (plN n : Int))] = some (poolL (plNew n)).toArray := by
  rw [built_struct _ _ pool_struct _ pool_zero _ pool_places]
  rw [fill_put _ _ 0 0 1 (.int .i64 (plN n : Int)) [.int .i64 (plN n : Int)] rfl rfl rfl (by rw [poolL_len]; decide)]
  have hl1 : 0 + [Value.int .i64 (plN n : Int)].length ≤ (poolL []).length := by rw [poolL_len]; simp
  unfold Instr.fill
  congr 2
  refine poolL_ext (by rw [putAt_len _ _ _ hl1, poolL_len]) ?_ ?_ ?_
  · rw [plNew_len]; rfl
  · intro j hj
    rw [putAt_get _ _ _ hl1, if_neg (by simp), poolL_cnt _ _ hj, plNew_at]; rfl
  · intro j hj
    rw [putAt_get _ _ _ hl1, if_neg (by simp), poolL_knd _ _ hj, plNew_at]; rfl
section
variable {w : World} {ops : Array Oper} {rest : List Oper} {o : Oper} {a : Act} {Q : Exit → Act → World → Prop}
theorem wpList_buildPool (hgd : Region.wanted o (yielded ops a.tmps) = true) (x : Operand) (ho : o.op = .build 69 #[(0, x)]) (n : Int) (z : Int) (hx : a.eval x = .int .i64 z) (hz : z = (plN n : Int))
    (h : wpList Try.prog ops Q rest (a.put o.dst (.agg (poolL (plNew n)).toArray)) w) : wpList Try.prog ops Q (o :: rest) a w := by
  subst hz
  refine wpList_wanted hgd fun K hK => ?_
  have hrun := run_build (P := Try.prog) w 69 #[(0, .int .i64 (plN n : Int))] _ (built_pool n)
  unfold Oper.wp
  simp [execOp, ho, hx, hrun, Result.andThen]
  exact hK _ _ h
end
set_option maxRecDepth 100000 in
theorem pnew_any (n : Int) (w : World) :
    Calls Try.prog 16 #[.int .i64 n] w fun r w' => ∃ g, r = .returned (ptr g) ∧ w.heap.size ≤ g ∧ PoolB w' g (plNew n) ∧ Fr noB w w' := by
  unfold PoolB
  obtain ⟨X, HX⟩ : ∃ X, Hid (poolL (plNew n) = X) := ⟨_, rfl⟩
  rw [HX.out]
  go_enter Try.func16, Try.ntmps16
  go_wp2_with (first
    | (with_reducible refine at_wpP ?_; refine wpList_buildPool rfl _ rfl n _ rfl ?hz ?_; rotate_left 1; rw [HX.out])
    | (with_reducible refine at_wpP ?_; refine wpList_boxV rfl 69 _ rfl X rfl ?_; intro g1 w1 hg1 b1 f1 s1))
  case hz => unfold plN; omega
  go_ret
  exact ⟨g1, rfl, s1, b1, f1⟩

set_option maxHeartbeats 1000000 in
theorem pfreeN_any {L : List Pg} (hL : plOk L) (g : Nat) (w : World) (h : PoolB w g L) :
    Calls Try.prog 13 #[ptr g] w fun r w' => r = .returned (.int .i64 ((plFree L : Nat) : Int)) ∧ w = w' := by
  have k0 := h.size
  have hl240 := hL.1
  obtain ⟨N, HN⟩ : ∃ N, Hid (plFree L = N) := ⟨_, rfl⟩
  rw [HN.out]
  go_enter Try.func13, Try.ntmps13
  go_wp2
  go_loop [3, 9] (fun u i => ∃ (k : Nat) (m : Nat), k ≤ L.length ∧ i = .int .i64 (k : Int) ∧ u = .int .i64 (m : Int) ∧ Hid (plFree (L.take k) = m)) (fun _ i => L.length - (intOf i).toNat)
  case atStart => exact ⟨0, 0, by omega, rfl, rfl, rfl⟩
  case round =>
    obtain ⟨k, m, hk, rfl, rfl, hm⟩ := hrel
    have hml : m ≤ 240 := by
      have := plFree_le (L.take k)
      rw [hm.out, List.length_take] at this; omega
    by_cases hlt : k < L.length
    · have hs := show Hid _ from plFree_succ L k hlt
      rw [hm.out] at hs
      cases hb : (plAt L k).free with
      | false =>
        rw [hb] at hs
        go_wp2_with (first
          | (go_at_call 27; go_must (refine (pfree_any hL g k (by omega) _ h).mono ?_; rintro e w' ⟨rfl, rfl⟩; rw [hb])))
        go_round
        case rel => exact ⟨k + 1, m, by omega, by go_num, rfl, hs⟩
        case measure => simp [intOf]; omega
      | true =>
        rw [hb] at hs
        go_wp2_with (first
          | (go_at_call 27; go_must (refine (pfree_any hL g k (by omega) _ h).mono ?_; rintro e w' ⟨rfl, rfl⟩; rw [hb])))
        go_round
        case rel => exact ⟨k + 1, m + 1, by omega, by go_num, by go_num, hs⟩
        case measure => simp [intOf]; omega
    · obtain rfl : k = L.length := by omega
      rw [List.take_length] at hm
      obtain rfl : m = N := hm.out.symm.trans HN.out
      go_wp2
      go_ret
      exact ⟨rfl, rfl⟩
end Go.Proofs.Ytmkinaijkgkgiaa
