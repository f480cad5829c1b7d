/- Texts Y2, Y3 of the proof of PruneTrims, one behind the other. -/
import Derived.Test.YtmkinaijkgkgiaaGreatBundlePruneTrims1
import Derived.Test.YtmkinaijkgkgiaaGreatBundlePruneTrims2
import Derived.Test.YtmkinaijkgkgiaaGreatBundlePruneTrims3
import Derived.Test.YtmkinaijkgkgiaaGreatBundlePruneTrims4
import Derived.Test.YtmkinaijkgkgiaaGreatBundlePruneTrims5
import Derived.Test.YtmkinaijkgkgiaaGreatBundlePruneTrims6
import Derived.Test.YtmkinaijkgkgiaaGreatBundlePruneTrims7
import Derived.Test.YtmkinaijkgkgiaaGreatBundlePruneTrims8
/- A pool in memory, cell by cell; its small functions: has, Size, free, Fresh, held, Count, givenUp. -/
namespace Go.Proofs.YtmkinaijkgkgiaaGreat
open Go.RowKit Go.Proofs.U
set_option linter.unusedSimpArgs false
set_option linter.unusedVariables false
def plKinds (L : List Pg) : List Int := (List.range 240).map fun i => ((plAt L i).s : Int)
theorem plKinds_len (L : List Pg) : (plKinds L).length = 240 := by simp [plKinds]
theorem plKinds_at (L : List Pg) (i : Nat) (h : i < 240) : (plKinds L).getD i 0 = ((plAt L i).s : Int) := by simp [plKinds, List.getD, h]
/-- A pool's cells: how many pages, their counts, what they are. -/
def poolL (L : List Pg) : List Value := .int .i64 (L.length : Int) :: (pgv (plCounts L) ++ pgv (plKinds L))
theorem poolL_len (L : List Pg) : (poolL L).length = 481 := by simp [poolL, pgv_len, plCounts_len, plKinds_len]
theorem poolL_size (L : List Pg) : (poolL L)[0]? = some (.int .i64 (L.length : Int)) := rfl
theorem poolL_cnt (L : List Pg) (i : Nat) (h : i < 240) : (poolL L)[1 + i]? = some (.int .u8 (plAt L i).c) := by
  rw [Nat.add_comm]
  unfold poolL
  rw [List.getElem?_cons_succ, List.getElem?_append_left (by rw [pgv_len, plCounts_len]; exact h)]
  simp [pgv, plCounts, h]
theorem poolL_knd (L : List Pg) (i : Nat) (h : i < 240) : (poolL L)[241 + i]? = some (.int .u8 ((plAt L i).s : Int)) := by
  rw [show 241 + i = (240 + i) + 1 by omega]
  unfold poolL
  rw [List.getElem?_cons_succ, List.getElem?_append_right (by rw [pgv_len, plCounts_len]; omega), pgv_len, plCounts_len, Nat.add_sub_cancel_left]
  simp [pgv, plKinds, h]
theorem poolL_ext {cs : List Value} {L : List Pg} (hl : cs.length = 481) (h0 : cs[0]? = some (.int .i64 (L.length : Int))) (h1 : ∀ i, i < 240 → cs[1 + i]? = some (.int .u8 (plAt L i).c)) (h2 : ∀ i, i < 240 → cs[241 + i]? = some (.int .u8 ((plAt L i).s : Int))) : cs = poolL L := by
  refine List.ext_getElem? fun j => ?_
  by_cases hj : j < 481
  · rcases Nat.lt_or_ge j 1 with h | h
    · obtain rfl : j = 0 := by omega
      rw [h0, poolL_size]
    · rcases Nat.lt_or_ge j 241 with h' | h'
      · have e : j = 1 + (j - 1) := by omega
        rw [e, h1 _ (by omega), poolL_cnt _ _ (by omega)]
      · have e : j = 241 + (j - 241) := by omega
        rw [e, h2 _ (by omega), poolL_knd _ _ (by omega)]
  · rw [List.getElem?_eq_none (by omega), List.getElem?_eq_none (by rw [poolL_len]; omega)]
theorem poolL_setK (L : List Pg) (i : Nat) (hi : i < L.length) (h : L.length ≤ 240) (s : Nat) (z : Int) (hz : z = (s : Int)) : (poolL L).set (241 + i) (.int .u8 z) = poolL (L.set i ⟨(plAt L i).c, s⟩) := by
  subst hz
  refine poolL_ext (by rw [List.length_set, poolL_len]) ?_ ?_ ?_
  · rw [List.getElem?_set_ne (by omega), poolL_size, List.length_set]
  · intro j hj
    rw [List.getElem?_set_ne (by omega), poolL_cnt _ _ hj, plAt_set _ _ _ _ hi]
    split
    · rename_i e; subst e; rfl
    · rfl
  · intro j hj
    rw [plAt_set _ _ _ _ hi]
    by_cases e : j = i
    · subst e
      rw [List.getElem?_set_self (by rw [poolL_len]; omega), if_pos rfl]
    · rw [List.getElem?_set_ne (by omega), poolL_knd _ _ hj, if_neg e]
theorem poolL_setC (L : List Pg) (i : Nat) (hi : i < L.length) (h : L.length ≤ 240) (c : Int) : (poolL L).set (1 + i) (.int .u8 c) = poolL (L.set i ⟨c, (plAt L i).s⟩) := by
  refine poolL_ext (by rw [List.length_set, poolL_len]) ?_ ?_ ?_
  · rw [List.getElem?_set_ne (by omega), poolL_size, List.length_set]
  · intro j hj
    rw [plAt_set _ _ _ _ hi]
    by_cases e : j = i
    · subst e
      rw [List.getElem?_set_self (by rw [poolL_len]; omega), if_pos rfl]
    · rw [List.getElem?_set_ne (by omega), poolL_cnt _ _ hj, if_neg e]
  · intro j hj
    rw [List.getElem?_set_ne (by omega), poolL_knd _ _ hj, plAt_set _ _ _ _ hi]
    split
    · rename_i e; subst e; rfl
    · rfl
theorem putAt_get (cs : List Value) (o : Nat) (ds : List Value) (h : o + ds.length ≤ cs.length) (j : Nat) : (putAt cs o ds)[j]? = if o ≤ j ∧ j < o + ds.length then ds[j - o]? else cs[j]? := by
  unfold putAt
  rcases Nat.lt_or_ge j o with h1 | h1
  · rw [if_neg (by omega), List.getElem?_append_left (by simp; omega), List.getElem?_append_left (by simp; omega), List.getElem?_take, if_pos h1]
  · rcases Nat.lt_or_ge j (o + ds.length) with h2 | h2
    · rw [if_pos ⟨h1, h2⟩, List.getElem?_append_left (by simp; omega), List.getElem?_append_right (by simp; omega), List.length_take, Nat.min_eq_left (by omega)]
    · rw [if_neg (by omega), List.getElem?_append_right (by simp; omega), List.getElem?_drop]
      congr 1
      simp; omega
theorem putAt_len (cs : List Value) (o : Nat) (ds : List Value) (h : o + ds.length ≤ cs.length) : (putAt cs o ds).length = cs.length := by
  unfold putAt; simp; omega
theorem plNew_at (n : Int) (i : Nat) : plAt (plNew n) i = Pg0 := by
  unfold plAt plNew
  simp only [List.getD, List.getElem?_replicate]
  split <;> rfl
theorem poolL_kinds (L : List Pg) : ((poolL L).drop 241).take 240 = pgv (plKinds L) := by
  show ((pgv (plCounts L) ++ pgv (plKinds L)).drop 240).take 240 = _
  rw [List.drop_left' (by rw [pgv_len, plCounts_len]), List.take_of_length_le (by rw [pgv_len, plKinds_len]; decide)]
theorem poolL_one (L : List Pg) : ∀ v ∈ poolL L, v.oneCell' = true := by
  intro v hv
  rcases List.mem_cons.1 hv with rfl | hv
  · rfl
  · rcases List.mem_append.1 hv with hv | hv <;> exact pgv_one _ v hv
/-- The pool at block g. -/
abbrev PoolB (w : World) (g : Nat) (L : List Pg) : Prop := BxV w g 88 (poolL L)
theorem PoolB.size {w : World} {g : Nat} {L : List Pg} (h : PoolB w g L) : w.cell? ⟨g, 0, none⟩ = some (.int .i64 (L.length : Int)) := (h.cell 0 _ (poolL_size L)).1
theorem PoolB.cnt {w : World} {g : Nat} {L : List Pg} (h : PoolB w g L) (i : Nat) (hi : i < 240) : w.cell? ⟨g, 1 + i, none⟩ = some (.int .u8 (plAt L i).c) := (h.cell _ _ (poolL_cnt L i hi)).1
theorem PoolB.knd {w : World} {g : Nat} {L : List Pg} (h : PoolB w g L) (i : Nat) (hi : i < 240) : w.cell? ⟨g, 241 + i, none⟩ = some (.int .u8 ((plAt L i).s : Int)) := (h.cell _ _ (poolL_knd L i hi)).1
theorem arr1_counts : Arr1 Tryz.prog 84 5 240 := ⟨by kernel_rfl, by kernel_rfl, by kernel_rfl, by kernel_rfl⟩
theorem arr1_kinds : Arr1 Tryz.prog 86 85 240 := ⟨by kernel_rfl, by kernel_rfl, by kernel_rfl, by kernel_rfl⟩

theorem cast_beq0 (a : Nat) : ((a : Int) == 0) = (a == 0) := by rw [Bool.eq_iff_iff]; simp
theorem cast_beq1 (a : Nat) : ((a : Int) == 1) = (a == 1) := by rw [Bool.eq_iff_iff]; simp; omega
theorem cast_beq2 (a : Nat) : ((a : Int) == 2) = (a == 2) := by rw [Bool.eq_iff_iff]; simp; omega

theorem phas_any {L : List Pg} (g : Nat) (i : Int) (w : World) (h : PoolB w g L) :
    Calls Tryz.prog 91 #[ptr g, .int .i64 i] w fun r w' => r = .returned (.bool (plIn L i)) ∧ w = w' := by
  have k0 := h.size
  by_cases h0 : 0 ≤ i
  · go_enter Tryz.func91, Tryz.ntmps91
    go_wp2
    go_ret
    exact ⟨by simp [h0, plIn], rfl⟩
  · have h1 : decide (0 ≤ i) = false := by simpa using h0
    go_enter Tryz.func91, Tryz.ntmps91
    go_wp2
    go_ret
    exact ⟨by simp [plIn, h1], rfl⟩
theorem psize_any {L : List Pg} (g : Nat) (w : World) (h : PoolB w g L) :
    Calls Tryz.prog 41 #[ptr g] w fun r w' => r = .returned (.int .i64 (L.length : Int)) ∧ w = w' := by
  have k0 := h.size
  go_enter Tryz.func41, Tryz.ntmps41
  go_wp2
  go_ret
  exact ⟨rfl, rfl⟩
theorem pfree_any {L : List Pg} (hL : plOk L) (g : Nat) (i : Nat) (hi : i < 240) (w : World) (h : PoolB w g L) :
    Calls Tryz.prog 43 #[ptr g, .int .i64 (i : Int)] w fun r w' => r = .returned (.bool (plAt L i).free) ∧ w = w' := by
  have k1 := h.cnt i hi
  have k2 := h.knd i hi
  obtain ⟨x, Hx⟩ : ∃ x, Hid (plAt L i = x) := ⟨_, rfl⟩
  rw [Hx.out] at k1 k2 ⊢
  by_cases h0 : x.c = 0
  · rw [h0] at k1
    go_enter Tryz.func43, Tryz.ntmps43
    go_wp2_with (first
      | (refine at_idx 84 _ _ rfl ?_; go_must (refine wpList_idxOff arr1_counts rfl _ _ rfl g 1 rfl .i64 _ i rfl rfl hi ?_))
      | (refine at_idx 86 _ _ rfl ?_; go_must (refine wpList_idxOff arr1_kinds rfl _ _ rfl g 241 rfl .i64 _ i rfl rfl hi ?_)))
    go_ret
    refine ⟨?_, rfl⟩
    unfold Pg.free
    rw [h0]
    simp [cast_beq0]
  · have h0' : (x.c == 0) = false := by simpa using h0
    go_enter Tryz.func43, Tryz.ntmps43
    go_wp2_with (first
      | (refine at_idx 84 _ _ rfl ?_; go_must (refine wpList_idxOff arr1_counts rfl _ _ rfl g 1 rfl .i64 _ i rfl rfl hi ?_)))
    go_ret
    refine ⟨?_, rfl⟩
    unfold Pg.free
    rw [h0']
    rfl
def Pg.frsh (x : Pg) : Bool := x.s == 1 || x.s == 2
def plFresh (L : List Pg) (i : Int) : Bool := plIn L i && (plAt L i.toNat).frsh
def plHeld (L : List Pg) (i : Int) : Bool := plIn L i && (plAt L i.toNat).held
def plCount (L : List Pg) (i : Int) : Int := if plIn L i then (plAt L i.toNat).c else 0
theorem plFresh_nat {L : List Pg} (i : Nat) : plFresh L (i : Int) = (plAt L i).frsh := by
  unfold plFresh plIn
  by_cases h : i < L.length
  · simp [h]
  · rw [Int.toNat_natCast, plAt_out _ _ (by omega)]
    simp [Pg.frsh, Pg0]
theorem pfresh_any {L : List Pg} (hL : plOk L) (g : Nat) (i : Int) (w : World) (h : PoolB w g L) :
    Calls Tryz.prog 70 #[ptr g, .int .i64 i] w fun r w' => r = .returned (.bool (plFresh L i)) ∧ w = w' := by
  unfold plFresh
  cases hin : plIn L i with
  | false =>
    go_enter Tryz.func70, Tryz.ntmps70
    go_wp2_with (first
      | (go_at_call 91; go_must (refine (phas_any g i _ h).mono ?_; rintro e w' ⟨rfl, rfl⟩; rw [hin])))
    go_ret
    exact ⟨rfl, rfl⟩
  | true =>
    obtain ⟨hlt, hi⟩ := plIn_lt hin
    obtain ⟨j, rfl⟩ : ∃ j : Nat, i = (j : Int) := ⟨_, hi.symm⟩
    have hj : j < 240 := by have := hL.1; rw [Int.toNat_natCast] at hlt; omega
    rw [Int.toNat_natCast] at *
    have k2 := h.knd j hj
    obtain ⟨x, Hx⟩ : ∃ x, Hid (plAt L j = x) := ⟨_, rfl⟩
    rw [Hx.out] at k2 ⊢
    by_cases h1 : x.s = 1
    · rw [h1] at k2
      have k2 : w.cell? ⟨g, 241 + j, none⟩ = some (.int .u8 1) := k2
      go_enter Tryz.func70, Tryz.ntmps70
      go_wp2_with (first
        | (go_at_call 91; go_must (refine (phas_any g j _ h).mono ?_; rintro e w' ⟨rfl, rfl⟩; rw [hin]))
        | (refine at_idx 86 _ _ rfl ?_; refine wpList_idxOff arr1_kinds rfl _ _ rfl g 241 rfl .i64 _ j rfl rfl hj ?_))
      go_ret
      exact ⟨by simp [Pg.frsh, h1], rfl⟩
    · have h1' : ((x.s : Int) == 1) = false := by rw [cast_beq1]; simpa using h1
      go_enter Tryz.func70, Tryz.ntmps70
      go_wp2_with (first
        | (go_at_call 91; go_must (refine (phas_any g j _ h).mono ?_; rintro e w' ⟨rfl, rfl⟩; rw [hin]))
        | (refine at_idx 86 _ _ rfl ?_; refine wpList_idxOff arr1_kinds rfl _ _ rfl g 241 rfl .i64 _ j rfl rfl hj ?_))
      go_ret
      exact ⟨by simp [Pg.frsh, h1, cast_beq2], rfl⟩
theorem pheld_any {L : List Pg} (hL : plOk L) (g : Nat) (i : Int) (w : World) (h : PoolB w g L) :
    Calls Tryz.prog 73 #[ptr g, .int .i64 i] w fun r w' => r = .returned (.bool (plHeld L i)) ∧ w = w' := by
  unfold plHeld
  cases hin : plIn L i with
  | false =>
    go_enter Tryz.func73, Tryz.ntmps73
    go_wp2_with (first
      | (go_at_call 91; go_must (refine (phas_any g i _ h).mono ?_; rintro e w' ⟨rfl, rfl⟩; rw [hin])))
    go_ret
    exact ⟨rfl, rfl⟩
  | true =>
    obtain ⟨hlt, hi⟩ := plIn_lt hin
    obtain ⟨j, rfl⟩ : ∃ j : Nat, i = (j : Int) := ⟨_, hi.symm⟩
    have hj : j < 240 := by have := hL.1; rw [Int.toNat_natCast] at hlt; omega
    rw [Int.toNat_natCast] at *
    have k1 := h.cnt j hj
    have hf := pfresh_any hL g (j : Int) w h
    rw [plFresh_nat] at hf
    obtain ⟨x, Hx⟩ : ∃ x, Hid (plAt L j = x) := ⟨_, rfl⟩
    rw [Hx.out] at k1 hf ⊢
    by_cases h1 : x.c = 0
    · rw [h1] at k1
      go_enter Tryz.func73, Tryz.ntmps73
      go_wp2_with (first
        | (go_at_call 91; go_must (refine (phas_any g j _ h).mono ?_; rintro e w' ⟨rfl, rfl⟩; rw [hin]))
        | (go_at_call 70; go_must (refine hf.mono ?_; rintro e w' ⟨rfl, rfl⟩))
        | (refine at_idx 84 _ _ rfl ?_; refine wpList_idxOff arr1_counts rfl _ _ rfl g 1 rfl .i64 _ j rfl rfl hj ?_))
      go_ret
      exact ⟨by simp [Pg.frsh, Pg.held, h1], rfl⟩
    · have h1' : ¬ (x.c = 0) := h1
      go_enter Tryz.func73, Tryz.ntmps73
      go_wp2_with (first
        | (go_at_call 91; go_must (refine (phas_any g j _ h).mono ?_; rintro e w' ⟨rfl, rfl⟩; rw [hin]))
        | (refine at_idx 84 _ _ rfl ?_; refine wpList_idxOff arr1_counts rfl _ _ rfl g 1 rfl .i64 _ j rfl rfl hj ?_))
      go_ret
      exact ⟨by simp [Pg.held, h1], rfl⟩
theorem pcount_any {L : List Pg} (hL : plOk L) (g : Nat) (i : Int) (w : World) (h : PoolB w g L) :
    Calls Tryz.prog 69 #[ptr g, .int .i64 i] w fun r w' => r = .returned (.int .i64 (plCount L i)) ∧ w = w' := by
  unfold plCount
  cases hin : plIn L i with
  | false =>
    go_enter Tryz.func69, Tryz.ntmps69
    go_wp2_with (first
      | (go_at_call 91; go_must (refine (phas_any g i _ h).mono ?_; rintro e w' ⟨rfl, rfl⟩; rw [hin])))
    go_ret
    exact ⟨rfl, rfl⟩
  | true =>
    obtain ⟨hlt, hi⟩ := plIn_lt hin
    obtain ⟨j, rfl⟩ : ∃ j : Nat, i = (j : Int) := ⟨_, hi.symm⟩
    have hj : j < 240 := by have := hL.1; rw [Int.toNat_natCast] at hlt; omega
    rw [Int.toNat_natCast] at *
    have k1 := h.cnt j hj
    have hx := hL.2 j
    obtain ⟨x, Hx⟩ : ∃ x, Hid (plAt L j = x) := ⟨_, rfl⟩
    rw [Hx.out] at k1 hx ⊢
    have hcv : IntKind.i64.wrap x.c = x.c := by rw [IntKind.wrap_i64]; have := hx.1; have := hx.2.1; omega
    go_enter Tryz.func69, Tryz.ntmps69
    go_wp2_with (first
      | (go_at_call 91; go_must (refine (phas_any g j _ h).mono ?_; rintro e w' ⟨rfl, rfl⟩; rw [hin]))
      | (refine at_idx 84 _ _ rfl ?_; go_must (refine wpList_idxOff arr1_counts rfl _ _ rfl g 1 rfl .i64 _ j rfl rfl hj ?_)))
    go_ret
    exact ⟨by simp [hcv], rfl⟩
theorem givenUp_any (s : Nat) (w : World) :
    Calls Tryz.prog 81 #[.int .u8 (s : Int)] w fun r w' => r = .returned (.int .u8 ((dropS s : Nat) : Int)) ∧ w = w' := by
  unfold dropS
  by_cases h1 : s = 1
  · subst h1
    go_enter Tryz.func81, Tryz.ntmps81
    go_wp2
    go_ret
    exact ⟨rfl, rfl⟩
  · by_cases h2 : s = 2
    · subst h2
      go_enter Tryz.func81, Tryz.ntmps81
      go_wp2
      go_ret
      exact ⟨rfl, rfl⟩
    · have h1' : ((s : Int) == 1) = false := by rw [cast_beq1]; simpa using h1
      have h2' : ((s : Int) == 2) = false := by rw [cast_beq2]; simpa using h2
      rw [if_neg h1, if_neg h2]
      clear h1 h2
      go_enter Tryz.func81, Tryz.ntmps81
      go_wp2
      go_ret
      exact ⟨rfl, rfl⟩
end Go.Proofs.YtmkinaijkgkgiaaGreat
/- A pool in memory: Counts, Clone, Commit, New, Free, turn, Mark, Tidy, Take, Hold, Drop, Load. -/
namespace Go.Proofs.YtmkinaijkgkgiaaGreat
open Go.RowKit Go.Proofs.U
set_option linter.unusedSimpArgs false
set_option linter.unusedVariables false
theorem pool_size : (Tryz.prog.info? 88).map (·.size) = some 481 := by kernel_rfl
theorem pool_under : ∃ d, Tryz.prog.underlying 88 = some d ∧ d.isRow = true := ⟨.struct (Tryz.prog.fieldsOf 88), by kernel_rfl, rfl⟩
theorem pool_zero : (Tryz.prog.info? 88).map (·.zero) = some (some (.agg (poolL []).toArray)) := by kernel_rfl
theorem kind_size : (Tryz.prog.info? 85).map (·.size) = some 1 := by kernel_rfl
theorem kinds_size : (Tryz.prog.info? 86).map (·.size) = some 240 := by kernel_rfl

set_option maxRecDepth 100000 in
theorem pclone_any {L : List Pg} (g : Nat) (w : World) (h : PoolB w g L) :
    Calls Tryz.prog 33 #[ptr g] w fun r w' => ∃ g', r = .returned (ptr g') ∧ w.heap.size ≤ g' ∧ PoolB w' g' L ∧ Fr noB w w' := by
  obtain ⟨X, HX⟩ : ∃ X, Hid (poolL L = X) := ⟨_, rfl⟩
  have hXl : Hid (X.length = 481) := by show _ = _; rw [← HX.out, poolL_len]
  have hX1 : ∀ v ∈ X, v.oneCell' = true := by rw [← HX.out]; exact poolL_one L
  obtain ⟨Z, HZ⟩ : ∃ Z, Hid (poolL [] = Z) := ⟨_, rfl⟩
  have hZl : Hid (Z.length = 481) := by show _ = _; rw [← HZ.out, poolL_len]
  have hz0 := pool_zero
  rw [HZ.out] at hz0
  unfold PoolB at h ⊢
  rw [HX.out] at h ⊢
  have hl := h.lt
  obtain ⟨d, hu, hd⟩ := pool_under
  go_enter Tryz.func33, Tryz.ntmps33
  go_wp2_with (first
    | (with_reducible refine at_wpP ?_; refine at_ld 88 _ rfl ?_; go_must (refine wpList_loadV rfl 88 _ rfl g 0 rfl _ X X d h hu hd (by rw [pool_size, hXl.out]) (by rw [List.drop_zero, List.take_length]) ?_))
    | (with_reducible refine at_wpP ?_; refine wpList_allocV rfl 88 rfl Z hz0 ?_; intro g2 w2 hg2 b2 f2 s2)
    | (with_reducible refine at_wpP ?_; refine at_st 88 _ _ rfl ?_; go_must (refine wpList_storeV rfl 88 _ _ rfl g2 0 rfl X rfl _ _ b2 (by rw [pool_size, hXl.out]) (by rw [hXl.out, hZl.out]; decide) hX1 ?_; intro w3 b3 f3; rw [putAt_all _ _ (by rw [hXl.out, hZl.out])] at b3)))
  go_ret
  exact ⟨g2, rfl, s2, b3, f2.thenT f3 (fun i hi q => by unfold onB1 at q; omega)⟩

theorem pool_places : (Tryz.prog.fieldsOf 88).toList.mapM (fun f => (Tryz.prog.info? f.type).map fun i => (f.offset, i.size)) = some [(0, 1), (1, 240), (241, 240)] := by kernel_rfl
theorem pool_struct : Tryz.prog.underlying 88 = some (.struct (Tryz.prog.fieldsOf 88)) := by kernel_rfl
theorem built_pool (n : Int) : Tryz.prog.built 88 [(0, .int .i64 (plN n : Int))] = some (poolL (plNew n)).toArray := by
  rw [built_struct _ _ pool_struct _ pool_zero _ pool_places]
  rw [fill_put _ _ 0 0 1 (.int .i64 (plN n : Int)) [.int .i64 (plN n : Int)] rfl rfl rfl (by rw [poolL_len]; decide)]
  have hl1 : 0 + [Value.int .i64 (plN n : Int)].length ≤ (poolL []).length := by rw [poolL_len]; simp
  unfold Instr.fill
  congr 2
  refine poolL_ext (by rw [putAt_len _ _ _ hl1, poolL_len]) ?_ ?_ ?_
  · rw [plNew_len]; rfl
  · intro j hj
    rw [putAt_get _ _ _ hl1, if_neg (by simp), poolL_cnt _ _ hj, plNew_at]; rfl
  · intro j hj
    rw [putAt_get _ _ _ hl1, if_neg (by simp), poolL_knd _ _ hj, plNew_at]; rfl
section
variable {w : World} {ops : Array Oper} {rest : List Oper} {o : Oper} {a : Act} {Q : Exit → Act → World → Prop}
theorem wpList_buildPool (hgd : Region.wanted o (yielded ops a.tmps) = true) (x : Operand) (ho : o.op = .build 88 #[(0, x)]) (n : Int) (z : Int) (hx : a.eval x = .int .i64 z) (hz : z = (plN n : Int))
    (h : wpList Tryz.prog ops Q rest (a.put o.dst (.agg (poolL (plNew n)).toArray)) w) : wpList Tryz.prog ops Q (o :: rest) a w := by
  subst hz
  refine wpList_wanted hgd fun K hK => ?_
  have hrun := run_build (P := Tryz.prog) w 88 #[(0, .int .i64 (plN n : Int))] _ (built_pool n)
  unfold Oper.wp
  simp [execOp, ho, hx, hrun, Result.andThen]
  exact hK _ _ h
end
set_option maxRecDepth 100000 in
theorem pnew_any (n : Int) (w : World) :
    Calls Tryz.prog 27 #[.int .i64 n] w fun r w' => ∃ g, r = .returned (ptr g) ∧ w.heap.size ≤ g ∧ PoolB w' g (plNew n) ∧ Fr noB w w' := by
  unfold PoolB
  obtain ⟨X, HX⟩ : ∃ X, Hid (poolL (plNew n) = X) := ⟨_, rfl⟩
  rw [HX.out]
  go_enter Tryz.func27, Tryz.ntmps27
  go_wp2_with (first
    | (with_reducible refine at_wpP ?_; refine wpList_buildPool rfl _ rfl n _ rfl ?hz ?_; rotate_left 1; rw [HX.out])
    | (with_reducible refine at_wpP ?_; refine wpList_boxV rfl 88 _ rfl X rfl ?_; intro g1 w1 hg1 b1 f1 s1))
  case hz => unfold plN; omega
  go_ret
  exact ⟨g1, rfl, s1, b1, f1⟩

set_option maxHeartbeats 1000000 in
theorem pfreeN_any {L : List Pg} (hL : plOk L) (g : Nat) (w : World) (h : PoolB w g L) :
    Calls Tryz.prog 20 #[ptr g] w fun r w' => r = .returned (.int .i64 ((plFree L : Nat) : Int)) ∧ w = w' := by
  have k0 := h.size
  have hl240 := hL.1
  obtain ⟨N, HN⟩ : ∃ N, Hid (plFree L = N) := ⟨_, rfl⟩
  rw [HN.out]
  go_enter Tryz.func20, Tryz.ntmps20
  go_wp2
  go_loop [3, 9] (fun u i => ∃ (k : Nat) (m : Nat), k ≤ L.length ∧ i = .int .i64 (k : Int) ∧ u = .int .i64 (m : Int) ∧ Hid (plFree (L.take k) = m)) (fun _ i => L.length - (intOf i).toNat)
  case atStart => exact ⟨0, 0, by omega, rfl, rfl, rfl⟩
  case round =>
    obtain ⟨k, m, hk, rfl, rfl, hm⟩ := hrel
    have hml : m ≤ 240 := by
      have := plFree_le (L.take k)
      rw [hm.out, List.length_take] at this; omega
    by_cases hlt : k < L.length
    · have hs := show Hid _ from plFree_succ L k hlt
      rw [hm.out] at hs
      cases hb : (plAt L k).free with
      | false =>
        rw [hb] at hs
        go_wp2_with (first
          | (go_at_call 43; go_must (refine (pfree_any hL g k (by omega) _ h).mono ?_; rintro e w' ⟨rfl, rfl⟩; rw [hb])))
        go_round
        case rel => exact ⟨k + 1, m, by omega, by go_num, rfl, hs⟩
        case measure => simp [intOf]; omega
      | true =>
        rw [hb] at hs
        go_wp2_with (first
          | (go_at_call 43; go_must (refine (pfree_any hL g k (by omega) _ h).mono ?_; rintro e w' ⟨rfl, rfl⟩; rw [hb])))
        go_round
        case rel => exact ⟨k + 1, m + 1, by omega, by go_num, by go_num, hs⟩
        case measure => simp [intOf]; omega
    · obtain rfl : k = L.length := by omega
      rw [List.take_length] at hm
      obtain rfl : m = N := hm.out.symm.trans HN.out
      go_wp2
      go_ret
      exact ⟨rfl, rfl⟩
def turnP (a b : Nat) (x : Pg) : Pg := if x.s = a then ⟨x.c, b⟩ else x
theorem turnP0 (a b : Nat) (h : a ≠ 0) : turnP a b Pg0 = Pg0 := by unfold turnP; rw [if_neg (fun e => h e.symm)]
theorem plExt {L M : List Pg} (hl : L.length = M.length) (h : ∀ i, i < L.length → plAt L i = plAt M i) : L = M := by
  refine List.ext_getElem hl fun i h1 h2 => ?_
  have := h i h1
  rwa [plAt_get _ _ h1, plAt_get _ _ h2] at this
/-- The first k pages turned. -/
def turnK (a b k : Nat) (L : List Pg) : List Pg := (L.take k).map (turnP a b) ++ L.drop k
theorem turnK_len (a b k : Nat) (L : List Pg) : (turnK a b k L).length = L.length := by
  unfold turnK; rw [List.length_append, List.length_map, ← List.length_append, List.take_append_drop]
theorem turnK_at (a b k : Nat) (L : List Pg) (ha : a ≠ 0) (i : Nat) : plAt (turnK a b k L) i = if i < k then turnP a b (plAt L i) else plAt L i := by
  by_cases hi : i < L.length
  · rw [plAt_get _ _ (by rw [turnK_len]; exact hi), plAt_get _ _ hi]
    unfold turnK
    by_cases hk : i < k
    · rw [if_pos hk, List.getElem_append_left (by simp; omega), List.getElem_map, List.getElem_take]
    · rw [if_neg hk, List.getElem_append_right (by simp; omega), List.getElem_drop]
      congr 1; simp; omega
  · rw [plAt_out _ _ (by rw [turnK_len]; omega), plAt_out _ _ (by omega), turnP0 _ _ ha, ite_self]
theorem turnK_zero (a b : Nat) (L : List Pg) : turnK a b 0 L = L := by simp [turnK]
theorem turnK_all (a b : Nat) (L : List Pg) (h : L.length ≤ 240) : turnK a b 240 L = L.map (turnP a b) := by
  unfold turnK; rw [List.take_of_length_le h, List.drop_of_length_le h, List.append_nil]
theorem turnK_yes (a b k : Nat) (L : List Pg) (ha : a ≠ 0) (hk : k < L.length) (h : (plAt L k).s = a) : (turnK a b k L).set k ⟨(plAt (turnK a b k L) k).c, b⟩ = turnK a b (k + 1) L := by
  refine plExt (by rw [List.length_set, turnK_len, turnK_len]) fun i hi => ?_
  rw [plAt_set _ _ _ _ (by rw [turnK_len]; exact hk), turnK_at _ _ _ _ ha, turnK_at _ _ _ _ ha, turnK_at _ _ _ _ ha, if_neg (Nat.lt_irrefl k)]
  by_cases e : i = k
  · subst e
    rw [if_pos rfl, if_pos (by omega)]
    unfold turnP; rw [if_pos h]
  · rw [if_neg e]
    by_cases h2 : i < k
    · rw [if_pos h2, if_pos (by omega)]
    · rw [if_neg h2, if_neg (by omega)]
theorem turnK_no (a b k : Nat) (L : List Pg) (ha : a ≠ 0) (h : ¬ (plAt L k).s = a) : turnK a b (k + 1) L = turnK a b k L := by
  refine plExt (by rw [turnK_len, turnK_len]) fun i hi => ?_
  rw [turnK_at _ _ _ _ ha, turnK_at _ _ _ _ ha]
  by_cases e : i = k
  · subst e
    rw [if_pos (by omega), if_neg (Nat.lt_irrefl _)]
    unfold turnP; rw [if_neg h]
  · by_cases h2 : i < k
    · rw [if_pos h2, if_pos (by omega)]
    · rw [if_neg h2, if_neg (by omega)]
theorem run_index1 {P : Program} {t e : TypeId} {n : Nat} (T : Arr1 P t e n) (k : IntKind) (he : P.underlying e = some (.int k)) (w : World) (p : List Int) (hl : p.length = n) (i : Nat) (hi : i < n) : (Instr.index t (.agg (p.map (Value.int k)).toArray) (.int .i64 (i : Int))).run P w = .ok (.int k (p.getD i 0)) w := by
  obtain ⟨ii, hii, hs⟩ := Option.map_eq_some_iff.1 T.size
  have hgi : p[i]? = some (p.getD i 0) := by simp [List.getD, show i < p.length by omega]
  generalize p.getD i 0 = y at hgi
  simp [Instr.index, asIntOf, run_underlying T.und, run_underlying he, part, isAgg, sizeOf, typeInfo, hii, hs, go_sem, hi, hgi]
theorem wpList_indexK {w : World} {ops : Array Oper} {rest : List Oper} {o : Oper} {a : Act} {Q : Exit → Act → World → Prop} {t e : TypeId} {n : Nat} (T : Arr1 Tryz.prog t e n) (he : Tryz.prog.underlying e = some (.int .u8)) (hgd : Region.wanted o (yielded ops a.tmps) = true) (x y : Operand) (ho : o.op = .index t x y) (p : List Int) (hx : a.eval x = pgV p) (hl : p.length = n) (i : Nat) (hy : a.eval y = .int .i64 (i : Int)) (hi : i < n)
    (h : wpList Tryz.prog ops Q rest (a.put o.dst (.int .u8 (p.getD i 0))) w) : wpList Tryz.prog ops Q (o :: rest) a w := by
  refine wpList_wanted hgd fun K hK => ?_
  have hrun := run_index1 T .u8 he w p hl i hi
  unfold pgV pgv at hx
  unfold Oper.wp
  simp [execOp, ho, hx, hy, hrun, Result.andThen]
  exact hK _ _ h
theorem cast_inj {a b : Nat} (h : ¬ a = b) : ((a : Int) == (b : Int)) = false := by simp; omega
set_option maxRecDepth 100000 in
set_option maxHeartbeats 1000000 in
theorem pturn_any {L : List Pg} (hL : plOk L) (g a b : Nat) (ha : a ≠ 0) (w : World) (h : PoolB w g L) :
    Calls Tryz.prog 61 #[ptr g, .int .u8 (a : Int), .int .u8 (b : Int)] w fun r w' => r = .returned (.tuple #[]) ∧ PoolB w' g (L.map (turnP a b)) ∧ Fr (onB1 g) w w' := by
  have hl240 := hL.1
  obtain ⟨M, HM⟩ : ∃ M, Hid (L.map (turnP a b) = M) := ⟨_, rfl⟩
  rw [HM.out]
  obtain ⟨c, Hc⟩ : ∃ c, Hid (plKinds L = c) := ⟨_, rfl⟩
  have hcl : Hid (c.length = 240) := by show _ = _; rw [← Hc.out, plKinds_len]
  have hds := show Hid _ from poolL_kinds L
  rw [Hc.out] at hds
  have hca : ∀ i, i < 240 → Hid (c.getD i 0 = ((plAt L i).s : Int)) := fun i hi => by show _ = _; rw [← Hc.out, plKinds_at _ _ hi]
  go_enter Tryz.func61, Tryz.ntmps61
  go_wp2_with (first
    | (with_reducible refine at_wpP ?_; refine at_ld 86 _ rfl ?_; go_must (refine wpList_loadV rfl 86 _ rfl g 241 rfl _ _ (pgv c) _ h arr1_kinds.und rfl (by rw [kinds_size, pgv_len, hcl.out]) (by rw [pgv_len, hcl.out]; exact hds.out) ?_)))
  go_loopw [12] (fun i wr => ∃ (k : Nat), k ≤ 240 ∧ i = .int .i64 (k : Int) ∧ PoolB wr g (turnK a b k L) ∧ Fr (onB1 g) w wr) (fun i _ => 240 - (intOf i).toNat)
  case atStart => exact ⟨0, by omega, rfl, by rw [turnK_zero]; exact h, Fr.refl _ _⟩
  case round =>
    obtain ⟨k, hk, rfl, hb, hf⟩ := hrel
    by_cases hlt : k < 240
    · have hck := hca k hlt
      by_cases hs : (plAt L k).s = a
      · rw [hs] at hck
        have hkl : k < L.length := by
          by_cases q : k < L.length
          · exact q
          · rw [plAt_out _ _ (by omega)] at hs; exact absurd hs.symm ha
        have hst := show Hid _ from poolL_setK (turnK a b k L) k (by rw [turnK_len]; exact hkl) (by rw [turnK_len]; exact hl240) b (b : Int) rfl
        rw [turnK_yes a b k L ha hkl hs] at hst
        obtain ⟨X, HX⟩ : ∃ X, Hid (poolL (turnK a b k L) = X) := ⟨_, rfl⟩
        have hXl : Hid (X.length = 481) := by show _ = _; rw [← HX.out, poolL_len]
        unfold PoolB at hb
        rw [HX.out] at hb hst
        clear hs
        go_wp2_with (first
          | (refine at_index 86 _ _ rfl ?_; go_must (refine wpList_indexK arr1_kinds Tryz.underlying85 rfl _ _ rfl c rfl hcl.out k rfl hlt ?_; rw [hck.out]))
          | (refine at_idx 86 _ _ rfl ?_; go_must (refine wpList_idxOff arr1_kinds rfl _ _ rfl g 241 rfl .i64 _ k rfl rfl hlt ?_))
          | (with_reducible refine at_wpP ?_; refine at_st 85 _ _ rfl ?_; go_must (refine wpList_store1 rfl 85 _ _ rfl g (241 + k) rfl (.int .u8 (b : Int)) rfl rfl _ _ hb kind_size (by rw [hXl.out]; omega) ?_; intro w1 b1 f1; rw [hst.out] at b1; have F1 := hf.trans f1)))
        go_roundw
        case rel => exact ⟨k + 1, by omega, by go_num, b1, F1⟩
        case measure => simp [intOf]; omega
      · have hs' := cast_inj hs
        have hno := show Hid _ from turnK_no a b k L ha hs
        clear hs
        obtain ⟨y, Hy⟩ : ∃ y, Hid (((plAt L k).s : Int) = y) := ⟨_, rfl⟩
        rw [Hy.out] at hck hs'
        go_wp2_with (first
          | (refine at_index 86 _ _ rfl ?_; go_must (refine wpList_indexK arr1_kinds Tryz.underlying85 rfl _ _ rfl c rfl hcl.out k rfl hlt ?_; rw [hck.out])))
        go_roundw
        case rel => exact ⟨k + 1, by omega, by go_num, by rw [hno.out]; exact hb, hf⟩
        case measure => simp [intOf]; omega
    · obtain rfl : k = 240 := by omega
      rw [turnK_all a b L hl240, HM.out] at hb
      go_wp2
      go_end0
      exact ⟨rfl, hb, hf⟩
theorem pmark_any {L : List Pg} (hL : plOk L) (g : Nat) (w : World) (h : PoolB w g L) :
    Calls Tryz.prog 42 #[ptr g] w fun r w' => ∃ g', r = .returned (ptr g') ∧ w.heap.size ≤ g' ∧ PoolB w' g' (plMark L) ∧ PoolB w' g (plMark L) ∧ Fr (onB1 g) w w' := by
  have ht := fun w h => pturn_any hL g 1 2 (by decide) w h
  change ∀ w h, Calls Tryz.prog _ _ w (fun r w' => r = .returned (.tuple #[]) ∧ PoolB w' g (plMark L) ∧ Fr (onB1 g) w w') at ht
  go_enter Tryz.func42, Tryz.ntmps42
  go_wp2_with (first
    | (go_at_call 61; go_must (refine (ht _ h).mono ?_; rintro e w1 ⟨rfl, b1, f1⟩))
    | (go_at_call 33; go_must (refine (pclone_any g _ b1).mono ?_; rintro e w2 ⟨g2, rfl, s2, b2, f2⟩)))
  go_ret
  have := f1.size
  exact ⟨g2, rfl, by omega, b2, b1.fr0 f2, f1.thenN f2⟩
theorem ptidy_any {L : List Pg} (hL : plOk L) (g : Nat) (w : World) (h : PoolB w g L) :
    Calls Tryz.prog 38 #[ptr g] w fun r w' => r = .returned (.tuple #[]) ∧ PoolB w' g (plTidy L) ∧ Fr (onB1 g) w w' := by
  have ht := fun w h => pturn_any hL g 3 0 (by decide) w h
  change ∀ w h, Calls Tryz.prog _ _ w (fun r w' => r = .returned (.tuple #[]) ∧ PoolB w' g (plTidy L) ∧ Fr (onB1 g) w w') at ht
  go_enter Tryz.func38, Tryz.ntmps38
  go_wp2_with (first
    | (go_at_call 61; go_must (refine (ht _ h).mono ?_; rintro e w1 ⟨rfl, b1, f1⟩)))
  go_end0
  exact ⟨rfl, b1, f1⟩
end Go.Proofs.YtmkinaijkgkgiaaGreat
