/- Texts Y2, Y3, Y4 of the proof of TreeSplits, one behind the other. -/
import Derived.Test.YtkhdniccnefdhaaBundleTreeSplits1
import Derived.Test.YtkhdniccnefdhaaBundleTreeSplits2
import Derived.Test.YtkhdniccnefdhaaBundleTreeSplits3
import Derived.Test.YtkhdniccnefdhaaBundleTreeSplits4
import Derived.Test.YtkhdniccnefdhaaBundleTreeSplits5
import Derived.Test.YtkhdniccnefdhaaBundleTreeSplits6
import Derived.Test.YtkhdniccnefdhaaBundleTreeSplits7
import Derived.Test.YtkhdniccnefdhaaBundleTreeSplits8
/- A pool in memory, cell by cell; its small functions: has, Size, free, Fresh, held, Count, givenUp. -/
namespace Go.Proofs.Ytkhdniccnefdhaa
open Go.RowKit Go.Proofs.U
set_option linter.unusedSimpArgs false
set_option linter.unusedVariables false
def plKinds (L : List Pg) : List Int := (List.range 240).map fun i => ((plAt L i).s : Int)
theorem plKinds_len (L : List Pg) : (plKinds L).length = 240 := by simp [plKinds]
/-- A pool's cells: how many pages, their counts, what they are. -/
def poolL (L : List Pg) : List Value := .int .i64 (L.length : Int) :: (pgv (plCounts L) ++ pgv (plKinds L))
theorem poolL_len (L : List Pg) : (poolL L).length = 481 := by simp [poolL, pgv_len, plCounts_len, plKinds_len]
theorem poolL_size (L : List Pg) : (poolL L)[0]? = some (.int .i64 (L.length : Int)) := rfl
theorem poolL_cnt (L : List Pg) (i : Nat) (h : i < 240) : (poolL L)[1 + i]? = some (.int .u8 (plAt L i).c) := by
  rw [Nat.add_comm]
  unfold poolL
  rw [List.getElem?_cons_succ, List.getElem?_append_left (by rw [pgv_len, plCounts_len]; exact h)]
  simp [pgv, plCounts, h]
theorem poolL_knd (L : List Pg) (i : Nat) (h : i < 240) : (poolL L)[241 + i]? = some (.int .u8 ((plAt L i).s : Int)) := by
  rw [show 241 + i = (240 + i) + 1 by omega]
  unfold poolL
  rw [List.getElem?_cons_succ, List.getElem?_append_right (by rw [pgv_len, plCounts_len]; omega), pgv_len, plCounts_len, Nat.add_sub_cancel_left]
  simp [pgv, plKinds, h]
theorem poolL_ext {cs : List Value} {L : List Pg} (hl : cs.length = 481) (h0 : cs[0]? = some (.int .i64 (L.length : Int))) (h1 : ∀ i, i < 240 → cs[1 + i]? = some (.int .u8 (plAt L i).c)) (h2 : ∀ i, i < 240 → cs[241 + i]? = some (.int .u8 ((plAt L i).s : Int))) : cs = poolL L := by
  refine List.ext_getElem? fun j => ?_
  by_cases hj : j < 481
  · rcases Nat.lt_or_ge j 1 with h | h
    · obtain rfl : j = 0 := by omega
      rw [h0, poolL_size]
    · rcases Nat.lt_or_ge j 241 with h' | h'
      · have e : j = 1 + (j - 1) := by omega
        rw [e, h1 _ (by omega), poolL_cnt _ _ (by omega)]
      · have e : j = 241 + (j - 241) := by omega
        rw [e, h2 _ (by omega), poolL_knd _ _ (by omega)]
  · rw [List.getElem?_eq_none (by omega), List.getElem?_eq_none (by rw [poolL_len]; omega)]
theorem poolL_setK (L : List Pg) (i : Nat) (hi : i < L.length) (h : L.length ≤ 240) (s : Nat) (z : Int) (hz : z = (s : Int)) : (poolL L).set (241 + i) (.int .u8 z) = poolL (L.set i ⟨(plAt L i).c, s⟩) := by
  subst hz
  refine poolL_ext (by rw [List.length_set, poolL_len]) ?_ ?_ ?_
  · rw [List.getElem?_set_ne (by omega), poolL_size, List.length_set]
  · intro j hj
    rw [List.getElem?_set_ne (by omega), poolL_cnt _ _ hj, plAt_set _ _ _ _ hi]
    split
    · rename_i e; subst e; rfl
    · rfl
  · intro j hj
    rw [plAt_set _ _ _ _ hi]
    by_cases e : j = i
    · subst e
      rw [List.getElem?_set_self (by rw [poolL_len]; omega), if_pos rfl]
    · rw [List.getElem?_set_ne (by omega), poolL_knd _ _ hj, if_neg e]
theorem poolL_setC (L : List Pg) (i : Nat) (hi : i < L.length) (h : L.length ≤ 240) (c : Int) : (poolL L).set (1 + i) (.int .u8 c) = poolL (L.set i ⟨c, (plAt L i).s⟩) := by
  refine poolL_ext (by rw [List.length_set, poolL_len]) ?_ ?_ ?_
  · rw [List.getElem?_set_ne (by omega), poolL_size, List.length_set]
  · intro j hj
    rw [plAt_set _ _ _ _ hi]
    by_cases e : j = i
    · subst e
      rw [List.getElem?_set_self (by rw [poolL_len]; omega), if_pos rfl]
    · rw [List.getElem?_set_ne (by omega), poolL_cnt _ _ hj, if_neg e]
  · intro j hj
    rw [List.getElem?_set_ne (by omega), poolL_knd _ _ hj, plAt_set _ _ _ _ hi]
    split
    · rename_i e; subst e; rfl
    · rfl
theorem putAt_get (cs : List Value) (o : Nat) (ds : List Value) (h : o + ds.length ≤ cs.length) (j : Nat) : (putAt cs o ds)[j]? = if o ≤ j ∧ j < o + ds.length then ds[j - o]? else cs[j]? := by
  unfold putAt
  rcases Nat.lt_or_ge j o with h1 | h1
  · rw [if_neg (by omega), List.getElem?_append_left (by simp; omega), List.getElem?_append_left (by simp; omega), List.getElem?_take, if_pos h1]
  · rcases Nat.lt_or_ge j (o + ds.length) with h2 | h2
    · rw [if_pos ⟨h1, h2⟩, List.getElem?_append_left (by simp; omega), List.getElem?_append_right (by simp; omega), List.length_take, Nat.min_eq_left (by omega)]
    · rw [if_neg (by omega), List.getElem?_append_right (by simp; omega), List.getElem?_drop]
      congr 1
      simp; omega
theorem putAt_len (cs : List Value) (o : Nat) (ds : List Value) (h : o + ds.length ≤ cs.length) : (putAt cs o ds).length = cs.length := by
  unfold putAt; simp; omega
theorem plNew_at (n : Int) (i : Nat) : plAt (plNew n) i = Pg0 := by
  unfold plAt plNew
  simp only [List.getD, List.getElem?_replicate]
  split <;> rfl
/-- The pool at block g. -/
abbrev PoolB (w : World) (g : Nat) (L : List Pg) : Prop := BxV w g 72 (poolL L)
theorem PoolB.size {w : World} {g : Nat} {L : List Pg} (h : PoolB w g L) : w.cell? ⟨g, 0, none⟩ = some (.int .i64 (L.length : Int)) := (h.cell 0 _ (poolL_size L)).1
theorem PoolB.cnt {w : World} {g : Nat} {L : List Pg} (h : PoolB w g L) (i : Nat) (hi : i < 240) : w.cell? ⟨g, 1 + i, none⟩ = some (.int .u8 (plAt L i).c) := (h.cell _ _ (poolL_cnt L i hi)).1
theorem PoolB.knd {w : World} {g : Nat} {L : List Pg} (h : PoolB w g L) (i : Nat) (hi : i < 240) : w.cell? ⟨g, 241 + i, none⟩ = some (.int .u8 ((plAt L i).s : Int)) := (h.cell _ _ (poolL_knd L i hi)).1
theorem arr1_counts : Arr1 Try.prog 68 5 240 := ⟨by kernel_rfl, by kernel_rfl, by kernel_rfl, by kernel_rfl⟩
theorem arr1_kinds : Arr1 Try.prog 70 69 240 := ⟨by kernel_rfl, by kernel_rfl, by kernel_rfl, by kernel_rfl⟩

theorem cast_beq0 (a : Nat) : ((a : Int) == 0) = (a == 0) := by rw [Bool.eq_iff_iff]; simp
theorem cast_beq1 (a : Nat) : ((a : Int) == 1) = (a == 1) := by rw [Bool.eq_iff_iff]; simp; omega
theorem cast_beq2 (a : Nat) : ((a : Int) == 2) = (a == 2) := by rw [Bool.eq_iff_iff]; simp; omega

theorem phas_any {L : List Pg} (g : Nat) (i : Int) (w : World) (h : PoolB w g L) :
    Calls Try.prog 68 #[ptr g, .int .i64 i] w fun r w' => r = .returned (.bool (plIn L i)) ∧ w = w' := by
  have k0 := h.size
  by_cases h0 : 0 ≤ i
  · go_enter Try.func68, Try.ntmps68
    go_wp2
    go_ret
    exact ⟨by simp [h0, plIn], rfl⟩
  · have h1 : decide (0 ≤ i) = false := by simpa using h0
    go_enter Try.func68, Try.ntmps68
    go_wp2
    go_ret
    exact ⟨by simp [plIn, h1], rfl⟩
theorem pfree_any {L : List Pg} (hL : plOk L) (g : Nat) (i : Nat) (hi : i < 240) (w : World) (h : PoolB w g L) :
    Calls Try.prog 32 #[ptr g, .int .i64 (i : Int)] w fun r w' => r = .returned (.bool (plAt L i).free) ∧ w = w' := by
  have k1 := h.cnt i hi
  have k2 := h.knd i hi
  obtain ⟨x, Hx⟩ : ∃ x, Hid (plAt L i = x) := ⟨_, rfl⟩
  rw [Hx.out] at k1 k2 ⊢
  by_cases h0 : x.c = 0
  · rw [h0] at k1
    go_enter Try.func32, Try.ntmps32
    go_wp2_with (first
      | (refine at_idx 68 _ _ rfl ?_; go_must (refine wpList_idxOff arr1_counts rfl _ _ rfl g 1 rfl .i64 _ i rfl rfl hi ?_))
      | (refine at_idx 70 _ _ rfl ?_; go_must (refine wpList_idxOff arr1_kinds rfl _ _ rfl g 241 rfl .i64 _ i rfl rfl hi ?_)))
    go_ret
    refine ⟨?_, rfl⟩
    unfold Pg.free
    rw [h0]
    simp [cast_beq0]
  · have h0' : (x.c == 0) = false := by simpa using h0
    go_enter Try.func32, Try.ntmps32
    go_wp2_with (first
      | (refine at_idx 68 _ _ rfl ?_; go_must (refine wpList_idxOff arr1_counts rfl _ _ rfl g 1 rfl .i64 _ i rfl rfl hi ?_)))
    go_ret
    refine ⟨?_, rfl⟩
    unfold Pg.free
    rw [h0']
    rfl
def Pg.frsh (x : Pg) : Bool := x.s == 1 || x.s == 2
def plFresh (L : List Pg) (i : Int) : Bool := plIn L i && (plAt L i.toNat).frsh
def plHeld (L : List Pg) (i : Int) : Bool := plIn L i && (plAt L i.toNat).held
def plCount (L : List Pg) (i : Int) : Int := if plIn L i then (plAt L i.toNat).c else 0
theorem plFresh_nat {L : List Pg} (i : Nat) : plFresh L (i : Int) = (plAt L i).frsh := by
  unfold plFresh plIn
  by_cases h : i < L.length
  · simp [h]
  · rw [Int.toNat_natCast, plAt_out _ _ (by omega)]
    simp [Pg.frsh, Pg0]
theorem pfresh_any {L : List Pg} (hL : plOk L) (g : Nat) (i : Int) (w : World) (h : PoolB w g L) :
    Calls Try.prog 52 #[ptr g, .int .i64 i] w fun r w' => r = .returned (.bool (plFresh L i)) ∧ w = w' := by
  unfold plFresh
  cases hin : plIn L i with
  | false =>
    go_enter Try.func52, Try.ntmps52
    go_wp2_with (first
      | (go_at_call 68; go_must (refine (phas_any g i _ h).mono ?_; rintro e w' ⟨rfl, rfl⟩; rw [hin])))
    go_ret
    exact ⟨rfl, rfl⟩
  | true =>
    obtain ⟨hlt, hi⟩ := plIn_lt hin
    obtain ⟨j, rfl⟩ : ∃ j : Nat, i = (j : Int) := ⟨_, hi.symm⟩
    have hj : j < 240 := by have := hL.1; rw [Int.toNat_natCast] at hlt; omega
    rw [Int.toNat_natCast] at *
    have k2 := h.knd j hj
    obtain ⟨x, Hx⟩ : ∃ x, Hid (plAt L j = x) := ⟨_, rfl⟩
    rw [Hx.out] at k2 ⊢
    by_cases h1 : x.s = 1
    · rw [h1] at k2
      have k2 : w.cell? ⟨g, 241 + j, none⟩ = some (.int .u8 1) := k2
      go_enter Try.func52, Try.ntmps52
      go_wp2_with (first
        | (go_at_call 68; go_must (refine (phas_any g j _ h).mono ?_; rintro e w' ⟨rfl, rfl⟩; rw [hin]))
        | (refine at_idx 70 _ _ rfl ?_; refine wpList_idxOff arr1_kinds rfl _ _ rfl g 241 rfl .i64 _ j rfl rfl hj ?_))
      go_ret
      exact ⟨by simp [Pg.frsh, h1], rfl⟩
    · have h1' : ((x.s : Int) == 1) = false := by rw [cast_beq1]; simpa using h1
      go_enter Try.func52, Try.ntmps52
      go_wp2_with (first
        | (go_at_call 68; go_must (refine (phas_any g j _ h).mono ?_; rintro e w' ⟨rfl, rfl⟩; rw [hin]))
        | (refine at_idx 70 _ _ rfl ?_; refine wpList_idxOff arr1_kinds rfl _ _ rfl g 241 rfl .i64 _ j rfl rfl hj ?_))
      go_ret
      exact ⟨by simp [Pg.frsh, h1, cast_beq2], rfl⟩
theorem pheld_any {L : List Pg} (hL : plOk L) (g : Nat) (i : Int) (w : World) (h : PoolB w g L) :
    Calls Try.prog 61 #[ptr g, .int .i64 i] w fun r w' => r = .returned (.bool (plHeld L i)) ∧ w = w' := by
  unfold plHeld
  cases hin : plIn L i with
  | false =>
    go_enter Try.func61, Try.ntmps61
    go_wp2_with (first
      | (go_at_call 68; go_must (refine (phas_any g i _ h).mono ?_; rintro e w' ⟨rfl, rfl⟩; rw [hin])))
    go_ret
    exact ⟨rfl, rfl⟩
  | true =>
    obtain ⟨hlt, hi⟩ := plIn_lt hin
    obtain ⟨j, rfl⟩ : ∃ j : Nat, i = (j : Int) := ⟨_, hi.symm⟩
    have hj : j < 240 := by have := hL.1; rw [Int.toNat_natCast] at hlt; omega
    rw [Int.toNat_natCast] at *
    have k1 := h.cnt j hj
    have hf := pfresh_any hL g (j : Int) w h
    rw [plFresh_nat] at hf
    obtain ⟨x, Hx⟩ : ∃ x, Hid (plAt L j = x) := ⟨_, rfl⟩
    rw [Hx.out] at k1 hf ⊢
    by_cases h1 : x.c = 0
    · rw [h1] at k1
      go_enter Try.func61, Try.ntmps61
      go_wp2_with (first
        | (go_at_call 68; go_must (refine (phas_any g j _ h).mono ?_; rintro e w' ⟨rfl, rfl⟩; rw [hin]))
        | (go_at_call 52; go_must (refine hf.mono ?_; rintro e w' ⟨rfl, rfl⟩))
        | (refine at_idx 68 _ _ rfl ?_; refine wpList_idxOff arr1_counts rfl _ _ rfl g 1 rfl .i64 _ j rfl rfl hj ?_))
      go_ret
      exact ⟨by simp [Pg.frsh, Pg.held, h1], rfl⟩
    · have h1' : ¬ (x.c = 0) := h1
      go_enter Try.func61, Try.ntmps61
      go_wp2_with (first
        | (go_at_call 68; go_must (refine (phas_any g j _ h).mono ?_; rintro e w' ⟨rfl, rfl⟩; rw [hin]))
        | (refine at_idx 68 _ _ rfl ?_; refine wpList_idxOff arr1_counts rfl _ _ rfl g 1 rfl .i64 _ j rfl rfl hj ?_))
      go_ret
      exact ⟨by simp [Pg.held, h1], rfl⟩
theorem pcount_any {L : List Pg} (hL : plOk L) (g : Nat) (i : Int) (w : World) (h : PoolB w g L) :
    Calls Try.prog 51 #[ptr g, .int .i64 i] w fun r w' => r = .returned (.int .i64 (plCount L i)) ∧ w = w' := by
  unfold plCount
  cases hin : plIn L i with
  | false =>
    go_enter Try.func51, Try.ntmps51
    go_wp2_with (first
      | (go_at_call 68; go_must (refine (phas_any g i _ h).mono ?_; rintro e w' ⟨rfl, rfl⟩; rw [hin])))
    go_ret
    exact ⟨rfl, rfl⟩
  | true =>
    obtain ⟨hlt, hi⟩ := plIn_lt hin
    obtain ⟨j, rfl⟩ : ∃ j : Nat, i = (j : Int) := ⟨_, hi.symm⟩
    have hj : j < 240 := by have := hL.1; rw [Int.toNat_natCast] at hlt; omega
    rw [Int.toNat_natCast] at *
    have k1 := h.cnt j hj
    have hx := hL.2 j
    obtain ⟨x, Hx⟩ : ∃ x, Hid (plAt L j = x) := ⟨_, rfl⟩
    rw [Hx.out] at k1 hx ⊢
    have hcv : IntKind.i64.wrap x.c = x.c := by rw [IntKind.wrap_i64]; have := hx.1; have := hx.2.1; omega
    go_enter Try.func51, Try.ntmps51
    go_wp2_with (first
      | (go_at_call 68; go_must (refine (phas_any g j _ h).mono ?_; rintro e w' ⟨rfl, rfl⟩; rw [hin]))
      | (refine at_idx 68 _ _ rfl ?_; go_must (refine wpList_idxOff arr1_counts rfl _ _ rfl g 1 rfl .i64 _ j rfl rfl hj ?_)))
    go_ret
    exact ⟨by simp [hcv], rfl⟩
theorem givenUp_any (s : Nat) (w : World) :
    Calls Try.prog 67 #[.int .u8 (s : Int)] w fun r w' => r = .returned (.int .u8 ((dropS s : Nat) : Int)) ∧ w = w' := by
  unfold dropS
  by_cases h1 : s = 1
  · subst h1
    go_enter Try.func67, Try.ntmps67
    go_wp2
    go_ret
    exact ⟨rfl, rfl⟩
  · by_cases h2 : s = 2
    · subst h2
      go_enter Try.func67, Try.ntmps67
      go_wp2
      go_ret
      exact ⟨rfl, rfl⟩
    · have h1' : ((s : Int) == 1) = false := by rw [cast_beq1]; simpa using h1
      have h2' : ((s : Int) == 2) = false := by rw [cast_beq2]; simpa using h2
      rw [if_neg h1, if_neg h2]
      clear h1 h2
      go_enter Try.func67, Try.ntmps67
      go_wp2
      go_ret
      exact ⟨rfl, rfl⟩
end Go.Proofs.Ytkhdniccnefdhaa
/- A pool in memory: Counts, Clone, Commit, New, Free, turn, Mark, Tidy, Take, Hold, Drop, Load. -/
namespace Go.Proofs.Ytkhdniccnefdhaa
open Go.RowKit Go.Proofs.U
set_option linter.unusedSimpArgs false
set_option linter.unusedVariables false
theorem pool_zero : (Try.prog.info? 72).map (·.zero) = some (some (.agg (poolL []).toArray)) := by kernel_rfl
theorem kind_size : (Try.prog.info? 69).map (·.size) = some 1 := by kernel_rfl
theorem pool_places : (Try.prog.fieldsOf 72).toList.mapM (fun f => (Try.prog.info? f.type).map fun i => (f.offset, i.size)) = some [(0, 1), (1, 240), (241, 240)] := by kernel_rfl
theorem pool_struct : Try.prog.underlying 72 = some (.struct (Try.prog.fieldsOf 72)) := by kernel_rfl
theorem built_pool (n : Int) : Try.prog.built 72 [(0, .int .i64 (plN n : Int))] = some (poolL (plNew n)).toArray := by
  rw [built_struct _ _ pool_struct _ pool_zero _ pool_places]
  rw [fill_put _ _ 0 0 1 (.int .i64 (plN n : Int)) [.int .i64 (plN n : Int)] rfl rfl rfl (by rw [poolL_len]; decide)]
  have hl1 : 0 + [Value.int .i64 (plN n : Int)].length ≤ (poolL []).length := by rw [poolL_len]; simp
  unfold Instr.fill
  congr 2
  refine poolL_ext (by rw [putAt_len _ _ _ hl1, poolL_len]) ?_ ?_ ?_
  · rw [plNew_len]; rfl
  · intro j hj
    rw [putAt_get _ _ _ hl1, if_neg (by simp), poolL_cnt _ _ hj, plNew_at]; rfl
  · intro j hj
    rw [putAt_get _ _ _ hl1, if_neg (by simp), poolL_knd _ _ hj, plNew_at]; rfl
section
variable {w : World} {ops : Array Oper} {rest : List Oper} {o : Oper} {a : Act} {Q : Exit → Act → World → Prop}
theorem wpList_buildPool (hgd : Region.wanted o (yielded ops a.tmps) = true) (x : Operand) (ho : o.op = .build 72 #[(0, x)]) (n : Int) (z : Int) (hx : a.eval x = .int .i64 z) (hz : z = (plN n : Int))
    (h : wpList Try.prog ops Q rest (a.put o.dst (.agg (poolL (plNew n)).toArray)) w) : wpList Try.prog ops Q (o :: rest) a w := by
  subst hz
  refine wpList_wanted hgd fun K hK => ?_
  have hrun := run_build (P := Try.prog) w 72 #[(0, .int .i64 (plN n : Int))] _ (built_pool n)
  unfold Oper.wp
  simp [execOp, ho, hx, hrun, Result.andThen]
  exact hK _ _ h
end
set_option maxRecDepth 100000 in
theorem pnew_any (n : Int) (w : World) :
    Calls Try.prog 24 #[.int .i64 n] w fun r w' => ∃ g, r = .returned (ptr g) ∧ w.heap.size ≤ g ∧ PoolB w' g (plNew n) ∧ Fr noB w w' := by
  unfold PoolB
  obtain ⟨X, HX⟩ : ∃ X, Hid (poolL (plNew n) = X) := ⟨_, rfl⟩
  rw [HX.out]
  go_enter Try.func24, Try.ntmps24
  go_wp2_with (first
    | (with_reducible refine at_wpP ?_; refine wpList_buildPool rfl _ rfl n _ rfl ?hz ?_; rotate_left 1; rw [HX.out])
    | (with_reducible refine at_wpP ?_; refine wpList_boxV rfl 72 _ rfl X rfl ?_; intro g1 w1 hg1 b1 f1 s1))
  case hz => unfold plN; omega
  go_ret
  exact ⟨g1, rfl, s1, b1, f1⟩

end Go.Proofs.Ytkhdniccnefdhaa
/- A pool in memory: Take, Hold, Drop, Load. -/
namespace Go.Proofs.Ytkhdniccnefdhaa
open Go.RowKit Go.Proofs.U
set_option linter.unusedSimpArgs false
set_option linter.unusedVariables false
set_option maxRecDepth 100000 in
set_option maxHeartbeats 1000000 in
theorem ptake_any {L : List Pg} (hL : plOk L) (g : Nat) (w : World) (h : PoolB w g L) :
    Calls Try.prog 59 #[ptr g] w fun r w' => r = .returned (.tuple #[.int .i64 (plTake L).2.1, .int .i64 (plTake L).2.2]) ∧ PoolB w' g (plTake L).1 ∧ Fr (onB1 g) w w' := by
  have k0 := h.size
  have hl240 := hL.1
  obtain ⟨R, HR⟩ : ∃ R, Hid (plTake L = R) := ⟨_, rfl⟩
  rw [HR.out]
  go_enter Try.func59, Try.ntmps59
  go_wp2
  go_loop [9] (fun i => ∃ (k : Nat), k ≤ L.length ∧ i = .int .i64 (k : Int) ∧ ∀ j, j < k → (plAt L j).free = false) (fun i => L.length - (intOf i).toNat)
  case atStart => exact ⟨0, by omega, rfl, fun j hj => by omega⟩
  case round =>
    obtain ⟨k, hk, rfl, hn⟩ := hrel
    by_cases hlt : k < L.length
    · cases hb : (plAt L k).free with
      | false =>
        go_wp2_with (first
          | (go_at_call 32; go_must (refine (pfree_any hL g k (by omega) _ h).mono ?_; rintro e w' ⟨rfl, rfl⟩; rw [hb])))
        go_round
        case rel => exact ⟨k + 1, by omega, by go_num, fun j hj => by
          by_cases e : j = k
          · rw [e]; exact hb
          · exact hn j (by omega)⟩
        case measure => simp [intOf]; omega
      | true =>
        have hR := show Hid _ from plTake_some L k hlt hb hn
        have hst := show Hid _ from poolL_setK L k hlt hl240 1 1 rfl
        have hc0 : (plAt L k).c = 0 := by
          unfold Pg.free at hb; simp at hb; exact hb.1
        rw [hc0] at hst
        obtain ⟨X, HX⟩ : ∃ X, Hid (poolL L = X) := ⟨_, rfl⟩
        have hXl : Hid (X.length = 481) := by show _ = _; rw [← HX.out, poolL_len]
        have h' : BxV w g 72 X := by rw [← HX.out]; exact h
        rw [HX.out] at hst
        go_wp2_with (first
          | (go_at_call 32; go_must (refine (pfree_any hL g k (by omega) _ h).mono ?_; rintro e w' ⟨rfl, rfl⟩; rw [hb]))
          | (refine at_idx 70 _ _ rfl ?_; go_must (refine wpList_idxOff arr1_kinds rfl _ _ rfl g 241 rfl .i64 _ k rfl rfl (by omega) ?_))
          | (with_reducible refine at_wpP ?_; refine at_st 69 _ _ rfl ?_; go_must (refine wpList_store1 rfl 69 _ _ rfl g (241 + k) rfl (.int .u8 1) rfl rfl _ _ h' kind_size (by rw [hXl.out]; omega) ?_; intro w1 b1 f1; rw [hst.out] at b1)))
        go_ret2
        rw [← HR.out, hR.out]
        exact ⟨rfl, b1, f1⟩
    · obtain rfl : k = L.length := by omega
      have hR := show Hid _ from plTake_none L hn
      go_wp2
      go_ret2
      rw [← HR.out, hR.out]
      exact ⟨rfl, h, Fr.refl _ _⟩
/-- While one cell is turned: what it was, what it will be, and it is. -/
def JPl (w0 : World) (g : Nat) (x y : Value) (cs : List Value) : List Value → World → Prop
  | [], W => W = w0
  | [a], W => W = w0 ∧ a = x
  | [_, b], W => W = w0 ∧ b = y
  | [_, _, _], W => BxV W g 72 cs ∧ Fr (onB1 g) w0 W
  | _, _ => False
theorem plHold_not {L : List Pg} {i : Int} (h : plHeld L i = false) : plHold L i = (L, 73) := by
  unfold plHold; unfold plHeld at h; rw [h]; rfl
theorem plHold_full {L : List Pg} {j : Nat} (h : plHeld L (j : Int) = true) (hc : (plAt L j).c = 255) : plHold L (j : Int) = (L, 72) := by
  unfold plHold; unfold plHeld at h; rw [h, Int.toNat_natCast, hc]; rfl
theorem plHold_yes {L : List Pg} {j : Nat} (h : plHeld L (j : Int) = true) (hc : ¬ (plAt L j).c = 255) : plHold L (j : Int) = (L.set j ⟨(plAt L j).c + 1, (plAt L j).s⟩, 0) := by
  unfold plHold; unfold plHeld at h; rw [h, Int.toNat_natCast, if_pos rfl, if_neg hc]
theorem plDrop_not {L : List Pg} {i : Int} (h : plHeld L i = false) : plDrop L i = (L, false, 73) := by
  unfold plDrop; unfold plHeld at h; rw [h]; rfl
theorem plDrop_less {L : List Pg} {j : Nat} (h : plHeld L (j : Int) = true) (hc : 1 < (plAt L j).c) : plDrop L (j : Int) = (L.set j ⟨(plAt L j).c - 1, (plAt L j).s⟩, false, 0) := by
  unfold plDrop; unfold plHeld at h; rw [h, Int.toNat_natCast, if_pos rfl, if_pos hc]
theorem plDrop_up {L : List Pg} {j : Nat} (h : plHeld L (j : Int) = true) (hc : ¬ 1 < (plAt L j).c) : plDrop L (j : Int) = (L.set j ⟨0, dropS (plAt L j).s⟩, true, 0) := by
  unfold plDrop; unfold plHeld at h; rw [h, Int.toNat_natCast, if_pos rfl, if_neg hc]
theorem plHeld_in {L : List Pg} {i : Int} (h : plHeld L i = true) : ∃ j : Nat, i = (j : Int) ∧ j < L.length := by
  unfold plHeld at h
  simp only [Bool.and_eq_true] at h
  obtain ⟨h1, h2⟩ := plIn_lt h.1
  exact ⟨_, h2.symm, h1⟩
set_option maxRecDepth 100000 in
set_option maxHeartbeats 1000000 in
theorem phold_any {L : List Pg} (hL : plOk L) (g : Nat) (i : Int) (w : World) (h : PoolB w g L) :
    Calls Try.prog 44 #[ptr g, .int .i64 i] w fun r w' => r = .returned (.int .i64 (plHold L i).2) ∧ PoolB w' g (plHold L i).1 ∧ Fr (onB1 g) w w' := by
  cases hh : plHeld L i with
  | false =>
    rw [plHold_not hh]
    go_enter Try.func44, Try.ntmps44
    go_wp2_with (first
      | (go_at_call 61; go_must (refine (pheld_any hL g i _ h).mono ?_; rintro e w' ⟨rfl, rfl⟩; rw [hh])))
    go_ret
    exact ⟨rfl, h, Fr.refl _ _⟩
  | true =>
    obtain ⟨j, rfl, hj⟩ := plHeld_in hh
    have hj2 : j < 240 := by have := hL.1; omega
    have k1 := h.cnt j hj2
    by_cases h255 : (plAt L j).c = 255
    · rw [plHold_full hh h255]
      rw [h255] at k1
      go_enter Try.func44, Try.ntmps44
      go_wp2_with (first
        | (go_at_call 61; go_must (refine (pheld_any hL g j _ h).mono ?_; rintro e w' ⟨rfl, rfl⟩; rw [hh]))
        | (refine at_idx 68 _ _ rfl ?_; go_must (refine wpList_idxOff arr1_counts rfl _ _ rfl g 1 rfl .i64 _ j rfl rfl hj2 ?_)))
      go_ret
      exact ⟨rfl, h, Fr.refl _ _⟩
    · rw [plHold_yes hh h255]
      have hx := hL.2 j
      have hst := show Hid _ from poolL_setC L j hj hL.1 ((plAt L j).c + 1)
      obtain ⟨x, Hx⟩ : ∃ x, Hid (plAt L j = x) := ⟨_, rfl⟩
      rw [Hx.out] at k1 h255 hst hx ⊢
      have h255' : (x.c == 255) = false := by simpa using h255
      have hw : IntKind.u8.wrap (x.c + 1) = x.c + 1 := by rw [IntKind.wrap_u8]; have := hx.1; have := hx.2.1; omega
      obtain ⟨X, HX⟩ : ∃ X, Hid (poolL L = X) := ⟨_, rfl⟩
      have hXl : Hid (X.length = 481) := by show _ = _; rw [← HX.out, poolL_len]
      have h' : BxV w g 72 X := by rw [← HX.out]; exact h
      rw [HX.out] at hst
      go_enter Try.func44, Try.ntmps44
      go_wp2_with (first
        | (go_at_call 61; go_must (refine (pheld_any hL g j _ h).mono ?_; rintro e w' ⟨rfl, rfl⟩; rw [hh]))
        | (refine at_idx 68 _ _ rfl ?_; go_must (refine wpList_idxOff arr1_counts rfl _ _ rfl g 1 rfl .i64 _ j rfl rfl hj2 ?_)))
      have B := h'
      have kc := k1
      obtain ⟨w0, HW⟩ : ∃ w0, Hid (w.drew = w0) := ⟨_, rfl⟩
      have f0 : Fr noB w w0 := by rw [← HW.out]; exact (Fr.refl _ _).drew
      have B0 := B.fr0 f0
      have kd := f0.cell kc (fun q => q)
      refine wp_region_chain_lay (by kernel_rfl) [5, 6, 10] [none, none, none, none, none, some 0, some 1, none, none, none, some 2]
        [fun v => v = ptr g, fun v => v = .int .i64 (j : Int), fun v => v = ptr g, fun v => v = .pointer (some ⟨g, 1, none⟩), fun v => v = .pointer (some ⟨g, 1 + j, none⟩), fun _ => True, fun _ => True, fun v => v = ptr g, fun v => v = .pointer (some ⟨g, 1, none⟩), fun v => v = .pointer (some ⟨g, 1 + j, none⟩), fun _ => True]
        (JPl w0 g (.int .u8 x.c) (.int .u8 (x.c + 1)) (X.set (1 + j) (.int .u8 (x.c + 1)))) (HW.out) (by kernel_rfl) (by kernel_rfl) (by decide) ⟨?o0, ?o1, ?o2, ?o3, ?o4, ?o5, ?o6, ?o7, ?o8, ?o9, ?o10, trivial⟩ ?oe
      case o0 =>
        intro A W hv hlen hJ hbase hdL hdH
        have e0 : A.eval (.tmp 0) = ptr g := hbase 0 (by kernel_rfl)
        have f0 : A.tmps[0]?.getD undef = ptr g := by simpa [Act.eval] using e0
        exact light_val rfl (v := ptr g) (by simp [execOp, e0, f0]) hJ rfl
      case o1 =>
        intro A W hv hlen hJ hbase hdL hdH
        have e1 : A.eval (.tmp 1) = .int .i64 (j : Int) := hbase 1 (by kernel_rfl)
        have f1 : A.tmps[1]?.getD undef = .int .i64 (j : Int) := by simpa [Act.eval] using e1
        exact light_val rfl (v := .int .i64 (j : Int)) (by simp [execOp, e1, f1]) hJ rfl
      case o2 =>
        intro A W hv hlen hJ hbase hdL hdH
        have e16 : A.eval (.tmp 16) = ptr g := hdL 0 16 (by kernel_rfl) (by kernel_rfl) (by kernel_rfl)
        have f16 : A.tmps[16]?.getD undef = ptr g := by simpa [Act.eval] using e16
        exact light_val rfl (v := ptr g) (by simp [execOp, go_sem, e16, f16]) hJ rfl
      case o3 =>
        intro A W hv hlen hJ hbase hdL hdH
        have e18 : A.eval (.tmp 18) = ptr g := hdL 2 18 (by kernel_rfl) (by kernel_rfl) (by kernel_rfl)
        have f18 : A.tmps[18]?.getD undef = ptr g := by simpa [Act.eval] using e18
        exact light_val rfl (v := .pointer (some ⟨g, 1, none⟩)) (by simp [execOp, go_sem, e18, f18]) hJ rfl
      case o4 =>
        intro A W hv hlen hJ hbase hdL hdH
        have e19 : A.eval (.tmp 19) = .pointer (some ⟨g, 1, none⟩) := hdL 3 19 (by kernel_rfl) (by kernel_rfl) (by kernel_rfl)
        have f19 : A.tmps[19]?.getD undef = .pointer (some ⟨g, 1, none⟩) := by simpa [Act.eval] using e19
        have e17 : A.eval (.tmp 17) = .int .i64 (j : Int) := hdL 1 17 (by kernel_rfl) (by kernel_rfl) (by kernel_rfl)
        have f17 : A.tmps[17]?.getD undef = .int .i64 (j : Int) := by simpa [Act.eval] using e17
        have hr := run_idxOff arr1_counts W g 1 j hj2 .i64
        exact light_val rfl (v := .pointer (some ⟨g, 1 + j, none⟩)) (by simp [execOp, e19, e17, hr, Result.andThen]) hJ rfl
      case o5 =>
        intro A W hv hlen hJ hbase hdL hdH
        have e20 : A.eval (.tmp 20) = .pointer (some ⟨g, 1 + j, none⟩) := hdL 4 20 (by kernel_rfl) (by kernel_rfl) (by kernel_rfl)
        have f20 : A.tmps[20]?.getD undef = .pointer (some ⟨g, 1 + j, none⟩) := by simpa [Act.eval] using e20
        obtain rfl : hv = [] := List.eq_nil_of_length_eq_zero hlen
        obtain rfl := hJ
        exact heavy_val rfl (v := .int .u8 x.c) (by simp [execOp, go_sem, e20, f20, kd]) ⟨rfl, rfl⟩
      case o6 =>
        intro A W hv hlen hJ hbase hdL hdH
        obtain ⟨v0, rfl⟩ := List.length_eq_one_iff.1 hlen
        obtain ⟨rfl, rfl⟩ := hJ
        have ey : A.eval (.tmp 21) = .int .u8 x.c := by have := hdH 5 21 0 (by kernel_rfl) rfl (by kernel_rfl); simpa using this.symm
        have fy : A.tmps[21]?.getD undef = .int .u8 x.c := by simpa [Act.eval] using ey
        exact heavy_val rfl (v := .int .u8 (x.c + 1)) (by simp [execOp, go_sem, ey, fy, hw]) ⟨rfl, rfl⟩
      case o7 =>
        intro A W hv hlen hJ hbase hdL hdH
        have e16 : A.eval (.tmp 16) = ptr g := hdL 0 16 (by kernel_rfl) (by kernel_rfl) (by kernel_rfl)
        have f16 : A.tmps[16]?.getD undef = ptr g := by simpa [Act.eval] using e16
        exact light_val rfl (v := ptr g) (by simp [execOp, go_sem, e16, f16]) hJ rfl
      case o8 =>
        intro A W hv hlen hJ hbase hdL hdH
        have e23 : A.eval (.tmp 23) = ptr g := hdL 7 23 (by kernel_rfl) (by kernel_rfl) (by kernel_rfl)
        have f23 : A.tmps[23]?.getD undef = ptr g := by simpa [Act.eval] using e23
        exact light_val rfl (v := .pointer (some ⟨g, 1, none⟩)) (by simp [execOp, go_sem, e23, f23]) hJ rfl
      case o9 =>
        intro A W hv hlen hJ hbase hdL hdH
        have e24 : A.eval (.tmp 24) = .pointer (some ⟨g, 1, none⟩) := hdL 8 24 (by kernel_rfl) (by kernel_rfl) (by kernel_rfl)
        have f24 : A.tmps[24]?.getD undef = .pointer (some ⟨g, 1, none⟩) := by simpa [Act.eval] using e24
        have e17 : A.eval (.tmp 17) = .int .i64 (j : Int) := hdL 1 17 (by kernel_rfl) (by kernel_rfl) (by kernel_rfl)
        have f17 : A.tmps[17]?.getD undef = .int .i64 (j : Int) := by simpa [Act.eval] using e17
        have hr := run_idxOff arr1_counts W g 1 j hj2 .i64
        exact light_val rfl (v := .pointer (some ⟨g, 1 + j, none⟩)) (by simp [execOp, e24, e17, hr, Result.andThen]) hJ rfl
      case o10 =>
        intro A W hv hlen hJ hbase hdL hdH
        have e25 : A.eval (.tmp 25) = .pointer (some ⟨g, 1 + j, none⟩) := hdL 9 25 (by kernel_rfl) (by kernel_rfl) (by kernel_rfl)
        have f25 : A.tmps[25]?.getD undef = .pointer (some ⟨g, 1 + j, none⟩) := by simpa [Act.eval] using e25
        match hv, hlen with
        | [v0, v1], _ =>
          obtain ⟨rfl, rfl⟩ := hJ
          have e1 : A.eval (.tmp 22) = .int .u8 (x.c + 1) := by have := hdH 6 22 1 (by kernel_rfl) rfl (by kernel_rfl); simpa using this.symm
          have hr := run_st1 (P := Try.prog) (off := 1 + j) 5 size_u8 (.int .u8 (x.c + 1)) rfl _ _ B0 (by rw [hXl.out]; omega)
          have hb2 := B0.set (1 + j) (.int .u8 (x.c + 1))
          refine heavy_wp rfl ?_
          unfold Oper.wp execOp
          simp only [e1, e25, Sem.run_bind, hr, Result.andThen_ok]
          exact ⟨_, rfl, hb2, (Fr.refl _ _).setCell _ _ (fun _ => rfl)⟩
      case oe =>
        intro vs W' hv hlen hJ hL hH
        match hv, hlen with
        | [z0, z1, z2], _ =>
          obtain ⟨b2, f2⟩ := hJ
          rw [hst.out] at b2
          simp only [layL, Nat.reduceAdd, Act.put, List.setIfInBounds_toArray, List.set_cons_zero, List.set_cons_succ]
          clear hL hH
          generalize vs 0 = y100 at *
          generalize vs 1 = y101 at *
          generalize vs 2 = y102 at *
          generalize vs 3 = y103 at *
          generalize vs 4 = y104 at *
          generalize vs 5 = y105 at *
          generalize vs 6 = y106 at *
          generalize vs 7 = y107 at *
          generalize vs 8 = y108 at *
          generalize vs 9 = y109 at *
          generalize vs 10 = y110 at *
          go_wp2
          go_ret
          exact ⟨rfl, b2, (f0.mono (fun _ _ q => q.elim)).trans f2⟩

set_option maxRecDepth 100000 in
set_option maxHeartbeats 1000000 in
theorem pdrop_any {L : List Pg} (hL : plOk L) (g : Nat) (i : Int) (w : World) (h : PoolB w g L) :
    Calls Try.prog 50 #[ptr g, .int .i64 i] w fun r w' => r = .returned (.tuple #[.bool (plDrop L i).2.1, .int .i64 (plDrop L i).2.2]) ∧ PoolB w' g (plDrop L i).1 ∧ Fr (onB1 g) w w' := by
  cases hh : plHeld L i with
  | false =>
    rw [plDrop_not hh]
    go_enter Try.func50, Try.ntmps50
    go_wp2_with (first
      | (go_at_call 61; go_must (refine (pheld_any hL g i _ h).mono ?_; rintro e w' ⟨rfl, rfl⟩; rw [hh])))
    go_ret2
    exact ⟨rfl, h, Fr.refl _ _⟩
  | true =>
    obtain ⟨j, rfl, hj⟩ := plHeld_in hh
    have hj2 : j < 240 := by have := hL.1; omega
    have k1 := h.cnt j hj2
    have k2 := h.knd j hj2
    have hx := hL.2 j
    obtain ⟨x, Hx⟩ : ∃ x, Hid (plAt L j = x) := ⟨_, rfl⟩
    rw [Hx.out] at k1 k2 hx
    have hxc := hx.1
    have hxd := hx.2.1
    clear hx
    by_cases hc0 : x.c = 0
    · have hpd := show Hid _ from plDrop_up hh (by rw [Hx.out, hc0]; decide)
      rw [Hx.out] at hpd
      rw [hpd.out]
      rw [hc0] at k1
      obtain ⟨s, Hs⟩ : ∃ s, Hid (x.s = s) := ⟨_, rfl⟩
      have hst := show Hid _ from poolL_setK L j hj hL.1 (dropS s) ((dropS s : Nat) : Int) rfl
      rw [Hx.out, hc0] at hst
      rw [Hs.out] at k2 ⊢
      obtain ⟨X, HX⟩ : ∃ X, Hid (poolL L = X) := ⟨_, rfl⟩
      have hXl : Hid (X.length = 481) := by show _ = _; rw [← HX.out, poolL_len]
      have B : BxV w g 72 X := by rw [← HX.out]; exact h
      rw [HX.out] at hst
      have kc := k2
      clear hc0 hxc hxd
      go_enter Try.func50, Try.ntmps50
      go_wp2_with (first
        | (go_at_call 61; go_must (refine (pheld_any hL g j _ h).mono ?_; rintro e w' ⟨rfl, rfl⟩; rw [hh]))
        | (refine at_idx 68 _ _ rfl ?_; go_must (refine wpList_idxOff arr1_counts rfl _ _ rfl g 1 rfl .i64 _ j rfl rfl hj2 ?_)))
      obtain ⟨w0, HW⟩ : ∃ w0, Hid (w.drew = w0) := ⟨_, rfl⟩
      have f0 : Fr noB w w0 := by rw [← HW.out]; exact (Fr.refl _ _).drew
      have B0 := B.fr0 f0
      have kd := f0.cell kc (fun q => q)
      refine wp_region_chain_lay (by kernel_rfl) [7, 8, 12] [none, none, none, none, none, none, none, some 0, some 1, none, none, none, some 2]
        [fun v => v = ptr g, fun v => v = .int .i64 (j : Int), fun v => v = ptr g, fun v => v = .int .i64 (j : Int), fun v => v = ptr g, fun v => v = .pointer (some ⟨g, 241, none⟩), fun v => v = .pointer (some ⟨g, 241 + j, none⟩), fun _ => True, fun _ => True, fun v => v = ptr g, fun v => v = .pointer (some ⟨g, 241, none⟩), fun v => v = .pointer (some ⟨g, 241 + j, none⟩), fun _ => True]
        (JPl w0 g (.int .u8 (s : Int)) (.int .u8 ((dropS s : Nat) : Int)) (X.set (241 + j) (.int .u8 ((dropS s : Nat) : Int)))) (HW.out) (by kernel_rfl) (by kernel_rfl) (by decide) ⟨?o0, ?o1, ?o2, ?o3, ?o4, ?o5, ?o6, ?o7, ?o8, ?o9, ?o10, ?o11, ?o12, trivial⟩ ?oe
      case o0 =>
        intro A W hv hlen hJ hbase hdL hdH
        have e0 : A.eval (.tmp 0) = ptr g := hbase 0 (by kernel_rfl)
        have f0 : A.tmps[0]?.getD undef = ptr g := by simpa [Act.eval] using e0
        exact light_val rfl (v := ptr g) (by simp [execOp, e0, f0]) hJ rfl
      case o1 =>
        intro A W hv hlen hJ hbase hdL hdH
        have e1 : A.eval (.tmp 1) = .int .i64 (j : Int) := hbase 1 (by kernel_rfl)
        have f1 : A.tmps[1]?.getD undef = .int .i64 (j : Int) := by simpa [Act.eval] using e1
        exact light_val rfl (v := .int .i64 (j : Int)) (by simp [execOp, e1, f1]) hJ rfl
      case o2 =>
        intro A W hv hlen hJ hbase hdL hdH
        have e0 : A.eval (.tmp 0) = ptr g := hbase 0 (by kernel_rfl)
        have f0 : A.tmps[0]?.getD undef = ptr g := by simpa [Act.eval] using e0
        exact light_val rfl (v := ptr g) (by simp [execOp, e0, f0]) hJ rfl
      case o3 =>
        intro A W hv hlen hJ hbase hdL hdH
        have e1 : A.eval (.tmp 1) = .int .i64 (j : Int) := hbase 1 (by kernel_rfl)
        have f1 : A.tmps[1]?.getD undef = .int .i64 (j : Int) := by simpa [Act.eval] using e1
        exact light_val rfl (v := .int .i64 (j : Int)) (by simp [execOp, e1, f1]) hJ rfl
      case o4 =>
        intro A W hv hlen hJ hbase hdL hdH
        have e36 : A.eval (.tmp 36) = ptr g := hdL 2 36 (by kernel_rfl) (by kernel_rfl) (by kernel_rfl)
        have f36 : A.tmps[36]?.getD undef = ptr g := by simpa [Act.eval] using e36
        exact light_val rfl (v := ptr g) (by simp [execOp, go_sem, e36, f36]) hJ rfl
      case o5 =>
        intro A W hv hlen hJ hbase hdL hdH
        have e38 : A.eval (.tmp 38) = ptr g := hdL 4 38 (by kernel_rfl) (by kernel_rfl) (by kernel_rfl)
        have f38 : A.tmps[38]?.getD undef = ptr g := by simpa [Act.eval] using e38
        exact light_val rfl (v := .pointer (some ⟨g, 241, none⟩)) (by simp [execOp, go_sem, e38, f38]) hJ rfl
      case o6 =>
        intro A W hv hlen hJ hbase hdL hdH
        have e39 : A.eval (.tmp 39) = .pointer (some ⟨g, 241, none⟩) := hdL 5 39 (by kernel_rfl) (by kernel_rfl) (by kernel_rfl)
        have f39 : A.tmps[39]?.getD undef = .pointer (some ⟨g, 241, none⟩) := by simpa [Act.eval] using e39
        have e37 : A.eval (.tmp 37) = .int .i64 (j : Int) := hdL 3 37 (by kernel_rfl) (by kernel_rfl) (by kernel_rfl)
        have f37 : A.tmps[37]?.getD undef = .int .i64 (j : Int) := by simpa [Act.eval] using e37
        have hr := run_idxOff arr1_kinds W g 241 j hj2 .i64
        exact light_val rfl (v := .pointer (some ⟨g, 241 + j, none⟩)) (by simp [execOp, e39, e37, hr, Result.andThen]) hJ rfl
      case o7 =>
        intro A W hv hlen hJ hbase hdL hdH
        have e40 : A.eval (.tmp 40) = .pointer (some ⟨g, 241 + j, none⟩) := hdL 6 40 (by kernel_rfl) (by kernel_rfl) (by kernel_rfl)
        have f40 : A.tmps[40]?.getD undef = .pointer (some ⟨g, 241 + j, none⟩) := by simpa [Act.eval] using e40
        obtain rfl : hv = [] := List.eq_nil_of_length_eq_zero hlen
        obtain rfl := hJ
        exact heavy_val rfl (v := .int .u8 (s : Int)) (by simp [execOp, go_sem, e40, f40, kd]) ⟨rfl, rfl⟩
      case o8 =>
        intro A W hv hlen hJ hbase hdL hdH
        obtain ⟨v0, rfl⟩ := List.length_eq_one_iff.1 hlen
        obtain ⟨rfl, rfl⟩ := hJ
        have ey : A.eval (.tmp 41) = .int .u8 (s : Int) := by have := hdH 7 41 0 (by kernel_rfl) rfl (by kernel_rfl); simpa using this.symm
        have fy : A.tmps[41]?.getD undef = .int .u8 (s : Int) := by simpa [Act.eval] using ey
        refine heavy_call rfl (args := #[.int .u8 (s : Int)]) (f := 67) (by simp [execOp, resolve, invoke, go_sem, ey, fy]) ?_
        refine (givenUp_any s _).mono ?_
        rintro e w' ⟨rfl, rfl⟩
        exact ⟨_, rfl, rfl, rfl⟩
      case o9 =>
        intro A W hv hlen hJ hbase hdL hdH
        have e34 : A.eval (.tmp 34) = ptr g := hdL 0 34 (by kernel_rfl) (by kernel_rfl) (by kernel_rfl)
        have f34 : A.tmps[34]?.getD undef = ptr g := by simpa [Act.eval] using e34
        exact light_val rfl (v := ptr g) (by simp [execOp, go_sem, e34, f34]) hJ rfl
      case o10 =>
        intro A W hv hlen hJ hbase hdL hdH
        have e43 : A.eval (.tmp 43) = ptr g := hdL 9 43 (by kernel_rfl) (by kernel_rfl) (by kernel_rfl)
        have f43 : A.tmps[43]?.getD undef = ptr g := by simpa [Act.eval] using e43
        exact light_val rfl (v := .pointer (some ⟨g, 241, none⟩)) (by simp [execOp, go_sem, e43, f43]) hJ rfl
      case o11 =>
        intro A W hv hlen hJ hbase hdL hdH
        have e44 : A.eval (.tmp 44) = .pointer (some ⟨g, 241, none⟩) := hdL 10 44 (by kernel_rfl) (by kernel_rfl) (by kernel_rfl)
        have f44 : A.tmps[44]?.getD undef = .pointer (some ⟨g, 241, none⟩) := by simpa [Act.eval] using e44
        have e35 : A.eval (.tmp 35) = .int .i64 (j : Int) := hdL 1 35 (by kernel_rfl) (by kernel_rfl) (by kernel_rfl)
        have f35 : A.tmps[35]?.getD undef = .int .i64 (j : Int) := by simpa [Act.eval] using e35
        have hr := run_idxOff arr1_kinds W g 241 j hj2 .i64
        exact light_val rfl (v := .pointer (some ⟨g, 241 + j, none⟩)) (by simp [execOp, e44, e35, hr, Result.andThen]) hJ rfl
      case o12 =>
        intro A W hv hlen hJ hbase hdL hdH
        have e45 : A.eval (.tmp 45) = .pointer (some ⟨g, 241 + j, none⟩) := hdL 11 45 (by kernel_rfl) (by kernel_rfl) (by kernel_rfl)
        have f45 : A.tmps[45]?.getD undef = .pointer (some ⟨g, 241 + j, none⟩) := by simpa [Act.eval] using e45
        match hv, hlen with
        | [v0, v1], _ =>
          obtain ⟨rfl, rfl⟩ := hJ
          have e1 : A.eval (.tmp 42) = .int .u8 ((dropS s : Nat) : Int) := by have := hdH 8 42 1 (by kernel_rfl) rfl (by kernel_rfl); simpa using this.symm
          have hr := run_st1 (P := Try.prog) (off := 241 + j) 69 kind_size (.int .u8 ((dropS s : Nat) : Int)) rfl _ _ B0 (by rw [hXl.out]; omega)
          have hb2 := B0.set (241 + j) (.int .u8 ((dropS s : Nat) : Int))
          refine heavy_wp rfl ?_
          unfold Oper.wp execOp
          simp only [e1, e45, Sem.run_bind, hr, Result.andThen_ok]
          exact ⟨_, rfl, hb2, (Fr.refl _ _).setCell _ _ (fun _ => rfl)⟩
      case oe =>
        intro vs W' hv hlen hJ hL hH
        match hv, hlen with
        | [z0, z1, z2], _ =>
          obtain ⟨b2, f2⟩ := hJ
          rw [hst.out] at b2
          simp only [layL, Nat.reduceAdd, Act.put, List.setIfInBounds_toArray, List.set_cons_zero, List.set_cons_succ]
          clear hL hH
          generalize vs 0 = y100 at *
          generalize vs 1 = y101 at *
          generalize vs 2 = y102 at *
          generalize vs 3 = y103 at *
          generalize vs 4 = y104 at *
          generalize vs 5 = y105 at *
          generalize vs 6 = y106 at *
          generalize vs 7 = y107 at *
          generalize vs 8 = y108 at *
          generalize vs 9 = y109 at *
          generalize vs 10 = y110 at *
          generalize vs 11 = y111 at *
          generalize vs 12 = y112 at *
          go_wp2
          go_ret2
          exact ⟨rfl, b2, (f0.mono (fun _ _ q => q.elim)).trans f2⟩
    · have hgt : (0 : Int) < x.c := by omega
      have hw : IntKind.u8.wrap (x.c - 1) = x.c - 1 := by rw [IntKind.wrap_u8]; omega
      have hst := show Hid _ from poolL_setC L j hj hL.1 (x.c - 1)
      rw [Hx.out] at hst
      obtain ⟨X, HX⟩ : ∃ X, Hid (poolL L = X) := ⟨_, rfl⟩
      have hXl : Hid (X.length = 481) := by show _ = _; rw [← HX.out, poolL_len]
      have B : BxV w g 72 X := by rw [← HX.out]; exact h
      rw [HX.out] at hst
      have kc := k1
      obtain ⟨M, HM⟩ : ∃ M, Hid (L.set j ⟨x.c - 1, x.s⟩ = M) := ⟨_, rfl⟩
      rw [HM.out] at hst
      have hMj : Hid (plAt M j = ⟨x.c - 1, x.s⟩) := by show _ = _; rw [← HM.out, plAt_set _ _ _ _ hj, if_pos rfl]
      have hMl : Hid (M.length = L.length) := by show _ = _; rw [← HM.out, List.length_set]
      have hless : 1 < x.c → Hid (plDrop L (j : Int) = (M, false, 0)) := fun h1 => by show _ = _; rw [plDrop_less hh (by rw [Hx.out]; exact h1), Hx.out, HM.out]
      have hup : ¬ 1 < x.c → Hid (plDrop L (j : Int) = (M.set j ⟨0, dropS x.s⟩, true, 0)) := fun h1 => by show _ = _; rw [plDrop_up hh (by rw [Hx.out]; exact h1), Hx.out, ← HM.out, List.set_set]
      obtain ⟨R, HR⟩ : ∃ R, Hid (plDrop L (j : Int) = R) := ⟨_, rfl⟩
      rw [HR.out] at hless hup ⊢
      clear hc0
      go_enter Try.func50, Try.ntmps50
      go_wp2_with (first
        | (go_at_call 61; go_must (refine (pheld_any hL g j _ h).mono ?_; rintro e w' ⟨rfl, rfl⟩; rw [hh]))
        | (refine at_idx 68 _ _ rfl ?_; go_must (refine wpList_idxOff arr1_counts rfl _ _ rfl g 1 rfl .i64 _ j rfl rfl hj2 ?_)))
      obtain ⟨w0, HW⟩ : ∃ w0, Hid (w.drew = w0) := ⟨_, rfl⟩
      have f0 : Fr noB w w0 := by rw [← HW.out]; exact (Fr.refl _ _).drew
      have B0 := B.fr0 f0
      have kd := f0.cell kc (fun q => q)
      refine wp_region_chain_lay (by kernel_rfl) [5, 6, 10] [none, none, none, none, none, some 0, some 1, none, none, none, some 2]
        [fun v => v = ptr g, fun v => v = .int .i64 (j : Int), fun v => v = ptr g, fun v => v = .pointer (some ⟨g, 1, none⟩), fun v => v = .pointer (some ⟨g, 1 + j, none⟩), fun _ => True, fun _ => True, fun v => v = ptr g, fun v => v = .pointer (some ⟨g, 1, none⟩), fun v => v = .pointer (some ⟨g, 1 + j, none⟩), fun _ => True]
        (JPl w0 g (.int .u8 x.c) (.int .u8 (x.c - 1)) (X.set (1 + j) (.int .u8 (x.c - 1)))) (HW.out) (by kernel_rfl) (by kernel_rfl) (by decide) ⟨?o0, ?o1, ?o2, ?o3, ?o4, ?o5, ?o6, ?o7, ?o8, ?o9, ?o10, trivial⟩ ?oe
      case o0 =>
        intro A W hv hlen hJ hbase hdL hdH
        have e0 : A.eval (.tmp 0) = ptr g := hbase 0 (by kernel_rfl)
        have f0 : A.tmps[0]?.getD undef = ptr g := by simpa [Act.eval] using e0
        exact light_val rfl (v := ptr g) (by simp [execOp, e0, f0]) hJ rfl
      case o1 =>
        intro A W hv hlen hJ hbase hdL hdH
        have e1 : A.eval (.tmp 1) = .int .i64 (j : Int) := hbase 1 (by kernel_rfl)
        have f1 : A.tmps[1]?.getD undef = .int .i64 (j : Int) := by simpa [Act.eval] using e1
        exact light_val rfl (v := .int .i64 (j : Int)) (by simp [execOp, e1, f1]) hJ rfl
      case o2 =>
        intro A W hv hlen hJ hbase hdL hdH
        have e17 : A.eval (.tmp 17) = ptr g := hdL 0 17 (by kernel_rfl) (by kernel_rfl) (by kernel_rfl)
        have f17 : A.tmps[17]?.getD undef = ptr g := by simpa [Act.eval] using e17
        exact light_val rfl (v := ptr g) (by simp [execOp, go_sem, e17, f17]) hJ rfl
      case o3 =>
        intro A W hv hlen hJ hbase hdL hdH
        have e19 : A.eval (.tmp 19) = ptr g := hdL 2 19 (by kernel_rfl) (by kernel_rfl) (by kernel_rfl)
        have f19 : A.tmps[19]?.getD undef = ptr g := by simpa [Act.eval] using e19
        exact light_val rfl (v := .pointer (some ⟨g, 1, none⟩)) (by simp [execOp, go_sem, e19, f19]) hJ rfl
      case o4 =>
        intro A W hv hlen hJ hbase hdL hdH
        have e20 : A.eval (.tmp 20) = .pointer (some ⟨g, 1, none⟩) := hdL 3 20 (by kernel_rfl) (by kernel_rfl) (by kernel_rfl)
        have f20 : A.tmps[20]?.getD undef = .pointer (some ⟨g, 1, none⟩) := by simpa [Act.eval] using e20
        have e18 : A.eval (.tmp 18) = .int .i64 (j : Int) := hdL 1 18 (by kernel_rfl) (by kernel_rfl) (by kernel_rfl)
        have f18 : A.tmps[18]?.getD undef = .int .i64 (j : Int) := by simpa [Act.eval] using e18
        have hr := run_idxOff arr1_counts W g 1 j hj2 .i64
        exact light_val rfl (v := .pointer (some ⟨g, 1 + j, none⟩)) (by simp [execOp, e20, e18, hr, Result.andThen]) hJ rfl
      case o5 =>
        intro A W hv hlen hJ hbase hdL hdH
        have e21 : A.eval (.tmp 21) = .pointer (some ⟨g, 1 + j, none⟩) := hdL 4 21 (by kernel_rfl) (by kernel_rfl) (by kernel_rfl)
        have f21 : A.tmps[21]?.getD undef = .pointer (some ⟨g, 1 + j, none⟩) := by simpa [Act.eval] using e21
        obtain rfl : hv = [] := List.eq_nil_of_length_eq_zero hlen
        obtain rfl := hJ
        exact heavy_val rfl (v := .int .u8 x.c) (by simp [execOp, go_sem, e21, f21, kd]) ⟨rfl, rfl⟩
      case o6 =>
        intro A W hv hlen hJ hbase hdL hdH
        obtain ⟨v0, rfl⟩ := List.length_eq_one_iff.1 hlen
        obtain ⟨rfl, rfl⟩ := hJ
        have ey : A.eval (.tmp 22) = .int .u8 x.c := by have := hdH 5 22 0 (by kernel_rfl) rfl (by kernel_rfl); simpa using this.symm
        have fy : A.tmps[22]?.getD undef = .int .u8 x.c := by simpa [Act.eval] using ey
        exact heavy_val rfl (v := .int .u8 (x.c - 1)) (by simp [execOp, go_sem, ey, fy, hw]) ⟨rfl, rfl⟩
      case o7 =>
        intro A W hv hlen hJ hbase hdL hdH
        have e17 : A.eval (.tmp 17) = ptr g := hdL 0 17 (by kernel_rfl) (by kernel_rfl) (by kernel_rfl)
        have f17 : A.tmps[17]?.getD undef = ptr g := by simpa [Act.eval] using e17
        exact light_val rfl (v := ptr g) (by simp [execOp, go_sem, e17, f17]) hJ rfl
      case o8 =>
        intro A W hv hlen hJ hbase hdL hdH
        have e24 : A.eval (.tmp 24) = ptr g := hdL 7 24 (by kernel_rfl) (by kernel_rfl) (by kernel_rfl)
        have f24 : A.tmps[24]?.getD undef = ptr g := by simpa [Act.eval] using e24
        exact light_val rfl (v := .pointer (some ⟨g, 1, none⟩)) (by simp [execOp, go_sem, e24, f24]) hJ rfl
      case o9 =>
        intro A W hv hlen hJ hbase hdL hdH
        have e25 : A.eval (.tmp 25) = .pointer (some ⟨g, 1, none⟩) := hdL 8 25 (by kernel_rfl) (by kernel_rfl) (by kernel_rfl)
        have f25 : A.tmps[25]?.getD undef = .pointer (some ⟨g, 1, none⟩) := by simpa [Act.eval] using e25
        have e18 : A.eval (.tmp 18) = .int .i64 (j : Int) := hdL 1 18 (by kernel_rfl) (by kernel_rfl) (by kernel_rfl)
        have f18 : A.tmps[18]?.getD undef = .int .i64 (j : Int) := by simpa [Act.eval] using e18
        have hr := run_idxOff arr1_counts W g 1 j hj2 .i64
        exact light_val rfl (v := .pointer (some ⟨g, 1 + j, none⟩)) (by simp [execOp, e25, e18, hr, Result.andThen]) hJ rfl
      case o10 =>
        intro A W hv hlen hJ hbase hdL hdH
        have e26 : A.eval (.tmp 26) = .pointer (some ⟨g, 1 + j, none⟩) := hdL 9 26 (by kernel_rfl) (by kernel_rfl) (by kernel_rfl)
        have f26 : A.tmps[26]?.getD undef = .pointer (some ⟨g, 1 + j, none⟩) := by simpa [Act.eval] using e26
        match hv, hlen with
        | [v0, v1], _ =>
          obtain ⟨rfl, rfl⟩ := hJ
          have e1 : A.eval (.tmp 23) = .int .u8 (x.c - 1) := by have := hdH 6 23 1 (by kernel_rfl) rfl (by kernel_rfl); simpa using this.symm
          have hr := run_st1 (P := Try.prog) (off := 1 + j) 5 size_u8 (.int .u8 (x.c - 1)) rfl _ _ B0 (by rw [hXl.out]; omega)
          have hb2 := B0.set (1 + j) (.int .u8 (x.c - 1))
          refine heavy_wp rfl ?_
          unfold Oper.wp execOp
          simp only [e1, e26, Sem.run_bind, hr, Result.andThen_ok]
          exact ⟨_, rfl, hb2, (Fr.refl _ _).setCell _ _ (fun _ => rfl)⟩
      case oe =>
        intro vs W' hv hlen hJ hL hH
        match hv, hlen with
        | [z0, z1, z2], _ =>
          obtain ⟨b2, f2⟩ := hJ
          rw [hst.out] at b2
          simp only [layL, Nat.reduceAdd, Act.put, List.setIfInBounds_toArray, List.set_cons_zero, List.set_cons_succ]
          clear hL hH
          generalize vs 0 = y100 at *
          generalize vs 1 = y101 at *
          generalize vs 2 = y102 at *
          generalize vs 3 = y103 at *
          generalize vs 4 = y104 at *
          generalize vs 5 = y105 at *
          generalize vs 6 = y106 at *
          generalize vs 7 = y107 at *
          generalize vs 8 = y108 at *
          generalize vs 9 = y109 at *
          generalize vs 10 = y110 at *
          have kM := PoolB.cnt b2 j hj2
          have kM2 := PoolB.knd b2 j hj2
          rw [hMj.out] at kM kM2
          simp only at kM kM2
          have F2 := (f0.mono (T := onB1 g) (fun _ _ q => q.elim)).trans f2
          by_cases h1 : 1 < x.c
          · have hR := hless h1
            have h1' : (0 : Int) < x.c - 1 := by omega
            go_wp2_with (first
              | (refine at_idx 68 _ _ rfl ?_; go_must (refine wpList_idxOff arr1_counts rfl _ _ rfl g 1 rfl .i64 _ j rfl rfl hj2 ?_)))
            go_ret2
            rw [hR.out]
            exact ⟨rfl, b2, F2⟩
          · have hR := hup (by omega)
            have hc1 : x.c - 1 = 0 := by omega
            rw [hc1] at kM hMj
            have hst := show Hid _ from poolL_setK M j (by rw [hMl.out]; exact hj) (by rw [hMl.out]; exact hL.1) (dropS x.s) ((dropS x.s : Nat) : Int) rfl
            rw [hMj.out] at hst
            simp only at hst
            obtain ⟨s, Hs⟩ : ∃ s, Hid (x.s = s) := ⟨_, rfl⟩
            rw [Hs.out] at kM2 hst hR
            obtain ⟨X, HX⟩ : ∃ X, Hid (poolL M = X) := ⟨_, rfl⟩
            have hXl : Hid (X.length = 481) := by show _ = _; rw [← HX.out, poolL_len]
            have B : BxV W' g 72 X := by rw [← HX.out]; exact b2
            rw [HX.out] at hst
            have kc := kM2
            clear hc1 h1 hgt hxc hxd hw hless hup
            go_wp2_with (first
              | (refine at_idx 68 _ _ rfl ?_; go_must (refine wpList_idxOff arr1_counts rfl _ _ rfl g 1 rfl .i64 _ j rfl rfl hj2 ?_)))
            obtain ⟨w0q, HW⟩ : ∃ w0q, Hid (W'.drew = w0q) := ⟨_, rfl⟩
            have f0q : Fr noB W' w0q := by rw [← HW.out]; exact (Fr.refl _ _).drew
            have B0 := B.fr0 f0q
            have kd := f0q.cell kc (fun q => q)
            refine wp_region_chain_lay (by kernel_rfl) [7, 8, 12] [none, none, none, none, none, none, none, some 0, some 1, none, none, none, some 2]
              [fun v => v = ptr g, fun v => v = .int .i64 (j : Int), fun v => v = ptr g, fun v => v = .int .i64 (j : Int), fun v => v = ptr g, fun v => v = .pointer (some ⟨g, 241, none⟩), fun v => v = .pointer (some ⟨g, 241 + j, none⟩), fun _ => True, fun _ => True, fun v => v = ptr g, fun v => v = .pointer (some ⟨g, 241, none⟩), fun v => v = .pointer (some ⟨g, 241 + j, none⟩), fun _ => True]
              (JPl w0q g (.int .u8 (s : Int)) (.int .u8 ((dropS s : Nat) : Int)) (X.set (241 + j) (.int .u8 ((dropS s : Nat) : Int)))) (HW.out) (by kernel_rfl) (by kernel_rfl) (by decide) ⟨?o0, ?o1, ?o2, ?o3, ?o4, ?o5, ?o6, ?o7, ?o8, ?o9, ?o10, ?o11, ?o12, trivial⟩ ?oe
            case o0 =>
              intro A W hv hlen hJ hbase hdL hdH
              have e0 : A.eval (.tmp 0) = ptr g := hbase 0 (by kernel_rfl)
              have f0q : A.tmps[0]?.getD undef = ptr g := by simpa [Act.eval] using e0
              exact light_val rfl (v := ptr g) (by simp [execOp, e0, f0]) hJ rfl
            case o1 =>
              intro A W hv hlen hJ hbase hdL hdH
              have e1 : A.eval (.tmp 1) = .int .i64 (j : Int) := hbase 1 (by kernel_rfl)
              have f1 : A.tmps[1]?.getD undef = .int .i64 (j : Int) := by simpa [Act.eval] using e1
              exact light_val rfl (v := .int .i64 (j : Int)) (by simp [execOp, e1, f1]) hJ rfl
            case o2 =>
              intro A W hv hlen hJ hbase hdL hdH
              have e0 : A.eval (.tmp 0) = ptr g := hbase 0 (by kernel_rfl)
              have f0q : A.tmps[0]?.getD undef = ptr g := by simpa [Act.eval] using e0
              exact light_val rfl (v := ptr g) (by simp [execOp, e0, f0]) hJ rfl
            case o3 =>
              intro A W hv hlen hJ hbase hdL hdH
              have e1 : A.eval (.tmp 1) = .int .i64 (j : Int) := hbase 1 (by kernel_rfl)
              have f1 : A.tmps[1]?.getD undef = .int .i64 (j : Int) := by simpa [Act.eval] using e1
              exact light_val rfl (v := .int .i64 (j : Int)) (by simp [execOp, e1, f1]) hJ rfl
            case o4 =>
              intro A W hv hlen hJ hbase hdL hdH
              have e36 : A.eval (.tmp 36) = ptr g := hdL 2 36 (by kernel_rfl) (by kernel_rfl) (by kernel_rfl)
              have f36 : A.tmps[36]?.getD undef = ptr g := by simpa [Act.eval] using e36
              exact light_val rfl (v := ptr g) (by simp [execOp, go_sem, e36, f36]) hJ rfl
            case o5 =>
              intro A W hv hlen hJ hbase hdL hdH
              have e38 : A.eval (.tmp 38) = ptr g := hdL 4 38 (by kernel_rfl) (by kernel_rfl) (by kernel_rfl)
              have f38 : A.tmps[38]?.getD undef = ptr g := by simpa [Act.eval] using e38
              exact light_val rfl (v := .pointer (some ⟨g, 241, none⟩)) (by simp [execOp, go_sem, e38, f38]) hJ rfl
            case o6 =>
              intro A W hv hlen hJ hbase hdL hdH
              have e39 : A.eval (.tmp 39) = .pointer (some ⟨g, 241, none⟩) := hdL 5 39 (by kernel_rfl) (by kernel_rfl) (by kernel_rfl)
              have f39 : A.tmps[39]?.getD undef = .pointer (some ⟨g, 241, none⟩) := by simpa [Act.eval] using e39
              have e37 : A.eval (.tmp 37) = .int .i64 (j : Int) := hdL 3 37 (by kernel_rfl) (by kernel_rfl) (by kernel_rfl)
              have f37 : A.tmps[37]?.getD undef = .int .i64 (j : Int) := by simpa [Act.eval] using e37
              have hr := run_idxOff arr1_kinds W g 241 j hj2 .i64
              exact light_val rfl (v := .pointer (some ⟨g, 241 + j, none⟩)) (by simp [execOp, e39, e37, hr, Result.andThen]) hJ rfl
            case o7 =>
              intro A W hv hlen hJ hbase hdL hdH
              have e40 : A.eval (.tmp 40) = .pointer (some ⟨g, 241 + j, none⟩) := hdL 6 40 (by kernel_rfl) (by kernel_rfl) (by kernel_rfl)
              have f40 : A.tmps[40]?.getD undef = .pointer (some ⟨g, 241 + j, none⟩) := by simpa [Act.eval] using e40
              obtain rfl : hv = [] := List.eq_nil_of_length_eq_zero hlen
              obtain rfl := hJ
              exact heavy_val rfl (v := .int .u8 (s : Int)) (by simp [execOp, go_sem, e40, f40, kd]) ⟨rfl, rfl⟩
            case o8 =>
              intro A W hv hlen hJ hbase hdL hdH
              obtain ⟨v0, rfl⟩ := List.length_eq_one_iff.1 hlen
              obtain ⟨rfl, rfl⟩ := hJ
              have ey : A.eval (.tmp 41) = .int .u8 (s : Int) := by have := hdH 7 41 0 (by kernel_rfl) rfl (by kernel_rfl); simpa using this.symm
              have fy : A.tmps[41]?.getD undef = .int .u8 (s : Int) := by simpa [Act.eval] using ey
              refine heavy_call rfl (args := #[.int .u8 (s : Int)]) (f := 67) (by simp [execOp, resolve, invoke, go_sem, ey, fy]) ?_
              refine (givenUp_any s _).mono ?_
              rintro e w' ⟨rfl, rfl⟩
              exact ⟨_, rfl, rfl, rfl⟩
            case o9 =>
              intro A W hv hlen hJ hbase hdL hdH
              have e34 : A.eval (.tmp 34) = ptr g := hdL 0 34 (by kernel_rfl) (by kernel_rfl) (by kernel_rfl)
              have f34 : A.tmps[34]?.getD undef = ptr g := by simpa [Act.eval] using e34
              exact light_val rfl (v := ptr g) (by simp [execOp, go_sem, e34, f34]) hJ rfl
            case o10 =>
              intro A W hv hlen hJ hbase hdL hdH
              have e43 : A.eval (.tmp 43) = ptr g := hdL 9 43 (by kernel_rfl) (by kernel_rfl) (by kernel_rfl)
              have f43 : A.tmps[43]?.getD undef = ptr g := by simpa [Act.eval] using e43
              exact light_val rfl (v := .pointer (some ⟨g, 241, none⟩)) (by simp [execOp, go_sem, e43, f43]) hJ rfl
            case o11 =>
              intro A W hv hlen hJ hbase hdL hdH
              have e44 : A.eval (.tmp 44) = .pointer (some ⟨g, 241, none⟩) := hdL 10 44 (by kernel_rfl) (by kernel_rfl) (by kernel_rfl)
              have f44 : A.tmps[44]?.getD undef = .pointer (some ⟨g, 241, none⟩) := by simpa [Act.eval] using e44
              have e35 : A.eval (.tmp 35) = .int .i64 (j : Int) := hdL 1 35 (by kernel_rfl) (by kernel_rfl) (by kernel_rfl)
              have f35 : A.tmps[35]?.getD undef = .int .i64 (j : Int) := by simpa [Act.eval] using e35
              have hr := run_idxOff arr1_kinds W g 241 j hj2 .i64
              exact light_val rfl (v := .pointer (some ⟨g, 241 + j, none⟩)) (by simp [execOp, e44, e35, hr, Result.andThen]) hJ rfl
            case o12 =>
              intro A W hv hlen hJ hbase hdL hdH
              have e45 : A.eval (.tmp 45) = .pointer (some ⟨g, 241 + j, none⟩) := hdL 11 45 (by kernel_rfl) (by kernel_rfl) (by kernel_rfl)
              have f45 : A.tmps[45]?.getD undef = .pointer (some ⟨g, 241 + j, none⟩) := by simpa [Act.eval] using e45
              match hv, hlen with
              | [v0, v1], _ =>
                obtain ⟨rfl, rfl⟩ := hJ
                have e1 : A.eval (.tmp 42) = .int .u8 ((dropS s : Nat) : Int) := by have := hdH 8 42 1 (by kernel_rfl) rfl (by kernel_rfl); simpa using this.symm
                have hr := run_st1 (P := Try.prog) (off := 241 + j) 69 kind_size (.int .u8 ((dropS s : Nat) : Int)) rfl _ _ B0 (by rw [hXl.out]; omega)
                have hb2q := B0.set (241 + j) (.int .u8 ((dropS s : Nat) : Int))
                refine heavy_wp rfl ?_
                unfold Oper.wp execOp
                simp only [e1, e45, Sem.run_bind, hr, Result.andThen_ok]
                exact ⟨_, rfl, hb2q, (Fr.refl _ _).setCell _ _ (fun _ => rfl)⟩
            case oe =>
              intro vs W'q hv hlen hJ hL hH
              match hv, hlen with
              | [z0, z1, z2], _ =>
                obtain ⟨b2q, f2q⟩ := hJ
                rw [hst.out] at b2q
                simp only [layL, Nat.reduceAdd, Act.put, List.setIfInBounds_toArray, List.set_cons_zero, List.set_cons_succ]
                clear hL hH
                generalize vs 0 = y100 at *
                generalize vs 1 = y101 at *
                generalize vs 2 = y102 at *
                generalize vs 3 = y103 at *
                generalize vs 4 = y104 at *
                generalize vs 5 = y105 at *
                generalize vs 6 = y106 at *
                generalize vs 7 = y107 at *
                generalize vs 8 = y108 at *
                generalize vs 9 = y109 at *
                generalize vs 10 = y110 at *
                generalize vs 11 = y111 at *
                generalize vs 12 = y112 at *
                go_wp2
                go_ret2
                rw [hR.out]
                exact ⟨rfl, b2q, (F2.thenN f0q).trans f2q⟩
end Go.Proofs.Ytkhdniccnefdhaa
