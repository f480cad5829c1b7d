/- Texts Y3 of the proof of PoolClones, one behind the other. -/
import Derived.Test.YtghkpeejogldkaaBundlePoolClones1
import Derived.Test.YtghkpeejogldkaaBundlePoolClones2
import Derived.Test.YtghkpeejogldkaaBundlePoolClones3
import Derived.Test.YtghkpeejogldkaaBundlePoolClones4
import Derived.Test.YtghkpeejogldkaaBundlePoolClones5
import Derived.Test.YtghkpeejogldkaaBundlePoolClones6
/- A pool in memory: Counts, Clone, Commit, New, Free, turn, Mark, Tidy, Take, Hold, Drop, Load. -/
namespace Go.Proofs.Ytghkpeejogldkaa
open Go.RowKit Go.Proofs.U
set_option linter.unusedSimpArgs false
set_option linter.unusedVariables false
theorem pool_size : (Try.prog.info? 59).map (·.size) = some 481 := by kernel_rfl
theorem pool_under : ∃ d, Try.prog.underlying 59 = some d ∧ d.isRow = true := ⟨.struct (Try.prog.fieldsOf 59), by kernel_rfl, rfl⟩
theorem pool_zero : (Try.prog.info? 59).map (·.zero) = some (some (.agg (poolL []).toArray)) := by kernel_rfl
theorem kind_size : (Try.prog.info? 56).map (·.size) = some 1 := by kernel_rfl
theorem kinds_size : (Try.prog.info? 57).map (·.size) = some 240 := by kernel_rfl

set_option maxRecDepth 100000 in
theorem pcounts_any {L : List Pg} (g : Nat) (w : World) (h : PoolB w g L) :
    Calls Try.prog 28 #[ptr g] w fun r w' => r = .returned (pgV (plCounts L)) ∧ Fr noB w w' := by
  obtain ⟨c, Hc⟩ : ∃ c, Hid (plCounts L = c) := ⟨_, rfl⟩
  have hcl : Hid (c.length = 240) := by show _ = _; rw [← Hc.out, plCounts_len]
  have hds := show Hid _ from poolL_counts L
  rw [Hc.out] at hds ⊢
  obtain ⟨X, HX⟩ : ∃ X, Hid (poolL L = X) := ⟨_, rfl⟩
  unfold PoolB at h
  rw [HX.out] at hds h
  have hl := h.lt
  go_enter Try.func28, Try.ntmps28
  go_wp2_with (first
    | (with_reducible refine at_wpP ?_; refine wpList_allocA arr_counts rfl rfl ?_; intro g2 w2 hg2 b2 f2 s2; have h2 := h.fr0 f2)
    | (with_reducible refine at_wpP ?_; refine at_ld 50 _ rfl ?_; go_must (refine wpList_loadV rfl 50 _ rfl g 1 rfl _ X (pgv c) _ h2 arr_counts.und rfl (by rw [arr_counts.size, pgv_len, hcl.out]) (by rw [pgv_len, hcl.out]; exact hds.out) ?_))
    | (with_reducible refine at_wpP ?_; refine at_st 50 _ _ rfl ?_; go_must (refine wpList_storeA arr_counts rfl _ _ rfl g2 rfl c rfl _ b2 hcl.out (zerB_len 240) ?_; intro w3 b3 f3)))
  refine bodyPost_ret (v := pgV c) (results_arr arr_counts Try.results28 _ w3 g2 c rfl b3 hcl.out) rfl ⟨rfl, ?_⟩
  exact f2.thenT f3 (fun i hi q => by unfold onB1 at q; omega)

set_option maxRecDepth 100000 in
theorem pclone_any {L : List Pg} (g : Nat) (w : World) (h : PoolB w g L) :
    Calls Try.prog 22 #[ptr g] w fun r w' => ∃ g', r = .returned (ptr g') ∧ w.heap.size ≤ g' ∧ PoolB w' g' L ∧ Fr noB w w' := by
  obtain ⟨X, HX⟩ : ∃ X, Hid (poolL L = X) := ⟨_, rfl⟩
  have hXl : Hid (X.length = 481) := by show _ = _; rw [← HX.out, poolL_len]
  have hX1 : ∀ v ∈ X, v.oneCell' = true := by rw [← HX.out]; exact poolL_one L
  obtain ⟨Z, HZ⟩ : ∃ Z, Hid (poolL [] = Z) := ⟨_, rfl⟩
  have hZl : Hid (Z.length = 481) := by show _ = _; rw [← HZ.out, poolL_len]
  have hz0 := pool_zero
  rw [HZ.out] at hz0
  unfold PoolB at h ⊢
  rw [HX.out] at h ⊢
  have hl := h.lt
  obtain ⟨d, hu, hd⟩ := pool_under
  go_enter Try.func22, Try.ntmps22
  go_wp2_with (first
    | (with_reducible refine at_wpP ?_; refine at_ld 59 _ rfl ?_; go_must (refine wpList_loadV rfl 59 _ rfl g 0 rfl _ X X d h hu hd (by rw [pool_size, hXl.out]) (by rw [List.drop_zero, List.take_length]) ?_))
    | (with_reducible refine at_wpP ?_; refine wpList_allocV rfl 59 rfl Z hz0 ?_; intro g2 w2 hg2 b2 f2 s2)
    | (with_reducible refine at_wpP ?_; refine at_st 59 _ _ rfl ?_; go_must (refine wpList_storeV rfl 59 _ _ rfl g2 0 rfl X rfl _ _ b2 (by rw [pool_size, hXl.out]) (by rw [hXl.out, hZl.out]; decide) hX1 ?_; intro w3 b3 f3; rw [putAt_all _ _ (by rw [hXl.out, hZl.out])] at b3)))
  go_ret
  exact ⟨g2, rfl, s2, b3, f2.thenT f3 (fun i hi q => by unfold onB1 at q; omega)⟩

set_option maxRecDepth 100000 in
theorem pcommit_any {L : List Pg} (g : Nat) (w : World) (h : PoolB w g L) :
    Calls Try.prog 20 #[ptr g] w fun r w' => r = .returned (.tuple #[]) ∧ PoolB w' g (plCommit L) ∧ Fr (onB1 g) w w' := by
  obtain ⟨X, HX⟩ : ∃ X, Hid (poolL L = X) := ⟨_, rfl⟩
  have hXl : Hid (X.length = 481) := by show _ = _; rw [← HX.out, poolL_len]
  have hcm := show Hid _ from poolL_comm L
  unfold PoolB at h ⊢
  rw [HX.out] at h hcm
  go_enter Try.func20, Try.ntmps20
  go_wp2_with (first
    | (refine at_cut 57 _ _ _ _ rfl ?_; go_must (refine wpList_allOff arr1_kinds (by decide) rfl _ rfl g 241 rfl ?_))
    | (with_reducible refine at_wpP ?_; refine at_clr _ 68 rfl ?_; go_must (refine wpList_clrV rfl _ 68 rfl g _ X h 56 (.int .u8 0) Try.underlying68 (by kernel_rfl) rfl rfl 241 240 240 rfl (by decide) (by rw [hXl.out]; decide) ?_; intro w1 b1 f1)))
  go_end0
  refine ⟨rfl, ?_, f1⟩
  rw [← hcm.out]; exact b1
theorem pool_places : (Try.prog.fieldsOf 59).toList.mapM (fun f => (Try.prog.info? f.type).map fun i => (f.offset, i.size)) = some [(0, 1), (1, 240), (241, 240)] := by kernel_rfl
theorem pool_struct : Try.prog.underlying 59 = some (.struct (Try.prog.fieldsOf 59)) := by kernel_rfl
theorem built_pool (n : Int) : Try.prog.built 59 [(0, .int .i64 (plN n : Int))] = some (poolL (plNew n)).toArray := by
  rw [built_struct _ _ pool_struct _ pool_zero _ pool_places]
  rw [fill_put _ _ 0 0 1 (.int .i64 (plN n : Int)) [.int .i64 (plN n : Int)] rfl rfl rfl (by rw [poolL_len]; decide)]
  have hl1 : 0 + [Value.int .i64 (plN n : Int)].length ≤ (poolL []).length := by rw [poolL_len]; simp
  unfold Instr.fill
  congr 2
  refine poolL_ext (by rw [putAt_len _ _ _ hl1, poolL_len]) ?_ ?_ ?_
  · rw [plNew_len]; rfl
  · intro j hj
    rw [putAt_get _ _ _ hl1, if_neg (by simp), poolL_cnt _ _ hj, plNew_at]; rfl
  · intro j hj
    rw [putAt_get _ _ _ hl1, if_neg (by simp), poolL_knd _ _ hj, plNew_at]; rfl
section
variable {w : World} {ops : Array Oper} {rest : List Oper} {o : Oper} {a : Act} {Q : Exit → Act → World → Prop}
theorem wpList_buildPool (hgd : Region.wanted o (yielded ops a.tmps) = true) (x : Operand) (ho : o.op = .build 59 #[(0, x)]) (n : Int) (z : Int) (hx : a.eval x = .int .i64 z) (hz : z = (plN n : Int))
    (h : wpList Try.prog ops Q rest (a.put o.dst (.agg (poolL (plNew n)).toArray)) w) : wpList Try.prog ops Q (o :: rest) a w := by
  subst hz
  refine wpList_wanted hgd fun K hK => ?_
  have hrun := run_build (P := Try.prog) w 59 #[(0, .int .i64 (plN n : Int))] _ (built_pool n)
  unfold Oper.wp
  simp [execOp, ho, hx, hrun, Result.andThen]
  exact hK _ _ h
end
set_option maxRecDepth 100000 in
theorem pnew_any (n : Int) (w : World) :
    Calls Try.prog 9 #[.int .i64 n] w fun r w' => ∃ g, r = .returned (ptr g) ∧ w.heap.size ≤ g ∧ PoolB w' g (plNew n) ∧ Fr noB w w' := by
  unfold PoolB
  obtain ⟨X, HX⟩ : ∃ X, Hid (poolL (plNew n) = X) := ⟨_, rfl⟩
  rw [HX.out]
  go_enter Try.func9, Try.ntmps9
  go_wp2_with (first
    | (with_reducible refine at_wpP ?_; refine wpList_buildPool rfl _ rfl n _ rfl ?hz ?_; rotate_left 1; rw [HX.out])
    | (with_reducible refine at_wpP ?_; refine wpList_boxV rfl 59 _ rfl X rfl ?_; intro g1 w1 hg1 b1 f1 s1))
  case hz => unfold plN; omega
  go_ret
  exact ⟨g1, rfl, s1, b1, f1⟩

set_option maxHeartbeats 1000000 in
theorem pfreeN_any {L : List Pg} (hL : plOk L) (g : Nat) (w : World) (h : PoolB w g L) :
    Calls Try.prog 29 #[ptr g] w fun r w' => r = .returned (.int .i64 ((plFree L : Nat) : Int)) ∧ w = w' := by
  have k0 := h.size
  have hl240 := hL.1
  obtain ⟨N, HN⟩ : ∃ N, Hid (plFree L = N) := ⟨_, rfl⟩
  rw [HN.out]
  go_enter Try.func29, Try.ntmps29
  go_wp2
  go_loop [3, 9] (fun u i => ∃ (k : Nat) (m : Nat), k ≤ L.length ∧ i = .int .i64 (k : Int) ∧ u = .int .i64 (m : Int) ∧ Hid (plFree (L.take k) = m)) (fun _ i => L.length - (intOf i).toNat)
  case atStart => exact ⟨0, 0, by omega, rfl, rfl, rfl⟩
  case round =>
    obtain ⟨k, m, hk, rfl, rfl, hm⟩ := hrel
    have hml : m ≤ 240 := by
      have := plFree_le (L.take k)
      rw [hm.out, List.length_take] at this; omega
    by_cases hlt : k < L.length
    · have hs := show Hid _ from plFree_succ L k hlt
      rw [hm.out] at hs
      cases hb : (plAt L k).free with
      | false =>
        rw [hb] at hs
        go_wp2_with (first
          | (go_at_call 32; go_must (refine (pfree_any hL g k (by omega) _ h).mono ?_; rintro e w' ⟨rfl, rfl⟩; rw [hb])))
        go_round
        case rel => exact ⟨k + 1, m, by omega, by go_num, rfl, hs⟩
        case measure => simp [intOf]; omega
      | true =>
        rw [hb] at hs
        go_wp2_with (first
          | (go_at_call 32; go_must (refine (pfree_any hL g k (by omega) _ h).mono ?_; rintro e w' ⟨rfl, rfl⟩; rw [hb])))
        go_round
        case rel => exact ⟨k + 1, m + 1, by omega, by go_num, by go_num, hs⟩
        case measure => simp [intOf]; omega
    · obtain rfl : k = L.length := by omega
      rw [List.take_length] at hm
      obtain rfl : m = N := hm.out.symm.trans HN.out
      go_wp2
      go_ret
      exact ⟨rfl, rfl⟩
def turnP (a b : Nat) (x : Pg) : Pg := if x.s = a then ⟨x.c, b⟩ else x
theorem turnP0 (a b : Nat) (h : a ≠ 0) : turnP a b Pg0 = Pg0 := by unfold turnP; rw [if_neg (fun e => h e.symm)]
theorem plExt {L M : List Pg} (hl : L.length = M.length) (h : ∀ i, i < L.length → plAt L i = plAt M i) : L = M := by
  refine List.ext_getElem hl fun i h1 h2 => ?_
  have := h i h1
  rwa [plAt_get _ _ h1, plAt_get _ _ h2] at this
/-- The first k pages turned. -/
def turnK (a b k : Nat) (L : List Pg) : List Pg := (L.take k).map (turnP a b) ++ L.drop k
theorem turnK_len (a b k : Nat) (L : List Pg) : (turnK a b k L).length = L.length := by
  unfold turnK; rw [List.length_append, List.length_map, ← List.length_append, List.take_append_drop]
theorem turnK_at (a b k : Nat) (L : List Pg) (ha : a ≠ 0) (i : Nat) : plAt (turnK a b k L) i = if i < k then turnP a b (plAt L i) else plAt L i := by
  by_cases hi : i < L.length
  · rw [plAt_get _ _ (by rw [turnK_len]; exact hi), plAt_get _ _ hi]
    unfold turnK
    by_cases hk : i < k
    · rw [if_pos hk, List.getElem_append_left (by simp; omega), List.getElem_map, List.getElem_take]
    · rw [if_neg hk, List.getElem_append_right (by simp; omega), List.getElem_drop]
      congr 1; simp; omega
  · rw [plAt_out _ _ (by rw [turnK_len]; omega), plAt_out _ _ (by omega), turnP0 _ _ ha, ite_self]
theorem turnK_zero (a b : Nat) (L : List Pg) : turnK a b 0 L = L := by simp [turnK]
theorem turnK_all (a b : Nat) (L : List Pg) (h : L.length ≤ 240) : turnK a b 240 L = L.map (turnP a b) := by
  unfold turnK; rw [List.take_of_length_le h, List.drop_of_length_le h, List.append_nil]
theorem turnK_yes (a b k : Nat) (L : List Pg) (ha : a ≠ 0) (hk : k < L.length) (h : (plAt L k).s = a) : (turnK a b k L).set k ⟨(plAt (turnK a b k L) k).c, b⟩ = turnK a b (k + 1) L := by
  refine plExt (by rw [List.length_set, turnK_len, turnK_len]) fun i hi => ?_
  rw [plAt_set _ _ _ _ (by rw [turnK_len]; exact hk), turnK_at _ _ _ _ ha, turnK_at _ _ _ _ ha, turnK_at _ _ _ _ ha, if_neg (Nat.lt_irrefl k)]
  by_cases e : i = k
  · subst e
    rw [if_pos rfl, if_pos (by omega)]
    unfold turnP; rw [if_pos h]
  · rw [if_neg e]
    by_cases h2 : i < k
    · rw [if_pos h2, if_pos (by omega)]
    · rw [if_neg h2, if_neg (by omega)]
theorem turnK_no (a b k : Nat) (L : List Pg) (ha : a ≠ 0) (h : ¬ (plAt L k).s = a) : turnK a b (k + 1) L = turnK a b k L := by
  refine plExt (by rw [turnK_len, turnK_len]) fun i hi => ?_
  rw [turnK_at _ _ _ _ ha, turnK_at _ _ _ _ ha]
  by_cases e : i = k
  · subst e
    rw [if_pos (by omega), if_neg (Nat.lt_irrefl _)]
    unfold turnP; rw [if_neg h]
  · by_cases h2 : i < k
    · rw [if_pos h2, if_pos (by omega)]
    · rw [if_neg h2, if_neg (by omega)]
theorem run_index1 {P : Program} {t e : TypeId} {n : Nat} (T : Arr1 P t e n) (k : IntKind) (he : P.underlying e = some (.int k)) (w : World) (p : List Int) (hl : p.length = n) (i : Nat) (hi : i < n) : (Instr.index t (.agg (p.map (Value.int k)).toArray) (.int .i64 (i : Int))).run P w = .ok (.int k (p.getD i 0)) w := by
  obtain ⟨ii, hii, hs⟩ := Option.map_eq_some_iff.1 T.size
  have hgi : p[i]? = some (p.getD i 0) := by simp [List.getD, show i < p.length by omega]
  generalize p.getD i 0 = y at hgi
  simp [Instr.index, asIntOf, run_underlying T.und, run_underlying he, part, isAgg, sizeOf, typeInfo, hii, hs, go_sem, hi, hgi]
theorem wpList_indexK {w : World} {ops : Array Oper} {rest : List Oper} {o : Oper} {a : Act} {Q : Exit → Act → World → Prop} {t e : TypeId} {n : Nat} (T : Arr1 Try.prog t e n) (he : Try.prog.underlying e = some (.int .u8)) (hgd : Region.wanted o (yielded ops a.tmps) = true) (x y : Operand) (ho : o.op = .index t x y) (p : List Int) (hx : a.eval x = pgV p) (hl : p.length = n) (i : Nat) (hy : a.eval y = .int .i64 (i : Int)) (hi : i < n)
    (h : wpList Try.prog ops Q rest (a.put o.dst (.int .u8 (p.getD i 0))) w) : wpList Try.prog ops Q (o :: rest) a w := by
  refine wpList_wanted hgd fun K hK => ?_
  have hrun := run_index1 T .u8 he w p hl i hi
  unfold pgV pgv at hx
  unfold Oper.wp
  simp [execOp, ho, hx, hy, hrun, Result.andThen]
  exact hK _ _ h
theorem cast_inj {a b : Nat} (h : ¬ a = b) : ((a : Int) == (b : Int)) = false := by simp; omega
set_option maxRecDepth 100000 in
set_option maxHeartbeats 1000000 in
theorem pturn_any {L : List Pg} (hL : plOk L) (g a b : Nat) (ha : a ≠ 0) (w : World) (h : PoolB w g L) :
    Calls Try.prog 39 #[ptr g, .int .u8 (a : Int), .int .u8 (b : Int)] w fun r w' => r = .returned (.tuple #[]) ∧ PoolB w' g (L.map (turnP a b)) ∧ Fr (onB1 g) w w' := by
  have hl240 := hL.1
  obtain ⟨M, HM⟩ : ∃ M, Hid (L.map (turnP a b) = M) := ⟨_, rfl⟩
  rw [HM.out]
  obtain ⟨c, Hc⟩ : ∃ c, Hid (plKinds L = c) := ⟨_, rfl⟩
  have hcl : Hid (c.length = 240) := by show _ = _; rw [← Hc.out, plKinds_len]
  have hds := show Hid _ from poolL_kinds L
  rw [Hc.out] at hds
  have hca : ∀ i, i < 240 → Hid (c.getD i 0 = ((plAt L i).s : Int)) := fun i hi => by show _ = _; rw [← Hc.out, plKinds_at _ _ hi]
  go_enter Try.func39, Try.ntmps39
  go_wp2_with (first
    | (with_reducible refine at_wpP ?_; refine at_ld 57 _ rfl ?_; go_must (refine wpList_loadV rfl 57 _ rfl g 241 rfl _ _ (pgv c) _ h arr1_kinds.und rfl (by rw [kinds_size, pgv_len, hcl.out]) (by rw [pgv_len, hcl.out]; exact hds.out) ?_)))
  go_loopw [12] (fun i wr => ∃ (k : Nat), k ≤ 240 ∧ i = .int .i64 (k : Int) ∧ PoolB wr g (turnK a b k L) ∧ Fr (onB1 g) w wr) (fun i _ => 240 - (intOf i).toNat)
  case atStart => exact ⟨0, by omega, rfl, by rw [turnK_zero]; exact h, Fr.refl _ _⟩
  case round =>
    obtain ⟨k, hk, rfl, hb, hf⟩ := hrel
    by_cases hlt : k < 240
    · have hck := hca k hlt
      by_cases hs : (plAt L k).s = a
      · rw [hs] at hck
        have hkl : k < L.length := by
          by_cases q : k < L.length
          · exact q
          · rw [plAt_out _ _ (by omega)] at hs; exact absurd hs.symm ha
        have hst := show Hid _ from poolL_setK (turnK a b k L) k (by rw [turnK_len]; exact hkl) (by rw [turnK_len]; exact hl240) b (b : Int) rfl
        rw [turnK_yes a b k L ha hkl hs] at hst
        obtain ⟨X, HX⟩ : ∃ X, Hid (poolL (turnK a b k L) = X) := ⟨_, rfl⟩
        have hXl : Hid (X.length = 481) := by show _ = _; rw [← HX.out, poolL_len]
        unfold PoolB at hb
        rw [HX.out] at hb hst
        clear hs
        go_wp2_with (first
          | (refine at_index 57 _ _ rfl ?_; go_must (refine wpList_indexK arr1_kinds Try.underlying56 rfl _ _ rfl c rfl hcl.out k rfl hlt ?_; rw [hck.out]))
          | (refine at_idx 57 _ _ rfl ?_; go_must (refine wpList_idxOff arr1_kinds rfl _ _ rfl g 241 rfl .i64 _ k rfl rfl hlt ?_))
          | (with_reducible refine at_wpP ?_; refine at_st 56 _ _ rfl ?_; go_must (refine wpList_store1 rfl 56 _ _ rfl g (241 + k) rfl (.int .u8 (b : Int)) rfl rfl _ _ hb kind_size (by rw [hXl.out]; omega) ?_; intro w1 b1 f1; rw [hst.out] at b1; have F1 := hf.trans f1)))
        go_roundw
        case rel => exact ⟨k + 1, by omega, by go_num, b1, F1⟩
        case measure => simp [intOf]; omega
      · have hs' := cast_inj hs
        have hno := show Hid _ from turnK_no a b k L ha hs
        clear hs
        obtain ⟨y, Hy⟩ : ∃ y, Hid (((plAt L k).s : Int) = y) := ⟨_, rfl⟩
        rw [Hy.out] at hck hs'
        go_wp2_with (first
          | (refine at_index 57 _ _ rfl ?_; go_must (refine wpList_indexK arr1_kinds Try.underlying56 rfl _ _ rfl c rfl hcl.out k rfl hlt ?_; rw [hck.out])))
        go_roundw
        case rel => exact ⟨k + 1, by omega, by go_num, by rw [hno.out]; exact hb, hf⟩
        case measure => simp [intOf]; omega
    · obtain rfl : k = 240 := by omega
      rw [turnK_all a b L hl240, HM.out] at hb
      go_wp2
      go_end0
      exact ⟨rfl, hb, hf⟩
theorem pmark_any {L : List Pg} (hL : plOk L) (g : Nat) (w : World) (h : PoolB w g L) :
    Calls Try.prog 23 #[ptr g] w fun r w' => ∃ g', r = .returned (ptr g') ∧ w.heap.size ≤ g' ∧ PoolB w' g' (plMark L) ∧ PoolB w' g (plMark L) ∧ Fr (onB1 g) w w' := by
  have ht := fun w h => pturn_any hL g 1 2 (by decide) w h
  change ∀ w h, Calls Try.prog _ _ w (fun r w' => r = .returned (.tuple #[]) ∧ PoolB w' g (plMark L) ∧ Fr (onB1 g) w w') at ht
  go_enter Try.func23, Try.ntmps23
  go_wp2_with (first
    | (go_at_call 39; go_must (refine (ht _ h).mono ?_; rintro e w1 ⟨rfl, b1, f1⟩))
    | (go_at_call 22; go_must (refine (pclone_any g _ b1).mono ?_; rintro e w2 ⟨g2, rfl, s2, b2, f2⟩)))
  go_ret
  have := f1.size
  exact ⟨g2, rfl, by omega, b2, b1.fr0 f2, f1.thenN f2⟩
theorem ptidy_any {L : List Pg} (hL : plOk L) (g : Nat) (w : World) (h : PoolB w g L) :
    Calls Try.prog 26 #[ptr g] w fun r w' => r = .returned (.tuple #[]) ∧ PoolB w' g (plTidy L) ∧ Fr (onB1 g) w w' := by
  have ht := fun w h => pturn_any hL g 3 0 (by decide) w h
  change ∀ w h, Calls Try.prog _ _ w (fun r w' => r = .returned (.tuple #[]) ∧ PoolB w' g (plTidy L) ∧ Fr (onB1 g) w w') at ht
  go_enter Try.func26, Try.ntmps26
  go_wp2_with (first
    | (go_at_call 39; go_must (refine (ht _ h).mono ?_; rintro e w1 ⟨rfl, b1, f1⟩)))
  go_end0
  exact ⟨rfl, b1, f1⟩
end Go.Proofs.Ytghkpeejogldkaa
