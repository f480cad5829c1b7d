/- Texts JB, JC, H4 of the proof of PruneDense, one behind the other. -/
import Derived.Test.YtmkinaijkgkgiaaBundlePruneDense1
import Derived.Test.YtmkinaijkgkgiaaBundlePruneDense2
import Derived.Test.YtmkinaijkgkgiaaBundlePruneDense3
import Derived.Test.YtmkinaijkgkgiaaBundlePruneDense4
import Derived.Test.YtmkinaijkgkgiaaBundlePruneDense5
import Derived.Test.YtmkinaijkgkgiaaBundlePruneDense6
import Derived.Test.YtmkinaijkgkgiaaBundlePruneDense7
import Derived.Test.YtmkinaijkgkgiaaBundlePruneDense8
import Derived.Test.YtmkinaijkgkgiaaBundlePruneDense9
import Derived.Test.YtmkinaijkgkgiaaBundlePruneDense10
import Derived.Test.YtmkinaijkgkgiaaBundlePruneDense11
/- slices.Insert of entries into a row of the call's own making: at the end, into a new row, into its room; no condition. -/
namespace Go.Proofs.Ytmkinaijkgkgiaa
open Go.RowKit Go.Proofs.U
set_option linter.unusedSimpArgs false
set_option linter.unusedVariables false
/-- A row of the call's own making that is handed back in the place of another one. -/
def InsIs (w w' : World) (base : Nat) (v : Value) (l' : List (Int × Int)) (r : Ending) : Prop := ∃ v', r = .returned v' ∧ EnO w' base v' l' ∧ Fr (fun k => v.ownBlock = some k) w w' ∧ (∀ k, v'.ownBlock = some k → v.ownBlock = some k ∨ w.heap.size ≤ k)
set_option maxRecDepth 100000 in
set_option maxHeartbeats 2000000 in
theorem insE_end {w : World} {base : Nat} {v u : Value} {l m : List (Int × Int)} (hb : base ≤ w.heap.size) (hO : EnO w base v l) (hu : SlR enC 2 w u m) (hm : 1 ≤ m.length) (hl : l.length + m.length ≤ 1000) :
    Calls Try.prog 71 #[v, .int .i64 (l.length : Int), u] w fun r w' => InsIs w w' base v (l ++ m) r := by
  obtain ⟨a, cap, hv⟩ := hO.opn
  obtain ⟨a', cap', hu', hcu⟩ := hu.opn
  subst hv
  subst hu'
  have hz1 : ¬ ((m.length : Int) = 0) := by omega
  have hz2 : ((l.length : Int) == (l.length : Int)) = true := by simp
  have h63 : l.length + m.length ≤ maxLen := by unfold maxLen; omega
  have hb2 : (l.length + m.length) * 16 ≤ 140737488355328 := by omega
  go_enter Try.func71, Try.ntmps71
  go_wp2_with (first
    | (refine at_cut 38 _ _ _ _ rfl ?_; go_must (refine wpList_cutlox rfl 38 _ _ rfl 36 uE 2 en_size a l.length cap rfl .i64 (l.length : Int) l.length rfl rfl (Nat.le_refl _) ?_; intro ao1))
    | (at_builtin; go_must (refine wpList_appM rfl _ _ 38 rfl _ 16 uE en_info rfl (by decide) (.slice a l.length cap) rfl hO (.slice a' m.length cap') m rfl hu hm (fun y _ => en_one y) h63 hb2 hb ?_; intro v' w1 o1 f1 p1)))
  go_ret
  exact ⟨v', rfl, o1, f1, p1⟩
/-- Elements cut apart. -/
theorem fl_take (l : List (Int × Int)) (i : Nat) (hi : i ≤ l.length) : (l.flatMap enC).take (i * 2) = (l.take i).flatMap enC := by
  conv => lhs; rw [← List.take_append_drop i l]
  rw [List.flatMap_append, List.take_left' (by rw [fl_len, List.length_take]; omega)]
theorem cur_take {cur : List Value} {l : List (Int × Int)} (h : cur.take (l.length * 2) = l.flatMap enC) (i : Nat) (hi : i ≤ l.length) : cur.take (i * 2) = (l.take i).flatMap enC := by
  rw [← fl_take l i hi, ← h, List.take_take, Nat.min_eq_left (by omega)]
/-- What was moved and put into a row's room. -/
theorem gap_en {cur : List Value} {l m b : List (Int × Int)} {i N : Nat} (hi : i ≤ l.length) (ht : cur.take (i * 2) = (l.take i).flatMap enC) (hN : N = i + m.length + b.length) (hl : N * 2 ≤ cur.length) :
    (putAt (putAt cur ((i + m.length) * 2) (b.flatMap enC)) (i * 2) (m.flatMap enC)).take (N * 2) = (l.take i ++ (m ++ b)).flatMap enC ∧
    (putAt (putAt cur (i * 2) (m.flatMap enC)) ((i + m.length) * 2) (b.flatMap enC)).take (N * 2) = (l.take i ++ (m ++ b)).flatMap enC := by
  have hA : ((l.take i).flatMap enC).length = i * 2 := by rw [fl_len, List.length_take]; omega
  have hM := fl_len m
  have hB := fl_len b
  have h1 := put_gap (c := cur) (A := (l.take i).flatMap enC) (M := m.flatMap enC) (B := b.flatMap enC) (by rw [hA]; exact ht) (by rw [hA, hM, hB]; omega)
  have h2 := put_gap' (c := cur) (A := (l.take i).flatMap enC) (M := m.flatMap enC) (B := b.flatMap enC) (by rw [hA]; exact ht) (by rw [hA, hM, hB]; omega)
  rw [hA, hM, hB] at h1 h2
  rw [show i * 2 + m.length * 2 = (i + m.length) * 2 by omega, show (i + m.length) * 2 + b.length * 2 = N * 2 by omega] at h1 h2
  rw [List.flatMap_append, List.flatMap_append]
  exact ⟨h1, h2⟩
theorem drop_src {w : World} {g : Nat} {t : TypeId} {cur : List Value} (h : BxV w g t cur) {l : List (Int × Int)} (ht : cur.take (l.length * 2) = l.flatMap enC) (i : Nat) : ∀ j u, ((l.drop i).flatMap enC)[j]? = some u → w.cell? ((⟨g, i * 2, none⟩ : Addr).add j) = some u := by
  have := bx_part h ht i (l.drop i).length
  rw [List.take_length] at this
  exact this
set_option maxRecDepth 100000 in
set_option maxHeartbeats 4000000 in
theorem insE_grow {w : World} {base bu : Nat} {v u : Value} {l m : List (Int × Int)} {i : Nat} (hb : base ≤ w.heap.size) (hO : EnO w base v l) (hu : EnO w bu u m) (hm : 1 ≤ m.length) (hl : l.length + m.length ≤ 1000) (hi : i < l.length) {a : Option Addr} {cap : Nat} (hv : v = .slice a l.length cap) (hcap : cap < l.length + m.length) :
    Calls Try.prog 71 #[v, .int .i64 (i : Int), u] w fun r w' => InsIs w w' base v (l.take i ++ (m ++ l.drop i)) r := by
  rcases hO.parts with ⟨_, rfl⟩ | ⟨g, cap', cur, hv', hbg, hB, hnc, hcm, hcl, hct⟩
  · simp at hi
  rw [hv'] at hv
  cases hv
  subst hv'
  rcases hu.parts with ⟨_, rfl⟩ | ⟨gu, capu, curu, hvu, hbgu, hBu, hnu, hcmu, hclu, hctu⟩
  · simp at hm
  subst hvu
  have hz1 : ¬ ((m.length : Int) = 0) := by omega
  have hz2 : ((i : Int) == (l.length : Int)) = false := by simp; omega
  have hz3 : decide ((cap : Int) < (l.length : Int) + (m.length : Int)) = true := by simp; omega
  have hml : i + (l.length + m.length - i) ≤ maxLen := by unfold maxLen; omega
  have hw1 : IntKind.i64.wrap ((l.length : Int) + (m.length : Int)) = (l.length : Int) + (m.length : Int) := wrap_sm (by omega)
  have hw2 : IntKind.i64.wrap ((l.length : Int) + (m.length : Int) - (i : Int)) = ((l.length + m.length - i : Nat) : Int) := by rw [wrap_sm (by omega)]; omega
  have hw3 : IntKind.i64.wrap ((i : Int) + (m.length : Int)) = ((i + m.length : Nat) : Int) := by rw [wrap_sm (by omega)]; omega
  have e1 : i + (l.length + m.length - i) = l.length + m.length := by omega
  have hcu := drop_src hBu hctu 0
  rw [List.drop_zero] at hcu
  have hcd := drop_src hB hct i
  have hdl : (l.drop i).length = l.length - i := List.length_drop
  go_enter Try.func71, Try.ntmps71
  go_wp2_with (first
    | (refine at_cut 38 _ none _ _ rfl ?_; go_must (refine wpList_cuth rfl 38 _ _ rfl 36 uE 2 en_size _ l.length cap rfl .i64 (i : Int) i rfl rfl (by omega) ?_))
    | (refine at_cut 38 _ _ _ _ rfl ?_; have q := b1; go_must (refine wpList_cutlo1 rfl 38 _ _ rfl 36 uE 2 en_size g1 (l.length + m.length) c1 rfl .i64 (i : Int) i rfl rfl (by omega) (by omega) ?_))
    | (refine at_cut 38 _ _ _ _ rfl ?_; go_must (refine wpList_cutlox rfl 38 _ _ rfl 36 uE 2 en_size _ l.length cap rfl .i64 (i : Int) i rfl rfl (by omega) ?_; intro ao1))
    | (at_builtin; go_must (refine wpList_appZ rfl _ _ 38 3 rfl 36 _ 2 16 uE .i64 Try.underlying3 en_info rfl (by decide) g i cap rfl cur hB (by omega) .i64 (l.length + m.length - i) (by simp [Act.eval, Act.put, hw1, hw2]) (by omega) (by omega) hml (by omega) (by omega) ?_; intro g1 c1 cur1 w1 b1 f1 s1 n1 m1 l1 t1; have z1 := f1.size; have lg := hB.lt; have lgu := hBu.lt))
    | (refine at_cpy _ _ _ _ rfl ?_; go_must (refine wpList_cpyN rfl _ _ 38 rfl 36 2 uE en_size g1 36 cur1 b1 (i * 2) (l.length + m.length - i) (c1 - i) m.length capu ⟨gu, 0 * 2, none⟩ (m.flatMap enC) rfl rfl (by rw [fl_len, Nat.min_eq_left (by omega)]) (fun j x hj => f1.cell (hcu j x hj) (fun q => q)) (by rw [fl_len]; omega) (fl_one m) ?_; intro w2 b2 f2; have z2 := f2.size)))
  have hc1 : ¬ (c1 = i + m.length) := by omega
  have hc2 : ¬ (cap = i) := by omega
  have hp1 : (0 : Int) ≤ (i : Int) + (m.length : Int) := by omega
  have hp2 : i + m.length ≤ l.length + m.length := by omega
  have hp3 : ((i : Int) + (m.length : Int)).toNat = i + m.length := by omega
  have hp4 : (i : Int) ≤ (l.length : Int) := by omega
  have zE := Try.sizeOf36
  have mixed : Try.prog.follows Departure.mixedOrders = true := by kernel_rfl
  have uE1 := run_underlying uE
  have b2d : BxV w2.drew g1 36 (putAt cur1 (i * 2) (m.flatMap enC)) := b2
  have hcd2 : ∀ j x, ((l.drop i).flatMap enC)[j]? = some x → w2.drew.cell? ((⟨g, i * 2, none⟩ : Addr).add j) = some x := fun j x hj => f2.cell (f1.cell (hcd j x hj) (fun q => q)) (fun q => by unfold onB1 at q; rw [Addr.add_lit] at q; simp only at q; omega)
  have hfitd : (i + m.length) * 2 + ((l.drop i).flatMap enC).length ≤ (putAt cur1 (i * 2) (m.flatMap enC)).length := by rw [putAt_len _ _ _ (by rw [fl_len]; omega), fl_len, hdl]; omega
  have hld : ((l.drop i).flatMap enC).length = min (l.length - i) (l.length + m.length - (i + m.length)) * 2 := by rw [fl_len, hdl]; omega
  go_region_law_o (refine step_cpyN rfl _ _ 38 rfl 36 2 uE en_size g1 36 _ b2d ((i + m.length) * 2) (l.length + m.length - (i + m.length)) (c1 - (i + m.length)) (l.length - i) (cap - i) ⟨g, i * 2, none⟩ ((l.drop i).flatMap enC) (by simp [Act.eval, Act.put]) (by simp [Act.eval, Act.put]) hld hcd2 hfitd (fl_one _) ?_)
  have b3 := setCells_bx ((l.drop i).flatMap enC) ((i + m.length) * 2) w2.drew _ b2d hfitd
  have f3 := setCells_fr1 w2.drew g1 ((l.drop i).flatMap enC) ((i + m.length) * 2)
  obtain ⟨w3, H3⟩ : ∃ x, Hid (w2.drew.setCells g1 ((i + m.length) * 2) ((l.drop i).flatMap enC) = x) := ⟨_, rfl⟩
  rw [H3.out] at b3 f3 ⊢
  go_wp2
  go_ret
  have hg := (gap_en (cur := cur1) (l := l) (m := m) (b := l.drop i) (i := i) (N := l.length + m.length) (by omega) (by rw [t1]; exact cur_take hct i (by omega)) (by rw [hdl]; omega) (by omega)).2
  have hlen3 : (putAt (putAt cur1 (i * 2) (m.flatMap enC)) ((i + m.length) * 2) ((l.drop i).flatMap enC)).length = c1 * 2 := by
    rw [putAt_len _ _ _ hfitd, putAt_len _ _ _ (by rw [fl_len]; omega), l1]
  have hln : (l.take i ++ (m ++ l.drop i)).length = l.length + m.length := by rw [List.length_append, List.length_append, List.length_take, hdl]; omega
  refine ⟨_, rfl, EnO.mk (by omega) b3 hln.symm (by rw [hln]; omega) m1 hlen3 (by rw [hln]; exact hg), ?_, fun k hk => Or.inr ?_⟩
  · exact (((f1.mono (fun _ _ q => q.elim)).thenT f2 (fun x hx q => by unfold onB1 at q; omega)).drew).thenT f3 (fun x hx q => by unfold onB1 at q; omega)
  · simp [Value.ownBlock] at hk; omega
set_option maxRecDepth 100000 in
set_option maxHeartbeats 4000000 in
theorem insE_shift {w : World} {base bu : Nat} {v u : Value} {l m : List (Int × Int)} {i : Nat} (hb : base ≤ w.heap.size) (hO : EnO w base v l) (hu : EnO w bu u m) (hap : ∀ k, v.ownBlock = some k → u.ownBlock = some k → False) (hm : 1 ≤ m.length) (hl : l.length + m.length ≤ 1000) (hi : i < l.length) {a : Option Addr} {cap : Nat} (hv : v = .slice a l.length cap) (hcap : l.length + m.length ≤ cap) :
    Calls Try.prog 71 #[v, .int .i64 (i : Int), u] w fun r w' => InsIs w w' base v (l.take i ++ (m ++ l.drop i)) r := by
  rcases hO.parts with ⟨_, rfl⟩ | ⟨g, cap', cur, hv', hbg, hB, hnc, hcm, hcl, hct⟩
  · simp at hi
  rw [hv'] at hv
  cases hv
  subst hv'
  rcases hu.parts with ⟨_, rfl⟩ | ⟨gu, capu, curu, hvu, hbgu, hBu, hnu, hcmu, hclu, hctu⟩
  · simp at hm
  subst hvu
  have hne : gu ≠ g := fun q => hap g rfl (by rw [q]; rfl)
  have hz1 : ¬ ((m.length : Int) = 0) := by omega
  have hz2 : ((i : Int) == (l.length : Int)) = false := by simp; omega
  have hz3 : decide ((cap : Int) < (l.length : Int) + (m.length : Int)) = false := by simp; omega
  have hcap63 : cap ≤ 9223372036854775807 := by unfold maxLen at hcm; omega
  have hw1 : IntKind.i64.wrap ((l.length : Int) + (m.length : Int)) = (l.length : Int) + (m.length : Int) := wrap_sm (by omega)
  have hw3 : IntKind.i64.wrap ((i : Int) + (m.length : Int)) = (i : Int) + (m.length : Int) := wrap_sm (by omega)
  have hcu := drop_src hBu hctu 0
  rw [List.drop_zero] at hcu
  have hcd := drop_src hB hct i
  have hdl : (l.drop i).length = l.length - i := List.length_drop
  have hov := fun o n' cap' => ovl_run hBu hB hne (by omega) 0 o m.length capu n' cap'
  go_enter Try.func71, Try.ntmps71
  go_wp2_with (first
    | (refine at_cut 38 (.tmp 56) none _ _ rfl ?_; go_must (refine wpList_cuth rfl 38 _ _ rfl 36 uE 2 en_size _ l.length cap rfl .i64 ((l.length : Int) + (m.length : Int)) (l.length + m.length) rfl (by omega) (by omega) ?_))
    | (refine at_cut 38 (.tmp 62) _ _ _ rfl ?_; go_must (refine wpList_cutlo1 rfl 38 _ _ rfl 36 uE 2 en_size g (l.length + m.length) cap rfl .i64 ((i : Int) + (m.length : Int)) (i + m.length) rfl (by omega) (by omega) (by omega) ?_))
    | (refine at_cut 38 _ _ _ _ rfl ?_; go_must (refine wpList_cutlox rfl 38 _ _ rfl 36 uE 2 en_size _ l.length cap rfl .i64 (i : Int) i rfl rfl (by omega) ?_; intro ao1))
    | (go_at_call 72; go_must (refine wpList_extern rfl 72 _ _ _ rfl _ _ rfl rfl (hov _ _ _) ?_)))
  have hc1 : ¬ (cap = i + m.length) := by omega
  have hc2 : ¬ (cap = i) := by omega
  have hp1 : (0 : Int) ≤ (i : Int) + (m.length : Int) := by omega
  have hp2 : i + m.length ≤ l.length + m.length := by omega
  have hp3 : ((i : Int) + (m.length : Int)).toNat = i + m.length := by omega
  have hp4 : (i : Int) ≤ (l.length : Int) + (m.length : Int) := by omega
  have hp5 : i ≤ l.length + m.length := by omega
  have hp6 : i ≤ l.length := by omega
  have zE := Try.sizeOf36
  have mixed : Try.prog.follows Departure.mixedOrders = true := by kernel_rfl
  have uE1 := run_underlying uE
  have b2d : BxV w.drew g 36 cur := hB
  have hcd2 : ∀ j x, ((l.drop i).flatMap enC)[j]? = some x → w.drew.cell? ((⟨g, i * 2, none⟩ : Addr).add j) = some x := hcd
  have hfitd : (i + m.length) * 2 + ((l.drop i).flatMap enC).length ≤ cur.length := by rw [fl_len, hdl]; omega
  have hld : ((l.drop i).flatMap enC).length = min (l.length + m.length - i) (l.length + m.length - (i + m.length)) * 2 := by rw [fl_len, hdl]; omega
  go_region_law_o (refine step_cpyN rfl _ _ 38 rfl 36 2 uE en_size g 36 _ b2d ((i + m.length) * 2) (l.length + m.length - (i + m.length)) (cap - (i + m.length)) (l.length + m.length - i) (cap - i) ⟨g, i * 2, none⟩ ((l.drop i).flatMap enC) (by simp [Act.eval, Act.put]) (by simp [Act.eval, Act.put]) hld hcd2 hfitd (fl_one _) ?_)
  have b3 := setCells_bx ((l.drop i).flatMap enC) ((i + m.length) * 2) w.drew _ b2d hfitd
  have f3 := setCells_fr1 w.drew g ((l.drop i).flatMap enC) ((i + m.length) * 2)
  obtain ⟨w3, H3⟩ : ∃ x, Hid (w.drew.setCells g ((i + m.length) * 2) ((l.drop i).flatMap enC) = x) := ⟨_, rfl⟩
  rw [H3.out] at b3 f3 ⊢
  have F3 : Fr (onB1 g) w w3 := ((Fr.refl _ w).drew).thenT f3 (fun _ _ q => q)
  have hlen2 : (putAt cur ((i + m.length) * 2) ((l.drop i).flatMap enC)).length = cap * 2 := by rw [putAt_len _ _ _ hfitd, hcl]
  go_wp2_with (first
    | (refine at_cut 38 _ _ _ _ rfl ?_; go_must (refine wpList_cutlo1 rfl 38 _ _ rfl 36 uE 2 en_size g (l.length + m.length) cap rfl .i64 (i : Int) i rfl rfl (by omega) (by omega) ?_))
    | (refine at_cpy _ _ _ _ rfl ?_; go_must (refine wpList_cpyN rfl _ _ 38 rfl 36 2 uE en_size g 36 _ b3 (i * 2) (l.length + m.length - i) (cap - i) m.length capu ⟨gu, 0 * 2, none⟩ (m.flatMap enC) rfl rfl (by rw [fl_len, Nat.min_eq_left (by omega)]) (fun j x hj => F3.cell (hcu j x hj) (fun q => by unfold onB1 at q; rw [Addr.add_lit] at q; exact hne q)) (by rw [fl_len, hlen2]; omega) (fl_one m) ?_; intro w4 b4 f4)))
  go_ret
  have hg := (gap_en (cur := cur) (l := l) (m := m) (b := l.drop i) (i := i) (N := l.length + m.length) (by omega) (cur_take hct i (by omega)) (by rw [hdl]; omega) (by omega)).1
  have hlen3 : (putAt (putAt cur ((i + m.length) * 2) ((l.drop i).flatMap enC)) (i * 2) (m.flatMap enC)).length = cap * 2 := by
    rw [putAt_len _ _ _ (by rw [fl_len, hlen2]; omega), hlen2]
  have hln : (l.take i ++ (m ++ l.drop i)).length = l.length + m.length := by rw [List.length_append, List.length_append, List.length_take, hdl]; omega
  refine ⟨_, rfl, EnO.mk hbg b4 hln.symm (by rw [hln]; exact hcap) hcm hlen3 (by rw [hln]; exact hg), ?_, fun k hk => Or.inl hk⟩
  exact (F3.thenT f4 (fun _ _ q => q)).mono (fun k _ q => by unfold onB1 at q; subst q; rfl)
/-- slices.Insert of some entries. -/
theorem insE_any {w : World} {base bu : Nat} {v u : Value} {l m : List (Int × Int)} {i : Nat} (hb : base ≤ w.heap.size) (hO : EnO w base v l) (hu : EnO w bu u m) (hap : ∀ k, v.ownBlock = some k → u.ownBlock = some k → False) (hm : 1 ≤ m.length) (hl : l.length + m.length ≤ 1000) (hi : i ≤ l.length) :
    Calls Try.prog 71 #[v, .int .i64 (i : Int), u] w fun r w' => InsIs w w' base v (l.take i ++ (m ++ l.drop i)) r := by
  by_cases he : i = l.length
  · subst he
    rw [List.take_length, List.drop_length, List.append_nil]
    exact insE_end hb hO hu.sl hm hl
  · obtain ⟨a, cap, hv⟩ := hO.opn
    by_cases hc : cap < l.length + m.length
    · exact insE_grow hb hO hu hm hl (by omega) hv hc
    · exact insE_shift hb hO hu hap hm hl (by omega) hv (by omega)
end Go.Proofs.Ytmkinaijkgkgiaa
/- slices.Replace of one entry by one or two; no condition. -/
namespace Go.Proofs.Ytmkinaijkgkgiaa
open Go.RowKit Go.Proofs.U
set_option linter.unusedSimpArgs false
set_option linter.unusedVariables false
theorem EnO.front {w : World} {base g cap : Nat} {l : List (Int × Int)} {n : Nat} (h : EnO w base (.slice (some ⟨g, 0, none⟩) n cap) l) (i : Nat) (hi : i ≤ l.length) : EnO w base (.slice (some ⟨g, 0, none⟩) i cap) (l.take i) := by
  rcases h.parts with ⟨e, _⟩ | ⟨g', cap', cur, e, hb, hB, hn, hm, hl, ht⟩
  · cases e
  · cases e
    have hlen : (l.take i).length = i := by rw [List.length_take]; omega
    exact EnO.mk hb hB hlen.symm (by omega) hm hl (by rw [hlen]; exact cur_take ht i hi)
set_option maxRecDepth 100000 in
set_option maxHeartbeats 4000000 in
theorem repE_end {w : World} {base : Nat} {v u : Value} {l m : List (Int × Int)} {i : Nat} (hb : base ≤ w.heap.size) (hO : EnO w base v l) (hu : SlR enC 2 w u m) (hm : 1 ≤ m.length) (hl : l.length + m.length ≤ 1000) (hi : i + 1 = l.length) :
    Calls Try.prog 58 #[v, .int .i64 (i : Int), .int .i64 ((i : Int) + 1), u] w fun r w' => InsIs w w' base v (l.take i ++ (m ++ l.drop (i + 1))) r := by
  rcases hO.parts with ⟨_, rfl⟩ | ⟨g, cap, cur, hv', hbg, hB, hnc, hcm, hcl, hct⟩
  · simp at hi
  subst hv'
  have hOf := hO.front i (by omega)
  obtain ⟨a', cap', hu', hcu⟩ := hu.opn
  subst hu'
  rw [show l.drop (i + 1) = [] by rw [hi]; exact List.drop_length, List.append_nil]
  have hz1 : ((i : Int) == (i : Int) + 1) = false := by simp; omega
  have hz2 : ((i : Int) + 1 == (l.length : Int)) = true := by simp; omega
  have hz3 : decide ((i : Int) + (m.length : Int) < (l.length : Int)) = false := by simp; omega
  have hz4 : decide (((i + m.length : Nat) : Int) < (l.length : Int)) = false := by simp; omega
  have hti : (l.take i).length = i := by rw [List.length_take]; omega
  have h63 : (l.take i).length + m.length ≤ maxLen := by unfold maxLen; omega
  have hb2 : ((l.take i).length + m.length) * 16 ≤ 140737488355328 := by omega
  go_enter Try.func58, Try.ntmps58
  go_wp2_with (first
    | (refine at_cut 38 _ none _ _ rfl ?_; go_must (refine wpList_cuth rfl 38 _ _ rfl 36 uE 2 en_size _ l.length cap rfl .i64 (i : Int) i rfl rfl (by omega) ?_))
    | (refine at_cut 38 (.tmp 15) _ _ _ rfl ?_; go_must (refine wpList_cut rfl 38 _ _ _ rfl 36 uE 2 en_size _ l.length _ rfl hO.sl.2 .i64 .i64 (i : Int) ((i : Int) + 1) i (i + 1) rfl rfl rfl (by omega) (by omega) (by omega) ?_; intro v1 _ _))
    | (at_builtin; go_must (refine wpList_appM rfl _ _ 38 rfl _ 16 uE en_info rfl (by decide) (.slice (some ⟨g, 0, none⟩) i cap) rfl hOf (.slice a' m.length cap') m rfl hu hm (fun y _ => en_one y) h63 hb2 hb ?_; intro v' w1 o1 f1 p1; obtain ⟨a1, c1, hv1⟩ := o1.opn; rw [List.length_append, hti] at hv1; subst hv1)))
  go_ret
  exact ⟨_, rfl, o1, f1, p1⟩
set_option maxRecDepth 100000 in
set_option maxHeartbeats 4000000 in
theorem repE_grow {w : World} {base bu : Nat} {v u : Value} {l m : List (Int × Int)} {i : Nat} (hb : base ≤ w.heap.size) (hO : EnO w base v l) (hu : EnO w bu u m) (hm : 1 ≤ m.length) (hl : l.length + m.length ≤ 1000) (hi : i + 1 < l.length) {a : Option Addr} {cap : Nat} (hv : v = .slice a l.length cap) (hcap : cap < i + m.length + (l.length - (i + 1))) :
    Calls Try.prog 58 #[v, .int .i64 (i : Int), .int .i64 ((i : Int) + 1), u] w fun r w' => InsIs w w' base v (l.take i ++ (m ++ l.drop (i + 1))) r := by
  rcases hO.parts with ⟨_, rfl⟩ | ⟨g, cap', cur, hv', hbg, hB, hnc, hcm, hcl, hct⟩
  · simp at hi
  rw [hv'] at hv
  cases hv
  subst hv'
  rcases hu.parts with ⟨_, rfl⟩ | ⟨gu, capu, curu, hvu, hbgu, hBu, hnu, hcmu, hclu, hctu⟩
  · simp at hm
  subst hvu
  have hz1 : ((i : Int) == (i : Int) + 1) = false := by simp; omega
  have hz2 : ((i : Int) + 1 == (l.length : Int)) = false := by simp; omega
  have hcu := drop_src hBu hctu 0
  rw [List.drop_zero] at hcu
  have hcd := drop_src hB hct (i + 1)
  have hdl : (l.drop (i + 1)).length = l.length - (i + 1) := List.length_drop
  have hp1 : (0 : Int) ≤ (i : Int) + 1 := by omega
  have hp2 : i + 1 ≤ l.length := by omega
  have hp3 : ((i : Int) + 1).toNat = i + 1 := by omega
  have hp6 : i ≤ cap := by omega
  have hc1 : ¬ (cap = i + 1) := by omega
  have zE := Try.sizeOf36
  have mixed : Try.prog.follows Departure.mixedOrders = true := by kernel_rfl
  have uE1 := run_underlying uE
  have hw1 : IntKind.i64.wrap ((i : Int) + (m.length : Int)) = (i : Int) + (m.length : Int) := wrap_sm (by omega)
  have hw2 : IntKind.i64.wrap ((i : Int) + (m.length : Int) + ((l.length - (i + 1) : Nat) : Int)) = ((i + m.length + (l.length - (i + 1)) : Nat) : Int) := by rw [wrap_sm (by omega)]; omega
  obtain ⟨N, HN⟩ : ∃ N, Hid (i + m.length + (l.length - (i + 1)) = N) := ⟨_, rfl⟩
  rw [HN.out] at hw2 hcap
  have hNb : i + m.length ≤ N ∧ N ≤ 2000 := by rw [← HN.out]; omega
  go_enter Try.func58, Try.ntmps58
  go_wp2_with (first
    | (refine at_cut 38 (.tmp 15) _ _ _ rfl ?_; go_must (refine wpList_cut rfl 38 _ _ _ rfl 36 uE 2 en_size _ l.length _ rfl hO.sl.2 .i64 .i64 (i : Int) ((i : Int) + 1) i (i + 1) rfl rfl rfl (by omega) (by omega) (by omega) ?_; intro v1 _ _)))
  go_region_with (fail)
  have b0d : BxV w.drew g 36 cur := hB
  have bud : BxV w.drew gu 36 curu := hBu
  have hz3 : decide ((cap : Int) < (N : Int)) = true := by simp; omega
  have hw3 : IntKind.i64.wrap ((N : Int) - (i : Int)) = ((N - i : Nat) : Int) := by rw [wrap_sm (by omega)]; omega
  have hw4 : IntKind.i64.wrap ((i : Int) + (m.length : Int)) = (i : Int) + (m.length : Int) := wrap_sm (by omega)
  have hNi : i + (N - i) = N := by omega
  have hml : i + (N - i) ≤ maxLen := by unfold maxLen; omega
  have hNl : Hid (N = i + m.length + (l.length - (i + 1))) := HN.out.symm
  go_wp2_with (first
    | (refine at_cut 38 _ none _ _ rfl ?_; go_must (refine wpList_cuth rfl 38 _ _ rfl 36 uE 2 en_size _ l.length cap rfl .i64 (i : Int) i rfl rfl (by omega) ?_))
    | (refine at_cut 38 _ _ _ _ rfl ?_; have q := b1; go_must (refine wpList_cutlo1 rfl 38 _ _ rfl 36 uE 2 en_size g1 N c1 rfl .i64 (i : Int) i rfl rfl (by omega) (by omega) ?_))
    | (at_builtin; go_must (refine wpList_appZ rfl _ _ 38 3 rfl 36 _ 2 16 uE .i64 Try.underlying3 en_info rfl (by decide) g i cap rfl cur b0d (by omega) .i64 (N - i) (by simp [Act.eval, Act.put, hw3]) (by omega) (by omega) hml (by omega) (by omega) ?_; intro g1 c1 cur1 w1 b1 f1 s1 n1 m1 l1 t1; have z1 := f1.size; have lg := hB.lt; have lgu := hBu.lt))
    | (refine at_cpy _ _ _ _ rfl ?_; go_must (refine wpList_cpyN rfl _ _ 38 rfl 36 2 uE en_size g1 36 cur1 b1 (i * 2) (N - i) (c1 - i) m.length capu ⟨gu, 0 * 2, none⟩ (m.flatMap enC) rfl rfl (by rw [fl_len, Nat.min_eq_left (by omega)]) (fun j x hj => f1.cell (hcu j x hj) (fun q => q)) (by rw [fl_len]; omega) (fl_one m) ?_; intro w2 b2 f2; have z2 := f2.size)))
  have s1' : w.heap.size ≤ g1 := s1
  have hc2 : ¬ (c1 = i + m.length) := by have := hNl.out; omega
  have hq1 : (0 : Int) ≤ (i : Int) + (m.length : Int) := by omega
  have hq2 : i + m.length ≤ N := hNb.1
  have hq3 : ((i : Int) + (m.length : Int)).toNat = i + m.length := by omega
  have hq4 : (i : Int) + (m.length : Int) ≤ (N : Int) := by omega
  have b2d : BxV w2.drew g1 36 (putAt cur1 (i * 2) (m.flatMap enC)) := b2
  have hcd2 : ∀ j x, ((l.drop (i + 1)).flatMap enC)[j]? = some x → w2.drew.cell? ((⟨g, (i + 1) * 2, none⟩ : Addr).add j) = some x := fun j x hj => f2.cell (f1.cell (hcd j x hj) (fun q => q)) (fun q => by unfold onB1 at q; rw [Addr.add_lit] at q; simp only at q; omega)
  have hfitd : (i + m.length) * 2 + ((l.drop (i + 1)).flatMap enC).length ≤ (putAt cur1 (i * 2) (m.flatMap enC)).length := by have := hNl.out; rw [putAt_len _ _ _ (by rw [fl_len]; omega), fl_len, hdl]; omega
  have hld : ((l.drop (i + 1)).flatMap enC).length = min (l.length - (i + 1)) (N - (i + m.length)) * 2 := by have := hNl.out; rw [fl_len, hdl]; omega
  go_region_law_o (refine step_cpyN rfl _ _ 38 rfl 36 2 uE en_size g1 36 _ b2d ((i + m.length) * 2) (N - (i + m.length)) (c1 - (i + m.length)) (l.length - (i + 1)) (cap - (i + 1)) ⟨g, (i + 1) * 2, none⟩ ((l.drop (i + 1)).flatMap enC) (by simp [Act.eval, Act.put]) (by simp [Act.eval, Act.put]) hld hcd2 hfitd (fl_one _) ?_)
  have b3 := setCells_bx ((l.drop (i + 1)).flatMap enC) ((i + m.length) * 2) w2.drew _ b2d hfitd
  have f3 := setCells_fr1 w2.drew g1 ((l.drop (i + 1)).flatMap enC) ((i + m.length) * 2)
  obtain ⟨w3, H3⟩ : ∃ x, Hid (w2.drew.setCells g1 ((i + m.length) * 2) ((l.drop (i + 1)).flatMap enC) = x) := ⟨_, rfl⟩
  rw [H3.out] at b3 f3 ⊢
  go_wp2
  go_ret
  have hNl := hNl.out
  have hg := (gap_en (cur := cur1) (l := l) (m := m) (b := l.drop (i + 1)) (i := i) (N := N) (by omega) (by rw [t1]; exact cur_take hct i (by omega)) (by rw [hdl]; omega) (by omega)).2
  have hlen3 : (putAt (putAt cur1 (i * 2) (m.flatMap enC)) ((i + m.length) * 2) ((l.drop (i + 1)).flatMap enC)).length = c1 * 2 := by
    rw [putAt_len _ _ _ hfitd, putAt_len _ _ _ (by rw [fl_len]; omega), l1]
  have hln : (l.take i ++ (m ++ l.drop (i + 1))).length = N := by rw [List.length_append, List.length_append, List.length_take, hdl]; omega
  have F1 : Fr noB w w1 := ⟨f1.os, f1.tape, f1.output, f1.size, f1.block⟩
  refine ⟨_, rfl, EnO.mk (by omega) b3 hln.symm (by rw [hln]; omega) m1 hlen3 (by rw [hln]; exact hg), ?_, fun k hk => Or.inr ?_⟩
  · exact (((F1.mono (fun _ _ q => q.elim)).thenT f2 (fun x hx q => by unfold onB1 at q; omega)).drew).thenT f3 (fun x hx q => by unfold onB1 at q; omega)
  · simp [Value.ownBlock] at hk; omega
theorem at_clr {P : Program} {w : World} {ops : Array Oper} {rest : List Oper} {o : Oper} {a : Act} {Q : Exit → Act → World → Prop} (x : Operand) (t : TypeId) (_ho : o.op = .call { callee := .builtin .clear, args := #[x], argTypes := #[t] }) (h : wpList P ops Q (o :: rest) a w) : wpList P ops Q (o :: rest) a w := h
set_option maxRecDepth 100000 in
set_option maxHeartbeats 4000000 in
theorem repE_one {w : World} {base bu : Nat} {v u : Value} {l m : List (Int × Int)} {i : Nat} (hb : base ≤ w.heap.size) (hO : EnO w base v l) (hu : EnO w bu u m) (hap : ∀ k, v.ownBlock = some k → u.ownBlock = some k → False) (hm : m.length = 1) (hl : l.length + m.length ≤ 1000) (hi : i + 1 < l.length) {a : Option Addr} {cap : Nat} (hv : v = .slice a l.length cap) :
    Calls Try.prog 58 #[v, .int .i64 (i : Int), .int .i64 ((i : Int) + 1), u] w fun r w' => InsIs w w' base v (l.take i ++ (m ++ l.drop (i + 1))) r := by
  rcases hO.parts with ⟨_, rfl⟩ | ⟨g, cap', cur, hv', hbg, hB, hnc, hcm, hcl, hct⟩
  · simp at hi
  rw [hv'] at hv
  cases hv
  subst hv'
  rcases hu.parts with ⟨_, rfl⟩ | ⟨gu, capu, curu, hvu, hbgu, hBu, hnu, hcmu, hclu, hctu⟩
  · simp at hm
  subst hvu
  have hne : gu ≠ g := fun q => hap g rfl (by rw [q]; rfl)
  have hz1 : ((i : Int) == (i : Int) + 1) = false := by simp; omega
  have hz2 : ((i : Int) + 1 == (l.length : Int)) = false := by simp; omega
  have hcu := drop_src hBu hctu 0
  rw [List.drop_zero] at hcu
  have hcd := drop_src hB hct (i + 1)
  have hdl : (l.drop (i + 1)).length = l.length - (i + 1) := List.length_drop
  have hp1 : (0 : Int) ≤ (i : Int) + 1 := by omega
  have hp2 : i + 1 ≤ l.length := by omega
  have hp3 : ((i : Int) + 1).toNat = i + 1 := by omega
  have hp6 : i ≤ cap := by omega
  have hc1 : ¬ (cap = i + 1) := by omega
  have zE := Try.sizeOf36
  have mixed : Try.prog.follows Departure.mixedOrders = true := by kernel_rfl
  have uE1 := run_underlying uE
  obtain ⟨M, HM⟩ : ∃ M, Hid (m.length = M) := ⟨_, rfl⟩
  have hM1 : Hid (M = 1) := by rw [← HM.out]; exact hm
  have hflm : (m.flatMap enC).length = 2 := by rw [fl_len, hm]
  clear hm
  rw [HM.out] at hnu ⊢
  have hw1 : IntKind.i64.wrap ((i : Int) + (M : Int)) = (i : Int) + (M : Int) := by have := hM1.out; exact wrap_sm (by omega)
  have hw2 : IntKind.i64.wrap ((i : Int) + (M : Int) + ((l.length - (i + 1) : Nat) : Int)) = (l.length : Int) := by have := hM1.out; rw [wrap_sm (by omega)]; omega
  go_enter Try.func58, Try.ntmps58
  go_wp2_with (first
    | (refine at_cut 38 (.tmp 15) _ _ _ rfl ?_; go_must (refine wpList_cut rfl 38 _ _ _ rfl 36 uE 2 en_size _ l.length _ rfl hO.sl.2 .i64 .i64 (i : Int) ((i : Int) + 1) i (i + 1) rfl rfl rfl (by omega) (by omega) (by omega) ?_; intro v1 _ _)))
  go_region_with (fail)
  have b0d : BxV w.drew g 36 cur := hB
  have bud : BxV w.drew gu 36 curu := hBu
  have hcu0 : ∀ j x, (m.flatMap enC)[j]? = some x → w.drew.cell? ((⟨gu, 0 * 2, none⟩ : Addr).add j) = some x := hcu
  have hz3 : decide ((cap : Int) < (l.length : Int)) = false := by simp; omega
  have hz4 : decide ((i : Int) + (M : Int) ≤ (i : Int) + 1) = true := by have := hM1.out; simp; omega
  have hz5 : (M : Int) ≤ 1 := by have := hM1.out; omega
  have hz6 : M ≤ 1 := by have := hM1.out; omega
  go_wp2_with (first
    | (refine at_cut 38 (.tmp 84) _ _ _ rfl ?_; go_must (refine wpList_cuth rfl 38 _ _ rfl 36 uE 2 en_size _ l.length cap rfl .i64 (l.length : Int) l.length rfl rfl (by omega) ?_))
    | (refine at_cut 38 (.tmp 93) _ _ _ rfl ?_; go_must (refine wpList_cutlo1 rfl 38 _ _ rfl 36 uE 2 en_size g l.length cap rfl .i64 (i : Int) i rfl rfl (by omega) (by omega) ?_))
    | (refine at_cpy _ _ _ _ rfl ?_; go_must (refine wpList_cpyN rfl _ _ 38 rfl 36 2 uE en_size g 36 cur b0d (i * 2) (l.length - i) (cap - i) M capu ⟨gu, 0 * 2, none⟩ (m.flatMap enC) rfl rfl (by have := hM1.out; rw [hflm, Nat.min_eq_left (by omega)]; omega) hcu0 (by rw [hflm]; omega) (fl_one m) ?_; intro w2 b2 f2)))
  have F2 : Fr (onB1 g) w w2 := ⟨f2.os, f2.tape, f2.output, f2.size, f2.block⟩
  have hMo := show Hid _ from hM1.out
  have hc2 : ¬ (cap = i + M) := by have := hMo.out; omega
  have hq1 : (0 : Int) ≤ (i : Int) + (M : Int) := by omega
  have hq2 : i + M ≤ l.length := by have := hMo.out; omega
  have hq3 : ((i : Int) + (M : Int)).toNat = i + M := by omega
  have hq4 : (i : Int) + (M : Int) ≤ (l.length : Int) := by omega
  have b2d : BxV w2.drew g 36 (putAt cur (i * 2) (m.flatMap enC)) := b2
  have hlen2 : (putAt cur (i * 2) (m.flatMap enC)).length = cap * 2 := by rw [putAt_len _ _ _ (by rw [hflm]; omega), hcl]
  have htk2 : (putAt cur (i * 2) (m.flatMap enC)).take (l.length * 2) = (l.take i ++ (m ++ l.drop (i + 1))).flatMap enC := by
    have hA : ((l.take i).flatMap enC).length = i * 2 := by rw [fl_len, List.length_take]; omega
    have hti := cur_take hct i (by omega)
    have h1 : cur.take (i * 2) = (l.take i).flatMap enC := hti
    have h2 : (cur.drop (i * 2 + 2)).take (l.length * 2 - (i * 2 + 2)) = (l.drop (i + 1)).flatMap enC := by
      rw [← List.drop_take, hct]
      conv => lhs; rw [← List.take_append_drop (i + 1) l]
      rw [List.flatMap_append, List.drop_left' (by rw [fl_len, List.length_take]; omega)]
    unfold putAt
    rw [hflm, h1, List.flatMap_append, List.flatMap_append, List.append_assoc, ← h2]
    rw [← List.append_assoc, List.take_append, ← List.append_assoc, List.length_append, hA, hflm, List.take_of_length_le (by rw [List.length_append, hA, hflm]; omega)]
  have hml : (l.take i ++ (m ++ l.drop (i + 1))).length = l.length := by have := hMo.out; rw [List.length_append, List.length_append, List.length_take, hdl, HM.out]; omega
  have hcd2 : ∀ j x, ((l.drop (i + 1)).flatMap enC)[j]? = some x → w2.drew.cell? ((⟨g, (i + 1) * 2, none⟩ : Addr).add j) = some x := by
    have h1 := drop_src b2d (l := l.take i ++ (m ++ l.drop (i + 1))) (by rw [hml]; exact htk2) (i + 1)
    have h2 : (l.take i ++ (m ++ l.drop (i + 1))).drop (i + 1) = l.drop (i + 1) := by
      rw [← List.append_assoc]
      exact List.drop_left' (by have := hMo.out; rw [List.length_append, List.length_take, HM.out]; omega)
    rw [h2] at h1
    exact h1
  have hfitd : (i + M) * 2 + ((l.drop (i + 1)).flatMap enC).length ≤ (putAt cur (i * 2) (m.flatMap enC)).length := by have := hMo.out; rw [hlen2, fl_len, hdl]; omega
  have hld : ((l.drop (i + 1)).flatMap enC).length = min (l.length - (i + 1)) (l.length - (i + M)) * 2 := by have := hMo.out; rw [fl_len, hdl]; omega
  go_region_law_o (refine step_cpyN rfl _ _ 38 rfl 36 2 uE en_size g 36 _ b2d ((i + M) * 2) (l.length - (i + M)) (cap - (i + M)) (l.length - (i + 1)) (cap - (i + 1)) ⟨g, (i + 1) * 2, none⟩ ((l.drop (i + 1)).flatMap enC) (by simp [Act.eval, Act.put]) (by simp [Act.eval, Act.put]) hld hcd2 hfitd (fl_one _) ?_)
  have b3 := setCells_bx ((l.drop (i + 1)).flatMap enC) ((i + M) * 2) w2.drew _ b2d hfitd
  have f3 := setCells_fr1 w2.drew g ((l.drop (i + 1)).flatMap enC) ((i + M) * 2)
  obtain ⟨w3, H3⟩ : ∃ x, Hid (w2.drew.setCells g ((i + M) * 2) ((l.drop (i + 1)).flatMap enC) = x) := ⟨_, rfl⟩
  rw [H3.out] at b3 f3 ⊢
  have F3 : Fr (onB1 g) w w3 := (F2.drew).thenT f3 (fun _ _ q => q)
  go_wp2_with (first
    | (refine at_cut 38 _ _ _ _ rfl ?_; go_must (refine wpList_cutlox rfl 38 _ _ rfl 36 uE 2 en_size _ l.length cap rfl .i64 (l.length : Int) l.length rfl rfl (Nat.le_refl _) ?_; intro ao1))
    | (refine at_clr _ _ rfl ?_; go_must (refine wpList_clr0 rfl _ 38 36 rfl uE ao1 (cap - l.length) (by simp [Act.eval, Act.put]) ?_)))
  go_ret
  have hg := (gap_en (cur := cur) (l := l) (m := m) (b := l.drop (i + 1)) (i := i) (N := l.length) (by omega) (cur_take hct i (by omega)) (by have := hMo.out; rw [hdl, HM.out]; omega) (by omega)).2
  rw [HM.out] at hg
  refine ⟨_, rfl, EnO.mk hbg b3 hml.symm (by rw [hml]; exact hnc) hcm (by rw [putAt_len _ _ _ hfitd, hlen2]) (by rw [hml]; exact hg), F3.mono (fun k _ q => by unfold onB1 at q; subst q; rfl), fun k hk => Or.inl hk⟩
set_option maxRecDepth 100000 in
set_option maxHeartbeats 4000000 in
theorem repE_two {w : World} {base bu : Nat} {v u : Value} {l m : List (Int × Int)} {i : Nat} (hb : base ≤ w.heap.size) (hO : EnO w base v l) (hu : EnO w bu u m) (hap : ∀ k, v.ownBlock = some k → u.ownBlock = some k → False) (hm : 2 ≤ m.length) (hl : l.length + m.length ≤ 1000) (hi : i + 1 < l.length) {a : Option Addr} {cap : Nat} (hv : v = .slice a l.length cap) (hcap : i + m.length + (l.length - (i + 1)) ≤ cap) :
    Calls Try.prog 58 #[v, .int .i64 (i : Int), .int .i64 ((i : Int) + 1), u] w fun r w' => InsIs w w' base v (l.take i ++ (m ++ l.drop (i + 1))) r := by
  rcases hO.parts with ⟨_, rfl⟩ | ⟨g, cap', cur, hv', hbg, hB, hnc, hcm, hcl, hct⟩
  · simp at hi
  rw [hv'] at hv
  cases hv
  subst hv'
  rcases hu.parts with ⟨_, rfl⟩ | ⟨gu, capu, curu, hvu, hbgu, hBu, hnu, hcmu, hclu, hctu⟩
  · simp at hm
  subst hvu
  have hne : gu ≠ g := fun q => hap g rfl (by rw [q]; rfl)
  have hz1 : ((i : Int) == (i : Int) + 1) = false := by simp; omega
  have hz2 : ((i : Int) + 1 == (l.length : Int)) = false := by simp; omega
  have hcu := drop_src hBu hctu 0
  rw [List.drop_zero] at hcu
  have hcd := drop_src hB hct (i + 1)
  have hdl : (l.drop (i + 1)).length = l.length - (i + 1) := List.length_drop
  have hp1 : (0 : Int) ≤ (i : Int) + 1 := by omega
  have hp2 : i + 1 ≤ l.length := by omega
  have hp3 : ((i : Int) + 1).toNat = i + 1 := by omega
  have hp6 : i ≤ cap := by omega
  have hc1 : ¬ (cap = i + 1) := by omega
  have zE := Try.sizeOf36
  have mixed : Try.prog.follows Departure.mixedOrders = true := by kernel_rfl
  have uE1 := run_underlying uE
  have hov := fun o n' cap' cap'' => ovl_run hB hBu (fun q => hne q.symm) (by omega) o 0 n' cap' m.length cap''
  obtain ⟨M, HM⟩ : ∃ M, Hid (m.length = M) := ⟨_, rfl⟩
  have hM2 : Hid (2 ≤ M) := by rw [← HM.out]; exact hm
  have hflm : (m.flatMap enC).length = M * 2 := by rw [fl_len, HM.out]
  clear hm
  rw [HM.out] at hnu hcap hov hl ⊢
  obtain ⟨N, HN⟩ : ∃ N, Hid (i + M + (l.length - (i + 1)) = N) := ⟨_, rfl⟩
  have hw1 : IntKind.i64.wrap ((i : Int) + (M : Int)) = (i : Int) + (M : Int) := wrap_sm (by omega)
  have hw2 : IntKind.i64.wrap ((i : Int) + (M : Int) + ((l.length - (i + 1) : Nat) : Int)) = (N : Int) := by have := HN.out; rw [wrap_sm (by omega)]; omega
  rw [HN.out] at hcap
  have hNl : Hid (N = i + M + (l.length - (i + 1))) := HN.out.symm
  go_enter Try.func58, Try.ntmps58
  go_wp2_with (first
    | (refine at_cut 38 (.tmp 15) _ _ _ rfl ?_; go_must (refine wpList_cut rfl 38 _ _ _ rfl 36 uE 2 en_size _ l.length _ rfl hO.sl.2 .i64 .i64 (i : Int) ((i : Int) + 1) i (i + 1) rfl rfl rfl (by omega) (by omega) (by omega) ?_; intro v1 _ _)))
  go_region_with (fail)
  have b0d : BxV w.drew g 36 cur := hB
  have hov0 : ∀ o n' cap' cap'', (callFunc 72 #[.slice (some ⟨g, o, none⟩) n' cap', .slice (some ⟨gu, 0, none⟩) M cap'']).run Try.prog w.drew = .ok (.value (.bool false)) w.drew := fun o n' cap' cap'' => by
    have := ovl_run (w := w.drew) (c := cur) (c' := curu) hB hBu (fun q => hne q.symm) (by have := hM2.out; omega) o 0 n' cap' M cap''
    exact this
  have hz3 : decide ((cap : Int) < (N : Int)) = false := by simp; omega
  have hz4 : decide ((i : Int) + (M : Int) ≤ (i : Int) + 1) = false := by have := hM2.out; simp; omega
  have hz5 : ¬ (M : Int) ≤ 1 := by have := hM2.out; omega
  have hz6 : ¬ M ≤ 1 := by have := hM2.out; omega
  go_wp2_with (first
    | (refine at_cut 38 (.tmp 84) _ _ _ rfl ?_; go_must (refine wpList_cuth rfl 38 _ _ rfl 36 uE 2 en_size _ l.length cap rfl .i64 (N : Int) N rfl rfl (by omega) ?_))
    | (refine at_cut 38 (.tmp 112) _ _ _ rfl ?_; go_must (refine wpList_cutlo1 rfl 38 _ _ rfl 36 uE 2 en_size g N cap rfl .i64 ((i : Int) + (M : Int)) (i + M) rfl (by omega) (by have := hNl.out; omega) (by have := hNl.out; omega) ?_))
    | (go_at_call 72; go_must (refine wpList_extern rfl 72 _ _ _ rfl _ _ rfl rfl (hov0 _ _ _ _) ?_)))
  have hc2 : ¬ (cap = i + M) := by have := hNl.out; omega
  have hq1 : (0 : Int) ≤ (i : Int) + (M : Int) := by omega
  have hq2 : i + M ≤ N := by have := hNl.out; omega
  have hq3 : ((i : Int) + (M : Int)).toNat = i + M := by omega
  have hq4 : (i : Int) + (M : Int) ≤ (N : Int) := by omega
  have b2d : BxV w.drew.drew g 36 cur := hB
  have hcd2 : ∀ j x, ((l.drop (i + 1)).flatMap enC)[j]? = some x → w.drew.drew.cell? ((⟨g, (i + 1) * 2, none⟩ : Addr).add j) = some x := hcd
  have hfitd : (i + M) * 2 + ((l.drop (i + 1)).flatMap enC).length ≤ cur.length := by have := hNl.out; rw [hcl, fl_len, hdl]; omega
  have hld : ((l.drop (i + 1)).flatMap enC).length = min (l.length - (i + 1)) (N - (i + M)) * 2 := by have := hNl.out; rw [fl_len, hdl]; omega
  go_region_law_o (refine step_cpyN rfl _ _ 38 rfl 36 2 uE en_size g 36 _ b2d ((i + M) * 2) (N - (i + M)) (cap - (i + M)) (l.length - (i + 1)) (cap - (i + 1)) ⟨g, (i + 1) * 2, none⟩ ((l.drop (i + 1)).flatMap enC) (by simp [Act.eval, Act.put]) (by simp [Act.eval, Act.put]) hld hcd2 hfitd (fl_one _) ?_)
  have b3 := setCells_bx ((l.drop (i + 1)).flatMap enC) ((i + M) * 2) w.drew.drew _ b2d hfitd
  have f3 := setCells_fr1 w.drew.drew g ((l.drop (i + 1)).flatMap enC) ((i + M) * 2)
  obtain ⟨w3, H3⟩ : ∃ x, Hid (w.drew.drew.setCells g ((i + M) * 2) ((l.drop (i + 1)).flatMap enC) = x) := ⟨_, rfl⟩
  rw [H3.out] at b3 f3 ⊢
  have F3 : Fr (onB1 g) w w3 := (((Fr.refl _ w).drew).drew).thenT f3 (fun _ _ q => q)
  have hlen2 : (putAt cur ((i + M) * 2) ((l.drop (i + 1)).flatMap enC)).length = cap * 2 := by rw [putAt_len _ _ _ hfitd, hcl]
  go_wp2_with (first
    | (refine at_cut 38 _ _ _ _ rfl ?_; go_must (refine wpList_cutlo1 rfl 38 _ _ rfl 36 uE 2 en_size g N cap rfl .i64 (i : Int) i rfl rfl (by omega) (by omega) ?_))
    | (refine at_cpy _ _ _ _ rfl ?_; go_must (refine wpList_cpyN rfl _ _ 38 rfl 36 2 uE en_size g 36 _ b3 (i * 2) (N - i) (cap - i) M capu ⟨gu, 0 * 2, none⟩ (m.flatMap enC) rfl rfl (by have := hNl.out; rw [hflm, Nat.min_eq_left (by omega)]) (fun j x hj => F3.cell (hcu j x hj) (fun q => by unfold onB1 at q; rw [Addr.add_lit] at q; exact hne q)) (by have := hNl.out; rw [hflm, hlen2]; omega) (fl_one m) ?_; intro w4 b4 f4)))
  go_ret
  have hNo := hNl.out
  have hg := (gap_en (cur := cur) (l := l) (m := m) (b := l.drop (i + 1)) (i := i) (N := N) (by omega) (cur_take hct i (by omega)) (by rw [hdl, HM.out]; omega) (by omega)).1
  rw [HM.out] at hg
  have hlen3 : (putAt (putAt cur ((i + M) * 2) ((l.drop (i + 1)).flatMap enC)) (i * 2) (m.flatMap enC)).length = cap * 2 := by
    rw [putAt_len _ _ _ (by rw [hflm, hlen2]; omega), hlen2]
  have hln : (l.take i ++ (m ++ l.drop (i + 1))).length = N := by rw [List.length_append, List.length_append, List.length_take, hdl, HM.out]; omega
  refine ⟨_, rfl, EnO.mk hbg b4 hln.symm (by rw [hln]; exact hcap) hcm hlen3 (by rw [hln]; exact hg), ?_, fun k hk => Or.inl hk⟩
  exact (F3.thenT f4 (fun _ _ q => q)).mono (fun k _ q => by unfold onB1 at q; subst q; rfl)
/-- slices.Replace of one entry. -/
theorem repE_any {w : World} {base bu : Nat} {v u : Value} {l m : List (Int × Int)} {i : Nat} (hb : base ≤ w.heap.size) (hO : EnO w base v l) (hu : EnO w bu u m) (hap : ∀ k, v.ownBlock = some k → u.ownBlock = some k → False) (hm : 1 ≤ m.length) (hl : l.length + m.length ≤ 1000) (hi : i < l.length) :
    Calls Try.prog 58 #[v, .int .i64 (i : Int), .int .i64 ((i : Int) + 1), u] w fun r w' => InsIs w w' base v (l.take i ++ (m ++ l.drop (i + 1))) r := by
  by_cases he : i + 1 = l.length
  · exact repE_end hb hO hu.sl hm hl he
  · obtain ⟨a, cap, hv⟩ := hO.opn
    by_cases hc : cap < i + m.length + (l.length - (i + 1))
    · exact repE_grow hb hO hu hm hl (by omega) hv hc
    · by_cases h1 : m.length = 1
      · exact repE_one hb hO hu hap h1 hl (by omega) hv
      · exact repE_two hb hO hu hap (by omega) hl (by omega) hv (by omega)
end Go.Proofs.Ytmkinaijkgkgiaa
/- A store: lay, Undo. -/
namespace Go.Proofs.Ytmkinaijkgkgiaa
open Go.RowKit Go.Proofs.U Go.Shelf
set_option linter.unusedSimpArgs false
set_option linter.unusedVariables false
/-- One operation turns memory; all others read. -/
def JH (w0 : World) (V : Value) (Q : World → Prop) : List Value → World → Prop
  | [], W => W = w0
  | [v], W => v = V ∧ Q W
  | _, _ => False
theorem JH.val {w0 : World} {V x : Value} {Q : World → Prop} {hv : List Value} {W : World} (h : JH w0 V Q hv W) (hx : hv[0]? = some x) : x = V := by
  match hv, h with
  | [], _ => cases hx
  | [v], h => cases hx; exact h.1
theorem JH.end {w0 : World} {V : Value} {Q : World → Prop} {hv : List Value} {W : World} (h : JH w0 V Q hv W) (hl : hv.length = 1) : Q W := by
  match hv, hl, h with
  | [v], _, h => exact h.2
/-- What a write to a store may turn. -/
def stB (F : Nat → Prop) (gp : Nat) : Nat → Prop := fun k => F k ∨ k = gp
def LayIs (w w' : World) (F : Nat → Prop) (gs gp : Nat) (S : DSt × List Pg) (m : Nat) : Prop := ∃ F' : Nat → Prop, Sto w' F' gs gp S.1 S.2 m ∧ (∀ k, F' k → (F k ∨ w.heap.size ≤ k) ∧ k < w'.heap.size) ∧ Fr (stB F gp) w w'
set_option maxRecDepth 100000 in
set_option maxHeartbeats 1000000 in
theorem lay_no {F : Nat → Prop} {gs gp : Nat} {X : DSt} {L : List Pg} {m : Nat} (q : List Int) (hq : q.length = 256) (w : World) (h : Sto w F gs gp X L m) (hT : ¬ (plTake L).2.2 = 0) :
    Calls Try.prog 32 #[ptr gs, pgV q] w fun r w' => r = .returned (.tuple #[.int .i64 (-1), .int .i64 (plTake L).2.2]) ∧ LayIs w w' F gs gp (X, (plTake L).1) m := by
  have Hq := show Hid _ from hq
  have hH := fun W (f : Fr noB w W) => ptake_any h.ok gp W (h.fr0 f).pl
  have ho := take_ok h.ok
  have hn := show Hid _ from take_len L
  obtain ⟨gd, k0, k1, hd⟩ := h.cells
  obtain ⟨R, HR⟩ : ∃ R, Hid (plTake L = R) := ⟨_, rfl⟩
  rw [HR.out] at hH ho hn hT ⊢
  go_enter Try.func32, Try.ntmps32
  go_wp2_with (first
    | (with_reducible refine at_wpP ?_; refine wpList_boxV rfl 77 _ rfl (pgv q) rfl ?_; intro g1 w1 hg1 b1 f1 s1; have z1 := f1.size; have k1 := f1.cell k1 (fun q => q))
    | (go_at_call 49; go_must (refine (hH _ f1).mono ?_; rintro e w2 ⟨rfl, b2, f2⟩)))
  go_ret2
  have S2 := (h.fr0 f1).pool f2 b2 ho hn.out
  exact ⟨rfl, _, S2.tight, fun k hk => ⟨Or.inl hk.1, hk.2⟩, (f1.mono (fun k hk q => q.elim)).thenT f2 (fun i hi q => Or.inr q)⟩
set_option maxRecDepth 100000 in
set_option maxHeartbeats 2000000 in
theorem lay_yes {F : Nat → Prop} {gs gp : Nat} {X : DSt} {L : List Pg} {m : Nat} (q : List Int) (hq : q.length = 256) (hb : Byt q) (w : World) (h : Sto w F gs gp X L m) (hm : m ≤ 100000) (hT : (plTake L).2.2 = 0) :
    Calls Try.prog 32 #[ptr gs, pgV q] w fun r w' => r = .returned (.tuple #[.int .i64 (plTake L).2.1, .int .i64 0]) ∧ LayIs w w' F gs gp (X.write ((plTake L).2.1 + 4) q, (plTake L).1) (m + 1) := by
  have Hq := show Hid _ from hq
  have hH := fun W (f : Fr noB w W) => ptake_any h.ok gp W (h.fr0 f).pl
  have ho := take_ok h.ok
  have hn := show Hid _ from take_len L
  have hlen := h.ok.1
  have hrng : 0 ≤ (plTake L).2.1 ∧ (plTake L).2.1 < (L.length : Int) := by
    rcases plTake_cases L with ⟨k, hk, _, _, e⟩ | ⟨_, e⟩
    · rw [e]; simp; omega
    · rw [e] at hT; cases hT
  obtain ⟨gd, k0, k1, hd⟩ := h.cells
  obtain ⟨R, HR⟩ : ∃ R, Hid (plTake L = R) := ⟨_, rfl⟩
  rw [HR.out] at hH ho hn hT hrng ⊢
  obtain ⟨R1, i, e⟩ := R
  simp only at hH ho hn hT hrng ⊢
  subst hT
  obtain ⟨hE, hU, hct⟩ := h.up.write hrng.1 hrng.2 hq hb
  have hW := fun W (d : Disk W F gd X) => write_any gd (i + 4) q hq W d (Nat.le_trans h.up.pm hm)
  rw [hE] at hW
  have hi4 : IntKind.i64.wrap (i + 4) = i + 4 := wrap_sm (by omega)
  obtain ⟨Y, HY⟩ : ∃ Y, Hid (X.write (i + 4) q = Y) := ⟨_, rfl⟩
  rw [HY.out] at hW hU ⊢
  clear hct hE
  go_enter Try.func32, Try.ntmps32
  go_wp2_with (first
    | (with_reducible refine at_wpP ?_; refine wpList_boxV rfl 77 _ rfl (pgv q) rfl ?_; intro g1 w1 hg1 b1 f1 s1; have l1 := b1.lt; have z1 := f1.size; have k1 := f1.cell k1 (fun q => q))
    | (go_at_call 49; go_must (refine (hH _ f1).mono ?_; rintro e w2 ⟨rfl, b2, f2⟩; have z2 := f2.size)))
  have S2 := (h.fr0 f1).pool f2 b2 ho hn.out
  have k0' : w2.cell? ⟨gs, 0, none⟩ = some (ptr gd) := f2.cell (f1.cell k0 (fun q => q)) (fun q => by unfold onB1 at q; exact h.ne q)
  have d2 : Disk w2 F gd X := (hd.fr0 f1).fr f2 (fun k hk hF q => by unfold onB1 at q; subst q; exact h.fp hF)
  have B2 : BxV w2 g1 77 (pgv q) := b1.fr f2 (fun q => by have := h.ltp; unfold onB1 at q; omega)
  obtain ⟨w0, HW⟩ : ∃ w0, Hid (w2.drew = w0) := ⟨_, rfl⟩
  have f0 : Fr noB w2 w0 := by rw [← HW.out]; exact (Fr.refl _ _).drew
  have z0 := f0.size
  have k00 := f0.cell k0' (fun q => q)
  have d20 := d2.fr0 f0
  have B20 := B2.fr0 f0
  refine wp_region_chain_lay (by kernel_rfl) [8] [none, none, none, none, none, none, none, none, some 0, none, none]
    [fun v => v = .int .i64 i, fun v => v = ptr gs, fun v => v = ptr gs, fun v => v = .pointer (some ⟨gs, 0, none⟩), fun v => v = ptr gd, fun v => v = .int .i64 i, fun v => v = .int .i64 (i + 4), fun v => v = pgV q, fun _ => True, fun v => v = .int .i64 i, fun v => v = .int .i64 0]
    (JH w0 (.int .i64 0) (fun W => Disk W (orNew F w0) gd Y ∧ Fr F w0 W)) (HW.out) (by kernel_rfl) (by kernel_rfl) (by decide) ⟨?o0, ?o1, ?o2, ?o3, ?o4, ?o5, ?o6, ?o7, ?o8, ?o9, ?o10, trivial⟩ ?oe
  case o0 =>
    intro A W hv hlen hJ hbase hdL hdH
    have e6 : A.eval (.tmp 6) = .int .i64 i := hbase 6 (by kernel_rfl)
    have f6 : A.tmps[6]?.getD undef = .int .i64 i := by simpa [Act.eval] using e6
    exact light_val rfl (v := .int .i64 i) (by simp [execOp, e6, f6]) hJ rfl
  case o1 =>
    intro A W hv hlen hJ hbase hdL hdH
    have e0 : A.eval (.tmp 0) = ptr gs := hbase 0 (by kernel_rfl)
    have f0 : A.tmps[0]?.getD undef = ptr gs := by simpa [Act.eval] using e0
    exact light_val rfl (v := ptr gs) (by simp [execOp, e0, f0]) hJ rfl
  case o2 =>
    intro A W hv hlen hJ hbase hdL hdH
    have e20 : A.eval (.tmp 20) = ptr gs := hdL 1 20 (by kernel_rfl) (by kernel_rfl) (by kernel_rfl)
    have f20 : A.tmps[20]?.getD undef = ptr gs := by simpa [Act.eval] using e20
    exact light_val rfl (v := ptr gs) (by simp [execOp, go_sem, e20, f20]) hJ rfl
  case o3 =>
    intro A W hv hlen hJ hbase hdL hdH
    have e21 : A.eval (.tmp 21) = ptr gs := hdL 2 21 (by kernel_rfl) (by kernel_rfl) (by kernel_rfl)
    have f21 : A.tmps[21]?.getD undef = ptr gs := by simpa [Act.eval] using e21
    exact light_val rfl (v := .pointer (some ⟨gs, 0, none⟩)) (by simp [execOp, go_sem, e21, f21]) hJ rfl
  case o4 =>
    intro A W hv hlen hJ hbase hdL hdH
    have e22 : A.eval (.tmp 22) = .pointer (some ⟨gs, 0, none⟩) := hdL 3 22 (by kernel_rfl) (by kernel_rfl) (by kernel_rfl)
    have f22 : A.tmps[22]?.getD undef = .pointer (some ⟨gs, 0, none⟩) := by simpa [Act.eval] using e22
    obtain rfl : hv = [] := List.eq_nil_of_length_eq_zero (Nat.le_zero.1 (hlen.2 0 8 rfl (by kernel_rfl)))
    obtain rfl := (show W = _ from hJ)
    exact light_val rfl (v := ptr gd) (by simp [execOp, go_sem, e22, f22, k00]) rfl rfl
  case o5 =>
    intro A W hv hlen hJ hbase hdL hdH
    have e6 : A.eval (.tmp 6) = .int .i64 i := hbase 6 (by kernel_rfl)
    have f6 : A.tmps[6]?.getD undef = .int .i64 i := by simpa [Act.eval] using e6
    exact light_val rfl (v := .int .i64 i) (by simp [execOp, e6, f6]) hJ rfl
  case o6 =>
    intro A W hv hlen hJ hbase hdL hdH
    have e24 : A.eval (.tmp 24) = .int .i64 i := hdL 5 24 (by kernel_rfl) (by kernel_rfl) (by kernel_rfl)
    have f24 : A.tmps[24]?.getD undef = .int .i64 i := by simpa [Act.eval] using e24
    exact light_val rfl (v := .int .i64 (i + 4)) (by simp [execOp, go_sem, e24, f24, hi4]) hJ rfl
  case o7 =>
    intro A W hv hlen hJ hbase hdL hdH
    have e3 : A.eval (.tmp 3) = ptr g1 := hbase 3 (by kernel_rfl)
    have f3 : A.tmps[3]?.getD undef = ptr g1 := by simpa [Act.eval] using e3
    obtain rfl : hv = [] := List.eq_nil_of_length_eq_zero (Nat.le_zero.1 (hlen.2 0 8 rfl (by kernel_rfl)))
    obtain rfl := (show W = _ from hJ)
    have hr := run_loadA arr_page _ g1 0 q (bxAll B20) Hq.out
    exact light_val rfl (v := pgV q) (by simp [execOp, e3, hr, Result.andThen]) rfl rfl
  case o8 =>
    intro A W hv hlen hJ hbase hdL hdH
    have e23 : A.eval (.tmp 23) = ptr gd := hdL 4 23 (by kernel_rfl) (by kernel_rfl) (by kernel_rfl)
    have f23 : A.tmps[23]?.getD undef = ptr gd := by simpa [Act.eval] using e23
    have e25 : A.eval (.tmp 25) = .int .i64 (i + 4) := hdL 6 25 (by kernel_rfl) (by kernel_rfl) (by kernel_rfl)
    have f25 : A.tmps[25]?.getD undef = .int .i64 (i + 4) := by simpa [Act.eval] using e25
    have e26 : A.eval (.tmp 26) = pgV q := hdL 7 26 (by kernel_rfl) (by kernel_rfl) (by kernel_rfl)
    have f26 : A.tmps[26]?.getD undef = pgV q := by simpa [Act.eval] using e26
    obtain rfl : hv = [] := List.eq_nil_of_length_eq_zero hlen
    obtain rfl := (show W = _ from hJ)
    refine heavy_call rfl (args := #[ptr gd, .int .i64 (i + 4), pgV q]) (f := 50) (by simp [execOp, resolve, invoke, go_sem, e23, f23, e25, f25, e26, f26]) ?_
    refine (hW _ d20).mono ?_
    rintro e w' ⟨rfl, d3, f3⟩
    exact ⟨_, rfl, rfl, ⟨d3, f3⟩⟩
  case o9 =>
    intro A W hv hlen hJ hbase hdL hdH
    have e19 : A.eval (.tmp 19) = .int .i64 i := hdL 0 19 (by kernel_rfl) (by kernel_rfl) (by kernel_rfl)
    have f19 : A.tmps[19]?.getD undef = .int .i64 i := by simpa [Act.eval] using e19
    exact light_val rfl (v := .int .i64 i) (by simp [execOp, e19, f19]) hJ rfl
  case o10 =>
    intro A W hv hlen hJ hbase hdL hdH
    have ev : A.eval (.tmp 27) = .int .i64 0 := JH.val hJ (hdH 8 27 0 (by kernel_rfl) rfl (by kernel_rfl))
    exact light_val rfl (v := .int .i64 0) (by simp [execOp, ev]) hJ rfl
  case oe =>
    intro vs W' hv hlen hJ hL hH
    have x0 : vs 0 = .int .i64 i := hL 0 (by kernel_rfl) (by kernel_rfl)
    have x1 : vs 1 = ptr gs := hL 1 (by kernel_rfl) (by kernel_rfl)
    have x2 : vs 2 = ptr gs := hL 2 (by kernel_rfl) (by kernel_rfl)
    have x3 : vs 3 = .pointer (some ⟨gs, 0, none⟩) := hL 3 (by kernel_rfl) (by kernel_rfl)
    have x4 : vs 4 = ptr gd := hL 4 (by kernel_rfl) (by kernel_rfl)
    have x5 : vs 5 = .int .i64 i := hL 5 (by kernel_rfl) (by kernel_rfl)
    have x6 : vs 6 = .int .i64 (i + 4) := hL 6 (by kernel_rfl) (by kernel_rfl)
    have x7 : vs 7 = pgV q := hL 7 (by kernel_rfl) (by kernel_rfl)
    have x8 : vs 8 = .int .i64 0 := JH.val hJ (hH 0 8 rfl (by kernel_rfl))
    have x9 : vs 9 = .int .i64 i := hL 9 (by kernel_rfl) (by kernel_rfl)
    have x10 : vs 10 = .int .i64 0 := hL 10 (by kernel_rfl) (by kernel_rfl)
    have hQ := JH.end hJ hlen
    simp only [layL, Nat.reduceAdd, Act.put, List.setIfInBounds_toArray, List.set_cons_zero, List.set_cons_succ, x0, x1, x2, x3, x4, x5, x6, x7, x8, x9, x10]
    clear x0 x1 x2 x3 x4 x5 x6 x7 x8 x9 x10 hL hH hJ hlen
    obtain ⟨d3, f3⟩ := hQ
    have z3 := f3.size
    go_wp2
    go_ret2
    have d3' := d3.tight
    have F3 : Fr F w2 W' := (f0.mono (fun _ _ q => q.elim)).trans f3
    refine ⟨rfl, _, ⟨⟨gd, ?_, d3'⟩, S2.pl.fr F3 h.fp, ho, ?_, ?_, ?_, h.ne, fun k hk => hk.2⟩, ?_, ?_⟩
    · obtain ⟨gd', hb', hd'⟩ := S2.dk
      have e : gd' = gd := by have := hb'.two.1; rw [k0'] at this; simpa using this.symm
      subst e
      exact hb'.fr F3 h.fs
    · simp only; rw [hn.out]; exact hU
    · intro q
      have := h.lts
      unfold orNew at q
      rcases q.1 with q1 | q1
      · exact h.fs q1
      · omega
    · intro q
      have := h.ltp
      unfold orNew at q
      rcases q.1 with q1 | q1
      · exact h.fp q1
      · omega
    · intro k hk
      unfold orNew at hk
      refine ⟨?_, hk.2⟩
      rcases hk.1 with q1 | q1
      · exact Or.inl q1
      · exact Or.inr (by omega)
    · exact ((f1.mono (fun k hk q => q.elim)).thenT f2 (fun i hi q => Or.inr q)).thenT F3 (fun i hi q => Or.inl q)
end Go.Proofs.Ytmkinaijkgkgiaa
