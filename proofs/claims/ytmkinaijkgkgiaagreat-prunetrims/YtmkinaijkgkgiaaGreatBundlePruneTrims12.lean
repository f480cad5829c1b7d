/- Texts JB, JC of the proof of PruneTrims, one behind the other. -/
import Derived.Test.YtmkinaijkgkgiaaGreatBundlePruneTrims1
import Derived.Test.YtmkinaijkgkgiaaGreatBundlePruneTrims2
import Derived.Test.YtmkinaijkgkgiaaGreatBundlePruneTrims3
import Derived.Test.YtmkinaijkgkgiaaGreatBundlePruneTrims4
import Derived.Test.YtmkinaijkgkgiaaGreatBundlePruneTrims5
import Derived.Test.YtmkinaijkgkgiaaGreatBundlePruneTrims6
import Derived.Test.YtmkinaijkgkgiaaGreatBundlePruneTrims7
import Derived.Test.YtmkinaijkgkgiaaGreatBundlePruneTrims8
import Derived.Test.YtmkinaijkgkgiaaGreatBundlePruneTrims9
import Derived.Test.YtmkinaijkgkgiaaGreatBundlePruneTrims10
import Derived.Test.YtmkinaijkgkgiaaGreatBundlePruneTrims11
/- slices.Insert of entries into a row of the call's own making: at the end, into a new row, into its room; no condition. -/
namespace Go.Proofs.YtmkinaijkgkgiaaGreat
open Go.RowKit Go.Proofs.U
set_option linter.unusedSimpArgs false
set_option linter.unusedVariables false
/-- A row of the call's own making that is handed back in the place of another one. -/
def InsIs (w w' : World) (base : Nat) (v : Value) (l' : List (Int × Int)) (r : Ending) : Prop := ∃ v', r = .returned v' ∧ EnO w' base v' l' ∧ Fr (fun k => v.ownBlock = some k) w w' ∧ (∀ k, v'.ownBlock = some k → v.ownBlock = some k ∨ w.heap.size ≤ k)
set_option maxRecDepth 100000 in
set_option maxHeartbeats 2000000 in
theorem insE_end {w : World} {base : Nat} {v u : Value} {l m : List (Int × Int)} (hb : base ≤ w.heap.size) (hO : EnO w base v l) (hu : SlR enC 2 w u m) (hm : 1 ≤ m.length) (hl : l.length + m.length ≤ 1000) :
    Calls Tryz.prog 74 #[v, .int .i64 (l.length : Int), u] w fun r w' => InsIs w w' base v (l ++ m) r := by
  obtain ⟨a, cap, hv⟩ := hO.opn
  obtain ⟨a', cap', hu', hcu⟩ := hu.opn
  subst hv
  subst hu'
  have hz1 : ¬ ((m.length : Int) = 0) := by omega
  have hz2 : ((l.length : Int) == (l.length : Int)) = true := by simp
  have h63 : l.length + m.length ≤ maxLen := by unfold maxLen; omega
  have hb2 : (l.length + m.length) * 16 ≤ 140737488355328 := by omega
  go_enter Tryz.func74, Tryz.ntmps74
  go_wp2_with (first
    | (refine at_cut 31 _ _ _ _ rfl ?_; go_must (refine wpList_cutlox rfl 31 _ _ rfl 40 uE 2 en_size a l.length cap rfl .i64 (l.length : Int) l.length rfl rfl (Nat.le_refl _) ?_; intro ao1))
    | (at_builtin; go_must (refine wpList_appM rfl _ _ 31 rfl _ 16 uE en_info rfl (by decide) (.slice a l.length cap) rfl hO (.slice a' m.length cap') m rfl hu hm (fun y _ => en_one y) h63 hb2 hb ?_; intro v' w1 o1 f1 p1)))
  go_ret
  exact ⟨v', rfl, o1, f1, p1⟩
/-- Elements cut apart. -/
theorem fl_take (l : List (Int × Int)) (i : Nat) (hi : i ≤ l.length) : (l.flatMap enC).take (i * 2) = (l.take i).flatMap enC := by
  conv => lhs; rw [← List.take_append_drop i l]
  rw [List.flatMap_append, List.take_left' (by rw [fl_len, List.length_take]; omega)]
theorem cur_take {cur : List Value} {l : List (Int × Int)} (h : cur.take (l.length * 2) = l.flatMap enC) (i : Nat) (hi : i ≤ l.length) : cur.take (i * 2) = (l.take i).flatMap enC := by
  rw [← fl_take l i hi, ← h, List.take_take, Nat.min_eq_left (by omega)]
/-- What was moved and put into a row's room. -/
theorem gap_en {cur : List Value} {l m b : List (Int × Int)} {i N : Nat} (hi : i ≤ l.length) (ht : cur.take (i * 2) = (l.take i).flatMap enC) (hN : N = i + m.length + b.length) (hl : N * 2 ≤ cur.length) :
    (putAt (putAt cur ((i + m.length) * 2) (b.flatMap enC)) (i * 2) (m.flatMap enC)).take (N * 2) = (l.take i ++ (m ++ b)).flatMap enC ∧
    (putAt (putAt cur (i * 2) (m.flatMap enC)) ((i + m.length) * 2) (b.flatMap enC)).take (N * 2) = (l.take i ++ (m ++ b)).flatMap enC := by
  have hA : ((l.take i).flatMap enC).length = i * 2 := by rw [fl_len, List.length_take]; omega
  have hM := fl_len m
  have hB := fl_len b
  have h1 := put_gap (c := cur) (A := (l.take i).flatMap enC) (M := m.flatMap enC) (B := b.flatMap enC) (by rw [hA]; exact ht) (by rw [hA, hM, hB]; omega)
  have h2 := put_gap' (c := cur) (A := (l.take i).flatMap enC) (M := m.flatMap enC) (B := b.flatMap enC) (by rw [hA]; exact ht) (by rw [hA, hM, hB]; omega)
  rw [hA, hM, hB] at h1 h2
  rw [show i * 2 + m.length * 2 = (i + m.length) * 2 by omega, show (i + m.length) * 2 + b.length * 2 = N * 2 by omega] at h1 h2
  rw [List.flatMap_append, List.flatMap_append]
  exact ⟨h1, h2⟩
theorem drop_src {w : World} {g : Nat} {t : TypeId} {cur : List Value} (h : BxV w g t cur) {l : List (Int × Int)} (ht : cur.take (l.length * 2) = l.flatMap enC) (i : Nat) : ∀ j u, ((l.drop i).flatMap enC)[j]? = some u → w.cell? ((⟨g, i * 2, none⟩ : Addr).add j) = some u := by
  have := bx_part h ht i (l.drop i).length
  rw [List.take_length] at this
  exact this
set_option maxRecDepth 100000 in
set_option maxHeartbeats 4000000 in
theorem insE_grow {w : World} {base bu : Nat} {v u : Value} {l m : List (Int × Int)} {i : Nat} (hb : base ≤ w.heap.size) (hO : EnO w base v l) (hu : EnO w bu u m) (hm : 1 ≤ m.length) (hl : l.length + m.length ≤ 1000) (hi : i < l.length) {a : Option Addr} {cap : Nat} (hv : v = .slice a l.length cap) (hcap : cap < l.length + m.length) :
    Calls Tryz.prog 74 #[v, .int .i64 (i : Int), u] w fun r w' => InsIs w w' base v (l.take i ++ (m ++ l.drop i)) r := by
  rcases hO.parts with ⟨_, rfl⟩ | ⟨g, cap', cur, hv', hbg, hB, hnc, hcm, hcl, hct⟩
  · simp at hi
  rw [hv'] at hv
  cases hv
  subst hv'
  rcases hu.parts with ⟨_, rfl⟩ | ⟨gu, capu, curu, hvu, hbgu, hBu, hnu, hcmu, hclu, hctu⟩
  · simp at hm
  subst hvu
  have hz1 : ¬ ((m.length : Int) = 0) := by omega
  have hz2 : ((i : Int) == (l.length : Int)) = false := by simp; omega
  have hz3 : decide ((cap : Int) < (l.length : Int) + (m.length : Int)) = true := by simp; omega
  have hml : i + (l.length + m.length - i) ≤ maxLen := by unfold maxLen; omega
  have hw1 : IntKind.i64.wrap ((l.length : Int) + (m.length : Int)) = (l.length : Int) + (m.length : Int) := wrap_sm (by omega)
  have hw2 : IntKind.i64.wrap ((l.length : Int) + (m.length : Int) - (i : Int)) = ((l.length + m.length - i : Nat) : Int) := by rw [wrap_sm (by omega)]; omega
  have hw3 : IntKind.i64.wrap ((i : Int) + (m.length : Int)) = ((i + m.length : Nat) : Int) := by rw [wrap_sm (by omega)]; omega
  have e1 : i + (l.length + m.length - i) = l.length + m.length := by omega
  have hcu := drop_src hBu hctu 0
  rw [List.drop_zero] at hcu
  have hcd := drop_src hB hct i
  have hdl : (l.drop i).length = l.length - i := List.length_drop
  go_enter Tryz.func74, Tryz.ntmps74
  go_wp2_with (first
    | (refine at_cut 31 _ none _ _ rfl ?_; go_must (refine wpList_cuth rfl 31 _ _ rfl 40 uE 2 en_size _ l.length cap rfl .i64 (i : Int) i rfl rfl (by omega) ?_))
    | (refine at_cut 31 _ _ _ _ rfl ?_; have q := b1; go_must (refine wpList_cutlo1 rfl 31 _ _ rfl 40 uE 2 en_size g1 (l.length + m.length) c1 rfl .i64 (i : Int) i rfl rfl (by omega) (by omega) ?_))
    | (refine at_cut 31 _ _ _ _ rfl ?_; go_must (refine wpList_cutlox rfl 31 _ _ rfl 40 uE 2 en_size _ l.length cap rfl .i64 (i : Int) i rfl rfl (by omega) ?_; intro ao1))
    | (at_builtin; go_must (refine wpList_appZ rfl _ _ 31 3 rfl 40 _ 2 16 uE .i64 Tryz.underlying3 en_info rfl (by decide) g i cap rfl cur hB (by omega) .i64 (l.length + m.length - i) (by simp [Act.eval, Act.put, hw1, hw2]) (by omega) (by omega) hml (by omega) (by omega) ?_; intro g1 c1 cur1 w1 b1 f1 s1 n1 m1 l1 t1; have z1 := f1.size; have lg := hB.lt; have lgu := hBu.lt))
    | (refine at_cpy _ _ _ _ rfl ?_; go_must (refine wpList_cpyN rfl _ _ 31 rfl 40 2 uE en_size g1 40 cur1 b1 (i * 2) (l.length + m.length - i) (c1 - i) m.length capu ⟨gu, 0 * 2, none⟩ (m.flatMap enC) rfl rfl (by rw [fl_len, Nat.min_eq_left (by omega)]) (fun j x hj => f1.cell (hcu j x hj) (fun q => q)) (by rw [fl_len]; omega) (fl_one m) ?_; intro w2 b2 f2; have z2 := f2.size)))
  have hc1 : ¬ (c1 = i + m.length) := by omega
  have hc2 : ¬ (cap = i) := by omega
  have hp1 : (0 : Int) ≤ (i : Int) + (m.length : Int) := by omega
  have hp2 : i + m.length ≤ l.length + m.length := by omega
  have hp3 : ((i : Int) + (m.length : Int)).toNat = i + m.length := by omega
  have hp4 : (i : Int) ≤ (l.length : Int) := by omega
  have zE := Tryz.sizeOf40
  have mixed : Tryz.prog.follows Departure.mixedOrders = true := by kernel_rfl
  have uE1 := run_underlying uE
  have b2d : BxV w2.drew g1 40 (putAt cur1 (i * 2) (m.flatMap enC)) := b2
  have hcd2 : ∀ j x, ((l.drop i).flatMap enC)[j]? = some x → w2.drew.cell? ((⟨g, i * 2, none⟩ : Addr).add j) = some x := fun j x hj => f2.cell (f1.cell (hcd j x hj) (fun q => q)) (fun q => by unfold onB1 at q; rw [Addr.add_lit] at q; simp only at q; omega)
  have hfitd : (i + m.length) * 2 + ((l.drop i).flatMap enC).length ≤ (putAt cur1 (i * 2) (m.flatMap enC)).length := by rw [putAt_len _ _ _ (by rw [fl_len]; omega), fl_len, hdl]; omega
  have hld : ((l.drop i).flatMap enC).length = min (l.length - i) (l.length + m.length - (i + m.length)) * 2 := by rw [fl_len, hdl]; omega
  go_region_law_o (refine step_cpyN rfl _ _ 31 rfl 40 2 uE en_size g1 40 _ b2d ((i + m.length) * 2) (l.length + m.length - (i + m.length)) (c1 - (i + m.length)) (l.length - i) (cap - i) ⟨g, i * 2, none⟩ ((l.drop i).flatMap enC) (by simp [Act.eval, Act.put]) (by simp [Act.eval, Act.put]) hld hcd2 hfitd (fl_one _) ?_)
  have b3 := setCells_bx ((l.drop i).flatMap enC) ((i + m.length) * 2) w2.drew _ b2d hfitd
  have f3 := setCells_fr1 w2.drew g1 ((l.drop i).flatMap enC) ((i + m.length) * 2)
  obtain ⟨w3, H3⟩ : ∃ x, Hid (w2.drew.setCells g1 ((i + m.length) * 2) ((l.drop i).flatMap enC) = x) := ⟨_, rfl⟩
  rw [H3.out] at b3 f3 ⊢
  go_wp2
  go_ret
  have hg := (gap_en (cur := cur1) (l := l) (m := m) (b := l.drop i) (i := i) (N := l.length + m.length) (by omega) (by rw [t1]; exact cur_take hct i (by omega)) (by rw [hdl]; omega) (by omega)).2
  have hlen3 : (putAt (putAt cur1 (i * 2) (m.flatMap enC)) ((i + m.length) * 2) ((l.drop i).flatMap enC)).length = c1 * 2 := by
    rw [putAt_len _ _ _ hfitd, putAt_len _ _ _ (by rw [fl_len]; omega), l1]
  have hln : (l.take i ++ (m ++ l.drop i)).length = l.length + m.length := by rw [List.length_append, List.length_append, List.length_take, hdl]; omega
  refine ⟨_, rfl, EnO.mk (by omega) b3 hln.symm (by rw [hln]; omega) m1 hlen3 (by rw [hln]; exact hg), ?_, fun k hk => Or.inr ?_⟩
  · exact (((f1.mono (fun _ _ q => q.elim)).thenT f2 (fun x hx q => by unfold onB1 at q; omega)).drew).thenT f3 (fun x hx q => by unfold onB1 at q; omega)
  · simp [Value.ownBlock] at hk; omega
set_option maxRecDepth 100000 in
set_option maxHeartbeats 4000000 in
theorem insE_shift {w : World} {base bu : Nat} {v u : Value} {l m : List (Int × Int)} {i : Nat} (hb : base ≤ w.heap.size) (hO : EnO w base v l) (hu : EnO w bu u m) (hap : ∀ k, v.ownBlock = some k → u.ownBlock = some k → False) (hm : 1 ≤ m.length) (hl : l.length + m.length ≤ 1000) (hi : i < l.length) {a : Option Addr} {cap : Nat} (hv : v = .slice a l.length cap) (hcap : l.length + m.length ≤ cap) :
    Calls Tryz.prog 74 #[v, .int .i64 (i : Int), u] w fun r w' => InsIs w w' base v (l.take i ++ (m ++ l.drop i)) r := by
  rcases hO.parts with ⟨_, rfl⟩ | ⟨g, cap', cur, hv', hbg, hB, hnc, hcm, hcl, hct⟩
  · simp at hi
  rw [hv'] at hv
  cases hv
  subst hv'
  rcases hu.parts with ⟨_, rfl⟩ | ⟨gu, capu, curu, hvu, hbgu, hBu, hnu, hcmu, hclu, hctu⟩
  · simp at hm
  subst hvu
  have hne : gu ≠ g := fun q => hap g rfl (by rw [q]; rfl)
  have hz1 : ¬ ((m.length : Int) = 0) := by omega
  have hz2 : ((i : Int) == (l.length : Int)) = false := by simp; omega
  have hz3 : decide ((cap : Int) < (l.length : Int) + (m.length : Int)) = false := by simp; omega
  have hcap63 : cap ≤ 9223372036854775807 := by unfold maxLen at hcm; omega
  have hw1 : IntKind.i64.wrap ((l.length : Int) + (m.length : Int)) = (l.length : Int) + (m.length : Int) := wrap_sm (by omega)
  have hw3 : IntKind.i64.wrap ((i : Int) + (m.length : Int)) = (i : Int) + (m.length : Int) := wrap_sm (by omega)
  have hcu := drop_src hBu hctu 0
  rw [List.drop_zero] at hcu
  have hcd := drop_src hB hct i
  have hdl : (l.drop i).length = l.length - i := List.length_drop
  have hov := fun o n' cap' => ovl_run hBu hB hne (by omega) 0 o m.length capu n' cap'
  go_enter Tryz.func74, Tryz.ntmps74
  go_wp2_with (first
    | (refine at_cut 31 (.tmp 56) none _ _ rfl ?_; go_must (refine wpList_cuth rfl 31 _ _ rfl 40 uE 2 en_size _ l.length cap rfl .i64 ((l.length : Int) + (m.length : Int)) (l.length + m.length) rfl (by omega) (by omega) ?_))
    | (refine at_cut 31 (.tmp 62) _ _ _ rfl ?_; go_must (refine wpList_cutlo1 rfl 31 _ _ rfl 40 uE 2 en_size g (l.length + m.length) cap rfl .i64 ((i : Int) + (m.length : Int)) (i + m.length) rfl (by omega) (by omega) (by omega) ?_))
    | (refine at_cut 31 _ _ _ _ rfl ?_; go_must (refine wpList_cutlox rfl 31 _ _ rfl 40 uE 2 en_size _ l.length cap rfl .i64 (i : Int) i rfl rfl (by omega) ?_; intro ao1))
    | (go_at_call 76; go_must (refine wpList_extern rfl 76 _ _ _ rfl _ _ rfl rfl (hov _ _ _) ?_)))
  have hc1 : ¬ (cap = i + m.length) := by omega
  have hc2 : ¬ (cap = i) := by omega
  have hp1 : (0 : Int) ≤ (i : Int) + (m.length : Int) := by omega
  have hp2 : i + m.length ≤ l.length + m.length := by omega
  have hp3 : ((i : Int) + (m.length : Int)).toNat = i + m.length := by omega
  have hp4 : (i : Int) ≤ (l.length : Int) + (m.length : Int) := by omega
  have hp5 : i ≤ l.length + m.length := by omega
  have hp6 : i ≤ l.length := by omega
  have zE := Tryz.sizeOf40
  have mixed : Tryz.prog.follows Departure.mixedOrders = true := by kernel_rfl
  have uE1 := run_underlying uE
  have b2d : BxV w.drew g 40 cur := hB
  have hcd2 : ∀ j x, ((l.drop i).flatMap enC)[j]? = some x → w.drew.cell? ((⟨g, i * 2, none⟩ : Addr).add j) = some x := hcd
  have hfitd : (i + m.length) * 2 + ((l.drop i).flatMap enC).length ≤ cur.length := by rw [fl_len, hdl]; omega
  have hld : ((l.drop i).flatMap enC).length = min (l.length + m.length - i) (l.length + m.length - (i + m.length)) * 2 := by rw [fl_len, hdl]; omega
  go_region_law_o (refine step_cpyN rfl _ _ 31 rfl 40 2 uE en_size g 40 _ b2d ((i + m.length) * 2) (l.length + m.length - (i + m.length)) (cap - (i + m.length)) (l.length + m.length - i) (cap - i) ⟨g, i * 2, none⟩ ((l.drop i).flatMap enC) (by simp [Act.eval, Act.put]) (by simp [Act.eval, Act.put]) hld hcd2 hfitd (fl_one _) ?_)
  have b3 := setCells_bx ((l.drop i).flatMap enC) ((i + m.length) * 2) w.drew _ b2d hfitd
  have f3 := setCells_fr1 w.drew g ((l.drop i).flatMap enC) ((i + m.length) * 2)
  obtain ⟨w3, H3⟩ : ∃ x, Hid (w.drew.setCells g ((i + m.length) * 2) ((l.drop i).flatMap enC) = x) := ⟨_, rfl⟩
  rw [H3.out] at b3 f3 ⊢
  have F3 : Fr (onB1 g) w w3 := ((Fr.refl _ w).drew).thenT f3 (fun _ _ q => q)
  have hlen2 : (putAt cur ((i + m.length) * 2) ((l.drop i).flatMap enC)).length = cap * 2 := by rw [putAt_len _ _ _ hfitd, hcl]
  go_wp2_with (first
    | (refine at_cut 31 _ _ _ _ rfl ?_; go_must (refine wpList_cutlo1 rfl 31 _ _ rfl 40 uE 2 en_size g (l.length + m.length) cap rfl .i64 (i : Int) i rfl rfl (by omega) (by omega) ?_))
    | (refine at_cpy _ _ _ _ rfl ?_; go_must (refine wpList_cpyN rfl _ _ 31 rfl 40 2 uE en_size g 40 _ b3 (i * 2) (l.length + m.length - i) (cap - i) m.length capu ⟨gu, 0 * 2, none⟩ (m.flatMap enC) rfl rfl (by rw [fl_len, Nat.min_eq_left (by omega)]) (fun j x hj => F3.cell (hcu j x hj) (fun q => by unfold onB1 at q; rw [Addr.add_lit] at q; exact hne q)) (by rw [fl_len, hlen2]; omega) (fl_one m) ?_; intro w4 b4 f4)))
  go_ret
  have hg := (gap_en (cur := cur) (l := l) (m := m) (b := l.drop i) (i := i) (N := l.length + m.length) (by omega) (cur_take hct i (by omega)) (by rw [hdl]; omega) (by omega)).1
  have hlen3 : (putAt (putAt cur ((i + m.length) * 2) ((l.drop i).flatMap enC)) (i * 2) (m.flatMap enC)).length = cap * 2 := by
    rw [putAt_len _ _ _ (by rw [fl_len, hlen2]; omega), hlen2]
  have hln : (l.take i ++ (m ++ l.drop i)).length = l.length + m.length := by rw [List.length_append, List.length_append, List.length_take, hdl]; omega
  refine ⟨_, rfl, EnO.mk hbg b4 hln.symm (by rw [hln]; exact hcap) hcm hlen3 (by rw [hln]; exact hg), ?_, fun k hk => Or.inl hk⟩
  exact (F3.thenT f4 (fun _ _ q => q)).mono (fun k _ q => by unfold onB1 at q; subst q; rfl)
/-- slices.Insert of some entries. -/
theorem insE_any {w : World} {base bu : Nat} {v u : Value} {l m : List (Int × Int)} {i : Nat} (hb : base ≤ w.heap.size) (hO : EnO w base v l) (hu : EnO w bu u m) (hap : ∀ k, v.ownBlock = some k → u.ownBlock = some k → False) (hm : 1 ≤ m.length) (hl : l.length + m.length ≤ 1000) (hi : i ≤ l.length) :
    Calls Tryz.prog 74 #[v, .int .i64 (i : Int), u] w fun r w' => InsIs w w' base v (l.take i ++ (m ++ l.drop i)) r := by
  by_cases he : i = l.length
  · subst he
    rw [List.take_length, List.drop_length, List.append_nil]
    exact insE_end hb hO hu.sl hm hl
  · obtain ⟨a, cap, hv⟩ := hO.opn
    by_cases hc : cap < l.length + m.length
    · exact insE_grow hb hO hu hm hl (by omega) hv hc
    · exact insE_shift hb hO hu hap hm hl (by omega) hv (by omega)
end Go.Proofs.YtmkinaijkgkgiaaGreat
/- slices.Replace of one entry by one or two; no condition. -/
namespace Go.Proofs.YtmkinaijkgkgiaaGreat
open Go.RowKit Go.Proofs.U
set_option linter.unusedSimpArgs false
set_option linter.unusedVariables false
theorem EnO.front {w : World} {base g cap : Nat} {l : List (Int × Int)} {n : Nat} (h : EnO w base (.slice (some ⟨g, 0, none⟩) n cap) l) (i : Nat) (hi : i ≤ l.length) : EnO w base (.slice (some ⟨g, 0, none⟩) i cap) (l.take i) := by
  rcases h.parts with ⟨e, _⟩ | ⟨g', cap', cur, e, hb, hB, hn, hm, hl, ht⟩
  · cases e
  · cases e
    have hlen : (l.take i).length = i := by rw [List.length_take]; omega
    exact EnO.mk hb hB hlen.symm (by omega) hm hl (by rw [hlen]; exact cur_take ht i hi)
set_option maxRecDepth 100000 in
set_option maxHeartbeats 4000000 in
theorem repE_end {w : World} {base : Nat} {v u : Value} {l m : List (Int × Int)} {i : Nat} (hb : base ≤ w.heap.size) (hO : EnO w base v l) (hu : SlR enC 2 w u m) (hm : 1 ≤ m.length) (hl : l.length + m.length ≤ 1000) (hi : i + 1 = l.length) :
    Calls Tryz.prog 55 #[v, .int .i64 (i : Int), .int .i64 ((i : Int) + 1), u] w fun r w' => InsIs w w' base v (l.take i ++ (m ++ l.drop (i + 1))) r := by
  rcases hO.parts with ⟨_, rfl⟩ | ⟨g, cap, cur, hv', hbg, hB, hnc, hcm, hcl, hct⟩
  · simp at hi
  subst hv'
  have hOf := hO.front i (by omega)
  obtain ⟨a', cap', hu', hcu⟩ := hu.opn
  subst hu'
  rw [show l.drop (i + 1) = [] by rw [hi]; exact List.drop_length, List.append_nil]
  have hz1 : ((i : Int) == (i : Int) + 1) = false := by simp; omega
  have hz2 : ((i : Int) + 1 == (l.length : Int)) = true := by simp; omega
  have hz3 : decide ((i : Int) + (m.length : Int) < (l.length : Int)) = false := by simp; omega
  have hz4 : decide (((i + m.length : Nat) : Int) < (l.length : Int)) = false := by simp; omega
  have hti : (l.take i).length = i := by rw [List.length_take]; omega
  have h63 : (l.take i).length + m.length ≤ maxLen := by unfold maxLen; omega
  have hb2 : ((l.take i).length + m.length) * 16 ≤ 140737488355328 := by omega
  go_enter Tryz.func55, Tryz.ntmps55
  go_wp2_with (first
    | (refine at_cut 31 _ none _ _ rfl ?_; go_must (refine wpList_cuth rfl 31 _ _ rfl 40 uE 2 en_size _ l.length cap rfl .i64 (i : Int) i rfl rfl (by omega) ?_))
    | (refine at_cut 31 (.tmp 15) _ _ _ rfl ?_; go_must (refine wpList_cut rfl 31 _ _ _ rfl 40 uE 2 en_size _ l.length _ rfl hO.sl.2 .i64 .i64 (i : Int) ((i : Int) + 1) i (i + 1) rfl rfl rfl (by omega) (by omega) (by omega) ?_; intro v1 _ _))
    | (at_builtin; go_must (refine wpList_appM rfl _ _ 31 rfl _ 16 uE en_info rfl (by decide) (.slice (some ⟨g, 0, none⟩) i cap) rfl hOf (.slice a' m.length cap') m rfl hu hm (fun y _ => en_one y) h63 hb2 hb ?_; intro v' w1 o1 f1 p1; obtain ⟨a1, c1, hv1⟩ := o1.opn; rw [List.length_append, hti] at hv1; subst hv1)))
  go_ret
  exact ⟨_, rfl, o1, f1, p1⟩
set_option maxRecDepth 100000 in
set_option maxHeartbeats 4000000 in
theorem repE_grow {w : World} {base bu : Nat} {v u : Value} {l m : List (Int × Int)} {i : Nat} (hb : base ≤ w.heap.size) (hO : EnO w base v l) (hu : EnO w bu u m) (hm : 1 ≤ m.length) (hl : l.length + m.length ≤ 1000) (hi : i + 1 < l.length) {a : Option Addr} {cap : Nat} (hv : v = .slice a l.length cap) (hcap : cap < i + m.length + (l.length - (i + 1))) :
    Calls Tryz.prog 55 #[v, .int .i64 (i : Int), .int .i64 ((i : Int) + 1), u] w fun r w' => InsIs w w' base v (l.take i ++ (m ++ l.drop (i + 1))) r := by
  rcases hO.parts with ⟨_, rfl⟩ | ⟨g, cap', cur, hv', hbg, hB, hnc, hcm, hcl, hct⟩
  · simp at hi
  rw [hv'] at hv
  cases hv
  subst hv'
  rcases hu.parts with ⟨_, rfl⟩ | ⟨gu, capu, curu, hvu, hbgu, hBu, hnu, hcmu, hclu, hctu⟩
  · simp at hm
  subst hvu
  have hz1 : ((i : Int) == (i : Int) + 1) = false := by simp; omega
  have hz2 : ((i : Int) + 1 == (l.length : Int)) = false := by simp; omega
  have hcu := drop_src hBu hctu 0
  rw [List.drop_zero] at hcu
  have hcd := drop_src hB hct (i + 1)
  have hdl : (l.drop (i + 1)).length = l.length - (i + 1) := List.length_drop
  have hp1 : (0 : Int) ≤ (i : Int) + 1 := by omega
  have hp2 : i + 1 ≤ l.length := by omega
  have hp3 : ((i : Int) + 1).toNat = i + 1 := by omega
  have hp6 : i ≤ cap := by omega
  have hc1 : ¬ (cap = i + 1) := by omega
  have zE := Tryz.sizeOf40
  have mixed : Tryz.prog.follows Departure.mixedOrders = true := by kernel_rfl
  have uE1 := run_underlying uE
  have hw1 : IntKind.i64.wrap ((i : Int) + (m.length : Int)) = (i : Int) + (m.length : Int) := wrap_sm (by omega)
  have hw2 : IntKind.i64.wrap ((i : Int) + (m.length : Int) + ((l.length - (i + 1) : Nat) : Int)) = ((i + m.length + (l.length - (i + 1)) : Nat) : Int) := by rw [wrap_sm (by omega)]; omega
  obtain ⟨N, HN⟩ : ∃ N, Hid (i + m.length + (l.length - (i + 1)) = N) := ⟨_, rfl⟩
  rw [HN.out] at hw2 hcap
  have hNb : i + m.length ≤ N ∧ N ≤ 2000 := by rw [← HN.out]; omega
  go_enter Tryz.func55, Tryz.ntmps55
  go_wp2_with (first
    | (refine at_cut 31 (.tmp 15) _ _ _ rfl ?_; go_must (refine wpList_cut rfl 31 _ _ _ rfl 40 uE 2 en_size _ l.length _ rfl hO.sl.2 .i64 .i64 (i : Int) ((i : Int) + 1) i (i + 1) rfl rfl rfl (by omega) (by omega) (by omega) ?_; intro v1 _ _)))
  go_region_with (fail)
  have b0d : BxV w.drew g 40 cur := hB
  have bud : BxV w.drew gu 40 curu := hBu
  have hz3 : decide ((cap : Int) < (N : Int)) = true := by simp; omega
  have hw3 : IntKind.i64.wrap ((N : Int) - (i : Int)) = ((N - i : Nat) : Int) := by rw [wrap_sm (by omega)]; omega
  have hw4 : IntKind.i64.wrap ((i : Int) + (m.length : Int)) = (i : Int) + (m.length : Int) := wrap_sm (by omega)
  have hNi : i + (N - i) = N := by omega
  have hml : i + (N - i) ≤ maxLen := by unfold maxLen; omega
  have hNl : Hid (N = i + m.length + (l.length - (i + 1))) := HN.out.symm
  go_wp2_with (first
    | (refine at_cut 31 _ none _ _ rfl ?_; go_must (refine wpList_cuth rfl 31 _ _ rfl 40 uE 2 en_size _ l.length cap rfl .i64 (i : Int) i rfl rfl (by omega) ?_))
    | (refine at_cut 31 _ _ _ _ rfl ?_; have q := b1; go_must (refine wpList_cutlo1 rfl 31 _ _ rfl 40 uE 2 en_size g1 N c1 rfl .i64 (i : Int) i rfl rfl (by omega) (by omega) ?_))
    | (at_builtin; go_must (refine wpList_appZ rfl _ _ 31 3 rfl 40 _ 2 16 uE .i64 Tryz.underlying3 en_info rfl (by decide) g i cap rfl cur b0d (by omega) .i64 (N - i) (by simp [Act.eval, Act.put, hw3]) (by omega) (by omega) hml (by omega) (by omega) ?_; intro g1 c1 cur1 w1 b1 f1 s1 n1 m1 l1 t1; have z1 := f1.size; have lg := hB.lt; have lgu := hBu.lt))
    | (refine at_cpy _ _ _ _ rfl ?_; go_must (refine wpList_cpyN rfl _ _ 31 rfl 40 2 uE en_size g1 40 cur1 b1 (i * 2) (N - i) (c1 - i) m.length capu ⟨gu, 0 * 2, none⟩ (m.flatMap enC) rfl rfl (by rw [fl_len, Nat.min_eq_left (by omega)]) (fun j x hj => f1.cell (hcu j x hj) (fun q => q)) (by rw [fl_len]; omega) (fl_one m) ?_; intro w2 b2 f2; have z2 := f2.size)))
  have s1' : w.heap.size ≤ g1 := s1
  have hc2 : ¬ (c1 = i + m.length) := by have := hNl.out; omega
  have hq1 : (0 : Int) ≤ (i : Int) + (m.length : Int) := by omega
  have hq2 : i + m.length ≤ N := hNb.1
  have hq3 : ((i : Int) + (m.length : Int)).toNat = i + m.length := by omega
  have hq4 : (i : Int) + (m.length : Int) ≤ (N : Int) := by omega
  have b2d : BxV w2.drew g1 40 (putAt cur1 (i * 2) (m.flatMap enC)) := b2
  have hcd2 : ∀ j x, ((l.drop (i + 1)).flatMap enC)[j]? = some x → w2.drew.cell? ((⟨g, (i + 1) * 2, none⟩ : Addr).add j) = some x := fun j x hj => f2.cell (f1.cell (hcd j x hj) (fun q => q)) (fun q => by unfold onB1 at q; rw [Addr.add_lit] at q; simp only at q; omega)
  have hfitd : (i + m.length) * 2 + ((l.drop (i + 1)).flatMap enC).length ≤ (putAt cur1 (i * 2) (m.flatMap enC)).length := by have := hNl.out; rw [putAt_len _ _ _ (by rw [fl_len]; omega), fl_len, hdl]; omega
  have hld : ((l.drop (i + 1)).flatMap enC).length = min (l.length - (i + 1)) (N - (i + m.length)) * 2 := by have := hNl.out; rw [fl_len, hdl]; omega
  go_region_law_o (refine step_cpyN rfl _ _ 31 rfl 40 2 uE en_size g1 40 _ b2d ((i + m.length) * 2) (N - (i + m.length)) (c1 - (i + m.length)) (l.length - (i + 1)) (cap - (i + 1)) ⟨g, (i + 1) * 2, none⟩ ((l.drop (i + 1)).flatMap enC) (by simp [Act.eval, Act.put]) (by simp [Act.eval, Act.put]) hld hcd2 hfitd (fl_one _) ?_)
  have b3 := setCells_bx ((l.drop (i + 1)).flatMap enC) ((i + m.length) * 2) w2.drew _ b2d hfitd
  have f3 := setCells_fr1 w2.drew g1 ((l.drop (i + 1)).flatMap enC) ((i + m.length) * 2)
  obtain ⟨w3, H3⟩ : ∃ x, Hid (w2.drew.setCells g1 ((i + m.length) * 2) ((l.drop (i + 1)).flatMap enC) = x) := ⟨_, rfl⟩
  rw [H3.out] at b3 f3 ⊢
  go_wp2
  go_ret
  have hNl := hNl.out
  have hg := (gap_en (cur := cur1) (l := l) (m := m) (b := l.drop (i + 1)) (i := i) (N := N) (by omega) (by rw [t1]; exact cur_take hct i (by omega)) (by rw [hdl]; omega) (by omega)).2
  have hlen3 : (putAt (putAt cur1 (i * 2) (m.flatMap enC)) ((i + m.length) * 2) ((l.drop (i + 1)).flatMap enC)).length = c1 * 2 := by
    rw [putAt_len _ _ _ hfitd, putAt_len _ _ _ (by rw [fl_len]; omega), l1]
  have hln : (l.take i ++ (m ++ l.drop (i + 1))).length = N := by rw [List.length_append, List.length_append, List.length_take, hdl]; omega
  have F1 : Fr noB w w1 := ⟨f1.os, f1.tape, f1.output, f1.size, f1.block⟩
  refine ⟨_, rfl, EnO.mk (by omega) b3 hln.symm (by rw [hln]; omega) m1 hlen3 (by rw [hln]; exact hg), ?_, fun k hk => Or.inr ?_⟩
  · exact (((F1.mono (fun _ _ q => q.elim)).thenT f2 (fun x hx q => by unfold onB1 at q; omega)).drew).thenT f3 (fun x hx q => by unfold onB1 at q; omega)
  · simp [Value.ownBlock] at hk; omega
theorem at_clr {P : Program} {w : World} {ops : Array Oper} {rest : List Oper} {o : Oper} {a : Act} {Q : Exit → Act → World → Prop} (x : Operand) (t : TypeId) (_ho : o.op = .call { callee := .builtin .clear, args := #[x], argTypes := #[t] }) (h : wpList P ops Q (o :: rest) a w) : wpList P ops Q (o :: rest) a w := h
set_option maxRecDepth 100000 in
set_option maxHeartbeats 4000000 in
theorem repE_one {w : World} {base bu : Nat} {v u : Value} {l m : List (Int × Int)} {i : Nat} (hb : base ≤ w.heap.size) (hO : EnO w base v l) (hu : EnO w bu u m) (hap : ∀ k, v.ownBlock = some k → u.ownBlock = some k → False) (hm : m.length = 1) (hl : l.length + m.length ≤ 1000) (hi : i + 1 < l.length) {a : Option Addr} {cap : Nat} (hv : v = .slice a l.length cap) :
    Calls Tryz.prog 55 #[v, .int .i64 (i : Int), .int .i64 ((i : Int) + 1), u] w fun r w' => InsIs w w' base v (l.take i ++ (m ++ l.drop (i + 1))) r := by
  rcases hO.parts with ⟨_, rfl⟩ | ⟨g, cap', cur, hv', hbg, hB, hnc, hcm, hcl, hct⟩
  · simp at hi
  rw [hv'] at hv
  cases hv
  subst hv'
  rcases hu.parts with ⟨_, rfl⟩ | ⟨gu, capu, curu, hvu, hbgu, hBu, hnu, hcmu, hclu, hctu⟩
  · simp at hm
  subst hvu
  have hne : gu ≠ g := fun q => hap g rfl (by rw [q]; rfl)
  have hz1 : ((i : Int) == (i : Int) + 1) = false := by simp; omega
  have hz2 : ((i : Int) + 1 == (l.length : Int)) = false := by simp; omega
  have hcu := drop_src hBu hctu 0
  rw [List.drop_zero] at hcu
  have hcd := drop_src hB hct (i + 1)
  have hdl : (l.drop (i + 1)).length = l.length - (i + 1) := List.length_drop
  have hp1 : (0 : Int) ≤ (i : Int) + 1 := by omega
  have hp2 : i + 1 ≤ l.length := by omega
  have hp3 : ((i : Int) + 1).toNat = i + 1 := by omega
  have hp6 : i ≤ cap := by omega
  have hc1 : ¬ (cap = i + 1) := by omega
  have zE := Tryz.sizeOf40
  have mixed : Tryz.prog.follows Departure.mixedOrders = true := by kernel_rfl
  have uE1 := run_underlying uE
  obtain ⟨M, HM⟩ : ∃ M, Hid (m.length = M) := ⟨_, rfl⟩
  have hM1 : Hid (M = 1) := by rw [← HM.out]; exact hm
  have hflm : (m.flatMap enC).length = 2 := by rw [fl_len, hm]
  clear hm
  rw [HM.out] at hnu ⊢
  have hw1 : IntKind.i64.wrap ((i : Int) + (M : Int)) = (i : Int) + (M : Int) := by have := hM1.out; exact wrap_sm (by omega)
  have hw2 : IntKind.i64.wrap ((i : Int) + (M : Int) + ((l.length - (i + 1) : Nat) : Int)) = (l.length : Int) := by have := hM1.out; rw [wrap_sm (by omega)]; omega
  go_enter Tryz.func55, Tryz.ntmps55
  go_wp2_with (first
    | (refine at_cut 31 (.tmp 15) _ _ _ rfl ?_; go_must (refine wpList_cut rfl 31 _ _ _ rfl 40 uE 2 en_size _ l.length _ rfl hO.sl.2 .i64 .i64 (i : Int) ((i : Int) + 1) i (i + 1) rfl rfl rfl (by omega) (by omega) (by omega) ?_; intro v1 _ _)))
  go_region_with (fail)
  have b0d : BxV w.drew g 40 cur := hB
  have bud : BxV w.drew gu 40 curu := hBu
  have hcu0 : ∀ j x, (m.flatMap enC)[j]? = some x → w.drew.cell? ((⟨gu, 0 * 2, none⟩ : Addr).add j) = some x := hcu
  have hz3 : decide ((cap : Int) < (l.length : Int)) = false := by simp; omega
  have hz4 : decide ((i : Int) + (M : Int) ≤ (i : Int) + 1) = true := by have := hM1.out; simp; omega
  have hz5 : (M : Int) ≤ 1 := by have := hM1.out; omega
  have hz6 : M ≤ 1 := by have := hM1.out; omega
  go_wp2_with (first
    | (refine at_cut 31 (.tmp 84) _ _ _ rfl ?_; go_must (refine wpList_cuth rfl 31 _ _ rfl 40 uE 2 en_size _ l.length cap rfl .i64 (l.length : Int) l.length rfl rfl (by omega) ?_))
    | (refine at_cut 31 (.tmp 93) _ _ _ rfl ?_; go_must (refine wpList_cutlo1 rfl 31 _ _ rfl 40 uE 2 en_size g l.length cap rfl .i64 (i : Int) i rfl rfl (by omega) (by omega) ?_))
    | (refine at_cpy _ _ _ _ rfl ?_; go_must (refine wpList_cpyN rfl _ _ 31 rfl 40 2 uE en_size g 40 cur b0d (i * 2) (l.length - i) (cap - i) M capu ⟨gu, 0 * 2, none⟩ (m.flatMap enC) rfl rfl (by have := hM1.out; rw [hflm, Nat.min_eq_left (by omega)]; omega) hcu0 (by rw [hflm]; omega) (fl_one m) ?_; intro w2 b2 f2)))
  have F2 : Fr (onB1 g) w w2 := ⟨f2.os, f2.tape, f2.output, f2.size, f2.block⟩
  have hMo := show Hid _ from hM1.out
  have hc2 : ¬ (cap = i + M) := by have := hMo.out; omega
  have hq1 : (0 : Int) ≤ (i : Int) + (M : Int) := by omega
  have hq2 : i + M ≤ l.length := by have := hMo.out; omega
  have hq3 : ((i : Int) + (M : Int)).toNat = i + M := by omega
  have hq4 : (i : Int) + (M : Int) ≤ (l.length : Int) := by omega
  have b2d : BxV w2.drew g 40 (putAt cur (i * 2) (m.flatMap enC)) := b2
  have hlen2 : (putAt cur (i * 2) (m.flatMap enC)).length = cap * 2 := by rw [putAt_len _ _ _ (by rw [hflm]; omega), hcl]
  have htk2 : (putAt cur (i * 2) (m.flatMap enC)).take (l.length * 2) = (l.take i ++ (m ++ l.drop (i + 1))).flatMap enC := by
    have hA : ((l.take i).flatMap enC).length = i * 2 := by rw [fl_len, List.length_take]; omega
    have hti := cur_take hct i (by omega)
    have h1 : cur.take (i * 2) = (l.take i).flatMap enC := hti
    have h2 : (cur.drop (i * 2 + 2)).take (l.length * 2 - (i * 2 + 2)) = (l.drop (i + 1)).flatMap enC := by
      rw [← List.drop_take, hct]
      conv => lhs; rw [← List.take_append_drop (i + 1) l]
      rw [List.flatMap_append, List.drop_left' (by rw [fl_len, List.length_take]; omega)]
    unfold putAt
    rw [hflm, h1, List.flatMap_append, List.flatMap_append, List.append_assoc, ← h2]
    rw [← List.append_assoc, List.take_append, ← List.append_assoc, List.length_append, hA, hflm, List.take_of_length_le (by rw [List.length_append, hA, hflm]; omega)]
  have hml : (l.take i ++ (m ++ l.drop (i + 1))).length = l.length := by have := hMo.out; rw [List.length_append, List.length_append, List.length_take, hdl, HM.out]; omega
  have hcd2 : ∀ j x, ((l.drop (i + 1)).flatMap enC)[j]? = some x → w2.drew.cell? ((⟨g, (i + 1) * 2, none⟩ : Addr).add j) = some x := by
    have h1 := drop_src b2d (l := l.take i ++ (m ++ l.drop (i + 1))) (by rw [hml]; exact htk2) (i + 1)
    have h2 : (l.take i ++ (m ++ l.drop (i + 1))).drop (i + 1) = l.drop (i + 1) := by
      rw [← List.append_assoc]
      exact List.drop_left' (by have := hMo.out; rw [List.length_append, List.length_take, HM.out]; omega)
    rw [h2] at h1
    exact h1
  have hfitd : (i + M) * 2 + ((l.drop (i + 1)).flatMap enC).length ≤ (putAt cur (i * 2) (m.flatMap enC)).length := by have := hMo.out; rw [hlen2, fl_len, hdl]; omega
  have hld : ((l.drop (i + 1)).flatMap enC).length = min (l.length - (i + 1)) (l.length - (i + M)) * 2 := by have := hMo.out; rw [fl_len, hdl]; omega
  go_region_law_o (refine step_cpyN rfl _ _ 31 rfl 40 2 uE en_size g 40 _ b2d ((i + M) * 2) (l.length - (i + M)) (cap - (i + M)) (l.length - (i + 1)) (cap - (i + 1)) ⟨g, (i + 1) * 2, none⟩ ((l.drop (i + 1)).flatMap enC) (by simp [Act.eval, Act.put]) (by simp [Act.eval, Act.put]) hld hcd2 hfitd (fl_one _) ?_)
  have b3 := setCells_bx ((l.drop (i + 1)).flatMap enC) ((i + M) * 2) w2.drew _ b2d hfitd
  have f3 := setCells_fr1 w2.drew g ((l.drop (i + 1)).flatMap enC) ((i + M) * 2)
  obtain ⟨w3, H3⟩ : ∃ x, Hid (w2.drew.setCells g ((i + M) * 2) ((l.drop (i + 1)).flatMap enC) = x) := ⟨_, rfl⟩
  rw [H3.out] at b3 f3 ⊢
  have F3 : Fr (onB1 g) w w3 := (F2.drew).thenT f3 (fun _ _ q => q)
  go_wp2_with (first
    | (refine at_cut 31 _ _ _ _ rfl ?_; go_must (refine wpList_cutlox rfl 31 _ _ rfl 40 uE 2 en_size _ l.length cap rfl .i64 (l.length : Int) l.length rfl rfl (Nat.le_refl _) ?_; intro ao1))
    | (refine at_clr _ _ rfl ?_; go_must (refine wpList_clr0 rfl _ 31 40 rfl uE ao1 (cap - l.length) (by simp [Act.eval, Act.put]) ?_)))
  go_ret
  have hg := (gap_en (cur := cur) (l := l) (m := m) (b := l.drop (i + 1)) (i := i) (N := l.length) (by omega) (cur_take hct i (by omega)) (by have := hMo.out; rw [hdl, HM.out]; omega) (by omega)).2
  rw [HM.out] at hg
  refine ⟨_, rfl, EnO.mk hbg b3 hml.symm (by rw [hml]; exact hnc) hcm (by rw [putAt_len _ _ _ hfitd, hlen2]) (by rw [hml]; exact hg), F3.mono (fun k _ q => by unfold onB1 at q; subst q; rfl), fun k hk => Or.inl hk⟩
set_option maxRecDepth 100000 in
set_option maxHeartbeats 4000000 in
theorem repE_two {w : World} {base bu : Nat} {v u : Value} {l m : List (Int × Int)} {i : Nat} (hb : base ≤ w.heap.size) (hO : EnO w base v l) (hu : EnO w bu u m) (hap : ∀ k, v.ownBlock = some k → u.ownBlock = some k → False) (hm : 2 ≤ m.length) (hl : l.length + m.length ≤ 1000) (hi : i + 1 < l.length) {a : Option Addr} {cap : Nat} (hv : v = .slice a l.length cap) (hcap : i + m.length + (l.length - (i + 1)) ≤ cap) :
    Calls Tryz.prog 55 #[v, .int .i64 (i : Int), .int .i64 ((i : Int) + 1), u] w fun r w' => InsIs w w' base v (l.take i ++ (m ++ l.drop (i + 1))) r := by
  rcases hO.parts with ⟨_, rfl⟩ | ⟨g, cap', cur, hv', hbg, hB, hnc, hcm, hcl, hct⟩
  · simp at hi
  rw [hv'] at hv
  cases hv
  subst hv'
  rcases hu.parts with ⟨_, rfl⟩ | ⟨gu, capu, curu, hvu, hbgu, hBu, hnu, hcmu, hclu, hctu⟩
  · simp at hm
  subst hvu
  have hne : gu ≠ g := fun q => hap g rfl (by rw [q]; rfl)
  have hz1 : ((i : Int) == (i : Int) + 1) = false := by simp; omega
  have hz2 : ((i : Int) + 1 == (l.length : Int)) = false := by simp; omega
  have hcu := drop_src hBu hctu 0
  rw [List.drop_zero] at hcu
  have hcd := drop_src hB hct (i + 1)
  have hdl : (l.drop (i + 1)).length = l.length - (i + 1) := List.length_drop
  have hp1 : (0 : Int) ≤ (i : Int) + 1 := by omega
  have hp2 : i + 1 ≤ l.length := by omega
  have hp3 : ((i : Int) + 1).toNat = i + 1 := by omega
  have hp6 : i ≤ cap := by omega
  have hc1 : ¬ (cap = i + 1) := by omega
  have zE := Tryz.sizeOf40
  have mixed : Tryz.prog.follows Departure.mixedOrders = true := by kernel_rfl
  have uE1 := run_underlying uE
  have hov := fun o n' cap' cap'' => ovl_run hB hBu (fun q => hne q.symm) (by omega) o 0 n' cap' m.length cap''
  obtain ⟨M, HM⟩ : ∃ M, Hid (m.length = M) := ⟨_, rfl⟩
  have hM2 : Hid (2 ≤ M) := by rw [← HM.out]; exact hm
  have hflm : (m.flatMap enC).length = M * 2 := by rw [fl_len, HM.out]
  clear hm
  rw [HM.out] at hnu hcap hov hl ⊢
  obtain ⟨N, HN⟩ : ∃ N, Hid (i + M + (l.length - (i + 1)) = N) := ⟨_, rfl⟩
  have hw1 : IntKind.i64.wrap ((i : Int) + (M : Int)) = (i : Int) + (M : Int) := wrap_sm (by omega)
  have hw2 : IntKind.i64.wrap ((i : Int) + (M : Int) + ((l.length - (i + 1) : Nat) : Int)) = (N : Int) := by have := HN.out; rw [wrap_sm (by omega)]; omega
  rw [HN.out] at hcap
  have hNl : Hid (N = i + M + (l.length - (i + 1))) := HN.out.symm
  go_enter Tryz.func55, Tryz.ntmps55
  go_wp2_with (first
    | (refine at_cut 31 (.tmp 15) _ _ _ rfl ?_; go_must (refine wpList_cut rfl 31 _ _ _ rfl 40 uE 2 en_size _ l.length _ rfl hO.sl.2 .i64 .i64 (i : Int) ((i : Int) + 1) i (i + 1) rfl rfl rfl (by omega) (by omega) (by omega) ?_; intro v1 _ _)))
  go_region_with (fail)
  have b0d : BxV w.drew g 40 cur := hB
  have hov0 : ∀ o n' cap' cap'', (callFunc 76 #[.slice (some ⟨g, o, none⟩) n' cap', .slice (some ⟨gu, 0, none⟩) M cap'']).run Tryz.prog w.drew = .ok (.value (.bool false)) w.drew := fun o n' cap' cap'' => by
    have := ovl_run (w := w.drew) (c := cur) (c' := curu) hB hBu (fun q => hne q.symm) (by have := hM2.out; omega) o 0 n' cap' M cap''
    exact this
  have hz3 : decide ((cap : Int) < (N : Int)) = false := by simp; omega
  have hz4 : decide ((i : Int) + (M : Int) ≤ (i : Int) + 1) = false := by have := hM2.out; simp; omega
  have hz5 : ¬ (M : Int) ≤ 1 := by have := hM2.out; omega
  have hz6 : ¬ M ≤ 1 := by have := hM2.out; omega
  go_wp2_with (first
    | (refine at_cut 31 (.tmp 84) _ _ _ rfl ?_; go_must (refine wpList_cuth rfl 31 _ _ rfl 40 uE 2 en_size _ l.length cap rfl .i64 (N : Int) N rfl rfl (by omega) ?_))
    | (refine at_cut 31 (.tmp 112) _ _ _ rfl ?_; go_must (refine wpList_cutlo1 rfl 31 _ _ rfl 40 uE 2 en_size g N cap rfl .i64 ((i : Int) + (M : Int)) (i + M) rfl (by omega) (by have := hNl.out; omega) (by have := hNl.out; omega) ?_))
    | (go_at_call 76; go_must (refine wpList_extern rfl 76 _ _ _ rfl _ _ rfl rfl (hov0 _ _ _ _) ?_)))
  have hc2 : ¬ (cap = i + M) := by have := hNl.out; omega
  have hq1 : (0 : Int) ≤ (i : Int) + (M : Int) := by omega
  have hq2 : i + M ≤ N := by have := hNl.out; omega
  have hq3 : ((i : Int) + (M : Int)).toNat = i + M := by omega
  have hq4 : (i : Int) + (M : Int) ≤ (N : Int) := by omega
  have b2d : BxV w.drew.drew g 40 cur := hB
  have hcd2 : ∀ j x, ((l.drop (i + 1)).flatMap enC)[j]? = some x → w.drew.drew.cell? ((⟨g, (i + 1) * 2, none⟩ : Addr).add j) = some x := hcd
  have hfitd : (i + M) * 2 + ((l.drop (i + 1)).flatMap enC).length ≤ cur.length := by have := hNl.out; rw [hcl, fl_len, hdl]; omega
  have hld : ((l.drop (i + 1)).flatMap enC).length = min (l.length - (i + 1)) (N - (i + M)) * 2 := by have := hNl.out; rw [fl_len, hdl]; omega
  go_region_law_o (refine step_cpyN rfl _ _ 31 rfl 40 2 uE en_size g 40 _ b2d ((i + M) * 2) (N - (i + M)) (cap - (i + M)) (l.length - (i + 1)) (cap - (i + 1)) ⟨g, (i + 1) * 2, none⟩ ((l.drop (i + 1)).flatMap enC) (by simp [Act.eval, Act.put]) (by simp [Act.eval, Act.put]) hld hcd2 hfitd (fl_one _) ?_)
  have b3 := setCells_bx ((l.drop (i + 1)).flatMap enC) ((i + M) * 2) w.drew.drew _ b2d hfitd
  have f3 := setCells_fr1 w.drew.drew g ((l.drop (i + 1)).flatMap enC) ((i + M) * 2)
  obtain ⟨w3, H3⟩ : ∃ x, Hid (w.drew.drew.setCells g ((i + M) * 2) ((l.drop (i + 1)).flatMap enC) = x) := ⟨_, rfl⟩
  rw [H3.out] at b3 f3 ⊢
  have F3 : Fr (onB1 g) w w3 := (((Fr.refl _ w).drew).drew).thenT f3 (fun _ _ q => q)
  have hlen2 : (putAt cur ((i + M) * 2) ((l.drop (i + 1)).flatMap enC)).length = cap * 2 := by rw [putAt_len _ _ _ hfitd, hcl]
  go_wp2_with (first
    | (refine at_cut 31 _ _ _ _ rfl ?_; go_must (refine wpList_cutlo1 rfl 31 _ _ rfl 40 uE 2 en_size g N cap rfl .i64 (i : Int) i rfl rfl (by omega) (by omega) ?_))
    | (refine at_cpy _ _ _ _ rfl ?_; go_must (refine wpList_cpyN rfl _ _ 31 rfl 40 2 uE en_size g 40 _ b3 (i * 2) (N - i) (cap - i) M capu ⟨gu, 0 * 2, none⟩ (m.flatMap enC) rfl rfl (by have := hNl.out; rw [hflm, Nat.min_eq_left (by omega)]) (fun j x hj => F3.cell (hcu j x hj) (fun q => by unfold onB1 at q; rw [Addr.add_lit] at q; exact hne q)) (by have := hNl.out; rw [hflm, hlen2]; omega) (fl_one m) ?_; intro w4 b4 f4)))
  go_ret
  have hNo := hNl.out
  have hg := (gap_en (cur := cur) (l := l) (m := m) (b := l.drop (i + 1)) (i := i) (N := N) (by omega) (cur_take hct i (by omega)) (by rw [hdl, HM.out]; omega) (by omega)).1
  rw [HM.out] at hg
  have hlen3 : (putAt (putAt cur ((i + M) * 2) ((l.drop (i + 1)).flatMap enC)) (i * 2) (m.flatMap enC)).length = cap * 2 := by
    rw [putAt_len _ _ _ (by rw [hflm, hlen2]; omega), hlen2]
  have hln : (l.take i ++ (m ++ l.drop (i + 1))).length = N := by rw [List.length_append, List.length_append, List.length_take, hdl, HM.out]; omega
  refine ⟨_, rfl, EnO.mk hbg b4 hln.symm (by rw [hln]; exact hcap) hcm hlen3 (by rw [hln]; exact hg), ?_, fun k hk => Or.inl hk⟩
  exact (F3.thenT f4 (fun _ _ q => q)).mono (fun k _ q => by unfold onB1 at q; subst q; rfl)
/-- slices.Replace of one entry. -/
theorem repE_any {w : World} {base bu : Nat} {v u : Value} {l m : List (Int × Int)} {i : Nat} (hb : base ≤ w.heap.size) (hO : EnO w base v l) (hu : EnO w bu u m) (hap : ∀ k, v.ownBlock = some k → u.ownBlock = some k → False) (hm : 1 ≤ m.length) (hl : l.length + m.length ≤ 1000) (hi : i < l.length) :
    Calls Tryz.prog 55 #[v, .int .i64 (i : Int), .int .i64 ((i : Int) + 1), u] w fun r w' => InsIs w w' base v (l.take i ++ (m ++ l.drop (i + 1))) r := by
  by_cases he : i + 1 = l.length
  · exact repE_end hb hO hu.sl hm hl he
  · obtain ⟨a, cap, hv⟩ := hO.opn
    by_cases hc : cap < i + m.length + (l.length - (i + 1))
    · exact repE_grow hb hO hu hm hl (by omega) hv hc
    · by_cases h1 : m.length = 1
      · exact repE_one hb hO hu hap h1 hl (by omega) hv
      · exact repE_two hb hO hu hap (by omega) hl (by omega) hv (by omega)
end Go.Proofs.YtmkinaijkgkgiaaGreat
