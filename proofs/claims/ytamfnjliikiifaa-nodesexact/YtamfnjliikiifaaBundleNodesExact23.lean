/- Texts H23 of the proof of NodesExact, one behind the other. -/
import Derived.Test.YtamfnjliikiifaaBundleNodesExact1
import Derived.Test.YtamfnjliikiifaaBundleNodesExact2
import Derived.Test.YtamfnjliikiifaaBundleNodesExact3
import Derived.Test.YtamfnjliikiifaaBundleNodesExact4
import Derived.Test.YtamfnjliikiifaaBundleNodesExact5
import Derived.Test.YtamfnjliikiifaaBundleNodesExact6
import Derived.Test.YtamfnjliikiifaaBundleNodesExact7
import Derived.Test.YtamfnjliikiifaaBundleNodesExact8
import Derived.Test.YtamfnjliikiifaaBundleNodesExact9
import Derived.Test.YtamfnjliikiifaaBundleNodesExact10
import Derived.Test.YtamfnjliikiifaaBundleNodesExact11
import Derived.Test.YtamfnjliikiifaaBundleNodesExact12
import Derived.Test.YtamfnjliikiifaaBundleNodesExact13
import Derived.Test.YtamfnjliikiifaaBundleNodesExact14
import Derived.Test.YtamfnjliikiifaaBundleNodesExact15
import Derived.Test.YtamfnjliikiifaaBundleNodesExact16
import Derived.Test.YtamfnjliikiifaaBundleNodesExact17
import Derived.Test.YtamfnjliikiifaaBundleNodesExact18
import Derived.Test.YtamfnjliikiifaaBundleNodesExact19
import Derived.Test.YtamfnjliikiifaaBundleNodesExact20
import Derived.Test.YtamfnjliikiifaaBundleNodesExact21
import Derived.Test.YtamfnjliikiifaaBundleNodesExact22
/- A world: exact. (Written by h23_gen.py.) -/
namespace Go.Proofs.Ytamfnjliikiifaa
open Go.RowKit Go.Proofs.U Go.Shelf Go.Maps
set_option linter.unusedSimpArgs false
set_option linter.unusedVariables false
/-- How often each page is among those. -/
def heldA (l : List Int) : List Int := (List.range 240).map fun (p : Nat) => ((l.count (p : Int) : Nat) : Int)
def hvV (C : List Int) : List Value := C.map (Value.int .i64)
theorem heldA_len (l : List Int) : (heldA l).length = 240 := by simp [heldA]
theorem hvV_len (l : List Int) : (hvV (heldA l)).length = 240 := by simp [hvV, heldA]
theorem heldA_get (l : List Int) (i : Nat) (h : i < 240) : (hvV (heldA l))[i]? = some (.int .i64 ((l.count (i : Int) : Nat) : Int)) := by simp [hvV, heldA, h]
theorem heldA_set (l : List Int) (i : Nat) (h : i < 240) : (hvV (heldA l)).set i (.int .i64 (((l.count (i : Int) : Nat) : Int) + 1)) = hvV (heldA (l ++ [(i : Int)])) := by
  refine List.ext_getElem (by rw [List.length_set, hvV_len, hvV_len]) fun j h1 h2 => ?_
  rw [List.length_set, hvV_len] at h1
  rw [List.getElem_set]
  simp only [hvV, heldA, List.getElem_map, List.getElem_range, List.count_append, List.count_singleton]
  by_cases e : i = j
  · subst e; simp
  · rw [if_neg e]
    have : ((i : Int) == (j : Int)) = false := by simp; omega
    rw [this]
    simp
theorem arr1_held : Arr1 Try.prog 84 3 240 := ⟨by kernel_rfl, by kernel_rfl, by kernel_rfl, by kernel_rfl⟩
theorem built_held : Try.prog.built 84 [] = some (hvV (heldA [])).toArray := by kernel_rfl
theorem zero_held : (Try.prog.info? 84).map (·.zero) = some (some (.agg (hvV (heldA [])).toArray)) := by kernel_rfl
theorem size_held : (Try.prog.info? 84).map (·.size) = some 240 := by kernel_rfl
theorem hvV_one (l : List Int) : ∀ v ∈ hvV l, v.oneCell' = true := by
  intro v hv
  obtain ⟨x, _, rfl⟩ := List.mem_map.1 hv
  rfl
abbrev HeB (w : World) (g : Nat) (l : List Int) : Prop := BxV w g 84 (hvV (heldA l))
section
variable {w : World} {ops : Array Oper} {rest : List Oper} {o : Oper} {a : Act} {Q : Exit → Act → World → Prop}
theorem wpList_bldHe (hgd : Region.wanted o (yielded ops a.tmps) = true) (ho : o.op = .build 84 #[]) (V : Value) (hV : V = .agg (hvV (heldA [])).toArray)
    (h : wpList Try.prog ops Q rest (a.put o.dst V) w) : wpList Try.prog ops Q (o :: rest) a w := by
  refine wpList_wanted hgd fun K hK => ?_
  subst hV
  have hr := run_build (P := Try.prog) w 84 #[] _ built_held
  unfold Oper.wp
  simp [execOp, ho, hr, Result.andThen]
  exact hK _ _ h
theorem wpList_alHe (hgd : Region.wanted o (yielded ops a.tmps) = true) (ho : o.op = .alloc 84)
    (h : ∀ g w', Hid (g = w.heap.size) → HeB w' g [] → Fr noB w w' → w.heap.size ≤ g → wpList Try.prog ops Q rest (a.put o.dst (.pointer (some ⟨g, 0, none⟩))) w') : wpList Try.prog ops Q (o :: rest) a w :=
  wpList_allocV hgd _ ho _ zero_held h
theorem wpList_stHe (hgd : o.guard = none) (y z : Operand) (ho : o.op = .store 84 y z) (g : Nat) (hy : a.eval y = .pointer (some ⟨g, 0, none⟩)) (V : Value) (hV : V = .agg (hvV (heldA [])).toArray) (hz : a.eval z = V) (hB : HeB w g [])
    (h : ∀ w', HeB w' g [] → Fr (onB1 g) w w' → wpList Try.prog ops Q rest (a.put o.dst undef) w') : wpList Try.prog ops Q (o :: rest) a w := by
  subst hV
  refine wpList_storeV hgd _ y z ho g 0 hy (hvV (heldA [])) hz _ (hvV (heldA [])) hB (by rw [hvV_len]; exact size_held) (by rw [hvV_len]; exact Nat.le_refl _) (hvV_one _) ?_
  intro w' h1 h2
  rw [putAt_all _ _ rfl] at h1
  exact h w' h1 h2
theorem wpList_idxHe (hgd : Region.wanted o (yielded ops a.tmps) = true) (x y : Operand) (ho : o.op = .indexAddr 84 x y) (g : Nat) (hx : a.eval x = .pointer (some ⟨g, 0, none⟩)) (z : Int) (i : Nat) (hy : a.eval y = .int .i64 z) (hz : z = (i : Int)) (hi : i < 240)
    (h : wpList Try.prog ops Q rest (a.put o.dst (.pointer (some ⟨g, i, none⟩))) w) : wpList Try.prog ops Q (o :: rest) a w :=
  wpList_idxOff arr1_held hgd x y ho g 0 hx .i64 z i hy hz hi (by rw [Nat.zero_add]; exact h)
theorem wpList_ldHe (hgd : o.guard = none) (y : Operand) (ho : o.op = .load 84 y) (g : Nat) (hy : a.eval y = .pointer (some ⟨g, 0, none⟩)) (l : List Int) (V : Value) (hV : V = .agg (hvV (heldA l)).toArray) (hB : HeB w g l)
    (h : wpList Try.prog ops Q rest (a.put o.dst V) w) : wpList Try.prog ops Q (o :: rest) a w := by
  subst hV
  exact wpList_loadV hgd _ y ho g 0 hy _ (hvV (heldA l)) (hvV (heldA l)) _ hB arr1_held.und rfl (by rw [hvV_len]; exact size_held) (by rw [List.drop_zero, List.take_length]) h
theorem wpList_indexHe (hgd : Region.wanted o (yielded ops a.tmps) = true) (x y : Operand) (ho : o.op = .index 84 x y) (l : List Int) (V : Value) (hV : V = .agg (hvV (heldA l)).toArray) (hx : a.eval x = V) (i : Nat) (hy : a.eval y = .int .i64 (i : Int)) (hi : i < 240)
    (h : wpList Try.prog ops Q rest (a.put o.dst (.int .i64 ((l.count (i : Int) : Nat) : Int))) w) : wpList Try.prog ops Q (o :: rest) a w := by
  refine wpList_wanted hgd fun K hK => ?_
  subst hV
  have hrun : (Instr.index 84 (.agg (hvV (heldA l)).toArray) (.int .i64 (i : Int))).run Try.prog w = .ok (.int .i64 ((l.count (i : Int) : Nat) : Int)) w := by
    obtain ⟨ii, hii, hs⟩ := Option.map_eq_some_iff.1 size_int
    have ht : Try.prog.underlying 84 = some (.array 240 3) := by kernel_rfl
    have he : Try.prog.underlying 3 = some (.int .i64) := Try.underlying3
    have hgi := heldA_get l i hi
    have h1 : (i : Int) < 240 := by omega
    generalize hvV (heldA l) = C at hgi
    simp [Instr.index, asIntOf, run_underlying ht, run_underlying he, part, isAgg, sizeOf, typeInfo, hii, hs, go_sem, h1, hgi]
    intro hh; omega
  unfold Oper.wp
  simp [execOp, ho, hx, hy, hrun, Result.andThen]
  exact hK _ _ h
end
/-- While Reach is asked. -/
def JRW (w0 : World) (S : Int → Bool) : List Value → World → Prop
  | [], W => W = w0
  | [v], W => ∃ u l, v = .tuple #[u, .int .i64 0] ∧ SeenL S l ∧ SlI .i64 W u l ∧ Fr noB w0 W
  | [_, v], W => ∃ u l, v = .tuple #[u, .int .i64 0] ∧ SeenL S l ∧ SlI .i64 W u l ∧ Fr noB w0 W
  | [_, v, u], W => ∃ l, v = .tuple #[u, .int .i64 0] ∧ SeenL S l ∧ SlI .i64 W u l ∧ Fr noB w0 W
  | [_, v, _, u], W => ∃ l, v = .tuple #[u, .int .i64 0] ∧ SeenL S l ∧ SlI .i64 W u l ∧ Fr noB w0 W
  | _, _ => False
theorem JRW.fr {w0 : World} {S : Int → Bool} : ∀ {hv : List Value} {W : World}, JRW w0 S hv W → Fr noB w0 W
  | [], _, h => by cases h; exact Fr.refl _ _
  | [_], _, h => by obtain ⟨_, _, _, _, _, f⟩ := h; exact f
  | [_, _], _, h => by obtain ⟨_, _, _, _, _, f⟩ := h; exact f
  | [_, _, _], _, h => by obtain ⟨_, _, _, _, f⟩ := h; exact f
  | [_, _, _, _], _, h => by obtain ⟨_, _, _, _, f⟩ := h; exact f
  | _ :: _ :: _ :: _ :: _ :: _, _, h => h.elim
theorem JRW.two {w0 : World} {S : Int → Bool} {x : Value} : ∀ {hv : List Value} {W : World}, JRW w0 S hv W → hv[1]? = some x → ∃ u, x = .tuple #[u, .int .i64 0]
  | [], _, _, hx => by cases hx
  | [_], _, _, hx => by cases hx
  | [_, _], _, h, hx => by cases hx; obtain ⟨u, _, e, _⟩ := h; exact ⟨u, e⟩
  | [_, _, u], _, h, hx => by cases hx; obtain ⟨_, e, _⟩ := h; exact ⟨u, e⟩
  | [_, _, _, u], _, h, hx => by cases hx; obtain ⟨_, e, _⟩ := h; exact ⟨u, e⟩
  | _ :: _ :: _ :: _ :: _ :: _, _, h, _ => h.elim
theorem plCount_cnt {L : List Pg} (hL : plOk L) (i : Nat) : plCount L (i : Int) = ((cntL L i : Nat) : Int) := by
  unfold plCount cntL
  have h0 := (hL.2 i).1
  cases hin : plIn L (i : Int) with
  | true => simp; omega
  | false =>
    have : ¬ i < L.length := by
      intro hlt
      unfold plIn at hin
      simp at hin
      omega
    rw [plAt_out L i (by omega)]
    rfl
theorem exact_cnt {X : DSt} {L : List Pg} {R : List Int} (h : Inv X L R) {S : Int → Bool} (hS : ∀ x, S x = true ↔ (0 ≤ x ∧ 0 < cntL L x.toNat)) {l : List Int} (hl : SeenL S l) (p : Nat) : plCount L (p : Int) = (((heldL X R l).count (p : Int) : Nat) : Int) := by
  rw [plCount_cnt h.di.ok, held_exact h hS hl]
theorem count_bnd (l : List Int) (x : Int) : l.count x ≤ l.length := List.count_le_length
theorem kids_six {n : Nd} (h : n.right = true) : n.es.length ≤ 6 := by
  by_cases hk : n.k = 1
  · rw [right_data h hk]; simp
  · exact (right_tree h hk).2.2.2.1
theorem flat_len {X : DSt} : ∀ (l : List Int), (∀ q ∈ l, ((rdN X q).1.es.length ≤ 6)) → (l.flatMap fun q => kids (rdN X q).1).length ≤ 6 * l.length
  | [], _ => by simp
  | q :: l, h => by
    have h1 := h q (by simp)
    have h2 := flat_len l (fun x hx => h x (by simp [hx]))
    rw [List.flatMap_cons, List.length_append, List.length_cons]
    have : (kids (rdN X q).1).length = (rdN X q).1.es.length := by simp [kids]
    omega
set_option maxRecDepth 100000 in
set_option maxHeartbeats 8000000 in
theorem exact_any {F : Nat → Prop} {gs gp gw base : Nat} {rv : Value} {X : DSt} {L : List Pg} {m : Nat} {R : List Int} (w : World) (h : Wd w F gs gp gw base rv X L m R) (hm : m ≤ 100000) (hI : Inv X L R) (hRl : R.length ≤ 1000) :
    Calls Try.prog 17 #[ptr gw] w fun r w' => r = .returned (.bool true) ∧ Fr noB w w' := by
  obtain ⟨S, hre, hS⟩ := reach_good hI
  have hS := show Hid _ from hS
  have hrow := h.row
  have hro := (ownI_of_R h.row).sl h.wf
  obtain ⟨ar, cr, rfl⟩ := hrow.opn
  obtain ⟨k0, k1⟩ := wd_cells h
  have lgw := h.bx.lt
  obtain ⟨V0, HV0⟩ : ∃ V : Value, Hid (V = .agg (hvV (heldA [])).toArray) := ⟨_, rfl⟩
  go_enter Try.func17, Try.ntmps17
  go_wp2_with fail
  obtain ⟨w0, HW⟩ : ∃ w0, Hid (w.drew = w0) := ⟨_, rfl⟩
  have f0 : Fr noB w w0 := by rw [← HW.out]; exact (Fr.refl _ _).drew
  have z0 := f0.size
  have k00 := f0.cell k0 (fun q => q)
  have k10 := f0.cell k1 (fun q => q)
  refine wp_region_chain_layT (by kernel_rfl) [8, 9, 10, 12] [none, none, none, none, none, none, none, none, some 0, some 1, some 2, none, some 3, none]
    [fun v => v = ptr gw, fun v => v = ptr gw, fun v => v = .pointer (some ⟨gw, 0, none⟩), fun v => v = ptr gs, fun v => v = ptr gw, fun v => v = ptr gw, fun v => v = .pointer (some ⟨gw, 1, none⟩), fun v => v = .slice ar R.length cr, fun _ => True, fun _ => True, fun _ => True, fun v => v = .int .i64 0, fun _ => True, fun v => v = .int .i64 0]
    (JRW w0 S) (HW.out) (by kernel_rfl) (by kernel_rfl) (by decide) ⟨?o0, ?o1, ?o2, ?o3, ?o4, ?o5, ?o6, ?o7, ?o8, ?o9, ?o10, ?o11, ?o12, ?o13, trivial⟩ ?oe
  case o0 =>
    intro A W hv hlen hJ hbase hdL hdH
    have e0 : A.eval (.tmp 0) = ptr gw := hbase 0 (by kernel_rfl)
    have f0 : A.tmps[0]?.getD undef = ptr gw := by simpa [Act.eval] using e0
    exact light_val rfl (v := ptr gw) (by simp [execOp, e0, f0]) hJ rfl
  case o1 =>
    intro A W hv hlen hJ hbase hdL hdH
    have e17 : A.eval (.tmp 17) = ptr gw := hdL 0 17 (by kernel_rfl) (by kernel_rfl) (by kernel_rfl)
    have f17 : A.tmps[17]?.getD undef = ptr gw := by simpa [Act.eval] using e17
    exact light_val rfl (v := ptr gw) (by simp [execOp, go_sem, e17, f17]) hJ rfl
  case o2 =>
    intro A W hv hlen hJ hbase hdL hdH
    have e18 : A.eval (.tmp 18) = ptr gw := hdL 1 18 (by kernel_rfl) (by kernel_rfl) (by kernel_rfl)
    have f18 : A.tmps[18]?.getD undef = ptr gw := by simpa [Act.eval] using e18
    exact light_val rfl (v := .pointer (some ⟨gw, 0, none⟩)) (by simp [execOp, go_sem, e18, f18]) hJ rfl
  case o3 =>
    intro A W hv hlen hJ hbase hdL hdH
    have e19 : A.eval (.tmp 19) = .pointer (some ⟨gw, 0, none⟩) := hdL 2 19 (by kernel_rfl) (by kernel_rfl) (by kernel_rfl)
    have f19 : A.tmps[19]?.getD undef = .pointer (some ⟨gw, 0, none⟩) := by simpa [Act.eval] using e19
    have hc := (JRW.fr hJ).cell k00 (fun q => q)
    exact light_val rfl (v := ptr gs) (by simp [execOp, go_sem, e19, f19, hc]) hJ rfl
  case o4 =>
    intro A W hv hlen hJ hbase hdL hdH
    have e0 : A.eval (.tmp 0) = ptr gw := hbase 0 (by kernel_rfl)
    have f0 : A.tmps[0]?.getD undef = ptr gw := by simpa [Act.eval] using e0
    exact light_val rfl (v := ptr gw) (by simp [execOp, e0, f0]) hJ rfl
  case o5 =>
    intro A W hv hlen hJ hbase hdL hdH
    have e21 : A.eval (.tmp 21) = ptr gw := hdL 4 21 (by kernel_rfl) (by kernel_rfl) (by kernel_rfl)
    have f21 : A.tmps[21]?.getD undef = ptr gw := by simpa [Act.eval] using e21
    exact light_val rfl (v := ptr gw) (by simp [execOp, go_sem, e21, f21]) hJ rfl
  case o6 =>
    intro A W hv hlen hJ hbase hdL hdH
    have e22 : A.eval (.tmp 22) = ptr gw := hdL 5 22 (by kernel_rfl) (by kernel_rfl) (by kernel_rfl)
    have f22 : A.tmps[22]?.getD undef = ptr gw := by simpa [Act.eval] using e22
    exact light_val rfl (v := .pointer (some ⟨gw, 1, none⟩)) (by simp [execOp, go_sem, e22, f22]) hJ rfl
  case o7 =>
    intro A W hv hlen hJ hbase hdL hdH
    have e23 : A.eval (.tmp 23) = .pointer (some ⟨gw, 1, none⟩) := hdL 6 23 (by kernel_rfl) (by kernel_rfl) (by kernel_rfl)
    have f23 : A.tmps[23]?.getD undef = .pointer (some ⟨gw, 1, none⟩) := by simpa [Act.eval] using e23
    have hc := (JRW.fr hJ).cell k10 (fun q => q)
    exact light_val rfl (v := .slice ar R.length cr) (by simp [execOp, go_sem, e23, f23, hc]) hJ rfl
  case o8 =>
    intro A W hv hlen hJ hbase hdL hdH
    have e20 : A.eval (.tmp 20) = ptr gs := hdL 3 20 (by kernel_rfl) (by kernel_rfl) (by kernel_rfl)
    have f20 : A.tmps[20]?.getD undef = ptr gs := by simpa [Act.eval] using e20
    have e24 : A.eval (.tmp 24) = .slice ar R.length cr := hdL 7 24 (by kernel_rfl) (by kernel_rfl) (by kernel_rfl)
    have f24 : A.tmps[24]?.getD undef = .slice ar R.length cr := by simpa [Act.eval] using e24
    obtain rfl : hv = [] := List.eq_nil_of_length_eq_zero hlen
    obtain rfl := (show W = _ from hJ)
    refine heavy_call rfl (args := #[ptr gs, .slice ar R.length cr]) (f := 37) (by simp [execOp, resolve, invoke, go_sem, e20, f20, e24, f24]) ?_
    refine (reach_any hm (.slice ar R.length cr) R (by omega) _ (h.st.fr0 f0) (hro.fr0 f0)).mono ?_
    rw [hre]
    rintro e w' ⟨u, l, rfl, hl, hu, _, f'⟩
    exact ⟨_, rfl, u, l, rfl, hl rfl, hu, f'⟩
  case o9 =>
    intro A W hv hlen hJ hbase hdL hdH
    obtain ⟨v25, rfl⟩ := List.length_eq_one_iff.1 hlen
    obtain ⟨u, l, rfl, hl, hu, f'⟩ := hJ
    have e25 : A.eval (.tmp 25) = .tuple #[u, .int .i64 0] := by have := hdH 8 25 0 (by kernel_rfl) rfl (by kernel_rfl); simpa using this.symm
    have f25 : A.tmps[25]?.getD undef = .tuple #[u, .int .i64 0] := by simpa [Act.eval] using e25
    exact heavy_val rfl (v := .tuple #[u, .int .i64 0]) (by simp [execOp, go_sem, e25, f25]) ⟨u, l, rfl, hl, hu, f'⟩
  case o10 =>
    intro A W hv hlen hJ hbase hdL hdH
    match hv, hlen with
    | [v25, v16], _ =>
      obtain ⟨u, l, rfl, hl, hu, f'⟩ := hJ
      have e16 : A.eval (.tmp 16) = .tuple #[u, .int .i64 0] := by have := hdH 9 16 1 (by kernel_rfl) rfl (by kernel_rfl); simpa using this.symm
      have f16 : A.tmps[16]?.getD undef = .tuple #[u, .int .i64 0] := by simpa [Act.eval] using e16
      exact heavy_val rfl (v := u) (by simp [execOp, go_sem, e16, f16]) ⟨l, rfl, hl, hu, f'⟩
  case o11 =>
    intro A W hv hlen hJ hbase hdL hdH
    obtain ⟨u, e16⟩ := hJ.two (hdH 9 16 1 (by kernel_rfl) rfl (by kernel_rfl))
    have f16 : A.tmps[16]?.getD undef = .tuple #[u, .int .i64 0] := by simpa [Act.eval] using e16
    exact light_val rfl (v := .int .i64 0) (by simp [execOp, go_sem, e16, f16]) hJ rfl
  case o12 =>
    intro A W hv hlen hJ hbase hdL hdH
    match hv, hlen with
    | [v25, v16, u], _ =>
      obtain ⟨l, rfl, hl, hu, f'⟩ := hJ
      have e26 : A.eval (.tmp 26) = u := by have := hdH 10 26 2 (by kernel_rfl) rfl (by kernel_rfl); simpa using this.symm
      have f26 : A.tmps[26]?.getD undef = u := by simpa [Act.eval] using e26
      exact heavy_val rfl (v := u) (by simp [execOp, go_sem, e26, f26]) ⟨l, rfl, hl, hu, f'⟩
  case o13 =>
    intro A W hv hlen hJ hbase hdL hdH
    have e27 : A.eval (.tmp 27) = .int .i64 0 := hdL 11 27 (by kernel_rfl) (by kernel_rfl) (by kernel_rfl)
    have f27 : A.tmps[27]?.getD undef = .int .i64 0 := by simpa [Act.eval] using e27
    exact light_val rfl (v := .int .i64 0) (by simp [execOp, e27, f27]) hJ rfl
  case oe =>
    intro vs W' hv hlen hJ hL hH
    match hv, hlen with
    | [v25, v16, v26, u], _ =>
      obtain ⟨l, e16, hl, hu, fR⟩ := hJ
      have x3 : vs 12 = u := by have := hH 3 12 rfl (by kernel_rfl); simpa using this.symm
      have x4 : vs 13 = .int .i64 0 := hL 13 (by kernel_rfl) (by kernel_rfl)
      simp only [layL, Nat.reduceAdd, Act.put, List.setIfInBounds_toArray, List.set_cons_zero, List.set_cons_succ, x3, x4]
      clear hL hH x3 x4 e16
      generalize vs 0 = y100 at *
      generalize vs 1 = y101 at *
      generalize vs 2 = y102 at *
      generalize vs 3 = y103 at *
      generalize vs 4 = y104 at *
      generalize vs 5 = y105 at *
      generalize vs 6 = y106 at *
      generalize vs 7 = y107 at *
      generalize vs 8 = y108 at *
      generalize vs 9 = y109 at *
      generalize vs 10 = y110 at *
      generalize vs 11 = y111 at *
      obtain ⟨au, cu, rfl, hcu⟩ := hu.opn
      have hll := hl.len
      have hlm : ∀ q ∈ l, 0 ≤ q ∧ 0 < cntL L q.toNat := fun q hq => (hS.out q).1 ((hl.mem q).1 hq)
      have FR : Fr noB w W' := (f0.thenN fR)
      have zR := FR.size
      have k1' := FR.cell k1 (fun q => q)
      have k0' := FR.cell k0 (fun q => q)
      have hRg := hI.rng
      go_wp2_with (first
        | (with_reducible refine at_wpP ?_; refine wpList_bldHe rfl rfl V0 HV0.out ?_)
        | (with_reducible refine at_wpP ?_; refine wpList_alHe rfl rfl ?_; intro g5 w5 hg5 b5 f5 s5; have l5 := b5.lt; have z5 := f5.size)
        | (with_reducible refine at_wpP ?_; refine at_st 84 _ _ rfl ?_; go_must (refine wpList_stHe rfl _ _ rfl g5 rfl V0 HV0.out rfl b5 ?_; intro w6 b6 f6; have F6 := FR.thenN (Fr.ownX f5 s5 f6); have z6 := F6.size; have k16 := F6.cell k1 (fun q => q))))
      have s5' : W'.heap.size ≤ g5 := s5
      have G6 : Fr noB W' w6 := Fr.ownX f5 s5 f6
      go_loopw [36] (fun i wr => ∃ (j : Nat), j ≤ R.length ∧ i = .int .i64 (j : Int) ∧ HeB wr g5 (R.take j) ∧ Fr noB W' wr) (fun i _ => R.length - (intOf i).toNat)
      case atStart => exact ⟨0, by omega, rfl, b6, G6⟩
      case round =>
        clear b6 F6 f6 f5 b5 G6 k16 z6 z5 l5
        obtain ⟨j, hj, rfl, hB, hf⟩ := hrel
        have zf := hf.size
        have l5' := hB.lt
        have k1r := hf.cell k1' (fun q => q)
        by_cases hlt : j < R.length
        · obtain ⟨x, Hx⟩ : ∃ x, Hid (R[j] = x) := ⟨R[j], (rfl : R[j] = R[j])⟩
          have hxr := hRg x (by rw [← Hx.out]; simp)
          obtain ⟨i, rfl⟩ : ∃ i : Nat, x = (i : Int) := ⟨x.toNat, by omega⟩
          have hi : i < 240 := by omega
          have hlt' : (j : Int) < (R.length : Int) := by omega
          have hv1 := (hro.fr0 (FR.thenN hf)).1
          obtain ⟨dn, Hdn⟩ : ∃ d, Hid (R.take j = d) := ⟨_, rfl⟩
          have hdl : dn.length ≤ 1000 := by rw [← Hdn.out, List.length_take]; omega
          have hnx : Hid (R.take (j + 1) = dn ++ [(i : Int)]) := by
            show _ = _
            rw [List.take_succ_eq_append_getElem hlt, Hdn.out, Hx.out]
          rw [Hdn.out] at hB
          have hst := show Hid _ from heldA_set dn i hi
          have kc := (hB.cell i _ (heldA_get dn i hi)).1
          have hcb := count_bnd dn (i : Int)
          obtain ⟨c, Hc⟩ : ∃ c : Nat, Hid (dn.count (i : Int) = c) := ⟨_, rfl⟩
          rw [Hc.out] at kc hst hcb
          have hwr : IntKind.i64.wrap ((c : Int) + 1) = (c : Int) + 1 := wrap_sm (by omega)
          go_wp2_with (first
            | (with_reducible refine at_wpP ?_; refine at_idx 39 _ _ rfl ?_; go_must (refine wpList_idx1 rfl 39 _ _ rfl 3 Try.underlying39 int_size1 (.slice ar R.length cr) _ _ rfl hv1 .i64 (j : Int) j rfl rfl hlt ?_; intro pp u hu hcu; obtain rfl := getX hu hlt Hx.out))
            | (with_reducible refine at_wpP ?_; refine at_idx 84 _ _ rfl ?_; go_must (refine wpList_idxHe rfl _ _ rfl g5 rfl _ i rfl rfl hi ?_))
            | (with_reducible refine at_wpP ?_; refine at_st 3 _ _ rfl ?_; go_must (refine wpList_store1 rfl 3 _ _ rfl g5 i rfl (.int .i64 ((c : Int) + 1)) rfl rfl _ _ hB size_int (by rw [hvV_len]; exact hi) ?_; intro w7 b7 f7; rw [hst.out] at b7)))
          go_roundw
          case rel => exact ⟨j + 1, by omega, by go_num, by rw [hnx.out]; exact b7, Fr.ownX hf s5' f7⟩
          case measure => simp [intOf]; omega
        · obtain rfl : j = R.length := by omega
          have hlt' : ¬ (R.length : Int) < (R.length : Int) := by omega
          rw [List.take_length] at hB
          go_wp2_with fail
          go_loopw [48] (fun i wr => ∃ (j : Nat), j ≤ l.length ∧ i = .int .i64 (j : Int) ∧ HeB wr g5 (R ++ (l.take j).flatMap fun q => kids (rdN X q).1) ∧ Fr noB W' wr) (fun i _ => l.length - (intOf i).toNat)
          case atStart => exact ⟨0, by omega, rfl, by simpa using hB, hf⟩
          case round =>
            clear hB hf zf l5' k1r
            obtain ⟨j, hj, rfl, hB, hf⟩ := hrel
            have zf := hf.size
            have l5' := hB.lt
            have k0r := hf.cell k0' (fun q => q)
            have D := FR.thenN hf
            by_cases hlt : j < l.length
            · obtain ⟨x, Hx⟩ : ∃ x, Hid (l[j] = x) := ⟨l[j], (rfl : l[j] = l[j])⟩
              have hxl := hlm x (by rw [← Hx.out]; simp)
              obtain ⟨hg1, hg2⟩ := getF_live hI.di hxl.1 hxl.2
              have hx240 : x < 240 := by have := hI.di.low hxl.2; omega
              have hright := rdN_right hg2
              have hkr := hI.di.kid (q := x.toNat) hxl.2
              rw [Int.toNat_of_nonneg hxl.1] at hkr
              have h6 := kids_six hright
              have hnx0 : (l.take (j + 1)).flatMap (fun q => kids (rdN X q).1) = (l.take j).flatMap (fun q => kids (rdN X q).1) ++ kids (rdN X x).1 := by
                rw [List.take_succ_eq_append_getElem hlt, List.flatMap_append, Hx.out]
                simp
              have hfl : ((l.take j).flatMap fun q => kids (rdN X q).1).length ≤ 6 * 240 := by
                have h1 := flat_len (X := X) (l.take j) (fun q hq => by
                  have hq' := hlm q (List.mem_of_mem_take hq)
                  have := hI.di.rd q.toNat hq'.2
                  rw [Int.toNat_of_nonneg hq'.1] at this
                  exact kids_six (rdN_right this))
                have h2 : (l.take j).length ≤ 240 := by rw [List.length_take]; omega
                omega
              obtain ⟨D0, HD0⟩ : ∃ d, Hid (R ++ ((l.take j).flatMap fun q => kids (rdN X q).1) = d) := ⟨_, rfl⟩
              have hDl : D0.length ≤ 3000 := by rw [← HD0.out, List.length_append]; omega
              rw [HD0.out] at hB
              have hnx : Hid (R ++ ((l.take (j + 1)).flatMap fun q => kids (rdN X q).1) = D0 ++ kids (rdN X x).1) := by
                show _ = _
                rw [hnx0, ← List.append_assoc, HD0.out]
              have hnx1 := hnx
              clear hnx0 hnx
              obtain ⟨⟨n, e0⟩, hrd⟩ : ∃ y, rdN X x = y := ⟨_, rfl⟩
              rw [hrd] at hg1 hg2 hkr h6 hnx1
              simp only at hg2 hkr h6 hnx1
              subst hg2
              have hx0 : ¬ x < 0 := by omega
              have hx1 : ¬ (240 : Int) ≤ x := by omega
              have hv1 := (hu.fr0 hf).1
              have hlt' : (j : Int) < (l.length : Int) := by omega
              go_wp2_with (first
                | (with_reducible refine at_wpP ?_; refine at_idx 39 _ _ rfl ?_; go_must (refine wpList_idx1 rfl 39 _ _ rfl 3 Try.underlying39 int_size1 (.slice au l.length cu) _ _ rfl hv1 .i64 (j : Int) j rfl rfl hlt ?_; intro pp u hu hcu; obtain rfl := getX hu hlt Hx.out))
                | (go_at_call 8; go_must (refine (get_F x (h.st.fr0 D) hm hg1).mono ?_; rintro e w10 ⟨v10, rfl, n10, o10, f10⟩; have hv10 := NdS.sl n10; have hb10 := NdS.bl n10; have z10 := f10.size; have Hnb := show Hid _ from n10.2.1.1; obtain ⟨a10, c10, rfl, hc10⟩ := n10.1.1.opn))
                | (with_reducible refine at_wpP ?_; have qm := n10; refine wpList_allocN rfl rfl ?_; intro g11 w11 hg11 b11 f11 s11; have l11 := b11.lt; have z11 := f11.size)
                | (with_reducible refine at_wpP ?_; refine at_st 28 _ _ rfl ?_; go_must (refine wpList_stN rfl _ _ rfl g11 rfl n.k n.b (.slice a10 n.es.length c10) rfl Hnb.out ⟨_, _, _, rfl⟩ 0 (zerB 16) nilS b11 (zerB_len 16) ?_; intro w12 b12 f12; have F12 := f10.thenN (Fr.ownX f11 s11 f12); have z12 := F12.size; have q12 := NdB.ents b12 Hnb.out)))
              have hB12 := hB.fr0 F12
              have hG12 := hf.thenN F12
              have hes : SlP .i64 .i64 w12 (.slice a10 n.es.length c10) n.es := ⟨n10.1.1.fr0 (Fr.ownX f11 s11 f12), n10.1.2⟩
              have hne5 : ∀ k, (Value.slice a10 n.es.length c10).ownBlock = some k → ¬ onB1 g5 k := fun k hk q => by have := o10 k hk; unfold onB1 at q; omega
              go_loopw [74] (fun i wq => ∃ (k : Nat), k ≤ n.es.length ∧ i = .int .i64 (k : Int) ∧ HeB wq g5 (D0 ++ (kids n).take k) ∧ Fr (onB1 g5) w12 wq) (fun i _ => n.es.length - (intOf i).toNat)
              case atStart => exact ⟨0, by omega, rfl, by simpa using hB12, Fr.refl _ _⟩
              case round =>
                clear hB12 hB
                obtain ⟨k, hk, rfl, hB, hq⟩ := hrel
                have zq := hq.size
                have hkl : (kids n).length = n.es.length := by simp [kids]
                by_cases hkt : k < n.es.length
                · obtain ⟨y, Hy⟩ : ∃ y, Hid (n.es[k] = y) := ⟨n.es[k], (rfl : n.es[k] = n.es[k])⟩
                  have hyk : y.2 ∈ kids n := by unfold kids; exact List.mem_map_of_mem (by rw [← Hy.out]; simp)
                  have hyr := hkr y.2 hyk
                  obtain ⟨i, hyi⟩ : ∃ i : Nat, y.2 = (i : Int) := ⟨y.2.toNat, by omega⟩
                  have hi : i < 240 := by omega
                  have hkt' : (k : Int) < (n.es.length : Int) := by omega
                  have hE7 := hes.1.fr hq hne5
                  obtain ⟨dn, Hdn⟩ : ∃ d, Hid (D0 ++ (kids n).take k = d) := ⟨_, rfl⟩
                  have hdl : dn.length ≤ 4000 := by rw [← Hdn.out, List.length_append, List.length_take]; omega
                  have hnx : Hid (D0 ++ (kids n).take (k + 1) = dn ++ [(i : Int)]) := by
                    show _ = _
                    rw [List.take_succ_eq_append_getElem (by omega), ← List.append_assoc, Hdn.out]
                    congr 2
                    unfold kids
                    rw [List.getElem_map, Hy.out, hyi]
                  rw [Hdn.out] at hB
                  have hst := show Hid _ from heldA_set dn i hi
                  have kc := (hB.cell i _ (heldA_get dn i hi)).1
                  have hcb := count_bnd dn (i : Int)
                  obtain ⟨c, Hc⟩ : ∃ c : Nat, Hid (dn.count (i : Int) = c) := ⟨_, rfl⟩
                  rw [Hc.out] at kc hst hcb
                  have hwr : IntKind.i64.wrap ((c : Int) + 1) = (c : Int) + 1 := wrap_sm (by omega)
                  have l5q := hB.lt
                  obtain ⟨y1, y2⟩ := y
                  simp only at hyi
                  subst hyi
                  go_wp2_with (first
                    | (with_reducible refine at_wpP ?_; refine at_idx 26 _ _ rfl ?_; go_must (refine wpList_idxR rfl 26 _ _ rfl 51 Try.underlying26 2 en_size _ _ _ rfl hE7 (by decide) _ _ k rfl rfl hkt ?_; rw [Hy.out]; intro bb ob hbb hcb))
                    | (with_reducible refine at_wpP ?_; refine at_ld 51 _ rfl ?_; have qm := hcb; refine wpList_ldE rfl _ rfl bb ob rfl (y1, (i : Int)) hcb ?_)
                    | (with_reducible refine at_wpP ?_; refine wpList_allocE rfl rfl ?_; intro g8 w8 hg8 b8 f8 s8; have l8 := b8.lt; have z8 := f8.size)
                    | (with_reducible refine at_wpP ?_; refine at_st 51 _ _ rfl ?_; go_must (refine wpList_stE rfl _ _ rfl g8 rfl (0, 0) (y1, (i : Int)) b8 rfl ?_; intro w9 b9 f9; have F9 := Fr.ownX f8 s8 f9; have z9 := F9.size; obtain ⟨k90, k91⟩ := EnB.all b9; have hB9 := hB.fr0 F9; have kc9 := F9.cell kc (fun q => q)))
                    | (with_reducible refine at_wpP ?_; refine at_idx 84 _ _ rfl ?_; go_must (refine wpList_idxHe rfl _ _ rfl g5 rfl _ i rfl rfl hi ?_))
                    | (with_reducible refine at_wpP ?_; refine at_st 3 _ _ rfl ?_; go_must (refine wpList_store1 rfl 3 _ _ rfl g5 i rfl (.int .i64 ((c : Int) + 1)) rfl rfl _ _ hB9 size_int (by rw [hvV_len]; exact hi) ?_; intro w7 b7 f7; rw [hst.out] at b7)))
                  go_roundw
                  case rel => exact ⟨k + 1, by omega, by go_num, by rw [hnx.out]; exact b7, (hq.thenN F9).trans f7⟩
                  case measure => simp [intOf]; omega
                · obtain rfl : k = n.es.length := by omega
                  have hkt' : ¬ (n.es.length : Int) < (n.es.length : Int) := by omega
                  rw [List.take_of_length_le (by omega)] at hB
                  go_wp2_with fail
                  go_roundw
                  case rel => exact ⟨j + 1, by omega, by go_num, by rw [hnx1.out]; exact hB, hG12.thenT hq (fun i hi q => by unfold onB1 at q; omega)⟩
                  case measure => simp [intOf]; omega
            · obtain rfl : j = l.length := by omega
              have hlt' : ¬ (l.length : Int) < (l.length : Int) := by omega
              rw [List.take_length] at hB
              have hct := show Hid _ from exact_cnt hI hS.out hl
              replace hB : HeB _ g5 (heldL X R l) := hB
              obtain ⟨H, HH⟩ : ∃ H, Hid (heldL X R l = H) := ⟨_, rfl⟩
              rw [HH.out] at hct hB
              obtain ⟨V, HV⟩ : ∃ V : Value, Hid (V = .agg (hvV (heldA H)).toArray) := ⟨_, rfl⟩
              have sD := h.st.fr0 D
              have hok := sD.ok
              go_wp2_with (first
                | (with_reducible refine at_wpP ?_; refine at_ld 84 _ rfl ?_; go_must (refine wpList_ldHe rfl _ rfl g5 rfl H V HV.out hB ?_)))
              go_loop [87] (fun i => ∃ (p : Nat), p ≤ 240 ∧ i = .int .i64 (p : Int)) (fun i => 240 - (intOf i).toNat)
              case atStart => exact ⟨0, by omega, rfl⟩
              case round =>
                obtain ⟨p, hp, rfl⟩ := hrel
                by_cases hpt : p < 240
                · have hpt' : (p : Int) < 240 := by omega
                  have hcp := hct.out p
                  obtain ⟨c, Hc⟩ : ∃ c, Hid (((H.count (p : Int) : Nat) : Int) = c) := ⟨_, rfl⟩
                  rw [Hc.out] at hcp
                  have hcp := show Hid _ from hcp
                  go_wp2_with (first
                    | (with_reducible refine at_wpP ?_; refine at_index 84 _ _ rfl ?_; go_must (refine wpList_indexHe rfl _ _ rfl H V HV.out rfl p rfl hpt ?_; rw [Hc.out]))
                    | (go_at_call 15; go_must (refine (npool_any _ sD).mono ?_; rintro e w' ⟨rfl, rfl⟩))
                    | (go_at_call 38; go_must (refine (pcount_any hok gp (p : Int) _ sD.pl).mono ?_; rw [hcp.out]; rintro e w' ⟨rfl, rfl⟩)))
                  go_round
                  case rel => exact ⟨p + 1, by omega, by go_num⟩
                  case measure => simp [intOf]; omega
                · obtain rfl : p = 240 := by omega
                  go_wp2
                  go_ret
                  exact ⟨rfl, D⟩
end Go.Proofs.Ytamfnjliikiifaa
