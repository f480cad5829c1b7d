/- Texts OpenN, OpenM, X14 of the proof of LeafBack, one behind the other. -/
import Derived.Deep.Strs
import Derived.Test.YthpcfijefcicpaaBundleLeafBack1
import Derived.Test.YthpcfijefcicpaaBundleLeafBack2
import Derived.Test.YthpcfijefcicpaaBundleLeafBack3
import Derived.Test.YthpcfijefcicpaaBundleLeafBack4
import Derived.Test.YthpcfijefcicpaaBundleLeafBack5
import Derived.Test.YthpcfijefcicpaaBundleLeafBack6
import Derived.Test.YthpcfijefcicpaaBundleLeafBack7
import Derived.Test.YthpcfijefcicpaaBundleLeafBack8
import Derived.Test.YthpcfijefcicpaaBundleLeafBack9
import Derived.Test.YthpcfijefcicpaaBundleLeafBack10
import Derived.Test.YthpcfijefcicpaaBundleLeafBack11
import Derived.Test.YthpcfijefcicpaaBundleLeafBack12
import Derived.Test.YthpcfijefcicpaaBundleLeafBack13
import Derived.Test.YthpcfijefcicpaaBundleLeafBack14
/- How a struct of a number, an array of bytes and a slice of pairs that came in is opened; no condition but what the types are. -/
namespace Go.Proofs.U
open Go.RowKit Go.ChangeShapes Go.WideShapes Go.ChangeAt
/-- A slice of pairs, cell by cell. -/
theorem slP_of_cells {P : Program} {H : Type} {enc : TypeId × Value → H} {W : World} {t e fuel : Nat} {k0 k1 : IntKind} {f0 f1 : Field} {cs : List Value} {x : DataW H × List MemPlace}
    (hu : P.underlying t = some (.slice e)) (he : P.underlying e = some (.struct #[f0, f1])) (ce : P.cellsOf e = 2) (o0 : f0.offset = 0) (o1 : f1.offset = 1) (c0 : P.cellsOf f0.type = 1) (c1 : P.cellsOf f1.type = 1)
    (t0 : P.underlying f0.type = some (.int k0)) (t1 : P.underlying f1.type = some (.int k1))
    (hf : DataW.trod enc P W 0 (fun _ => true) true fuel t cs = some x) : ∃ v l, cs = [v] ∧ SlP k0 k1 W v l := by
  rcases Deep.open_slice_pairs hu he ce o0 o1 c0 c1 hf with ⟨rfl, _⟩ | ⟨x, len, cap, m, n, V0, V1, D0, D1, P0, P1, rfl, _, hl, hm, hmm, _, hcell⟩
  · exact ⟨_, [], rfl, ⟨by simp, Sl.nil W 2⟩, by simp⟩
  · have hmc : m = cap := by simpa using hmm
    have hv : ∀ i, i < m → ∃ z0 z1, V0 i = .int k0 z0 ∧ V1 i = .int k1 z1 ∧ (Lit.int k0 z0).wf = true ∧ (Lit.int k1 z1).wf = true := by
      intro i hi
      obtain ⟨_, _, r0, r1⟩ := hcell i hi
      obtain ⟨z0, e0, _, w0⟩ := DataW.trod_int t0 r0
      obtain ⟨z1, e1, _, w1⟩ := DataW.trod_int t1 r1
      simp at e0 e1
      exact ⟨z0, z1, e0, e1, w0, w1⟩
    let g : Nat → Int × Int := fun i => (intOf (V0 i), intOf (V1 i))
    have hg : ∀ i, i < m → V0 i = .int k0 (g i).1 ∧ V1 i = .int k1 (g i).2 ∧ (Lit.int k0 (g i).1).wf = true ∧ (Lit.int k1 (g i).2).wf = true := by
      intro i hi
      obtain ⟨z0, z1, e0, e1, w0, w1⟩ := hv i hi
      simp only [g, e0, e1, intOf]
      exact ⟨trivial, trivial, w0, w1⟩
    have hfl2 : ∀ L : List (Int × Int), (L.flatMap (pairC k0 k1)).length = L.length * 2 := by
      intro L; induction L with
      | nil => rfl
      | cons z L ih => simp only [List.flatMap_cons, List.length_append, ih, List.length_cons]; simp [pairC]; omega
    refine ⟨_, (List.range len).map g, rfl, ⟨fun y _ => rfl, ?_⟩, fun y hy => ?_⟩
    · refine ⟨some x, cap, by simp, by simpa using hl, ?_, (fun h => by cases h), fun y hy j u hj => ?_⟩
      · rw [hfl2]
      · cases hy
        have hjl : j < len * 2 := by
          have h2 := (List.getElem?_eq_some_iff.1 hj).1
          rw [hfl2] at h2; simpa using h2
        have hq : j / 2 < ((List.range len).map g).length := by simp; omega
        have hfl := flat_at (pairC k0 k1) 2 ((List.range len).map g) (fun _ _ => rfl) (j / 2) hq (j % 2) (by omega)
        rw [show j / 2 * 2 + j % 2 = j by omega, hj] at hfl
        have hj2 : j / 2 < m := by omega
        obtain ⟨q0, q1, _, _⟩ := hcell (j / 2) hj2
        obtain ⟨e0, e1, _, _⟩ := hg (j / 2) hj2
        simp only [List.getElem_map, List.getElem_range] at hfl
        rcases Nat.mod_two_eq_zero_or_one j with hm2 | hm2
        · rw [hm2] at hfl; simp [pairC] at hfl; rw [hfl, ← e0, ← q0]; congr 2; omega
        · rw [hm2] at hfl; simp [pairC] at hfl; rw [hfl, ← e1, ← q1]; congr 2; omega
    · simp at hy; obtain ⟨i, hi, rfl⟩ := hy
      exact (hg i (by omega)).2.2
end Go.Proofs.U
namespace Go.Proofs.Ythpcfijefcicpaa
open Go.RowKit Go.Proofs.U Go.ChangeShapes Go.WideShapes Go.ChangeAt
set_option linter.unusedSimpArgs false
set_option linter.unusedVariables false
/-- An array of bytes, cell by cell. -/
theorem bytes_of_cells {P : Program} {t e n fuel : Nat} (hu : P.underlying t = some (.array n e)) (he : P.underlying e = some (.int .u8)) (ct : P.cellsOf t = n) (ce : P.cellsOf e = 1) {H : Type} {enc : TypeId × Value → H} {W : World} {cs : List Value} {x : DataW H × List MemPlace}
    (hf : DataW.trod enc P W 0 (fun _ => true) true fuel t cs = some x) : ∃ c, cs = pgv c ∧ c.length = n ∧ Byt c := by
  obtain ⟨xs, m, _, _, hsz, hlen, hx⟩ := DataW.trod_array hu hf
  rw [ct] at hsz
  have hat : ∀ i, i < n → ∃ z : Int, cs[i]? = some (.int .u8 z) ∧ (Lit.int .u8 z).wf = true := by
    intro i hi
    have h0 := hx i hi
    rw [ce] at h0
    have g0 : xs[i]? = some xs[i] := List.getElem?_eq_getElem (by omega)
    rw [g0] at h0
    obtain ⟨z, e, _, wf⟩ := DataW.trod_int he h0
    refine ⟨z, ?_, wf⟩
    have e1 : ((cs.drop (i * 1)).take 1)[0]? = some (.int .u8 z) := by rw [e]; rfl
    simpa [List.getElem?_take, List.getElem?_drop] using e1
  refine ⟨cs.map numOf, ?_, by rw [List.length_map, hsz], ?_⟩
  · apply List.ext_getElem
    · simp [pgv]
    · intro i h1 h2
      obtain ⟨z, hz, _⟩ := hat i (by omega)
      rw [List.getElem?_eq_getElem h1] at hz
      have hz := Option.some.inj hz
      simp only [pgv, List.getElem_map]
      rw [hz]; rfl
  · intro y hy
    obtain ⟨u, hu, rfl⟩ := List.mem_map.1 hy
    obtain ⟨i, hi, rfl⟩ := List.mem_iff_getElem.1 hu
    obtain ⟨z, hz, wf⟩ := hat i (by omega)
    rw [List.getElem?_eq_getElem hi] at hz
    rw [Option.some.inj hz]; exact wf
/-- A number, an array of bytes, and a slice of pairs, as one value. -/
theorem node_of_trod {P : Program} {t e5 es ee n : Nat} {g0 g1 g2 f0 f1 : Field} {H : Type} {enc : TypeId × Value → H} {W : World} {base : Nat} {v : Value} {d : DataW H} {p : List MemPlace}
    (hu : P.underlying t = some (.struct #[g0, g1, g2])) (ct : P.cellsOf t = n + 2) (p0 : g0.offset = 0) (p1 : g1.offset = 1) (p2 : g2.offset = n + 1) (k0 : P.cellsOf g0.type = 1) (k1 : P.cellsOf g1.type = n) (k2 : P.cellsOf g2.type = 1)
    (u0 : P.underlying g0.type = some (.int .i64)) (u1 : P.underlying g1.type = some (.array n e5)) (u5 : P.underlying e5 = some (.int .u8)) (c5 : P.cellsOf e5 = 1)
    (u2 : P.underlying g2.type = some (.slice ee)) (he : P.underlying ee = some (.struct #[f0, f1])) (ce : P.cellsOf ee = 2) (o0 : f0.offset = 0) (o1 : f1.offset = 1) (c0 : P.cellsOf f0.type = 1) (c1 : P.cellsOf f1.type = 1)
    (t0 : P.underlying f0.type = some (.int .i64)) (t1 : P.underlying f1.type = some (.int .i64))
    (hval : Value.okWide P W .any base t v) (h : DataW.Trod enc P W 0 (fun _ => true) true t v d p) :
    ∃ (k : Int) (b : List Int) (vs : Value) (l : List (Int × Int)), v = .agg (.int .i64 k :: (pgv b ++ [vs])).toArray ∧ (Lit.int .i64 k).wf = true ∧ b.length = n ∧ Byt b ∧ SlP .i64 .i64 W vs l := by
  simp only [Value.okWide, hu] at hval
  obtain ⟨cs, rfl, hsz, _⟩ := hval
  rw [ct] at hsz
  obtain ⟨fuel, hf⟩ := h
  have hf : DataW.trod enc P W 0 (fun _ => true) true fuel t cs.toList = some (d, p) := hf
  obtain ⟨y0, y1, y2, m, _, hl, r0, r1, r2⟩ := Deep.trod_struct3 hu hf
  rw [p0, k0] at r0
  rw [p1, k1] at r1
  rw [p2, k2] at r2
  have hcl : cs.toList.length = n + 2 := by rw [← hsz]; rfl
  obtain ⟨z, e0, _, w0⟩ := DataW.trod_int u0 r0
  obtain ⟨b, e1, bl, bb⟩ := bytes_of_cells u1 u5 k1 c5 r1
  obtain ⟨vs, l, e2, hs⟩ := slP_of_cells u2 he ce o0 o1 c0 c1 t0 t1 r2
  refine ⟨z, b, vs, l, ?_, w0, bl, bb, hs⟩
  have e : cs.toList = .int .i64 z :: (pgv b ++ [vs]) := by
    have h1 : cs.toList = cs.toList.take 1 ++ ((cs.toList.drop 1).take n ++ (cs.toList.drop (n + 1)).take 1) := by
      have a1 : (cs.toList.drop (n + 1)).take 1 = (cs.toList.drop 1).drop n := by
        rw [List.drop_drop, Nat.add_comm 1 n, List.take_of_length_le (by rw [List.length_drop, hcl]; omega)]
      rw [a1, List.take_append_drop, List.take_append_drop]
    rw [h1]
    rw [List.drop_zero] at e0
    rw [e0, e1, e2]
    rfl
  have : cs = cs.toList.toArray := by simp
  rw [this, e]
end Go.Proofs.Ythpcfijefcicpaa
/- How a node that came in is opened. -/
namespace Go.Proofs.Ythpcfijefcicpaa
open Go.RowKit Go.Proofs.U Go.ChangeShapes Go.WideShapes Go.ChangeAt
/-- A value is a node whose entries lie in memory. -/
def IsNd (w : World) (v : Value) (n : Nd) : Prop := ∃ vs, v = ndV n.k n.b vs ∧ SlP .i64 .i64 w vs n.es ∧ n.ok ∧ (Lit.int .i64 n.k).wf = true
theorem opened_node {H : Type} {enc : TypeId × Value → H} {W : World} {base : Nat} {v : Value} {d : DataW H} {p : List MemPlace}
    (hval : Value.okWide Try.prog W .any base 31 v)
    (h : DataW.Trod enc Try.prog W 0 (fun _ => true) true 31 v d p) : ∃ n, IsNd W v n := by
  obtain ⟨k, b, vs, l, hv, wk, bl, bb, hs⟩ := node_of_trod (n := 16) (es := 0) Try.underlying31 (by kernel_rfl) rfl rfl rfl (by kernel_rfl) (by kernel_rfl) (by kernel_rfl) Try.underlying3 Try.underlying28 Try.underlying5 (by kernel_rfl)
    Try.underlying29 Try.underlying43 (by kernel_rfl) rfl rfl (by kernel_rfl) (by kernel_rfl) Try.underlying3 Try.underlying3 hval h
  exact ⟨⟨k, b, l⟩, vs, hv, hs, ⟨bl, bb⟩, wk⟩
theorem IsNd.parts {w : World} {v : Value} {n : Nd} (h : IsNd w v n) : ∃ a c, v = ndV n.k n.b (.slice a n.es.length c) ∧ SlP .i64 .i64 w (.slice a n.es.length c) n.es ∧ n.ok ∧ (Lit.int .i64 n.k).wf = true := by
  obtain ⟨vs, rfl, hs, h⟩ := h
  obtain ⟨a, c, rfl, _⟩ := hs.1.opn
  exact ⟨a, c, rfl, hs, h⟩
end Go.Proofs.Ythpcfijefcicpaa
/- LeafOpens. -/
namespace Go.Proofs.Ythpcfijefcicpaa
open Go.RowKit Go.Proofs.U
set_option linter.unusedSimpArgs false
set_option linter.unusedVariables false
theorem same_self (n : Nd) : n.same n = true := same_eq.2 rfl
/-- What Open hands back, its row opened. -/
theorem OpenIs.parts {w w' : World} {x : Nd × Int} {r : Ending} (h : OpenIs w w' x r) : ∃ a m c, r = .returned (.tuple #[ndV x.1.k x.1.b (.slice a m c), .int .i64 x.2]) ∧ NdS w' (.slice a m c) x.1 ∧ Hid (x.1.b.length = 16) ∧ Fr noB w w' := by
  obtain ⟨v, rfl, hn, _, f⟩ := h
  obtain ⟨a, m, c, rfl⟩ := hn.sl
  exact ⟨a, m, c, rfl, hn, hn.bl, f⟩

set_option maxRecDepth 100000 in
set_option maxHeartbeats 2000000 in
theorem lopens_walk (v : Value) (p : List Int) (w : World) (hv : IsArr v 256 p) :
    Calls Try.prog 4 #[v] w fun e w' => e = .returned (.bool true) ∧ Below w.heap.size w w' := by
  obtain ⟨rfl, hp, hb⟩ := hv
  have ho := fun w => open_any p hp hb w
  have hr := fun w => ropen_any p hp hb w
  have Hp := show Hid _ from hp
  obtain ⟨X, HX⟩ : ∃ X, Hid (opN p = X) := ⟨_, rfl⟩
  rw [HX.out] at ho hr
  have hss := show Hid _ from same_self X.1
  clear hp
  go_enter Try.func4, Try.ntmps4
  go_wp2_with (first
    | (with_reducible refine at_wpP ?_; refine wpList_boxV rfl 23 _ rfl (pgv p) rfl ?_; intro g1 w1 hg1 b1 f1 s1)
    | (go_at_call 9; go_must (refine (lalive_any _).mono ?_; rintro e w2 ⟨rfl, f2⟩; have F2 := f1.thenN f2; have b2 := b1.fr0 f2))
    | (with_reducible refine at_wpP ?_; refine at_ld 23 _ rfl ?_; have q := H5; go_must (refine wpList_loadA arr_page rfl _ rfl g1 rfl p (b2.fr0 H5) Hp.out ?_))
    | (with_reducible refine at_wpP ?_; refine at_ld 23 _ rfl ?_; have q := b2; refine wpList_loadA arr_page rfl _ rfl g1 rfl p b2 Hp.out ?_)
    | (go_at_call 8; go_must (refine (ho _).mono ?_; intro e w3 hq; obtain ⟨a3, m3, c3, rfl, n3, l3, f3⟩ := OpenIs.parts hq; clear hq))
    | (with_reducible refine at_wpP ?_; refine at_alX 31 rfl ?_; have q := n6; refine wpList_allocN rfl rfl ?_; intro g7 w7 hg7 b7 f7 s7)
    | (with_reducible refine at_wpP ?_; refine at_alX 31 rfl ?_; refine wpList_allocN rfl rfl ?_; intro g4 w4 hg4 b4 f4 s4)
    | (with_reducible refine at_wpP ?_; refine at_st 31 _ _ rfl ?_; have q := b7; go_must (refine wpList_stN rfl _ _ rfl g7 rfl X.1.k X.1.b (.slice a6 m6 c6) rfl l6.out ⟨_, _, _, rfl⟩ 0 (zerB 16) nilS b7 (zerB_len 16) ?_; intro w8 b8 f8; have H8 := Fr.ownX f7 s7 f8; have b5' := (b5.fr0 f6).fr0 H8))
    | (with_reducible refine at_wpP ?_; refine at_st 31 _ _ rfl ?_; go_must (refine wpList_stN rfl _ _ rfl g4 rfl X.1.k X.1.b (.slice a3 m3 c3) rfl l3.out ⟨_, _, _, rfl⟩ 0 (zerB 16) nilS b4 (zerB_len 16) ?_; intro w5 b5 f5; have G5 := Fr.ownX f4 s4 f5; have H5 := f3.thenN G5))
    | (go_at_call 10; go_must (refine (hr _).mono ?_; intro e w6 hq; obtain ⟨a6, m6, c6, rfl, n6, l6, f6⟩ := OpenIs.parts hq; clear hq))
    | (with_reducible refine at_wpP ?_; refine at_ld 31 _ rfl ?_; go_must (first | refine wpList_ldN rfl _ rfl g4 rfl X.1.k X.1.b (.slice a3 m3 c3) b5' l3.out ?_ | refine wpList_ldN rfl _ rfl g7 rfl X.1.k X.1.b (.slice a6 m6 c6) b8 l6.out ?_))
    | (go_at_call 11; go_must (refine (rsame_any X.1 X.1 _ _ _ (((n3.fr0 G5).fr0 f6).fr0 H8) (n6.fr0 H8)).mono ?_; rw [hss.out]; rintro e w9 ⟨rfl, f9⟩)))
  go_ret
  exact ⟨rfl, ((((F2.thenN H5).thenN f6).thenN H8).thenN f9).below⟩
end Go.Proofs.Ythpcfijefcicpaa
