/- Texts OpenH, H14 of the proof of NodesExact, one behind the other. -/
import Derived.Test.YtamfnjliikiifaaBundleNodesExact1
import Derived.Test.YtamfnjliikiifaaBundleNodesExact2
import Derived.Test.YtamfnjliikiifaaBundleNodesExact3
import Derived.Test.YtamfnjliikiifaaBundleNodesExact4
import Derived.Test.YtamfnjliikiifaaBundleNodesExact5
import Derived.Test.YtamfnjliikiifaaBundleNodesExact6
import Derived.Test.YtamfnjliikiifaaBundleNodesExact7
import Derived.Test.YtamfnjliikiifaaBundleNodesExact8
import Derived.Test.YtamfnjliikiifaaBundleNodesExact9
import Derived.Test.YtamfnjliikiifaaBundleNodesExact10
import Derived.Test.YtamfnjliikiifaaBundleNodesExact11
import Derived.Test.YtamfnjliikiifaaBundleNodesExact12
import Derived.Test.YtamfnjliikiifaaBundleNodesExact13
import Derived.Test.YtamfnjliikiifaaBundleNodesExact14
import Derived.Test.YtamfnjliikiifaaBundleNodesExact15
import Derived.Test.YtamfnjliikiifaaBundleNodesExact16
import Derived.Test.YtamfnjliikiifaaBundleNodesExact17
import Derived.Test.YtamfnjliikiifaaBundleNodesExact18
/- How a slice of nodes, and one of acts, that came in are opened. -/
namespace Go.Proofs.Ytamfnjliikiifaa
open Go.RowKit Go.Proofs.U Go.ChangeShapes Go.WideShapes Go.ChangeAt
set_option linter.unusedSimpArgs false
set_option linter.unusedVariables false
set_option maxRecDepth 100000 in
/-- A slice of things of sz cells each. -/
theorem slice_each {α : Type} {P : Program} {t e sz : Nat} (ec : α → List Value) (dflt : α) {H : Type} {enc : TypeId × Value → H} {W : World} (Ok : α → Prop) {base : Nat} {v : Value} {d : DataW H} {p : List MemPlace}
    (hu : P.underlying t = some (.slice e)) (ce : P.cellsOf e = sz) (hz : 0 < sz) (hel : ∀ q, Ok q → (ec q).length = sz)
    (each : ∀ (cs : List Value) (fuel : Nat) (x : DataW H × List MemPlace), cs.length = sz → DataW.trod enc P W 0 (fun _ => true) true fuel e cs = some x → ∃ q, cs = ec q ∧ Ok q)
    (hval : Value.okWide P W .any base t v) (h : DataW.Trod enc P W 0 (fun _ => true) true t v d p) : ∃ l : List α, SlR ec sz W v l ∧ ∀ x ∈ l, Ok x := by
  obtain ⟨a, len, cap, rfl⟩ := okWide_slice hu hval
  obtain ⟨fuel, hf⟩ := h
  rcases Deep.open_slice hu hf with ⟨hcs, _⟩ | ⟨x, l, c, m, n, D, Pl, hcs, _, hl, hm, hmm, _, hcell⟩
  · simp [Value.cells] at hcs
    obtain ⟨rfl, rfl, rfl⟩ := hcs
    exact ⟨[], ⟨by simp, Sl.nil W sz⟩, by simp⟩
  · simp [Value.cells] at hcs
    obtain ⟨rfl, rfl, rfl⟩ := hcs
    have hmc : m = cap := by simpa using hmm
    have each2 : ∀ i, i < m → ∃ q : α, (∀ j v, (ec q)[j]? = some v → W.cell? (x.add (i * sz + j)) = some v) ∧ Ok q := by
      intro i hi
      obtain ⟨cs', h1, h2⟩ := hcell i hi
      rw [ce] at h1
      obtain ⟨_, hlen, hcl⟩ := World.cells?_some h1
      obtain ⟨q, hq, hok⟩ := each cs' _ _ hlen h2
      refine ⟨q, fun j u hj => ?_, hok⟩
      have hj4 : j < sz := by have := (List.getElem?_eq_some_iff.1 hj).1; rw [hel q hok] at this; exact this
      have hh := hcl j (by omega)
      rw [Deep.add_add] at hh
      rw [hh, hq]
      exact hj
    let g : Nat → α := fun i => if h : i < m then (each2 i h).choose else dflt
    have hg : ∀ i, i < m → (∀ j v, (ec (g i))[j]? = some v → W.cell? (x.add (i * sz + j)) = some v) ∧ Ok (g i) := by
      intro i hi
      simp only [g, dif_pos hi]
      exact (each2 i hi).choose_spec
    have hall : ∀ y ∈ (List.range len).map g, (ec y).length = sz := by
      intro y hy
      obtain ⟨i, hi, rfl⟩ := List.mem_map.1 hy
      exact hel _ (hg i (by have := List.mem_range.1 hi; omega)).2
    have hflen : ∀ L : List α, (∀ y ∈ L, (ec y).length = sz) → (L.flatMap ec).length = L.length * sz := by
      intro L hL; induction L with
      | nil => simp
      | cons z L ih =>
        rw [List.flatMap_cons, List.length_append, ih (fun y hy => hL y (by simp [hy])), List.length_cons, hL z (by simp), Nat.succ_mul]; omega
    refine ⟨(List.range len).map g, ⟨hall, ?_⟩, ?_⟩
    · refine ⟨some x, cap, by simp, by simpa using hl, ?_, (fun h => by cases h), fun y hy j u hj => ?_⟩
      · rw [hflen _ hall]
      · cases hy
        have hjl : j < len * sz := by
          have h2 := (List.getElem?_eq_some_iff.1 hj).1
          rw [hflen _ hall] at h2; simpa using h2
        have hdq : j / sz < len := (Nat.div_lt_iff_lt_mul hz).2 hjl
        have hq : j / sz < ((List.range len).map g).length := by simpa using hdq
        have hfl := flat_at ec sz ((List.range len).map g) hall (j / sz) hq (j % sz) (Nat.mod_lt _ hz)
        have hdm : j / sz * sz + j % sz = j := Nat.div_add_mod' j sz
        rw [hdm, hj] at hfl
        simp only [List.getElem_map, List.getElem_range] at hfl
        have := (hg (j / sz) (by omega)).1 (j % sz) u hfl.symm
        rwa [hdm] at this
    · intro y hy
      obtain ⟨i, hi, rfl⟩ := List.mem_map.1 hy
      exact (hg i (by have := List.mem_range.1 hi; omega)).2
/-- A node as it lies in memory: the node, and its entries' slice. -/
abbrev NdR : Type := Nd × Value
def encN (x : NdR) : List Value := ndL x.1.k x.1.b x.2
def NdROk (w : World) (x : NdR) : Prop := SlP .i64 .i64 w x.2 x.1.es ∧ x.1.ok ∧ (Lit.int .i64 x.1.k).wf = true
theorem encN_len {w : World} {x : NdR} (h : NdROk w x) : (encN x).length = 18 := ndL_len _ _ _ h.2.1.1
def SlN (w : World) (v : Value) (l : List NdR) : Prop := SlR encN 18 w v l ∧ ∀ x ∈ l, NdROk w x
set_option maxRecDepth 100000 in
theorem opened_nodes {H : Type} {enc : TypeId × Value → H} {W : World} {base : Nat} {v : Value} {d : DataW H} {p : List MemPlace}
    (hval : Value.okWide Try.prog W .any base 49 v) (h : DataW.Trod enc Try.prog W 0 (fun _ => true) true 49 v d p) : ∃ l, SlN W v l := by
  refine slice_each encN (nd0, nilS) (NdROk W) Try.underlying49 (by kernel_rfl) (by decide) (fun q hq => encN_len hq) (fun cs fuel x hl hf => ?_) hval h
  obtain ⟨y0, y1, y2, m, _, _, r0, r1, r2⟩ := Deep.trod_struct3 Try.underlying28 hf
  have k0 : Try.prog.cellsOf 3 = 1 := by kernel_rfl
  have k1 : Try.prog.cellsOf 25 = 16 := by kernel_rfl
  have k2 : Try.prog.cellsOf 26 = 1 := by kernel_rfl
  simp only [k0, k1, k2] at r0 r1 r2
  obtain ⟨z, e0, _, w0⟩ := DataW.trod_int Try.underlying3 r0
  obtain ⟨b, e1, bl, bb⟩ := bytes_of_cells Try.underlying25 Try.underlying5 k1 (by kernel_rfl) r1
  obtain ⟨vs, l, e2, hs⟩ := slP_of_cells (k0 := .i64) (k1 := .i64) Try.underlying26 Try.underlying51 (by kernel_rfl) rfl rfl k0 k0 Try.underlying3 Try.underlying3 r2
  refine ⟨(⟨z, b, l⟩, vs), ?_, hs, ⟨bl, bb⟩, w0⟩
  have h1 : cs = cs.take 1 ++ ((cs.drop 1).take 16 ++ (cs.drop 17).take 1) := by
    have a1 : (cs.drop 17).take 1 = (cs.drop 1).drop 16 := by
      rw [List.drop_drop, List.take_of_length_le (by rw [List.length_drop, hl]; omega)]
    rw [a1, List.take_append_drop, List.take_append_drop]
  rw [h1]
  rw [List.drop_zero] at e0
  rw [e0, e1, e2]
  rfl
theorem slI_of_cellsL {P : Program} {H : Type} {enc : TypeId × Value → H} {W : World} {t e fuel : Nat} {k : IntKind} {v : Value} {x : DataW H × List MemPlace}
    (hu : P.underlying t = some (.slice e)) (he : P.underlying e = some (.int k)) (hc : P.cellsOf e = 1)
    (hf : DataW.trod enc P W 0 (fun _ => true) true fuel t [v] = some x) : ∃ l, SlI k W v l ∧ l.length ≤ maxLen := by
  obtain ⟨l, hl⟩ := slI_of_cells hu he hc hf
  refine ⟨l, hl, ?_⟩
  obtain ⟨a, cap, hv, hlc⟩ := hl.opn
  rcases open_ints hu he hc hf with ⟨hcs, _⟩ | ⟨x, len, cap', zs, hcs, _, hl', hm, _⟩
  · simp at hcs
    rw [hcs] at hv
    have hv := (Value.slice.inj hv).2.1
    unfold maxLen
    omega
  · simp at hcs
    rw [hcs] at hv
    have hv := (Value.slice.inj hv).2.1
    omega
/-- An act as it lies in memory. -/
structure ActH where
  kind : Int
  at' : Int
  kv : Value
  keys : List Int
  blk : List Int
def encH (x : ActH) : List Value := .int .i64 x.kind :: .int .i64 x.at' :: x.kv :: pgv x.blk
def ActHOk (w : World) (x : ActH) : Prop := (Lit.int .i64 x.kind).wf = true ∧ (Lit.int .i64 x.at').wf = true ∧ SlI .i64 w x.kv x.keys ∧ x.blk.length = 16 ∧ Byt x.blk ∧ x.keys.length ≤ maxLen
theorem encH_len {w : World} {x : ActH} (h : ActHOk w x) : (encH x).length = 19 := by simp [encH, pgv_len, h.2.2.2.1]
def SlH (w : World) (v : Value) (l : List ActH) : Prop := SlR encH 19 w v l ∧ ∀ x ∈ l, ActHOk w x
set_option maxRecDepth 100000 in
theorem opened_acts9 {H : Type} {enc : TypeId × Value → H} {W : World} {base : Nat} {v : Value} {d : DataW H} {p : List MemPlace}
    (hval : Value.okWide Try.prog W .any base 37 v) (h : DataW.Trod enc Try.prog W 0 (fun _ => true) true 37 v d p) : ∃ l, SlH W v l := by
  refine slice_each encH ⟨0, 0, nilS, [], zerB 16⟩ (ActHOk W) Try.underlying37 (by kernel_rfl) (by decide) (fun q hq => encH_len hq) (fun cs fuel x hl hf => ?_) hval h
  obtain ⟨xs, k, hk, hxy, _, hxl, hfl⟩ := DataW.trod_struct Try.underlying43 hf
  match xs, hxl, cs, hl with
  | [y0, y1, y2, y3], _, v0 :: v1 :: v2 :: bs, hl =>
    have g0 := hfl 0 _ rfl
    have g1 := hfl 1 _ rfl
    have g2 := hfl 2 _ rfl
    have g3 := hfl 3 _ rfl
    have ci : Try.prog.cellsOf 3 = 1 := by kernel_rfl
    have c8 : Try.prog.cellsOf 39 = 1 := by kernel_rfl
    have cb : Try.prog.cellsOf 25 = 16 := by kernel_rfl
    have hbl : bs.length = 16 := by simpa using hl
    simp [ci, c8, cb] at g0 g1 g2 g3
    rw [List.take_of_length_le (by omega)] at g3
    obtain ⟨z0, e0, _, w0⟩ := DataW.trod_int Try.underlying3 g0
    obtain ⟨z1, e1, _, w1⟩ := DataW.trod_int Try.underlying3 g1
    obtain ⟨kl, hS, hkl⟩ := slI_of_cellsL Try.underlying39 Try.underlying3 ci g2
    obtain ⟨b, e3, bl, bb⟩ := bytes_of_cells Try.underlying25 Try.underlying5 cb (by kernel_rfl) g3
    simp at e0 e1
    subst e0 e1 e3
    exact ⟨⟨z0, z1, v2, kl, b⟩, rfl, w0, w1, hS, bl, bb, hkl⟩
end Go.Proofs.Ytamfnjliikiifaa
/- NodesBack. (Written by h14_gen.py.) -/
namespace Go.Proofs.Ytamfnjliikiifaa
open Go.RowKit Go.Proofs.U Go.Shelf Go.Maps
set_option linter.unusedSimpArgs false
set_option linter.unusedVariables false
theorem StN.base {w0 w1 w : World} {gs gp : Nat} {X : DSt} {L : List Pg} {m : Nat} (f : Fr noB w0 w1) (h : StN w1 w gs gp X L m) : StN w0 w gs gp X L m := by
  obtain ⟨F, s, a, b, c, d⟩ := h
  have z := f.size
  exact ⟨F, s, fun k hk => by have := a k hk; omega, by omega, by omega, f.thenN d⟩
theorem make_F {F : Nat → Prop} {gs gp : Nat} {X Y : DSt} {L M : List Pg} {m : Nat} {p e : Int} {w : World} (n : Nd) (vs : Value) (s : Sto w F gs gp X L m) (hm : m ≤ 100000) (hn : NdS w vs n) (he : makeF X L n = ((Y, M), p, e)) :
    Calls Try.prog 9 #[ptr gs, ndV n.k n.b vs] w fun r w' => r = .returned (.tuple #[.int .i64 p, .int .i64 e]) ∧ LayIs w w' F gs gp (Y, M) (m + 1) := by
  refine (make_any n vs w s hm hn).mono ?_
  rw [he]
  exact fun r w' h => h
theorem hold_F {F : Nat → Prop} {gs gp : Nat} {X : DSt} {L M : List Pg} {m : Nat} {e : Int} {w : World} (p : Int) (s : Sto w F gs gp X L m) (he : plHold L p = (M, e)) :
    Calls Try.prog 10 #[ptr gs, .int .i64 p] w fun r w' => r = .returned (.int .i64 e) ∧ Sto w' F gs gp X M m ∧ Fr (onB1 gp) w w' := by
  refine (nhold_any p w s).mono ?_
  rw [he]
  exact fun r w' h => h
theorem get_F {F : Nat → Prop} {gs gp : Nat} {X : DSt} {L : List Pg} {m : Nat} {R : Nd × Int} {w : World} (p : Int) (s : Sto w F gs gp X L m) (hm : m ≤ 100000) (he : getF X L p = R) :
    Calls Try.prog 8 #[ptr gs, .int .i64 p] w fun r w' => NOpenIs w w' R r := by
  rw [← he]
  exact nget_any p w s hm
theorem free_F {F : Nat → Prop} {gs gp : Nat} {X : DSt} {L : List Pg} {m : Nat} {k : Int} {w : World} (s : Sto w F gs gp X L m) (hk : ((plFree L : Nat) : Int) = k) :
    Calls Try.prog 18 #[ptr gp] w fun r w' => r = .returned (.int .i64 k) ∧ w = w' := by
  rw [← hk]
  exact pfreeN_any s.ok gp w s.pl
section
variable {w : World} {ops : Array Oper} {rest : List Oper} {o : Oper} {a : Act} {Q : Exit → Act → World → Prop}
theorem wpList_ldNm (hgd : o.guard = none) (y : Operand) (ho : o.op = .load 28 y) (b off : Nat) (hy : a.eval y = .pointer (some ⟨b, off, none⟩)) (k : Int) (bl : List Int) (v : Value) (hl : bl.length = 16) (hc : ∀ q u, (ndL k bl v)[q]? = some u → w.cell? ⟨b, off + q, none⟩ = some u)
    (h : wpList Try.prog ops Q rest (a.put o.dst (ndV k bl v)) w) : wpList Try.prog ops Q (o :: rest) a w :=
  wpList_load_mid hgd _ y ho b off hy (ndL k bl v) _ (range_of fun j v hj => hc j v hj) nd_struct rfl (by rw [ndL_len k bl v hl]; exact nd_size) h
end
theorem encN_at {w : World} {b off : Nat} {n : Nd} {v : Value} (h : ∀ q u, (encN (n, v))[q]? = some u → w.cell? ⟨b, off + q, none⟩ = some u) : ∀ q u, (ndL n.k n.b v)[q]? = some u → w.cell? ⟨b, off + q, none⟩ = some u := h
theorem sz40 : sizeN 40 = 36 := by decide
set_option maxRecDepth 100000 in
set_option maxHeartbeats 4000000 in
theorem nback_walk (v : Value) (l : List NdR) (w : World) (h : SlN w v l) :
    Calls Try.prog 5 #[v] w fun r w' => r = .returned (.bool true) ∧ Below w.heap.size w w' := by
  obtain ⟨hA, hnok⟩ := h
  obtain ⟨a0, c0, rfl, hc0⟩ := hA.opn
  by_cases hbig : 60 < l.length
  · have hb1 : (60 : Int) < (l.length : Int) := by omega
    go_enter Try.func5, Try.ntmps5
    go_wp2_with (first
      | (go_at_call 12; go_must (refine (nalive_any _).mono ?_; rintro e w1 ⟨rfl, f1⟩)))
    go_ret
    exact ⟨rfl, f1.below⟩
  · have hb1 : ¬ (60 : Int) < (l.length : Int) := by omega
    have hmade := fun W => made_N 40 (by omega) W
    rw [sz40] at hmade
    have G0 : GoodB (newD 40) (plNew 36) := GoodB.new _ _
    obtain ⟨X0, H0⟩ : ∃ X0, Hid (newD 40 = X0) := ⟨_, rfl⟩
    obtain ⟨L0, H1⟩ : ∃ L0, Hid (plNew 36 = L0) := ⟨_, rfl⟩
    rw [H0.out, H1.out] at hmade G0
    go_enter Try.func5, Try.ntmps5
    go_wp2_with (first
      | (go_at_call 12; go_must (refine (nalive_any _).mono ?_; rintro e w1 ⟨rfl, f1⟩))
      | (go_at_call 7; go_must (refine (hmade _).mono ?_; rintro e w2 ⟨gs, gp, rfl, s2⟩; have S2 := s2.base f1)))
    go_loopw [25] (fun i wr => ∃ (j : Nat) (X : DSt) (L : List Pg) (m : Nat), j ≤ l.length ∧ i = .int .i64 (j : Int) ∧ StN w wr gs gp X L m ∧ Hid (GoodB X L) ∧ m ≤ j) (fun i _ => l.length - (intOf i).toNat)
    case atStart => exact ⟨0, X0, L0, 0, by omega, rfl, S2, G0, Nat.le_refl _⟩
    case round =>
      obtain ⟨j, X, L, m, hj, rfl, hst, hG, hmj⟩ := hrel
      clear S2 s2 f1 G0 hmade
      obtain ⟨F, sF, aF, bF, cF, dF⟩ := hst
      have hm5 : m ≤ 100000 := by omega
      have zF := dF.size
      have lsF := sF.lts
      have lpF := sF.ltp
      have tF := sF.ft
      by_cases hlt : j < l.length
      · obtain ⟨⟨n, vn⟩, Hx⟩ : ∃ x, Hid (l[j] = x) := ⟨l[j], (rfl : l[j] = l[j])⟩
        have hno := hnok (n, vn) (by rw [← Hx.out]; simp)
        obtain ⟨hse, hob, hwk⟩ := hno
        simp only at hse hob hwk
        have hbl := show Hid _ from hob.1
        obtain ⟨ae, ce, rfl, hce⟩ := hse.1.opn
        have hsv : ∃ a m c, Value.slice ae n.es.length ce = .slice a m c := ⟨_, _, _, rfl⟩
        by_cases h20 : 20 < n.es.length
        · have hb20 : (20 : Int) < (n.es.length : Int) := by omega
          go_wp2_with (first
            | (with_reducible refine at_wpP ?_; refine at_idx 49 _ _ rfl ?_; go_must (refine wpList_idxR rfl 49 _ _ rfl 28 Try.underlying49 18 nd_size _ _ _ rfl (hA.fr0 dF) (by decide) _ _ j rfl rfl hlt ?_; rw [Hx.out]; intro ba oa hba hca0; have hca := encN_at hca0))
            | (with_reducible refine at_wpP ?_; refine at_ld 28 _ rfl ?_; have qm := hca; refine wpList_ldNm rfl _ rfl ba oa rfl n.k n.b (.slice ae n.es.length ce) hbl.out hca ?_)
            | (with_reducible refine at_wpP ?_; refine wpList_allocN rfl rfl ?_; intro g5 w5 hg5 b5 f5 s5; have l5 := b5.lt; have z5 := f5.size)
            | (with_reducible refine at_wpP ?_; refine at_st 28 _ _ rfl ?_; go_must (refine wpList_stN rfl _ _ rfl g5 rfl n.k n.b (.slice ae n.es.length ce) rfl hbl.out hsv 0 (zerB 16) nilS b5 (zerB_len 16) ?_; intro w6 b6 f6; have F6 := Fr.ownX f5 s5 f6; have z6 := F6.size; have q6 := NdB.ents b6 hbl.out; have l6 := b6.lt)))
          go_ret
          exact ⟨rfl, (dF.thenN F6).below⟩
        · have hb20 : ¬ (20 : Int) < (n.es.length : Int) := by omega
          have hnS : NdS w (.slice ae n.es.length ce) n := ⟨hse, hob, by omega, hwk⟩
          go_wp2_with (first
            | (with_reducible refine at_wpP ?_; refine at_idx 49 _ _ rfl ?_; go_must (refine wpList_idxR rfl 49 _ _ rfl 28 Try.underlying49 18 nd_size _ _ _ rfl (hA.fr0 dF) (by decide) _ _ j rfl rfl hlt ?_; rw [Hx.out]; intro ba oa hba hca0; have hca := encN_at hca0))
            | (with_reducible refine at_wpP ?_; refine at_ld 28 _ rfl ?_; have qm := hca; refine wpList_ldNm rfl _ rfl ba oa rfl n.k n.b (.slice ae n.es.length ce) hbl.out hca ?_)
            | (with_reducible refine at_wpP ?_; refine wpList_allocN rfl rfl ?_; intro g5 w5 hg5 b5 f5 s5; have l5 := b5.lt; have z5 := f5.size)
            | (with_reducible refine at_wpP ?_; refine at_st 28 _ _ rfl ?_; go_must (refine wpList_stN rfl _ _ rfl g5 rfl n.k n.b (.slice ae n.es.length ce) rfl hbl.out hsv 0 (zerB 16) nilS b5 (zerB_len 16) ?_; intro w6 b6 f6; have F6 := Fr.ownX f5 s5 f6; have z6 := F6.size; have q6 := NdB.ents b6 hbl.out; have l6 := b6.lt)))
          go_loopw [36, 6] (fun i u wq => ∃ (q : Nat), q ≤ n.es.length ∧ i = .int .i64 (q : Int) ∧ u = .bool (thereB X L (n.es.take q)) ∧ Fr noB w6 wq) (fun i _ _ => n.es.length - (intOf i).toNat)
          case atStart => exact ⟨0, Nat.zero_le _, rfl, rfl, Fr.refl _ _⟩
          case round =>
            obtain ⟨q, hq, rfl, rfl, hf⟩ := hrel
            have s7 := (sF.fr0 F6).fr0 hf
            have b7 := b6.fr0 hf
            have D7 := (dF.thenN F6).thenN hf
            have z7 := hf.size
            by_cases hqt : q < n.es.length
            · obtain ⟨y, Hy⟩ : ∃ y, Hid (n.es[q] = y) := ⟨n.es[q], (rfl : n.es[q] = n.es[q])⟩
              have hsucc := thereB_succ X L n.es q hqt
              rw [Hy.out] at hsucc
              obtain ⟨R, HR⟩ : ∃ R, Hid (getF X L y.2 = R) := ⟨_, rfl⟩
              rw [HR.out] at hsucc
              replace hsucc := show Hid _ from hsucc
              obtain ⟨T0, HT0⟩ : ∃ T0, Hid (thereB X L (n.es.take q) = T0) := ⟨_, rfl⟩
              rw [HT0.out] at hsucc ⊢
              have hqt' : (q : Int) < (n.es.length : Int) := by omega
              have hE7 := ((hse.1.fr0 D7))
              cases T0 with
              | true =>
                cases h0 : (R.2 == 0) with
                | true =>
                  rw [h0] at hsucc
                  go_wp2_with (first
                    | (with_reducible refine at_wpP ?_; refine at_idx 26 _ _ rfl ?_; go_must (refine wpList_idxR rfl 26 _ _ rfl 51 Try.underlying26 2 en_size _ _ _ rfl hE7 (by decide) _ _ q rfl rfl hqt ?_; rw [Hy.out]; intro bb ob hbb hcb))
                    | (with_reducible refine at_wpP ?_; refine at_ld 51 _ rfl ?_; have qm := hcb; refine wpList_ldE rfl _ rfl bb ob rfl y hcb ?_)
                    | (with_reducible refine at_wpP ?_; refine wpList_allocE rfl rfl ?_; intro g8 w8 hg8 b8 f8 s8; have l8 := b8.lt; have z8 := f8.size)
                    | (with_reducible refine at_wpP ?_; refine at_st 51 _ _ rfl ?_; go_must (refine wpList_stE rfl _ _ rfl g8 rfl (0, 0) y b8 rfl ?_; intro w9 b9 f9; have F9 := Fr.ownX f8 s8 f9; have z9 := f9.size; obtain ⟨k90, k91⟩ := EnB.all b9))
                    | (go_at_call 8; go_must (refine (get_F y.2 (s7.fr0 F9) hm5 HR.out).mono ?_; rintro e w10 ⟨v10, rfl, n10, o10, f10⟩; have hv10 := NdS.sl n10; have hb10 := NdS.bl n10; have F10 := F9.thenN f10; have z10 := f10.size))
                    | (with_reducible refine at_wpP ?_; have qm := n10; refine wpList_allocN rfl rfl ?_; intro g11 w11 hg11 b11 f11 s11; have l11 := b11.lt; have z11 := f11.size)
                    | (with_reducible refine at_wpP ?_; refine at_st 28 _ _ rfl ?_; go_must (refine wpList_stN rfl _ _ rfl g11 rfl R.1.k R.1.b v10 rfl hb10.out hv10 0 (zerB 16) nilS b11 (zerB_len 16) ?_; intro w12 b12 f12; have F12 := F10.thenN (Fr.ownX f11 s11 f12))))
                  go_roundw
                  case rel => exact ⟨q + 1, by omega, by go_num, by rw [hsucc.out]; rfl, hf.thenN F12⟩
                  case measure => simp [intOf]; omega
                | false =>
                  rw [h0] at hsucc
                  go_wp2_with (first
                    | (with_reducible refine at_wpP ?_; refine at_idx 26 _ _ rfl ?_; go_must (refine wpList_idxR rfl 26 _ _ rfl 51 Try.underlying26 2 en_size _ _ _ rfl hE7 (by decide) _ _ q rfl rfl hqt ?_; rw [Hy.out]; intro bb ob hbb hcb))
                    | (with_reducible refine at_wpP ?_; refine at_ld 51 _ rfl ?_; have qm := hcb; refine wpList_ldE rfl _ rfl bb ob rfl y hcb ?_)
                    | (with_reducible refine at_wpP ?_; refine wpList_allocE rfl rfl ?_; intro g8 w8 hg8 b8 f8 s8; have l8 := b8.lt; have z8 := f8.size)
                    | (with_reducible refine at_wpP ?_; refine at_st 51 _ _ rfl ?_; go_must (refine wpList_stE rfl _ _ rfl g8 rfl (0, 0) y b8 rfl ?_; intro w9 b9 f9; have F9 := Fr.ownX f8 s8 f9; have z9 := f9.size; obtain ⟨k90, k91⟩ := EnB.all b9))
                    | (go_at_call 8; go_must (refine (get_F y.2 (s7.fr0 F9) hm5 HR.out).mono ?_; rintro e w10 ⟨v10, rfl, n10, o10, f10⟩; have hv10 := NdS.sl n10; have hb10 := NdS.bl n10; have F10 := F9.thenN f10; have z10 := f10.size))
                    | (with_reducible refine at_wpP ?_; have qm := n10; refine wpList_allocN rfl rfl ?_; intro g11 w11 hg11 b11 f11 s11; have l11 := b11.lt; have z11 := f11.size)
                    | (with_reducible refine at_wpP ?_; refine at_st 28 _ _ rfl ?_; go_must (refine wpList_stN rfl _ _ rfl g11 rfl R.1.k R.1.b v10 rfl hb10.out hv10 0 (zerB 16) nilS b11 (zerB_len 16) ?_; intro w12 b12 f12; have F12 := F10.thenN (Fr.ownX f11 s11 f12))))
                  go_roundw
                  case rel => exact ⟨q + 1, by omega, by go_num, by rw [hsucc.out]; rfl, hf.thenN F12⟩
                  case measure => simp [intOf]; omega
              | false =>
                cases h0 : (R.2 == 0) with
                | true =>
                  rw [h0] at hsucc
                  go_wp2_with (first
                    | (with_reducible refine at_wpP ?_; refine at_idx 26 _ _ rfl ?_; go_must (refine wpList_idxR rfl 26 _ _ rfl 51 Try.underlying26 2 en_size _ _ _ rfl hE7 (by decide) _ _ q rfl rfl hqt ?_; rw [Hy.out]; intro bb ob hbb hcb))
                    | (with_reducible refine at_wpP ?_; refine at_ld 51 _ rfl ?_; have qm := hcb; refine wpList_ldE rfl _ rfl bb ob rfl y hcb ?_)
                    | (with_reducible refine at_wpP ?_; refine wpList_allocE rfl rfl ?_; intro g8 w8 hg8 b8 f8 s8; have l8 := b8.lt; have z8 := f8.size)
                    | (with_reducible refine at_wpP ?_; refine at_st 51 _ _ rfl ?_; go_must (refine wpList_stE rfl _ _ rfl g8 rfl (0, 0) y b8 rfl ?_; intro w9 b9 f9; have F9 := Fr.ownX f8 s8 f9; have z9 := f9.size; obtain ⟨k90, k91⟩ := EnB.all b9))
                    | (go_at_call 8; go_must (refine (get_F y.2 (s7.fr0 F9) hm5 HR.out).mono ?_; rintro e w10 ⟨v10, rfl, n10, o10, f10⟩; have hv10 := NdS.sl n10; have hb10 := NdS.bl n10; have F10 := F9.thenN f10; have z10 := f10.size))
                    | (with_reducible refine at_wpP ?_; have qm := n10; refine wpList_allocN rfl rfl ?_; intro g11 w11 hg11 b11 f11 s11; have l11 := b11.lt; have z11 := f11.size)
                    | (with_reducible refine at_wpP ?_; refine at_st 28 _ _ rfl ?_; go_must (refine wpList_stN rfl _ _ rfl g11 rfl R.1.k R.1.b v10 rfl hb10.out hv10 0 (zerB 16) nilS b11 (zerB_len 16) ?_; intro w12 b12 f12; have F12 := F10.thenN (Fr.ownX f11 s11 f12))))
                  go_roundw
                  case rel => exact ⟨q + 1, by omega, by go_num, by rw [hsucc.out]; rfl, hf.thenN F12⟩
                  case measure => simp [intOf]; omega
                | false =>
                  rw [h0] at hsucc
                  go_wp2_with (first
                    | (with_reducible refine at_wpP ?_; refine at_idx 26 _ _ rfl ?_; go_must (refine wpList_idxR rfl 26 _ _ rfl 51 Try.underlying26 2 en_size _ _ _ rfl hE7 (by decide) _ _ q rfl rfl hqt ?_; rw [Hy.out]; intro bb ob hbb hcb))
                    | (with_reducible refine at_wpP ?_; refine at_ld 51 _ rfl ?_; have qm := hcb; refine wpList_ldE rfl _ rfl bb ob rfl y hcb ?_)
                    | (with_reducible refine at_wpP ?_; refine wpList_allocE rfl rfl ?_; intro g8 w8 hg8 b8 f8 s8; have l8 := b8.lt; have z8 := f8.size)
                    | (with_reducible refine at_wpP ?_; refine at_st 51 _ _ rfl ?_; go_must (refine wpList_stE rfl _ _ rfl g8 rfl (0, 0) y b8 rfl ?_; intro w9 b9 f9; have F9 := Fr.ownX f8 s8 f9; have z9 := f9.size; obtain ⟨k90, k91⟩ := EnB.all b9))
                    | (go_at_call 8; go_must (refine (get_F y.2 (s7.fr0 F9) hm5 HR.out).mono ?_; rintro e w10 ⟨v10, rfl, n10, o10, f10⟩; have hv10 := NdS.sl n10; have hb10 := NdS.bl n10; have F10 := F9.thenN f10; have z10 := f10.size))
                    | (with_reducible refine at_wpP ?_; have qm := n10; refine wpList_allocN rfl rfl ?_; intro g11 w11 hg11 b11 f11 s11; have l11 := b11.lt; have z11 := f11.size)
                    | (with_reducible refine at_wpP ?_; refine at_st 28 _ _ rfl ?_; go_must (refine wpList_stN rfl _ _ rfl g11 rfl R.1.k R.1.b v10 rfl hb10.out hv10 0 (zerB 16) nilS b11 (zerB_len 16) ?_; intro w12 b12 f12; have F12 := F10.thenN (Fr.ownX f11 s11 f12))))
                  go_roundw
                  case rel => exact ⟨q + 1, by omega, by go_num, by rw [hsucc.out]; rfl, hf.thenN F12⟩
                  case measure => simp [intOf]; omega
            · obtain rfl : q = n.es.length := by omega
              have hqt' : ¬ (n.es.length : Int) < (n.es.length : Int) := by omega
              rw [List.take_length]
              have hM := hG.out.mark
              have hok0 := sF.ok
              have hokM := mark_ok hok0
              have hlM := mark_len L
              have hU := sF.up
              have hmark := nmark_any _ s7
              have hth : thereB X L n.es = !(kids n).any (fun p => !plHeld (plMark L) p) := by
                rw [thereB_kids hG.out n]
                congr 2
                funext p
                rw [held_mark]
              obtain ⟨M, HM⟩ : ∃ M, Hid (plMark L = M) := ⟨_, rfl⟩
              rw [HM.out] at hM hokM hlM hmark hth
              obtain ⟨E, HE⟩ : ∃ E, Hid (((plFree M : Nat) : Int) = E) := ⟨_, rfl⟩
              rw [← hlM] at hU
              have hlM := show Hid _ from hlM
              cases hr : n.right with
              | false =>
                have hmk := makeB_no X M hr
                obtain ⟨T, HT⟩ : ∃ T, Hid (thereB X L n.es = T) := ⟨_, rfl⟩
                rw [HT.out]
                go_wp2_with (first
                  | (go_at_call 20; go_must (refine hmark.mono ?_; rintro e w20 ⟨gm, rfl, sgm, pm, s20, f20⟩; have lgm := pm.lt; have z20 := f20.size; have b20 := BxV.ne b7 f20 (by omega); have D20 := D7.thenT f20 (fun i hi q => by unfold onB1 at q; omega)))
                  | (go_at_call 15; have qm := s23; go_must (refine (npool_any _ s23).mono ?_; rintro e w24 ⟨rfl, rfl⟩))
                  | (go_at_call 15; go_must (refine (npool_any _ s20).mono ?_; rintro e w20' ⟨rfl, rfl⟩))
                  | (go_at_call 18; have qm := s23; go_must (refine (free_F s23 HE.out).mono ?_; rintro e w25 ⟨rfl, rfl⟩))
                  | (go_at_call 18; go_must (refine (free_F s20 HE.out).mono ?_; rintro e w20'' ⟨rfl, rfl⟩))
                  | (with_reducible refine at_wpP ?_; refine at_ld 28 (.tmp 5) rfl ?_; have qm := b21; refine wpList_ldN rfl _ rfl g5 rfl n.k n.b (.slice ae n.es.length ce) b21 hbl.out ?_)
                  | (with_reducible refine at_wpP ?_; refine at_ld 28 (.tmp 5) rfl ?_; have qm := b20; refine wpList_ldN rfl _ rfl g5 rfl n.k n.b (.slice ae n.es.length ce) b20 hbl.out ?_)
                  | (go_at_call 9; go_must (refine (make_F n (.slice ae n.es.length ce) s20 hm5 (hnS.fr0 D20) hmk).mono ?_; rintro e w21 ⟨rfl, F', s21, hF', f21⟩; have z21 := f21.size; have b21 := BxV.fr b20 f21 (by unfold stB; rintro (q | q); (have := tF _ q; omega); omega); have pm21 := BxV.fr pm f21 (by unfold stB; rintro (q | q); (have := tF _ q; omega); omega); have D21 := D20.thenT f21 (fun i hi q => by unfold stB at q; rcases q with q | q; (have := aF _ q; omega); omega)))
                  | (go_at_call 21; go_must (refine (nrright_any n (.slice ae n.es.length ce) _ (hnS.fr0 D21)).mono ?_; rw [hr]; rintro e w22 ⟨rfl, f22⟩; have b22 := b21.fr0 f22; have z22 := f22.size; have s22 := s21.fr0 f22; have D22 := D21.thenN f22))
                  | (go_at_call 23; go_must (refine (nundo_any _ s22 (pm21.fr0 f22) hokM rfl).mono ?_; rintro e w23 ⟨rfl, s23, f23⟩; have D23 := D22.thenT f23 (fun i hi q => by unfold onB1 at q; omega))))
                go_roundw
                case rel => exact ⟨j + 1, X, M, m + 1, by omega, by go_num, ⟨F', s23, (fun k hk => by rcases (hF' k hk).1 with q | q; exact aF k q; omega), bF, cF, D23⟩, hM, by omega⟩
                case measure => simp [intOf]; omega
              | true =>
                cases ha : (kids n).any (fun p => !plHeld M p) with
                | true =>
                  have hmk := makeB_lack X M hr ha
                  rw [ha] at hth
                  rw [hth]
                  go_wp2_with (first
                    | (go_at_call 20; go_must (refine hmark.mono ?_; rintro e w20 ⟨gm, rfl, sgm, pm, s20, f20⟩; have lgm := pm.lt; have z20 := f20.size; have b20 := BxV.ne b7 f20 (by omega); have D20 := D7.thenT f20 (fun i hi q => by unfold onB1 at q; omega)))
                    | (go_at_call 15; have qm := s23; go_must (refine (npool_any _ s23).mono ?_; rintro e w24 ⟨rfl, rfl⟩))
                    | (go_at_call 15; go_must (refine (npool_any _ s20).mono ?_; rintro e w20' ⟨rfl, rfl⟩))
                    | (go_at_call 18; have qm := s23; go_must (refine (free_F s23 HE.out).mono ?_; rintro e w25 ⟨rfl, rfl⟩))
                    | (go_at_call 18; go_must (refine (free_F s20 HE.out).mono ?_; rintro e w20'' ⟨rfl, rfl⟩))
                    | (with_reducible refine at_wpP ?_; refine at_ld 28 (.tmp 5) rfl ?_; have qm := b21; refine wpList_ldN rfl _ rfl g5 rfl n.k n.b (.slice ae n.es.length ce) b21 hbl.out ?_)
                    | (with_reducible refine at_wpP ?_; refine at_ld 28 (.tmp 5) rfl ?_; have qm := b20; refine wpList_ldN rfl _ rfl g5 rfl n.k n.b (.slice ae n.es.length ce) b20 hbl.out ?_)
                    | (go_at_call 9; go_must (refine (make_F n (.slice ae n.es.length ce) s20 hm5 (hnS.fr0 D20) hmk).mono ?_; rintro e w21 ⟨rfl, F', s21, hF', f21⟩; have z21 := f21.size; have b21 := BxV.fr b20 f21 (by unfold stB; rintro (q | q); (have := tF _ q; omega); omega); have pm21 := BxV.fr pm f21 (by unfold stB; rintro (q | q); (have := tF _ q; omega); omega); have D21 := D20.thenT f21 (fun i hi q => by unfold stB at q; rcases q with q | q; (have := aF _ q; omega); omega)))
                    | (go_at_call 21; go_must (refine (nrright_any n (.slice ae n.es.length ce) _ (hnS.fr0 D21)).mono ?_; rw [hr]; rintro e w22 ⟨rfl, f22⟩; have b22 := b21.fr0 f22; have z22 := f22.size; have s22 := s21.fr0 f22; have D22 := D21.thenN f22))
                    | (go_at_call 23; go_must (refine (nundo_any _ s22 (pm21.fr0 f22) hokM rfl).mono ?_; rintro e w23 ⟨rfl, s23, f23⟩; have D23 := D22.thenT f23 (fun i hi q => by unfold onB1 at q; omega))))
                  go_roundw
                  case rel => exact ⟨j + 1, X, M, m + 1, by omega, by go_num, ⟨F', s23, (fun k hk => by rcases (hF' k hk).1 with q | q; exact aF k q; omega), bF, cF, D23⟩, hM, by omega⟩
                  case measure => simp [intOf]; omega
                | false =>
                  rw [ha] at hth
                  rw [hth]
                  by_cases hf0 : plFree M = 0
                  · have hmk := makeB_full X hr ha hf0
                    obtain rfl : E = 0 := by rw [← HE.out, hf0]; rfl
                    go_wp2_with (first
                      | (go_at_call 20; go_must (refine hmark.mono ?_; rintro e w20 ⟨gm, rfl, sgm, pm, s20, f20⟩; have lgm := pm.lt; have z20 := f20.size; have b20 := BxV.ne b7 f20 (by omega); have D20 := D7.thenT f20 (fun i hi q => by unfold onB1 at q; omega)))
                      | (go_at_call 15; have qm := s23; go_must (refine (npool_any _ s23).mono ?_; rintro e w24 ⟨rfl, rfl⟩))
                      | (go_at_call 15; go_must (refine (npool_any _ s20).mono ?_; rintro e w20' ⟨rfl, rfl⟩))
                      | (go_at_call 18; have qm := s23; go_must (refine (free_F s23 HE.out).mono ?_; rintro e w25 ⟨rfl, rfl⟩))
                      | (go_at_call 18; go_must (refine (free_F s20 HE.out).mono ?_; rintro e w20'' ⟨rfl, rfl⟩))
                      | (with_reducible refine at_wpP ?_; refine at_ld 28 (.tmp 5) rfl ?_; have qm := b21; refine wpList_ldN rfl _ rfl g5 rfl n.k n.b (.slice ae n.es.length ce) b21 hbl.out ?_)
                      | (with_reducible refine at_wpP ?_; refine at_ld 28 (.tmp 5) rfl ?_; have qm := b20; refine wpList_ldN rfl _ rfl g5 rfl n.k n.b (.slice ae n.es.length ce) b20 hbl.out ?_)
                      | (go_at_call 9; go_must (refine (make_F n (.slice ae n.es.length ce) s20 hm5 (hnS.fr0 D20) hmk).mono ?_; rintro e w21 ⟨rfl, F', s21, hF', f21⟩; have z21 := f21.size; have b21 := BxV.fr b20 f21 (by unfold stB; rintro (q | q); (have := tF _ q; omega); omega); have pm21 := BxV.fr pm f21 (by unfold stB; rintro (q | q); (have := tF _ q; omega); omega); have D21 := D20.thenT f21 (fun i hi q => by unfold stB at q; rcases q with q | q; (have := aF _ q; omega); omega)))
                      | (go_at_call 21; go_must (refine (nrright_any n (.slice ae n.es.length ce) _ (hnS.fr0 D21)).mono ?_; rw [hr]; rintro e w22 ⟨rfl, f22⟩; have b22 := b21.fr0 f22; have z22 := f22.size; have s22 := s21.fr0 f22; have D22 := D21.thenN f22))
                      | (go_at_call 23; go_must (refine (nundo_any _ s22 (pm21.fr0 f22) hokM rfl).mono ?_; rintro e w23 ⟨rfl, s23, f23⟩; have D23 := D22.thenT f23 (fun i hi q => by unfold onB1 at q; omega))))
                    go_roundw
                    case rel => exact ⟨j + 1, X, M, m + 1, by omega, by go_num, ⟨F', s23, (fun k hk => by rcases (hF' k hk).1 with q | q; exact aF k q; omega), bF, cF, D23⟩, hM, by omega⟩
                    case measure => simp [intOf]; omega
                  · obtain ⟨X', L', p, e, hmk, hG', hlL', hokL', hcase⟩ := makeB hU hokM hM hr hob ha hf0
                    have hE0 : (E == 0) = false := by
                      have := HE.out
                      simp; omega
                    rcases hcase with rfl | ⟨rfl, hget, hho, hGh⟩
                    · go_wp2_with (first
                        | (go_at_call 20; go_must (refine hmark.mono ?_; rintro e w20 ⟨gm, rfl, sgm, pm, s20, f20⟩; have lgm := pm.lt; have z20 := f20.size; have b20 := BxV.ne b7 f20 (by omega); have D20 := D7.thenT f20 (fun i hi q => by unfold onB1 at q; omega)))
                        | (go_at_call 15; go_must (refine (npool_any _ s20).mono ?_; rintro e w20' ⟨rfl, rfl⟩))
                        | (go_at_call 18; go_must (refine (free_F s20 HE.out).mono ?_; rintro e w20'' ⟨rfl, rfl⟩))
                        | (with_reducible refine at_wpP ?_; refine at_ld 28 (.tmp 5) rfl ?_; have qm := b21; refine wpList_ldN rfl _ rfl g5 rfl n.k n.b (.slice ae n.es.length ce) b21 hbl.out ?_)
                        | (with_reducible refine at_wpP ?_; refine at_ld 28 (.tmp 5) rfl ?_; have qm := b20; refine wpList_ldN rfl _ rfl g5 rfl n.k n.b (.slice ae n.es.length ce) b20 hbl.out ?_)
                        | (go_at_call 9; go_must (refine (make_F n (.slice ae n.es.length ce) s20 hm5 (hnS.fr0 D20) hmk).mono ?_; rintro e w21 ⟨rfl, F', s21, hF', f21⟩; have z21 := f21.size; have b21 := BxV.fr b20 f21 (by unfold stB; rintro (q | q); (have := tF _ q; omega); omega); have pm21 := BxV.fr pm f21 (by unfold stB; rintro (q | q); (have := tF _ q; omega); omega); have D21 := D20.thenT f21 (fun i hi q => by unfold stB at q; rcases q with q | q; (have := aF _ q; omega); omega)))
                        | (go_at_call 21; go_must (refine (nrright_any n (.slice ae n.es.length ce) _ (hnS.fr0 D21)).mono ?_; rw [hr]; rintro e w22 ⟨rfl, f22⟩; have b22 := b21.fr0 f22; have z22 := f22.size; have s22 := s21.fr0 f22; have D22 := D21.thenN f22)))
                      go_ret
                      exact ⟨rfl, D22.below⟩
                    · obtain ⟨M2, e2⟩ : ∃ M2, plHold L' p = (M2, 0) := ⟨(plHold L' p).1, by rw [← hho]⟩
                      rw [e2] at hGh
                      have hse : n.same n = true := same_self n
                      have hgb : Hid ((n, (0 : Int)).1.b.length = 16) := hbl.out
                      go_wp2_with (first
                        | (go_at_call 20; go_must (refine hmark.mono ?_; rintro e w20 ⟨gm, rfl, sgm, pm, s20, f20⟩; have lgm := pm.lt; have z20 := f20.size; have b20 := BxV.ne b7 f20 (by omega); have D20 := D7.thenT f20 (fun i hi q => by unfold onB1 at q; omega)))
                        | (go_at_call 15; go_must (refine (npool_any _ s20).mono ?_; rintro e w20' ⟨rfl, rfl⟩))
                        | (go_at_call 18; go_must (refine (free_F s20 HE.out).mono ?_; rintro e w20'' ⟨rfl, rfl⟩))
                        | (with_reducible refine at_wpP ?_; refine at_ld 28 (.tmp 15) rfl ?_; have qm := b32; refine wpList_ldN rfl _ rfl g31 rfl n.k n.b v30 b32 hbl.out ?_)
                        | (with_reducible refine at_wpP ?_; refine at_ld 28 (.tmp 5) rfl ?_; have qm := b33; refine wpList_ldN rfl _ rfl g5 rfl n.k n.b (.slice ae n.es.length ce) b33 hbl.out ?_)
                        | (with_reducible refine at_wpP ?_; refine at_ld 28 (.tmp 5) rfl ?_; have qm := b21; refine wpList_ldN rfl _ rfl g5 rfl n.k n.b (.slice ae n.es.length ce) b21 hbl.out ?_)
                        | (with_reducible refine at_wpP ?_; refine at_ld 28 (.tmp 5) rfl ?_; have qm := b20; refine wpList_ldN rfl _ rfl g5 rfl n.k n.b (.slice ae n.es.length ce) b20 hbl.out ?_)
                        | (go_at_call 9; go_must (refine (make_F n (.slice ae n.es.length ce) s20 hm5 (hnS.fr0 D20) hmk).mono ?_; rintro e w21 ⟨rfl, F', s21, hF', f21⟩; have z21 := f21.size; have b21 := BxV.fr b20 f21 (by unfold stB; rintro (q | q); (have := tF _ q; omega); omega); have pm21 := BxV.fr pm f21 (by unfold stB; rintro (q | q); (have := tF _ q; omega); omega); have D21 := D20.thenT f21 (fun i hi q => by unfold stB at q; rcases q with q | q; (have := aF _ q; omega); omega)))
                        | (go_at_call 21; go_must (refine (nrright_any n (.slice ae n.es.length ce) _ (hnS.fr0 D21)).mono ?_; rw [hr]; rintro e w22 ⟨rfl, f22⟩; have b22 := b21.fr0 f22; have z22 := f22.size; have s22 := s21.fr0 f22; have D22 := D21.thenN f22))
                        | (go_at_call 8; go_must (refine (get_F p s22 (by omega) hget).mono ?_; rintro e w30 ⟨v30, rfl, n30, o30, f30⟩; have hv30 := NdS.sl n30; have z30 := f30.size; have s30 := s22.fr0 f30; have b30 := b22.fr0 f30))
                        | (with_reducible refine at_wpP ?_; have qm := n30; refine wpList_allocN rfl rfl ?_; intro g31 w31 hg31 b31 f31 s31; have l31 := b31.lt; have z31 := f31.size)
                        | (with_reducible refine at_wpP ?_; refine at_st 28 _ _ rfl ?_; go_must (refine wpList_stN rfl _ _ rfl g31 rfl n.k n.b v30 rfl hbl.out hv30 0 (zerB 16) nilS b31 (zerB_len 16) ?_; intro w32 b32 f32; have F32 := Fr.ownX f31 s31 f32; have s32 := s30.fr0 F32; have b33 := b30.fr0 F32; have N32 := NdS.fr0 n30 F32; have D32 := (D22.thenN f30).thenN F32))
                        | (go_at_call 22; go_must (refine (rsame_any n n v30 (.slice ae n.es.length ce) _ N32 (hnS.fr0 D32)).mono ?_; rw [hse]; rintro e w34 ⟨rfl, f34⟩; have s34 := s32.fr0 f34; have D34 := D32.thenN f34))
                        | (go_at_call 10; go_must (refine (hold_F p s34 e2).mono ?_; rintro e w35 ⟨rfl, s35, f35⟩; have D35 := D34.thenT f35 (fun i hi q => by unfold onB1 at q; omega))))
                      go_roundw
                      case rel => exact ⟨j + 1, X', M2, m + 1, by omega, by go_num, ⟨F', s35, (fun k hk => by rcases (hF' k hk).1 with q | q; exact aF k q; omega), bF, cF, D35⟩, hGh, by omega⟩
                      case measure => simp [intOf]; omega
      · obtain rfl : j = l.length := by omega
        have hjl : ¬ (l.length : Int) < (l.length : Int) := by omega
        go_wp2
        go_ret
        exact ⟨rfl, dF.below⟩
end Go.Proofs.Ytamfnjliikiifaa
