/- Texts VC, UL, UM, UP, RI6 of the proof of PruneNames, one behind the other. -/
import Derived.Deep.RegionLaw
import Derived.Lib.AppendZeros
import Derived.Lib.SliceRun
import Derived.Test.YtmkinaijkgkgiaaBundlePruneNames1
import Derived.Test.YtmkinaijkgkgiaaBundlePruneNames2
import Derived.Test.YtmkinaijkgkgiaaBundlePruneNames3
import Derived.Test.YtmkinaijkgkgiaaBundlePruneNames4
import Derived.Test.YtmkinaijkgkgiaaBundlePruneNames5
import Derived.Test.YtmkinaijkgkgiaaBundlePruneNames6
import Derived.Test.YtmkinaijkgkgiaaBundlePruneNames7
import Derived.Test.YtmkinaijkgkgiaaBundlePruneNames8
import Derived.Test.YtmkinaijkgkgiaaBundlePruneNames9
import Derived.Test.YtmkinaijkgkgiaaBundlePruneNames10
import Derived.Test.YtmkinaijkgkgiaaBundlePruneNames11
import Derived.Test.YtmkinaijkgkgiaaBundlePruneNames12
import Derived.Test.YtmkinaijkgkgiaaBundlePruneNames13
import Derived.Test.YtmkinaijkgkgiaaBundlePruneNames14
import Derived.Test.YtmkinaijkgkgiaaBundlePruneNames15
import Derived.Test.YtmkinaijkgkgiaaBundlePruneNames16
import Derived.Test.YtmkinaijkgkgiaaBundlePruneNames17
import Derived.Test.YtmkinaijkgkgiaaBundlePruneNames18
import Derived.Test.YtmkinaijkgkgiaaBundlePruneNames19
import Derived.Test.YtmkinaijkgkgiaaBundlePruneNames20
import Derived.Test.YtmkinaijkgkgiaaBundlePruneNames21
import Derived.Test.YtmkinaijkgkgiaaBundlePruneNames22
import Derived.Test.YtmkinaijkgkgiaaBundlePruneNames23
/- Blocks and one tree in a store, whatever its root's size: how often pages are held, how many are used; a root swapped for another; no condition. -/
namespace Go.Proofs.Ytmkinaijkgkgiaa
open Go.RowKit Go.Proofs.U
set_option linter.unusedSimpArgs false
set_option linter.unusedVariables false
/-- The blocks and the tree that there is. -/
structure FamK (X : DSt) (R : List Int) (B : List Int) (Ts : List (Nat × Int)) : Prop where
  bl : ∀ b ∈ B, 0 ≤ b ∧ (rdN X b).1.k = 1 ∧ (rdN X b).1.es = []
  tr : ∀ t ∈ Ts, 0 ≤ t.2 ∧ okT X t.1 t.2 0 64 ∧ ∀ z ∈ lsT X t.1 t.2, z.2 ∈ B
  rt : ∀ r ∈ R, r ∈ B ∨ ∃ t ∈ Ts, t.2 = r
theorem FamK.live {X : DSt} {L : List Pg} {R : List Int} {B : List Int} {Ts : List (Nat × Int)} (f : FamK X R B Ts) (h : Inv X L R) {q : Nat} (hq : 0 < cntL L q) : (q : Int) ∈ famP X B Ts := by
  obtain ⟨rk, hfl⟩ := h.fl
  have hr := (Exact.live_iff h.di.ex hfl).1 hq
  clear hq
  induction hr with
  | root hm =>
    obtain ⟨r, hr, rfl⟩ := List.mem_map.1 hm
    rw [Int.toNat_of_nonneg (h.nn r hr)]
    unfold famP
    rcases f.rt r hr with hb | ⟨t, ht, rfl⟩
    · exact List.mem_append_left _ hb
    · refine List.mem_append_right _ (List.mem_flatMap.2 ⟨t, ht, ?_⟩)
      rw [occ_cons]; simp
  | child hq hm ih =>
    obtain ⟨x, hx, rfl⟩ := List.mem_map.1 hm
    unfold famP at ih ⊢
    rcases List.mem_append.1 ih with hb | ho
    · rw [show kids (rdN X _).1 = [] by unfold kids; rw [(f.bl _ hb).2.2]; rfl] at hx
      cases hx
    · obtain ⟨t, ht, ho⟩ := List.mem_flatMap.1 ho
      rcases occ_kids (f.tr t ht).2.1 (f.tr t ht).2.2 _ ho x hx with h1 | h1
      · rw [Int.toNat_of_nonneg (f.bl x h1).1]
        exact List.mem_append_left _ h1
      · have h2 := h.di.kid (Exact.reached h.di.ex hq) x hx
        rw [Int.toNat_of_nonneg h2.1]
        exact List.mem_append_right _ (List.mem_flatMap.2 ⟨t, ht, h1⟩)
theorem FamK.nn {X : DSt} {R : List Int} {B : List Int} {Ts : List (Nat × Int)} (f : FamK X R B Ts) : ∀ x ∈ famP X B Ts, 0 ≤ x := by
  intro x hx
  rcases List.mem_append.1 hx with h | h
  · exact (f.bl x h).1
  · obtain ⟨t, ht, h⟩ := List.mem_flatMap.1 h
    exact occ_nn (f.tr t ht).2.1 (f.tr t ht).1 x h
theorem FamK.cnt {X : DSt} {L : List Pg} {R : List Int} {B : List Int} {Ts : List (Nat × Int)} (f : FamK X R B Ts) (h : Inv X L R) (q : Nat) :
    cntL L q ≤ R.count (q : Int) + (Ts.map fun t => (lsT X t.1 t.2).length + (occT X t.1 t.2).length).sum := by
  have e := h.di.ex.cnt q
  rw [count_toNat h.nn q] at e
  rw [e]
  refine Nat.add_le_add_left ?_ _
  unfold byCh
  have e1 : (U.live L.length (cntL L)).map (fun r => (chX X r).count q) = (U.live L.length (cntL L)).map fun r : Nat => (kids (rdN X (r : Int)).1).count (q : Int) := by
    refine List.map_congr_left fun r hr => ?_
    have hr := (mem_live.1 hr).2
    unfold chX
    exact count_toNat (fun x hx => (h.di.kid hr x hx).1) q
  rw [e1]
  have hnn := f.nn
  refine Nat.le_trans (sum_sub (W := (famP X B Ts).map Int.toNat) (live_nodup _ _) fun r hr => ?_) ?_
  · have := f.live h (mem_live.1 hr).2
    exact List.mem_map.2 ⟨(r : Int), this, by simp⟩
  · rw [List.map_map]
    have e2 : (famP X B Ts).map ((fun r : Nat => (kids (rdN X (r : Int)).1).count (q : Int)) ∘ Int.toNat) = (famP X B Ts).map fun x => (kids (rdN X x).1).count (q : Int) := by
      refine List.map_congr_left fun x hx => ?_
      show (kids (rdN X ((x.toNat : Nat) : Int)).1).count (q : Int) = _
      rw [Int.toNat_of_nonneg (hnn x hx)]
    rw [e2]
    unfold famP
    rw [List.map_append, sum_app, sum_flat]
    have hB : (B.map fun x => (kids (rdN X x).1).count (q : Int)).sum = 0 := by
      have : (B.map fun x => (kids (rdN X x).1).count (q : Int)) = B.map fun _ => 0 := List.map_congr_left fun x hx => by
        unfold kids
        rw [(f.bl x hx).2.2]
        rfl
      rw [this]
      exact sum_zero B
    rw [hB, Nat.zero_add]
    refine sum_le fun t ht => ?_
    obtain ⟨h0, ht2, hb⟩ := f.tr t ht
    rw [kids_sum (q : Int) ht2]
    have h1 := cnt_le (lsT X t.1 t.2) (q : Int)
    have h2 := List.count_le_length (a := (q : Int)) (l := (occT X t.1 t.2).tail)
    have h4 : (occT X t.1 t.2).tail.length ≤ (occT X t.1 t.2).length := by rw [List.length_tail]; omega
    omega
/-- Pages are fresh, or young, or spent, or nothing: none was there at a Commit. -/
def okM (x : Pg) : Prop := x.s = 1 ∨ x.s = 2 ∨ x.s = 3 ∨ (x.s = 0 ∧ x.c = 0)
def yng (x : Pg) : Bool := x.s == 2 || x.s == 3
/-- .. and so many are young, or spent. -/
structure PlM (k : Nat) (L : List Pg) : Prop where
  ok : ∀ i, okM (plAt L i)
  yn : L.countP yng = k
theorem PlM.set {k : Nat} {L : List Pg} (h : PlM k L) {i : Nat} (hi : i < L.length) {x : Pg} (hx : okM x) (hy : yng x = yng (plAt L i)) : PlM k (L.set i x) := by
  refine ⟨fun j => ?_, ?_⟩
  · rw [plAt_set _ _ _ _ hi]
    split
    · exact hx
    · exact h.ok j
  · rw [List.countP_set (h := hi), ← plAt_get L i hi, hy, h.yn]
    have : (if yng (plAt L i) = true then 1 else 0) ≤ k := by
      rw [← h.yn]
      split
      · rename_i hq
        exact List.countP_pos_iff.2 ⟨L[i], by simp, by rw [← plAt_get L i hi]; exact hq⟩
      · omega
    omega
theorem PlM.take {k : Nat} {L : List Pg} (h : PlM k L) : PlM k (plTake L).1 := by
  rcases plTake_cases L with ⟨i, hi, hf, _, e⟩ | ⟨_, e⟩
  · rw [e]
    refine h.set hi (Or.inl rfl) ?_
    unfold Pg.free at hf
    simp only [Bool.and_eq_true, beq_iff_eq] at hf
    unfold yng
    rw [hf.2]
    rfl
  · rw [e]; exact h
theorem PlM.hold {k : Nat} {L : List Pg} (h : PlM k L) (p : Int) : PlM k (plHold L p).1 := by
  rcases hold_cases L p with ⟨_, e⟩ | ⟨_, _, e⟩ | ⟨hh, _, e⟩
  · rw [e]; exact h
  · rw [e]; exact h
  · rw [e]
    have hr := plHeld_rng hh
    refine h.set (by omega) ?_ rfl
    rcases h.ok p.toNat with q | q | q | ⟨q, qc⟩
    · exact Or.inl q
    · exact Or.inr (Or.inl q)
    · exact Or.inr (Or.inr (Or.inl q))
    · unfold plHeld Pg.held at hh
      rw [q, qc] at hh
      simp at hh
theorem PlM.drop1 {k : Nat} {L : List Pg} (hok : plOk L) (h : PlM k L) (p : Int) : PlM k (plDrop L p).1 := by
  unfold plDrop
  split
  · rename_i hh
    simp only [Bool.and_eq_true] at hh
    have hi := (plIn_lt hh.1).1
    have hx := h.ok p.toNat
    split
    · rename_i hc
      refine h.set hi ?_ rfl
      rcases hx with q | q | q | ⟨q, qc⟩
      · exact Or.inl q
      · exact Or.inr (Or.inl q)
      · exact Or.inr (Or.inr (Or.inl q))
      · omega
    · have hs3 : ¬ (plAt L p.toNat).s = 3 := fun q => by
        have h3 := (hok.2 p.toNat).2.2.2 (by omega)
        have h4 := hh.2
        unfold Pg.held at h4
        rw [q, h3] at h4
        simp at h4
      rcases hx with q | q | q | ⟨q, qc⟩
      · refine h.set hi (Or.inr (Or.inr (Or.inr ⟨by simp only [q]; rfl, rfl⟩))) ?_
        unfold yng dropS; simp only [q]; rfl
      · refine h.set hi (Or.inr (Or.inr (Or.inl (by simp only [q]; rfl)))) ?_
        unfold yng dropS; simp only [q]; rfl
      · exact absurd q hs3
      · have h4 := hh.2
        unfold Pg.held at h4
        rw [q, qc] at h4
        simp at h4
  · exact h
theorem PlM.drop {X : DSt} {k : Nat} (n : Nat) {L : List Pg} (hok : plOk L) (h : PlM k L) (p : Int) : PlM k (dropF X n L p).1 :=
  (dropF_inv (I := fun M => plOk M ∧ PlM k M) (fun M q g => ⟨drop_ok g.1 q, g.2.drop1 g.1 q⟩) n L p ⟨hok, h⟩).2
theorem PlM.holds {k : Nat} (l : List Int) {L : List Pg} (h : PlM k L) : PlM k (eachF plHold L l).1 := eachF_inv (I := PlM k) (fun M q g => g.hold q) l L h
theorem PlM.make {k : Nat} {X : DSt} {L : List Pg} (h : PlM k L) (n : Nd) : PlM k (makeF X L n).1.2 := by
  unfold makeF
  split
  · split
    · exact h
    · split
      · split
        · exact h.take.holds _
        · exact h.take.holds _
      · exact h.take
  · exact h
theorem PlM.splA {k : Nat} {kd : Int} : ∀ (ps : List (List (Int × Int))) {S : DSt × List Pg} (tops : List (Int × Int)), PlM k S.2 → PlM k (splA kd S tops ps).1.2
  | [], S, tops, h => h
  | p :: ps, S, tops, h => by
    rw [Go.Proofs.Ytmkinaijkgkgiaa.splA]
    split
    · exact PlM.splA ps _ (h.make _)
    · exact h.make _
theorem PlM.spl {k : Nat} {kd : Int} {S : DSt × List Pg} (es : List (Int × Int)) (h : PlM k S.2) : PlM k (splF S kd es).1.2 := by
  unfold splF
  split
  · exact h
  · exact PlM.splA _ _ h
theorem PlM.place {k : Nat} {kd : Int} {S : DSt × List Pg} (l : List (Int × Int)) (i : Nat) (c : List (Int × Int)) (h : PlM k S.2) : PlM k (placeF S kd l i c).1.2 := by
  unfold placeF
  split
  · exact h
  · exact PlM.spl _ h
theorem PlM.wio {k : Nat} {X : DSt} {L : List Pg} (h : PlM k L) : ∀ (lv : Nat) (es : List (Int × Int)) (key : Int), PlM k (wioF X L lv es key).1.2
  | 0, _, _ => h
  | lv + 1, es, key => by
    unfold wioF
    split
    · exact PlM.place _ _ _ (PlM.wio h lv _ key)
    · exact PlM.wio h lv _ key
theorem PlM.cut {k : Nat} {X : DSt} {L : List Pg} (h : PlM k L) : ∀ (lv : Nat) (p : Int) (key : Int), PlM k (cutF X L lv p key).1.2 := by
  have top : ∀ lv es key, PlM k (topF lv (wioF X L lv es key)).1.2 := fun lv es key => by
    unfold topF
    split
    · split
      · exact PlM.wio h lv _ key
      · exact PlM.spl _ (PlM.wio h lv _ key)
    · exact PlM.wio h lv _ key
  intro lv
  induction lv with
  | zero => intro p key; exact top 0 _ key
  | succ lv ih =>
    intro p key
    unfold cutF
    split
    · exact ih _ key
    · exact top (lv + 1) _ key
/-- How many pages aren't free. -/
theorem FamK.used {X : DSt} {L : List Pg} {R : List Int} {B : List Int} {Ts : List (Nat × Int)} {k : Nat} (f : FamK X R B Ts) (h : Inv X L R) (y : PlM k L) : L.length ≤ plFree L + (k + (famP X B Ts).length) := by
  have h1 : (U.live L.length (cntL L)).length ≤ (famP X B Ts).length := by
    have := len_sub (W := (famP X B Ts).map Int.toNat) (live_nodup L.length (cntL L)) fun r hr => by
      have := f.live h (mem_live.1 hr).2
      exact List.mem_map.2 ⟨(r : Int), this, by simp⟩
    rwa [List.length_map] at this
  have h2 : L.length ≤ plFree L + (L.countP yng + (U.live L.length (cntL L)).length) := by
    have key : ∀ n, n ≤ L.length → n ≤ (L.take n).countP Pg.free + ((L.take n).countP yng + ((List.range n).filter fun q => decide (0 < cntL L q)).length) := by
      intro n
      induction n with
      | zero => intro _; omega
      | succ n ih =>
        intro hn
        have := ih (by omega)
        rw [List.take_succ_eq_append_getElem (by omega), List.countP_append, List.countP_append, List.range_succ, List.filter_append, List.length_append]
        have hx : 1 ≤ [L[n]].countP Pg.free + ([L[n]].countP yng + ([n].filter fun q => decide (0 < cntL L q)).length) := by
          have hp : plAt L n = L[n] := plAt_get L n (by omega)
          rcases y.ok n with hy | hy | hy | ⟨hs, hc⟩
          · have hf : (plAt L n).frsh = true := by unfold Pg.frsh; rw [hy]; rfl
            have hc := h.di.nf n hf
            have : 0 < cntL L n := (cnt_pos n).2 hc
            simp [List.filter, this]; omega
          · have : yng L[n] = true := by rw [← hp]; unfold yng; rw [hy]; rfl
            simp [List.countP_cons, this]; omega
          · have : yng L[n] = true := by rw [← hp]; unfold yng; rw [hy]; rfl
            simp [List.countP_cons, this]; omega
          · have : L[n].free = true := by rw [← hp]; unfold Pg.free; rw [hs, hc]; rfl
            simp [List.countP_cons, this]
        omega
    have := key L.length (Nat.le_refl _)
    rw [List.take_length] at this
    exact this
  have := y.yn
  omega
theorem PlY.toM {L : List Pg} (y : PlY L) : PlM 0 L := by
  refine ⟨fun i => (y i).elim Or.inl (fun q => Or.inr (Or.inr (Or.inr q))), ?_⟩
  rw [List.countP_eq_zero]
  intro x hx
  obtain ⟨i, hi, rfl⟩ := List.mem_iff_getElem.1 hx
  have := y i
  rw [plAt_get L i hi] at this
  unfold yng
  rcases this with q | ⟨q, _⟩ <;> rw [q] <;> decide
end Go.Proofs.Ytmkinaijkgkgiaa
/- Entries of a row are cleared, or appended where there is room; laws of the model; no condition. -/
namespace Go.Proofs.U
open Go.RowKit
set_option linter.unusedSimpArgs false
set_option linter.unusedVariables false
variable {P : Program}
/-- clear of some elements, of whatever size. -/
theorem run_clrN {w : World} {g : Nat} {tb : TypeId} {cur : List Value} (hB : BxV w g tb cur) (t e ty : TypeId) (z : Value) (sz : Nat) (ht : P.underlying t = some (.slice e)) (hi : (P.info? e).map (fun i => (i.zero, i.size)) = some (some z, sz)) (hz : z.cells.size = sz) (h1 : ∀ u ∈ z.cells.toList, u.oneCell' = true) (off n c : Nat) (hn : 0 < n) (hfit : off + n * sz ≤ cur.length) :
    ∃ cs : List Value, cs.length = n * sz ∧ (Builtin.clear_ #[t] ty #[.slice (some ⟨g, off, none⟩) n c]).run P w = .ok (.tuple #[]) (w.setCells g off cs) := by
  have hlen : (Builtin.zeroCells z.cells n).toList.length = n * sz := by rw [Array.length_toList, size_zeroCells, hz]
  refine ⟨(Builtin.zeroCells z.cells n).toList, hlen, ?_⟩
  have hone : ∀ v ∈ (Builtin.zeroCells z.cells n).toList, v.oneCell' = true := by
    intro v hv
    unfold Builtin.zeroCells at hv
    rw [Array.toList_map] at hv
    obtain ⟨j, hj, rfl⟩ := List.mem_map.1 hv
    have hj2 : j < n * z.cells.size := by simpa using hj
    have hs : 0 < z.cells.size := Nat.pos_of_ne_zero fun q => by rw [q] at hj2; omega
    have hlt : j % z.cells.size < z.cells.size := Nat.mod_lt _ hs
    rw [getElem!_pos z.cells _ hlt]
    exact h1 _ (Array.getElem_mem_toList hlt)
  obtain ⟨i, hq, hi2⟩ := Option.map_eq_some_iff.1 hi
  simp only [Prod.mk.injEq] at hi2
  have hv : ∀ w, (zeroValue e).run P w = .ok z w := fun w => by simp [zeroValue, typeInfo, hq, hi2.1]
  have hst := run_storeCells_cells (P := P) g off (Builtin.zeroCells z.cells n).toList 0 w (fun j hj => (hB.thereR off _ (by rw [hlen]; exact hfit) j hj).1) (fun j hj => (hB.thereR off _ (by rw [hlen]; exact hfit) j hj).2) hone
  simp only [Nat.add_zero] at hst
  obtain ⟨m, rfl⟩ : ∃ m, n = m + 1 := ⟨n - 1, by omega⟩
  simp [Builtin.clear_, run_underlying ht, hv, hst]
theorem wpList_clrN {w : World} {ops : Array Oper} {rest : List Oper} {o : Oper} {a : Act} {Q : Exit → Act → World → Prop} (hgd : Region.wanted o (yielded ops a.tmps) = true) (x : Operand) (t e : TypeId) (ho : o.op = .call { callee := .builtin .clear, args := #[x], argTypes := #[t] }) (z : Value) (sz : Nat) (ht : P.underlying t = some (.slice e))
    (hi : (P.info? e).map (fun i => (i.zero, i.size)) = some (some z, sz)) (hz : z.cells.size = sz) (h1 : ∀ u ∈ z.cells.toList, u.oneCell' = true) (g : Nat) (tb : TypeId) (cur : List Value) (hB : BxV w g tb cur) (off n c : Nat) (hx : a.eval x = .slice (some ⟨g, off, none⟩) n c) (hn : 0 < n) (hfit : off + n * sz ≤ cur.length)
    (h : ∀ cs w', cs.length = n * sz → BxV w' g tb (putAt cur off cs) → Fr (onB1 g) w w' → wpList P ops Q rest (a.put o.dst (.tuple #[])) w') : wpList P ops Q (o :: rest) a w := by
  refine wpList_wanted hgd fun K hK => ?_
  obtain ⟨cs, hl, hr⟩ := run_clrN (P := P) hB t e o.type z sz ht hi hz h1 off n c hn hfit
  unfold Oper.wp
  simp [execOp, ho, resolve, invoke, builtin, hx, hr, Result.andThen]
  exact hK _ _ (h cs _ hl (setCells_bx cs off w cur hB (by rw [hl]; exact hfit)) (setCells_fr1 _ _ _ _))
/-- append where there is room. -/
theorem wpList_appRm {w : World} {ops : Array Oper} {rest : List Oper} {o : Oper} {a : Act} {Q : Exit → Act → World → Prop} (hgd : o.guard = none) (s x : Operand) (t : TypeId) (ho : o.op = .call { callee := .builtin .append, args := #[s, x], argTypes := #[t, t] })
    (e : TypeId) (sz : Nat) (ht : P.underlying t = some (.slice e)) (hs : (P.info? e).map (·.size) = some sz) (g : Nat) (tb : TypeId) (cur : List Value) (hB : BxV w g tb cur) (n cap : Nat) (hsv : a.eval s = .slice (some ⟨g, 0, none⟩) n cap) (ad : Addr) (m c : Nat) (hx : a.eval x = .slice (some ad) m c) (cs : List Value) (hl : cs.length = m * sz)
    (hsrc : ∀ j u, cs[j]? = some u → w.cell? (ad.add j) = some u) (hroom : n + m ≤ cap) (hfit : n * sz + cs.length ≤ cur.length) (h1 : ∀ u ∈ cs, u.oneCell' = true)
    (h : ∀ w', BxV w' g tb (putAt cur (n * sz) cs) → Fr (onB1 g) w w' → wpList P ops Q rest (a.put o.dst (.slice (some ⟨g, 0, none⟩) (n + m) cap)) w') : wpList P ops Q (o :: rest) a w := by
  obtain ⟨i, hq, hi⟩ := Option.map_eq_some_iff.1 hs
  subst hi
  have hrun := run_append_room_cells (P := P) (w := w) t o.type e i ht hq g 0 n cap ad m c cs hl hsrc h1 hroom (fun j hj => by rw [Nat.zero_add]; exact (hB.thereR _ cs.length hfit j hj).1) (fun j hj => by rw [Nat.zero_add]; exact (hB.thereR _ cs.length hfit j hj).2)
  rw [Nat.zero_add] at hrun
  exact Lib.wpList_append_run w hgd s x t t ho _ _ hsv hx _ _ hrun (h _ (setCells_bx cs _ w cur hB hfit) (setCells_fr1 _ _ _ _))
/-- append of nothing. -/
theorem wpList_app0 {w : World} {ops : Array Oper} {rest : List Oper} {o : Oper} {a : Act} {Q : Exit → Act → World → Prop} (hgd : o.guard = none) (s x : Operand) (t : TypeId) (ho : o.op = .call { callee := .builtin .append, args := #[s, x], argTypes := #[t, t] })
    (e : TypeId) (sz : Nat) (ht : P.underlying t = some (.slice e)) (hs : (P.info? e).map (·.size) = some sz) (ao : Option Addr) (n cap : Nat) (hsv : a.eval s = .slice ao n cap) (hle : n ≤ cap) (ao' : Option Addr) (c : Nat) (hx : a.eval x = .slice ao' 0 c)
    (h : wpList P ops Q rest (a.put o.dst (.slice ao n cap)) w) : wpList P ops Q (o :: rest) a w := by
  obtain ⟨i, hq, hi⟩ := Option.map_eq_some_iff.1 hs
  have hrun : (Builtin.append_ #[t, t] o.type #[.slice ao n cap, .slice ao' 0 c]).run P w = .ok (.slice ao n cap) w := by
    cases ao <;> cases ao' <;> simp [Builtin.append_, run_underlying ht, sizeOf, typeInfo, hq, hle, Builtin.firstCells, Builtin.lenOf, storeCells, loadCells, loadCellsFrom]
  exact Lib.wpList_append_run w hgd s x t t ho _ _ hsv hx _ _ hrun h
/-- A row of noughts is made. -/
theorem wpList_appN0 {w : World} {ops : Array Oper} {rest : List Oper} {o : Oper} {a : Act} {Q : Exit → Act → World → Prop} (hgd : o.guard = none) (s x : Operand) (t tn : TypeId) (ho : o.op = .call { callee := .builtin .append, args := #[s, x], argTypes := #[t, tn] })
    (e : TypeId) (z : Value) (sz bytes : Nat) (ht : P.underlying t = some (.slice e)) (kn : IntKind) (htn : P.underlying tn = some (.int kn)) (hinfo : (P.info? e).map (fun i => (i.zero, i.size, i.bytes)) = some (some z, sz, bytes)) (hzs : z.cells.size = sz) (hsz : 0 < sz)
    (hs : a.eval s = .slice none 0 0) (kq : IntKind) (k : Nat) (hx : a.eval x = .int kq (k : Int)) (h0 : 0 < k) (hml : k ≤ maxLen) (hbytes : k * bytes ≤ 140737488355328)
    (h : ∀ g' cap' cur' w', BxV w' g' e cur' → Fr noB w w' → w.heap.size ≤ g' → k ≤ cap' → cap' ≤ maxLen → cur'.length = cap' * sz → wpList P ops Q rest (a.put o.dst (.slice (some ⟨g', 0, none⟩) k cap')) w') : wpList P ops Q (o :: rest) a w := by
  obtain ⟨i0, hi, hz0, hz1, hz2⟩ := info_parts hinfo
  have hml' : (k : Int) ≤ 9223372036854775807 := by unfold maxLen at hml; omega
  have hr := Lib.run_append_nil_zeros (P := P) w t tn o.type e i0 z kq kn ht htn hi hz0 k h0 (by omega) hml' (by rw [hz2]; omega)
  refine Lib.wpList_append_run w hgd s x t tn ho _ _ hs hx _ _ hr ?_
  have hge := grownCap_ge w k 0 e
  have hle := grownCap_le_maxLen w k 0 e hml
  have e1 : (Builtin.zeroCells z.cells k ++ Builtin.zeroCells z.cells (grownCap w k 0 e - k)) = ((Builtin.zeroCells z.cells k).toList ++ (Builtin.zeroCells z.cells (grownCap w k 0 e - k)).toList).toArray := by
    apply Array.ext'
    simp
  rw [e1]
  refine h w.heap.size _ _ _ (heap_alloc_new w.drew _) (((Fr.refl _ _).drew).alloc _) (Nat.le_refl _) hge hle ?_
  rw [List.length_append, Array.length_toList, Array.length_toList, size_zeroCells, size_zeroCells, hzs, ← Nat.add_mul]
  congr 1
  omega
end Go.Proofs.U
/- slices.Delete of one entry; no condition. -/
namespace Go.Proofs.Ytmkinaijkgkgiaa
open Go.RowKit Go.Proofs.U
set_option linter.unusedSimpArgs false
set_option linter.unusedVariables false
theorem at_clrP {P : Program} {ops : Array Oper} {rest : List Oper} {o : Oper} {a : Act} {w : World} {Q : Exit → Act → World → Prop} (x : Operand) (t : TypeId) (ho : o.op = .call { callee := .builtin .clear, args := #[x], argTypes := #[t] }) (h : wpList P ops Q (o :: rest) a w) : wpList P ops Q (o :: rest) a w := h
theorem en_zz : (Try.prog.info? 36).map (fun i => (i.zero, i.size)) = some (some (.agg (enC (0, 0)).toArray), 2) := en_info2
theorem en_zone : ∀ u ∈ (Value.agg (enC (0, 0)).toArray).cells.toList, u.oneCell' = true := by
  intro u hu
  exact en_one (0, 0) u hu
/-- Cells of which some were moved to the left. -/
theorem del_take {cur cs : List Value} {l : List (Int × Int)} {i : Nat} (hi : i < l.length) (ht : cur.take (l.length * 2) = l.flatMap enC) (hl : l.length * 2 ≤ cur.length) (hcs : cs.length = 1 * 2) :
    (putAt (putAt cur (i * 2) ((l.drop (i + 1)).flatMap enC)) ((l.length - 1) * 2) cs).take ((dropAt l i).length * 2) = (dropAt l i).flatMap enC ∧ (putAt (putAt cur (i * 2) ((l.drop (i + 1)).flatMap enC)) ((l.length - 1) * 2) cs).length = cur.length := by
  have hdl : (l.drop (i + 1)).length = l.length - (i + 1) := List.length_drop
  have hda : (dropAt l i).length = l.length - 1 := by unfold dropAt; rw [List.length_append, List.length_take, hdl]; omega
  have h1 : (putAt cur (i * 2) ((l.drop (i + 1)).flatMap enC)).length = cur.length := putAt_len _ _ _ (by rw [fl_len, hdl]; omega)
  refine ⟨?_, by rw [putAt_len _ _ _ (by rw [hcs, h1]; omega), h1]⟩
  rw [hda]
  have e1 : ∀ X : List Value, (l.length - 1) * 2 ≤ X.length → (putAt X ((l.length - 1) * 2) cs).take ((l.length - 1) * 2) = X.take ((l.length - 1) * 2) := fun X hX => by
    unfold putAt
    rw [List.append_assoc, List.take_left' (by rw [List.length_take]; omega)]
  rw [e1 _ (by rw [h1]; omega)]
  unfold putAt
  have hA : (cur.take (i * 2)).length = i * 2 := by rw [List.length_take]; omega
  rw [List.take_left' (by rw [List.length_append, hA, fl_len, hdl]; omega), cur_take ht i (by omega)]
  unfold dropAt
  rw [List.flatMap_append]
set_option maxRecDepth 100000 in
set_option maxHeartbeats 4000000 in
theorem delE_any {w : World} {base : Nat} {v : Value} {l : List (Int × Int)} {i : Nat} (hb : base ≤ w.heap.size) (hO : EnO w base v l) (hi : i < l.length) (hl : l.length ≤ 1000) :
    Calls Try.prog 54 #[v, .int .i64 (i : Int), .int .i64 ((i : Int) + 1)] w fun r w' => InsIs w w' base v (dropAt l i) r := by
  rcases hO.parts with ⟨_, rfl⟩ | ⟨g, cap, cur, hv', hbg, hB, hnc, hcm, hcl, hct⟩
  · simp at hi
  subst hv'
  obtain ⟨n, Hn⟩ : ∃ n, Hid (l.length = n) := ⟨_, rfl⟩
  have hdel := fun cs => del_take (cs := cs) hi hct (by omega)
  have hcd := drop_src hB hct (i + 1)
  have hdl : Hid ((l.drop (i + 1)).length = n - (i + 1)) := by rw [← Hn.out]; exact List.length_drop
  have hda : Hid ((dropAt l i).length = n - 1) := by
    have := hdl.out
    show (dropAt l i).length = n - 1
    unfold dropAt; rw [List.length_append, List.length_take, this, Hn.out]; rw [Hn.out] at hi; omega
  rw [Hn.out] at hi hl hnc hct hdel ⊢
  have hcm' : cap ≤ 9223372036854775807 := by unfold maxLen at hcm; omega
  have hz1 : ((i : Int) == (i : Int) + 1) = false := by simp; omega
  have uE1 := run_underlying uE
  have zE := Try.sizeOf36
  have mixed : Try.prog.follows Departure.mixedOrders = true := by kernel_rfl
  have hB0 : BxV w.drew g 36 cur := hB
  have hfit : i * 2 + ((l.drop (i + 1)).flatMap enC).length ≤ cur.length := by have := hdl.out; rw [fl_len, hdl.out]; omega
  have hsrc : ∃ A : Addr, (if cap = i + 1 then some (⟨g, 0, none⟩ : Addr) else some ⟨g, (i + 1) * 2, none⟩) = some A ∧ Hid (∀ t u, ((l.drop (i + 1)).flatMap enC)[t]? = some u → w.drew.cell? (A.add t) = some u) := by
    by_cases h : cap = i + 1
    · refine ⟨⟨g, 0, none⟩, by simp [h], fun t u hu => ?_⟩
      have h0 : (l.drop (i + 1)).length = 0 := by rw [hdl.out]; omega
      rw [List.length_eq_zero_iff.1 h0] at hu
      simp at hu
    · exact ⟨⟨g, (i + 1) * 2, none⟩, by simp [h], hcd⟩
  obtain ⟨A, hA, hsrc⟩ := hsrc
  obtain ⟨i0, hi0, hiz⟩ := Option.map_eq_some_iff.1 en_size
  have s1 : Hid (((l.drop (i + 1)).flatMap enC).length = (n - (i + 1)) * 2) := by show _ = _; rw [fl_len, hdl.out]
  have s3 : Hid (∀ t, t < ((l.drop (i + 1)).flatMap enC).length → (w.drew.cell? ⟨g, 0 + i * 2 + t, none⟩).isSome = true ∧ w.drew.frozen? ⟨g, 0 + i * 2 + t, none⟩ = false) := fun t ht => by
    rw [Nat.zero_add]
    exact hB0.thereR _ _ hfit t ht
  obtain ⟨W1, hW1⟩ : ∃ W1, Hid (w.drew.setCells g (0 + i * 2) ((l.drop (i + 1)).flatMap enC) = W1) := ⟨_, rfl⟩
  have b1 := setCells_bx ((l.drop (i + 1)).flatMap enC) (i * 2) w.drew _ hB0 hfit
  have f1 := setCells_fr1 w.drew g ((l.drop (i + 1)).flatMap enC) (i * 2)
  have hW1' := hW1.out
  rw [Nat.zero_add] at hW1'
  rw [hW1'] at b1 f1
  clear hW1'
  have F1 : Fr (onB1 g) w W1 := ((Fr.refl _ w).drew).thenT f1 (fun _ _ q => q)
  have hic : i ≤ cap := by omega
  have hjc : i + 1 ≤ cap := by omega
  have hin : i + 1 ≤ n := by omega
  have hp1 : (0 : Int) ≤ (i : Int) + 1 := by omega
  have hp3 : ((i : Int) + 1).toNat = i + 1 := by omega
  have hp4 : (i : Int) + 1 ≤ (n : Int) := by omega
  have hp5 : n ≤ cap := hnc
  have hp6 : ¬ n ≤ i := by omega
  have hnn : i + (n - (i + 1)) = n - 1 := by omega
  have hq1 : n - 1 ≤ n := by omega
  have hq2 : n - 1 ≤ cap := by omega
  have hq3 : n - (n - 1) = 1 := by omega
  have hq4 : ¬ cap = n - 1 := by omega
  clear hct hcd hO hi hb
  go_enter Try.func54, Try.ntmps54
  go_wp2_with fail
  go_region_law_o (refine step_append_room rfl (.tmp 22) (.tmp 25) 38 rfl 36 i0 2 uE hi0 hiz g 0 i cap (by simp [Act.eval, Act.put]) A (n - (i + 1)) (cap - (i + 1)) ((l.drop (i + 1)).flatMap enC) (by simp [Act.eval, Act.put, hA]) s1.out hsrc.out (fl_one _) (by omega) s3.out ?_; rw [hW1.out])
  have hc4 : (cap == n - 1) = false := by simp; omega
  go_wp2_with (first
    | (refine at_clrP _ _ rfl ?_; go_must (refine wpList_clrN rfl _ 38 36 rfl _ 2 uE en_zz rfl en_zone g 36 _ b1 ((n - 1) * 2) 1 (cap - (n - 1)) (by simp [Act.eval, Act.put, hq3, hq4, Addr.add_lit]) (by omega) (by rw [putAt_len _ _ _ hfit]; omega) ?_; intro cs w2 hcs b2 f2)))
  go_ret
  have hd := hdel cs hcs
  rw [hda.out] at hd
  refine ⟨_, rfl, EnO.mk hbg b2 hda.out.symm (by rw [hda.out]; omega) hcm (by rw [hd.2, hcl]) (by rw [hda.out]; exact hd.1), (F1.thenT f2 (fun _ _ q => q)).mono (fun k _ q => by unfold onB1 at q; subst q; rfl), fun k hk => Or.inl hk⟩
end Go.Proofs.Ytmkinaijkgkgiaa
/- A pruner's receiver; which nodes are inner ones of one entry; no condition. -/
namespace Go.Proofs.Ytmkinaijkgkgiaa
open Go.RowKit Go.Proofs.U
set_option linter.unusedSimpArgs false
set_option linter.unusedVariables false
theorem pr_cell {w : World} {g gs : Nat} (h : BxV w g 26 [ptr gs]) : w.cell? ⟨g, 0, none⟩ = some (ptr gs) := (h.cell 0 _ rfl).1
theorem pr_size : (Try.prog.info? 26).map (·.size) = some 1 := by kernel_rfl
theorem pr_struct : Try.prog.underlying 26 = some (.struct (Try.prog.fieldsOf 26)) := by kernel_rfl
theorem run_ldP {w : World} {g gs : Nat} (h : BxV w g 26 [ptr gs]) : (Instr.loadAt 26 (.pointer (some ⟨g, 0, none⟩))).run Try.prog w = .ok (trV gs) w := by
  have := run_loadVar_mid (P := Try.prog) w g 0 26 [ptr gs] _ (h.range 0 _ rfl) pr_struct rfl pr_size
  simpa [Instr.loadAt, Instr.sureAddr, Result.andThen, trV] using this
theorem wpList_ldP {w : World} {ops : Array Oper} {rest : List Oper} {o : Oper} {a : Act} {Q : Exit → Act → World → Prop} (hgd : Region.wanted o (yielded ops a.tmps) = true) (y : Operand) (ho : o.op = .load 26 y) (g : Nat) (hy : a.eval y = .pointer (some ⟨g, 0, none⟩)) (gs : Nat) (hB : BxV w g 26 [ptr gs])
    (h : wpList Try.prog ops Q rest (a.put o.dst (trV gs)) w) : wpList Try.prog ops Q (o :: rest) a w := by
  refine wpList_wanted hgd fun K hK => ?_
  have hr := run_ldP hB
  unfold Oper.wp
  simp [execOp, ho, hy, hr, Result.andThen]
  exact hK _ _ h
theorem run_ldPT {w : World} {g gs : Nat} (h : BxV w g 26 [ptr gs]) : (Instr.loadAt 24 (.pointer (some ⟨g, 0, none⟩))).run Try.prog w = .ok (trV gs) w := by
  have := run_loadVar_mid (P := Try.prog) w g 0 24 [ptr gs] _ (h.range 0 _ rfl) tr_struct rfl tr_size
  simpa [Instr.loadAt, Instr.sureAddr, Result.andThen, trV] using this
theorem wpList_ldPT {w : World} {ops : Array Oper} {rest : List Oper} {o : Oper} {a : Act} {Q : Exit → Act → World → Prop} (hgd : Region.wanted o (yielded ops a.tmps) = true) (y : Operand) (ho : o.op = .load 24 y) (g : Nat) (hy : a.eval y = .pointer (some ⟨g, 0, none⟩)) (gs : Nat) (hB : BxV w g 26 [ptr gs])
    (h : wpList Try.prog ops Q rest (a.put o.dst (trV gs)) w) : wpList Try.prog ops Q (o :: rest) a w := by
  refine wpList_wanted hgd fun K hK => ?_
  have hr := run_ldPT hB
  unfold Oper.wp
  simp [execOp, ho, hy, hr, Result.andThen]
  exact hK _ _ h
def soleN (n : Nd) : Bool := n.k == 3 && ((n.es.length : Int) == 1)
set_option maxRecDepth 100000 in
set_option maxHeartbeats 2000000 in
theorem sole_any {w : World} {v : Value} {N : Nd} (n : NdS w v N) :
    Calls Try.prog 37 #[ndV N.k N.b v] w fun r w' => r = .returned (.bool (soleN N)) ∧ Fr noB w w' := by
  have hb := NdS.bl n
  obtain ⟨a, c, hv, _⟩ := n.slr.opn
  subst hv
  unfold soleN
  obtain ⟨nk, nb, nes⟩ := N
  simp only at hb ⊢
  obtain ⟨m, Hm⟩ : ∃ m, Hid (nes.length = m) := ⟨_, rfl⟩
  rw [Hm.out]
  cases hk : (nk == 3) with
  | false =>
    go_enter Try.func37, Try.ntmps37
    go_wp2_with (first
      | (with_reducible refine at_wpP ?_; refine wpList_boxN rfl _ rfl nk nb _ rfl ?_; intro g3 w3 hg3 b3 f3 s3; have l3 := b3.lt; have z3 := f3.size; have q3 := NdB.ents b3 hb.out; have k3 := NdB.kind b3))
    go_ret
    exact ⟨rfl, f3⟩
  | true =>
    go_enter Try.func37, Try.ntmps37
    go_wp2_with (first
      | (with_reducible refine at_wpP ?_; refine wpList_boxN rfl _ rfl nk nb _ rfl ?_; intro g3 w3 hg3 b3 f3 s3; have l3 := b3.lt; have z3 := f3.size; have q3 := NdB.ents b3 hb.out; have k3 := NdB.kind b3))
    go_ret
    exact ⟨rfl, f3⟩
end Go.Proofs.Ytmkinaijkgkgiaa
/- Regions that draw their order, in which operations turn memory in no fixed order: a relation over those that have come; no condition. (Written by ri6_gen.py.) -/
namespace Go.Proofs.U
open Go.RowKit
set_option linter.unusedVariables false
set_option linter.unusedSimpArgs false
def updM (m : Nat → Option Value) (i : Nat) (v : Value) : Nat → Option Value := fun j => if j = i then some v else m j
theorem updM_at (m : Nat → Option Value) (i : Nat) (v : Value) : updM m i v i = some v := if_pos rfl
theorem updM_ne (m : Nat → Option Value) {i j : Nat} (v : Value) (h : j ≠ i) : updM m i v j = m j := if_neg h
theorem DepT.before {ops : Array Oper} {listed : Array Bool} (hcl : ∀ i, listed.getD i false = true → ∀ o, ops[i]? = some o → ∀ e ∈ o.after, Region.binds .any e = true → listed.getD e.on false = true) {i j : Nat} {o : Oper} (ho : ops[i]? = some o) (hall : ∀ e ∈ o.after, Region.binds .any e = true → listed.getD e.on false = true) (h : DepT ops i j) : listed.getD j false = true := by
  cases h with
  | one ho' he hbe hi => rw [ho] at ho'; cases ho'; rw [← hi]; exact hall _ he hbe
  | more ho' he hbe hd => rw [ho] at ho'; cases ho'; exact hd.listed hcl (hall _ he hbe)
section
variable {P : Program} {ops : Array Oper} {Q : Exit → Act → World → Prop}
structure KnowM (ops : Array Oper) (hs : List Nat) (F : Nat → Value → Prop) (J : (Nat → Option Value) → World → Prop) (a0 : Act) (listed : Array Bool) (a : Act) (w : World) (m : Nat → Option Value) : Prop where
  out : ∀ i, i ∉ hs → m i = none
  pre : ∀ i, i ∈ hs → (listed.getD i false = true ↔ (m i).isSome = true)
  val : ∀ (i d : Nat) (v : Value), m i = some v → dstAt ops i = some d → a.tmps.getD d undef = v
  dfr : a.defers = a0.defers
  sz : a.tmps.size = a0.tmps.size
  base : ∀ s, (∀ i, dstAt ops i ≠ some s) → a.tmps.getD s undef = a0.tmps.getD s undef
  fact : ∀ i d, i ∉ hs → listed.getD i false = true → dstAt ops i = some d → F i (a.tmps.getD d undef)
  inv : J m w
def HandsM (P : Program) (ops : Array Oper) (hs : List Nat) (F : Nat → Value → Prop) (J : (Nat → Option Value) → World → Prop) (a0 : Act) (Q : Exit → Act → World → Prop) (i : Nat) (o : Oper) : Prop :=
  ∀ (a : Act) (w : World) (m : Nat → Option Value), (∀ j, DepT ops j i → m j = none) → (∀ j, j ∈ hs → DepT ops i j → (m j).isSome = true) → m i = none → J m w → (∀ s, (∀ i, dstAt ops i ≠ some s) → a.eval (.tmp s) = a0.eval (.tmp s)) →
    (∀ e ∈ o.after, Region.binds .any e = true → ∀ d, dstAt ops e.on = some d → (e.on ∉ hs → F e.on (a.eval (.tmp d))) ∧ (e.on ∈ hs → m e.on = some (a.eval (.tmp d)))) →
    (i ∉ hs → if Region.wanted o (yielded ops a.tmps) = true then o.wp P a w (fun a' w' => ∃ v, a' = a.put o.dst v ∧ J m w' ∧ F i v) Q else F i undef) ∧
    (i ∈ hs → if Region.wanted o (yielded ops a.tmps) = true then o.wp P a w (fun a' w' => ∃ v, a' = a.put o.dst v ∧ J (updM m i v) w') Q else J (updM m i undef) w)

theorem wp_region_M {id : Nat} {a0 : Act} {w : World} (hm : P.follows .mixedOrders = true) (hs : List Nat) (F : Nat → Value → Prop) (J : (Nat → Option Value) → World → Prop) (hJ : J (fun _ => none) w.drew)
    (hlow : ∀ (i : Nat) (o : Oper), ops[i]? = some o → ∀ e ∈ o.after, Region.binds .any e = true → e.on < i)
    (hdist : ∀ i j d, dstAt ops i = some d → dstAt ops j = some d → i = j)
    (hin : ∀ i d, dstAt ops i = some d → d < a0.tmps.size)
    (hhs : ∀ i ∈ hs, i < ops.size)
    (hob : ∀ (i : Nat) (o : Oper), ops[i]? = some o → HandsM P ops hs F J a0 Q i o)
    (hend : ∀ a w' m, (∀ i ∈ hs, (m i).isSome = true) → J m w' → a.defers = a0.defers → a.tmps.size = a0.tmps.size → (∀ s, (∀ i, dstAt ops i ≠ some s) → a.eval (.tmp s) = a0.eval (.tmp s)) →
      (∀ i d, i ∉ hs → dstAt ops i = some d → F i (a.eval (.tmp d))) → (∀ (i d : Nat) (v : Value), m i = some v → dstAt ops i = some d → a.eval (.tmp d) = v) → Q .normal a w') : (Code.region id ops true).wp P Q a0 w := by
  refine wp_region_any hm ?_
  show wpAny P .any ops Q ops.size (Array.replicate ops.size false) a0 w.drew
  refine wpAny_inv (fun listed a w' => listed.size = ops.size ∧ (∃ m, KnowM ops hs F J a0 listed a w' m) ∧ ∀ i, listed.getD i false = true → ∀ o, ops[i]? = some o → ∀ e ∈ o.after, Region.binds .any e = true → listed.getD e.on false = true) ?_ ?_ ops.size (List.range ops.size) _ a0 _ ?_ (by simp) ?_
  · rintro listed a w' i ⟨hsz, ⟨m, hK⟩, hcl⟩ hi
    obtain ⟨hun, o, ho, hall⟩ := mem_ready.1 hi
    have hilt : i < listed.size := by
      rcases Nat.lt_or_ge i listed.size with h' | h'
      · exact h'
      · simp [Array.getElem?_eq_none h'] at hun
    have hunf : listed.getD i false = false := by
      have h2 : listed.getD i true = listed.getD i false := by simp [hilt]
      rw [← h2]; exact hun
    have hdo : dstAt ops i = o.dst := by simp [dstAt, ho]
    have mi : m i = none := by
      by_cases hh : i ∈ hs
      · cases hm' : m i with
        | none => rfl
        | some v => have := (hK.pre i hh).2 (by rw [hm']; rfl); rw [hunf] at this; cases this
      · exact hK.out i hh
    have hdep : ∀ e ∈ o.after, Region.binds .any e = true → ∀ d, dstAt ops e.on = some d → (e.on ∉ hs → F e.on (a.eval (.tmp d))) ∧ (e.on ∈ hs → m e.on = some (a.eval (.tmp d))) := by
      intro e he hb d hd
      have hl := hall e he hb
      refine ⟨fun hn => hK.fact e.on d hn hl hd, fun hk => ?_⟩
      obtain ⟨v, hv⟩ := Option.isSome_iff_exists.1 ((hK.pre e.on hk).1 hl)
      rw [hv]
      exact congrArg some (hK.val e.on d v hv hd).symm
    have hbef : ∀ j, DepT ops j i → m j = none := by
      intro j hd
      by_cases hh : j ∈ hs
      · cases hm' : m j with
        | none => rfl
        | some v =>
          have h1 := (hK.pre j hh).2 (by rw [hm']; rfl)
          have h2 := hd.listed hcl h1
          rw [hunf] at h2; cases h2
      · exact hK.out j hh
    have haft : ∀ j, j ∈ hs → DepT ops i j → (m j).isSome = true := fun j hj hd => (hK.pre j hj).1 (hd.before hcl ho hall)
    have key := hob i o ho a w' m hbef haft mi hK.inv hK.base hdep
    have lk : ∀ j, listed.getD j false = true → (listed.setIfInBounds i true).getD j false = true := by
      intro j hj
      by_cases hij : i = j
      · subst hij; simp [hilt]
      · simpa [Array.getElem?_setIfInBounds, hij] using hj
    have ldj : ∀ j, (listed.setIfInBounds i true).getD j false = true → j = i ∨ listed.getD j false = true := by
      intro j hj
      by_cases hij : i = j
      · exact Or.inl hij.symm
      · exact Or.inr (by simpa [Array.getElem?_setIfInBounds, hij] using hj)
    have lsame : (listed.setIfInBounds i true).getD i false = true := by simp [hilt]
    have lother : ∀ j, j ≠ i → (listed.setIfInBounds i true).getD j false = listed.getD j false := by
      intro j hj
      simp [Ne.symm hj]
    have closed : ∀ j, (listed.setIfInBounds i true).getD j false = true → ∀ o, ops[j]? = some o → ∀ e ∈ o.after, Region.binds .any e = true → (listed.setIfInBounds i true).getD e.on false = true := by
      intro j hj oj hoj e he hbe
      rcases ldj j hj with rfl | hj'
      · rw [ho] at hoj; cases hoj
        exact lk _ (hall e he hbe)
      · exact lk _ (hcl j hj' oj hoj e he hbe)
    have cdfr : ∀ v, (a.put o.dst v).defers = a0.defers := fun v => by cases hd : o.dst <;> simpa [Act.put] using hK.dfr
    have csz : ∀ v, (a.put o.dst v).tmps.size = a0.tmps.size := fun v => by cases hd : o.dst <;> simpa [Act.put] using hK.sz
    have cbase : ∀ v s, (∀ i, dstAt ops i ≠ some s) → (a.put o.dst v).tmps.getD s undef = a0.tmps.getD s undef := fun v s hs' => by
      rw [put_other (fun e => hs' i (by rw [hdo]; exact e))]; exact hK.base s hs'
    have ne_dst : ∀ j d, j ≠ i → dstAt ops j = some d → o.dst ≠ some d := fun j d hj hd e => hj (hdist j i d hd (by rw [hdo]; exact e))
    unfold wpOp
    simp only [ho]
    by_cases hh : i ∈ hs
    · have next : ∀ v w'', J (updM m i v) w'' → (listed.setIfInBounds i true).size = ops.size ∧ (∃ m, KnowM ops hs F J a0 (listed.setIfInBounds i true) (a.put o.dst v) w'' m) ∧ ∀ j, (listed.setIfInBounds i true).getD j false = true → ∀ o, ops[j]? = some o → ∀ e ∈ o.after, Region.binds .any e = true → (listed.setIfInBounds i true).getD e.on false = true := by
        intro v w'' hJ'
        refine ⟨by simpa using hsz, ⟨updM m i v, ?_, ?_, ?_, cdfr v, csz v, cbase v, ?_, hJ'⟩, closed⟩
        · intro j hj
          rw [updM_ne m v (fun e => by subst e; exact hj hh)]
          exact hK.out j hj
        · intro j hj
          by_cases hii : j = i
          · subst hii
            rw [lsame, updM_at]; simp
          · rw [lother j hii, updM_ne m v hii]; exact hK.pre j hj
        · intro j d v2 hv2 hd2
          by_cases hii : j = i
          · subst hii
            rw [updM_at] at hv2
            cases hv2
            rw [hdo] at hd2
            exact put_same hd2 (by rw [hK.sz]; exact hin j d (by rw [hdo]; exact hd2))
          · rw [put_other (ne_dst j d hii hd2)]
            rw [updM_ne m v hii] at hv2
            exact hK.val j d v2 hv2 hd2
        · intro j d hj hl hd
          have hji : j ≠ i := fun e => hj (e ▸ hh)
          rw [put_other (ne_dst j d hji hd)]
          rw [lother j hji] at hl
          exact hK.fact j d hj hl hd
      have key2 := key.2 hh
      by_cases hw : Region.wanted o (yielded ops a.tmps) = true
      · rw [if_pos hw] at key2 ⊢
        refine Or.inl (Oper.wp_mono ?_ key2)
        rintro a' w'' ⟨v, rfl, hF⟩
        exact next v w'' hF
      · rw [if_neg hw] at key2 ⊢
        exact next undef w' key2
    · have next : ∀ v w'', J m w'' → F i v → (listed.setIfInBounds i true).size = ops.size ∧ (∃ m, KnowM ops hs F J a0 (listed.setIfInBounds i true) (a.put o.dst v) w'' m) ∧ ∀ j, (listed.setIfInBounds i true).getD j false = true → ∀ o, ops[j]? = some o → ∀ e ∈ o.after, Region.binds .any e = true → (listed.setIfInBounds i true).getD e.on false = true := by
        intro v w'' hJ' hF
        refine ⟨by simpa using hsz, ⟨m, hK.out, ?_, ?_, cdfr v, csz v, cbase v, ?_, hJ'⟩, closed⟩
        · intro j hj
          have hii : j ≠ i := fun e => hh (e ▸ hj)
          rw [lother j hii]; exact hK.pre j hj
        · intro j d v2 hv2 hd2
          have hii : j ≠ i := fun e => by subst e; rw [mi] at hv2; cases hv2
          rw [put_other (ne_dst j d hii hd2)]
          exact hK.val j d v2 hv2 hd2
        · intro j d hj hl hd
          by_cases hji : j = i
          · subst hji
            rw [hdo] at hd
            rw [put_same hd (by rw [hK.sz]; exact hin j d (by rw [hdo]; exact hd))]
            exact hF
          · rw [put_other (ne_dst j d hji hd)]
            rw [lother j hji] at hl
            exact hK.fact j d hj hl hd
      have key1 := key.1 hh
      by_cases hw : Region.wanted o (yielded ops a.tmps) = true
      · rw [if_pos hw] at key1 ⊢
        refine Or.inl (Oper.wp_mono ?_ key1)
        rintro a' w'' ⟨v, rfl, hJ', hF⟩
        exact next v w'' hJ' hF
      · rw [if_neg hw] at key1 ⊢
        exact next undef w' hK.inv key1
  · rintro listed a w' ⟨hsz, ⟨m, hK⟩, hcl⟩ h0
    have hall : ∀ n i, i < n → i < ops.size → listed.getD i false = true := by
      intro n
      induction n with
      | zero => intro i h; omega
      | succ n ihn =>
        intro i hi hlt
        rcases Nat.lt_or_ge i n with hn | hn
        · exact ihn i hn hlt
        · obtain rfl : i = n := by omega
          cases hq : listed.getD i false with
          | true => rfl
          | false =>
            exfalso
            have hls : i < listed.size := by omega
            have ho : ops[i]? = some ops[i] := Array.getElem?_eq_getElem hlt
            have hmem : i ∈ Region.ready .any ops listed := mem_ready.2 ⟨by
              have h2 : listed.getD i true = listed.getD i false := by simp [hls]
              rw [h2]; exact hq, ops[i], ho, fun e he hbe => ihn e.on (hlow i _ ho e he hbe) (by have := hlow i _ ho e he hbe; omega)⟩
            rw [h0] at hmem; cases hmem
    have inb : ∀ i d, dstAt ops i = some d → i < ops.size := by
      intro i d hd
      rcases Nat.lt_or_ge i ops.size with h' | h'
      · exact h'
      · simp [dstAt, Array.getElem?_eq_none h'] at hd
    exact hend a w' m (fun i hi => (hK.pre i hi).1 (hall (i + 1) i (by omega) (hhs i hi))) hK.inv hK.dfr hK.sz hK.base (fun i d hn hd => hK.fact i d hn (hall (i + 1) i (by omega) (inb i d hd)) hd) hK.val
  · intro i hi
    rcases Nat.lt_or_ge i ops.size with h' | h'
    · simpa using h'
    · simp [h'] at hi
  · have nolist : ∀ i, (Array.replicate ops.size false).getD i false = false := fun i => by
      rcases Nat.lt_or_ge i ops.size with h' | h' <;> simp [h']
    refine ⟨by simp, ⟨fun _ => none, fun _ _ => rfl, fun i hi => ?_, (fun i d v h => by cases h), rfl, rfl, fun _ _ => rfl, fun i d _ hl => ?_, hJ⟩, fun i hl => ?_⟩
    · rw [nolist i]; simp
    · rw [nolist i] at hl; cases hl
    · rw [nolist i] at hl; cases hl
def LightM (P : Program) (ops : Array Oper) (hs : List Nat) (fs : List (Value → Prop)) (J : (Nat → Option Value) → World → Prop) (a0 : Act) (Q : Exit → Act → World → Prop) (k : Nat) (o : Oper) : Prop :=
  ∀ (a : Act) (w : World) (m : Nat → Option Value), (∀ (n j : Nat), depTB ops n j k = true → m j = none) → (∀ (n j : Nat), hs.contains j = true → depTB ops n k j = true → (m j).isSome = true) → J m w → (∀ s, notDst ops s = true → a.eval (.tmp s) = a0.eval (.tmp s)) →
    (∀ j d, depOnB ops k j = true → hs.contains j = false → dstAt ops j = some d → factL fs j (a.eval (.tmp d))) →
    (∀ (j d : Nat), depOnB ops k j = true → hs.contains j = true → dstAt ops j = some d → m j = some (a.eval (.tmp d))) →
    if Region.wanted o (yielded ops a.tmps) = true then o.wp P a w (fun a' w' => ∃ v, a' = a.put o.dst v ∧ J m w' ∧ factL fs k v) Q else factL fs k undef
def HeavyM (P : Program) (ops : Array Oper) (hs : List Nat) (fs : List (Value → Prop)) (J : (Nat → Option Value) → World → Prop) (a0 : Act) (Q : Exit → Act → World → Prop) (k : Nat) (o : Oper) : Prop :=
  ∀ (a : Act) (w : World) (m : Nat → Option Value), (∀ (n j : Nat), depTB ops n j k = true → m j = none) → (∀ (n j : Nat), hs.contains j = true → depTB ops n k j = true → (m j).isSome = true) → m k = none → J m w → (∀ s, notDst ops s = true → a.eval (.tmp s) = a0.eval (.tmp s)) →
    (∀ j d, depOnB ops k j = true → hs.contains j = false → dstAt ops j = some d → factL fs j (a.eval (.tmp d))) →
    (∀ (j d : Nat), depOnB ops k j = true → hs.contains j = true → dstAt ops j = some d → m j = some (a.eval (.tmp d))) →
    if Region.wanted o (yielded ops a.tmps) = true then o.wp P a w (fun a' w' => ∃ v, a' = a.put o.dst v ∧ J (updM m k v) w') Q else J (updM m k undef) w
def HandMs (P : Program) (ops : Array Oper) (hs : List Nat) (fs : List (Value → Prop)) (J : (Nat → Option Value) → World → Prop) (a0 : Act) (Q : Exit → Act → World → Prop) : Nat → List Bool → List Oper → Prop
  | _, _, [] => True
  | _, [], _ :: _ => False
  | k, false :: ts, o :: r => LightM P ops hs fs J a0 Q k o ∧ HandMs P ops hs fs J a0 Q (k + 1) ts r
  | k, true :: ts, o :: r => HeavyM P ops hs fs J a0 Q k o ∧ HandMs P ops hs fs J a0 Q (k + 1) ts r
theorem handMs_get {hs : List Nat} {fs : List (Value → Prop)} {J : (Nat → Option Value) → World → Prop} {a0 : Act} : ∀ (l : List Oper) (ts : List Bool) (k : Nat), HandMs P ops hs fs J a0 Q k ts l → ∀ (i : Nat) (o : Oper), l[i]? = some o →
    (ts[i]? = some false ∧ LightM P ops hs fs J a0 Q (k + i) o) ∨ (ts[i]? = some true ∧ HeavyM P ops hs fs J a0 Q (k + i) o)
  | [], _, _, _, i, o, ho => by simp at ho
  | x :: l, [], k, h, _, o, ho => by cases h
  | x :: l, false :: ts, k, h, 0, o, ho => by simp at ho; subst ho; exact Or.inl ⟨rfl, h.1⟩
  | x :: l, true :: ts, k, h, 0, o, ho => by simp at ho; subst ho; exact Or.inr ⟨rfl, h.1⟩
  | x :: l, false :: ts, k, h, i + 1, o, ho => by
    have := handMs_get l ts (k + 1) h.2 i o (by simpa using ho)
    rwa [show k + 1 + i = k + (i + 1) by omega] at this
  | x :: l, true :: ts, k, h, i + 1, o, ho => by
    have := handMs_get l ts (k + 1) h.2 i o (by simpa using ho)
    rwa [show k + 1 + i = k + (i + 1) by omega] at this
def memOk (n : Nat) (hs : List Nat) (tags : List Bool) : Bool := decide (tags.length = n) && ((List.range n).all fun i => tags.getD i false == hs.contains i) && (hs.all fun i => decide (i < n))
theorem wp_region_M_lay {id : Nat} {l : List Oper} {a0 : Act} {w : World} (hm : P.follows .mixedOrders = true) (hs : List Nat) (tags : List Bool) (fs : List (Value → Prop)) (J : (Nat → Option Value) → World → Prop) (hJ : J (fun _ => none) w.drew)
    (hok : regionOkB l.toArray a0.tmps.size = true) (hck : memOk l.length hs tags = true)
    (hob : HandMs P l.toArray hs fs J a0 Q 0 tags l)
    (hend : ∀ (vs : Nat → Value) w' m, (∀ i, hs.contains i = true → (m i).isSome = true) → J m w' → (∀ i, hs.contains i = false → (l[i]?.bind (·.dst)).isSome = true → factL fs i (vs i)) →
      (∀ (i : Nat), hs.contains i = true → (l[i]?.bind (·.dst)).isSome = true → m i = some (vs i)) → Q .normal (layL l 0 vs a0) w') : (Code.region id l.toArray true).wp P Q a0 w := by
  have hdl : ∀ i, dstAt l.toArray i = l[i]?.bind (·.dst) := fun i => by simp [dstAt]
  obtain ⟨r1, r2, r3⟩ := regionOk_parts hok
  unfold memOk at hck
  simp only [Bool.and_eq_true, decide_eq_true_eq] at hck
  obtain ⟨⟨c1, c2⟩, c3⟩ := hck
  have htag : ∀ i, i < l.toArray.size → tags[i]? = some (hs.contains i) := by
    intro i hi
    have := List.all_eq_true.1 c2 i (by simpa using hi)
    have hlt : i < tags.length := by simp at hi; omega
    rw [List.getElem?_eq_getElem hlt]
    simpa [List.getD, hlt] using this
  have depOut : ∀ (i j : Nat) (o : Oper), l.toArray[i]? = some o → depOnB l.toArray i j = true → ∃ e ∈ o.after, Region.binds .any e = true ∧ e.on = j := by
    intro i j o ho hj
    unfold depOnB at hj
    rw [ho] at hj
    simp only at hj
    obtain ⟨n, hn, heq⟩ := Array.any_eq_true.1 hj
    exact ⟨o.after[n], Array.getElem_mem hn, by simpa [and_comm] using heq⟩
  refine wp_region_M hm hs (factL fs) J hJ r1 r3 r2 ?_ ?_ ?_
  · intro i hi
    have := of_decide_eq_true (List.all_eq_true.1 c3 i hi)
    simpa using this
  · intro i o ho a w' m hbef haft mi hJv hbase hdep
    have hlt : i < l.toArray.size := by
      rcases Nat.lt_or_ge i l.toArray.size with h' | h'
      · exact h'
      · rw [Array.getElem?_eq_none h'] at ho; cases ho
    have hb' : ∀ s, notDst l.toArray s = true → a.eval (.tmp s) = a0.eval (.tmp s) := fun s hs' => hbase s (notDst_spec hs')
    have hd1 : ∀ j d, depOnB l.toArray i j = true → hs.contains j = false → dstAt l.toArray j = some d → factL fs j (a.eval (.tmp d)) := by
      intro j d hj hc hd
      obtain ⟨e, he, hbe, rfl⟩ := depOut i j o ho hj
      exact (hdep e he hbe d hd).1 (by simpa using hc)
    have hd2 : ∀ (j d : Nat), depOnB l.toArray i j = true → hs.contains j = true → dstAt l.toArray j = some d → m j = some (a.eval (.tmp d)) := by
      intro j d hj hc hd
      obtain ⟨e, he, hbe, rfl⟩ := depOut i j o ho hj
      exact (hdep e he hbe d hd).2 (by simpa using hc)
    have hg := handMs_get l tags 0 hob i o (by simpa using ho)
    rw [Nat.zero_add] at hg
    have ht := htag i hlt
    have hB : ∀ (n j : Nat), depTB l.toArray n j i = true → m j = none := fun n j hj => hbef j (depTB_spec n hj)
    have hA : ∀ (n j : Nat), hs.contains j = true → depTB l.toArray n i j = true → (m j).isSome = true := fun n j hc hj => haft j (by simpa using hc) (depTB_spec n hj)
    rcases hg with ⟨t1, hL⟩ | ⟨t1, hH⟩
    · rw [ht] at t1
      have hni : i ∉ hs := by simpa using Option.some.inj t1
      exact ⟨fun _ => hL a w' m hB hA hJv hb' hd1 hd2, fun hk => absurd hk hni⟩
    · rw [ht] at t1
      have hpi : i ∈ hs := by simpa using Option.some.inj t1
      exact ⟨fun hn => absurd hpi hn, fun _ => hH a w' m hB hA mi hJv hb' hd1 hd2⟩
  · intro a w' m hall' hJv hdf hsz hbase hall hval
    have h := hend (fun i => match l[i]?.bind (·.dst) with | some d => a.eval (.tmp d) | none => undef) w' m (fun i hc => hall' i (by simpa using hc)) hJv (fun i hc hi => by
      cases hd : l[i]?.bind (·.dst) with
      | none => rw [hd] at hi; cases hi
      | some d => simpa only [hd] using hall i d (by simpa using hc) (by rw [hdl]; exact hd)) (fun i hk hi => by
      cases hd : l[i]?.bind (·.dst) with
      | none => rw [hd] at hi; cases hi
      | some d =>
        obtain ⟨v, hv⟩ := Option.isSome_iff_exists.1 (hall' i (by simpa using hk))
        have hvv := hval i d v hv (by rw [hdl]; exact hd)
        simp only [hd, hv, hvv])
    have e : layL l 0 (fun i => match l[i]?.bind (·.dst) with | some d => a.eval (.tmp d) | none => undef) a0 = a := by
      have h2 := layL_size l 0 (fun i => match l[i]?.bind (·.dst) with | some d => a.eval (.tmp d) | none => undef) a0
      have h3 := layL_is a l 0 (fun i => match l[i]?.bind (·.dst) with | some d => a.eval (.tmp d) | none => undef) a0 hsz.symm (fun j o d ho hd => by simp [ho, hd]) (fun s => by
        cases hn : notDst l.toArray s with
        | true => exact Or.inl (hbase s (notDst_spec hn))
        | false =>
          right
          unfold notDst at hn
          rw [List.all_eq_false] at hn
          obtain ⟨j, hj, hq⟩ := hn
          have hd : dstAt l.toArray j = some s := by simpa using hq
          rw [hdl] at hd
          obtain ⟨o, ho, hod⟩ := Option.bind_eq_some_iff.1 hd
          exact ⟨j, o, ho, hod⟩)
      generalize layL l 0 (fun i => match l[i]?.bind (·.dst) with | some d => a.eval (.tmp d) | none => undef) a0 = b at *
      obtain ⟨bt, bd⟩ := b
      obtain ⟨at', ad⟩ := a
      simp only at h2 hsz hdf
      have hd : bd = ad := by rw [h2.2, hdf]
      have ht : bt = at' := by
        apply Array.ext
        · omega
        · intro i hi hi'
          have := h3 i
          simpa [Act.eval, hi, hi'] using this
      rw [hd, ht]
    rwa [e] at h
theorem lightM_val {K : World → Prop} {F : Value → Prop} {o : Oper} {a : Act} {w : World} {v : Value} (hw : Region.wanted o (yielded ops a.tmps) = true) (hrun : (execOp a.eval o).run P w = .ok (.value v) w) (hJ : K w) (hF : F v) :
    if Region.wanted o (yielded ops a.tmps) = true then o.wp P a w (fun a' w' => ∃ v, a' = a.put o.dst v ∧ K w' ∧ F v) Q else F undef := by
  rw [if_pos hw]
  unfold Oper.wp
  rw [hrun]
  exact ⟨v, rfl, hJ, hF⟩
theorem heavyM_wp {K : Value → World → Prop} {o : Oper} {a : Act} {w : World} (hw : Region.wanted o (yielded ops a.tmps) = true) (h : o.wp P a w (fun a' w' => ∃ v, a' = a.put o.dst v ∧ K v w') Q) :
    if Region.wanted o (yielded ops a.tmps) = true then o.wp P a w (fun a' w' => ∃ v, a' = a.put o.dst v ∧ K v w') Q else K undef w := by
  rw [if_pos hw]; exact h
theorem heavyM_val {K : Value → World → Prop} {o : Oper} {a : Act} {w : World} {v : Value} {w' : World} (hw : Region.wanted o (yielded ops a.tmps) = true) (hrun : (execOp a.eval o).run P w = .ok (.value v) w') (hJ : K v w') :
    if Region.wanted o (yielded ops a.tmps) = true then o.wp P a w (fun a' w' => ∃ v, a' = a.put o.dst v ∧ K v w') Q else K undef w := by
  rw [if_pos hw]
  unfold Oper.wp
  rw [hrun]
  exact ⟨v, rfl, hJ⟩
theorem heavyM_call {K : Value → World → Prop} {o : Oper} {a : Act} {w : World} {f : FuncId} {args : Array Value} (hw : Region.wanted o (yielded ops a.tmps) = true) (hrun : (execOp a.eval o).run P w = .ok (.enter f args) w)
    (hc : Calls P f args w fun e w' => ∃ v, e = .returned v ∧ K v w') :
    if Region.wanted o (yielded ops a.tmps) = true then o.wp P a w (fun a' w' => ∃ v, a' = a.put o.dst v ∧ K v w') Q else K undef w := by
  rw [if_pos hw]
  unfold Oper.wp
  rw [hrun]
  refine hc.mono ?_
  rintro e w' ⟨v, rfl, h⟩
  exact ⟨v, rfl, h⟩
end
end Go.Proofs.U
