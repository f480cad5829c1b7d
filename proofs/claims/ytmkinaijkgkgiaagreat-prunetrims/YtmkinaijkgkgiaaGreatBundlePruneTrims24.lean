/- Texts VC, VQ, UL, UM, UP of the proof of PruneTrims, one behind the other. -/
import Derived.Deep.RegionLaw
import Derived.Lib.AppendZeros
import Derived.Lib.SliceRun
import Derived.Test.YtmkinaijkgkgiaaGreatBundlePruneTrims1
import Derived.Test.YtmkinaijkgkgiaaGreatBundlePruneTrims2
import Derived.Test.YtmkinaijkgkgiaaGreatBundlePruneTrims3
import Derived.Test.YtmkinaijkgkgiaaGreatBundlePruneTrims4
import Derived.Test.YtmkinaijkgkgiaaGreatBundlePruneTrims5
import Derived.Test.YtmkinaijkgkgiaaGreatBundlePruneTrims6
import Derived.Test.YtmkinaijkgkgiaaGreatBundlePruneTrims7
import Derived.Test.YtmkinaijkgkgiaaGreatBundlePruneTrims8
import Derived.Test.YtmkinaijkgkgiaaGreatBundlePruneTrims9
import Derived.Test.YtmkinaijkgkgiaaGreatBundlePruneTrims10
import Derived.Test.YtmkinaijkgkgiaaGreatBundlePruneTrims11
import Derived.Test.YtmkinaijkgkgiaaGreatBundlePruneTrims12
import Derived.Test.YtmkinaijkgkgiaaGreatBundlePruneTrims13
import Derived.Test.YtmkinaijkgkgiaaGreatBundlePruneTrims14
import Derived.Test.YtmkinaijkgkgiaaGreatBundlePruneTrims15
import Derived.Test.YtmkinaijkgkgiaaGreatBundlePruneTrims16
import Derived.Test.YtmkinaijkgkgiaaGreatBundlePruneTrims17
import Derived.Test.YtmkinaijkgkgiaaGreatBundlePruneTrims18
import Derived.Test.YtmkinaijkgkgiaaGreatBundlePruneTrims19
import Derived.Test.YtmkinaijkgkgiaaGreatBundlePruneTrims20
import Derived.Test.YtmkinaijkgkgiaaGreatBundlePruneTrims21
import Derived.Test.YtmkinaijkgkgiaaGreatBundlePruneTrims22
import Derived.Test.YtmkinaijkgkgiaaGreatBundlePruneTrims23
/- Blocks and one tree in a store, whatever its root's size: how often pages are held, how many are used; a root swapped for another; no condition. -/
namespace Go.Proofs.YtmkinaijkgkgiaaGreat
open Go.RowKit Go.Proofs.U
set_option linter.unusedSimpArgs false
set_option linter.unusedVariables false
/-- The blocks and the tree that there is. -/
structure FamK (X : DSt) (R : List Int) (B : List Int) (Ts : List (Nat × Int)) : Prop where
  bl : ∀ b ∈ B, 0 ≤ b ∧ (rdN X b).1.k = 1 ∧ (rdN X b).1.es = []
  tr : ∀ t ∈ Ts, 0 ≤ t.2 ∧ okT X t.1 t.2 0 64 ∧ ∀ z ∈ lsT X t.1 t.2, z.2 ∈ B
  rt : ∀ r ∈ R, r ∈ B ∨ ∃ t ∈ Ts, t.2 = r
theorem FamK.live {X : DSt} {L : List Pg} {R : List Int} {B : List Int} {Ts : List (Nat × Int)} (f : FamK X R B Ts) (h : Inv X L R) {q : Nat} (hq : 0 < cntL L q) : (q : Int) ∈ famP X B Ts := by
  obtain ⟨rk, hfl⟩ := h.fl
  have hr := (Exact.live_iff h.di.ex hfl).1 hq
  clear hq
  induction hr with
  | root hm =>
    obtain ⟨r, hr, rfl⟩ := List.mem_map.1 hm
    rw [Int.toNat_of_nonneg (h.nn r hr)]
    unfold famP
    rcases f.rt r hr with hb | ⟨t, ht, rfl⟩
    · exact List.mem_append_left _ hb
    · refine List.mem_append_right _ (List.mem_flatMap.2 ⟨t, ht, ?_⟩)
      rw [occ_cons]; simp
  | child hq hm ih =>
    obtain ⟨x, hx, rfl⟩ := List.mem_map.1 hm
    unfold famP at ih ⊢
    rcases List.mem_append.1 ih with hb | ho
    · rw [show kids (rdN X _).1 = [] by unfold kids; rw [(f.bl _ hb).2.2]; rfl] at hx
      cases hx
    · obtain ⟨t, ht, ho⟩ := List.mem_flatMap.1 ho
      rcases occ_kids (f.tr t ht).2.1 (f.tr t ht).2.2 _ ho x hx with h1 | h1
      · rw [Int.toNat_of_nonneg (f.bl x h1).1]
        exact List.mem_append_left _ h1
      · have h2 := h.di.kid (Exact.reached h.di.ex hq) x hx
        rw [Int.toNat_of_nonneg h2.1]
        exact List.mem_append_right _ (List.mem_flatMap.2 ⟨t, ht, h1⟩)
theorem FamK.nn {X : DSt} {R : List Int} {B : List Int} {Ts : List (Nat × Int)} (f : FamK X R B Ts) : ∀ x ∈ famP X B Ts, 0 ≤ x := by
  intro x hx
  rcases List.mem_append.1 hx with h | h
  · exact (f.bl x h).1
  · obtain ⟨t, ht, h⟩ := List.mem_flatMap.1 h
    exact occ_nn (f.tr t ht).2.1 (f.tr t ht).1 x h
theorem FamK.cnt {X : DSt} {L : List Pg} {R : List Int} {B : List Int} {Ts : List (Nat × Int)} (f : FamK X R B Ts) (h : Inv X L R) (q : Nat) :
    cntL L q ≤ R.count (q : Int) + (Ts.map fun t => (lsT X t.1 t.2).length + (occT X t.1 t.2).length).sum := by
  have e := h.di.ex.cnt q
  rw [count_toNat h.nn q] at e
  rw [e]
  refine Nat.add_le_add_left ?_ _
  unfold byCh
  have e1 : (U.live L.length (cntL L)).map (fun r => (chX X r).count q) = (U.live L.length (cntL L)).map fun r : Nat => (kids (rdN X (r : Int)).1).count (q : Int) := by
    refine List.map_congr_left fun r hr => ?_
    have hr := (mem_live.1 hr).2
    unfold chX
    exact count_toNat (fun x hx => (h.di.kid hr x hx).1) q
  rw [e1]
  have hnn := f.nn
  refine Nat.le_trans (sum_sub (W := (famP X B Ts).map Int.toNat) (live_nodup _ _) fun r hr => ?_) ?_
  · have := f.live h (mem_live.1 hr).2
    exact List.mem_map.2 ⟨(r : Int), this, by simp⟩
  · rw [List.map_map]
    have e2 : (famP X B Ts).map ((fun r : Nat => (kids (rdN X (r : Int)).1).count (q : Int)) ∘ Int.toNat) = (famP X B Ts).map fun x => (kids (rdN X x).1).count (q : Int) := by
      refine List.map_congr_left fun x hx => ?_
      show (kids (rdN X ((x.toNat : Nat) : Int)).1).count (q : Int) = _
      rw [Int.toNat_of_nonneg (hnn x hx)]
    rw [e2]
    unfold famP
    rw [List.map_append, sum_app, sum_flat]
    have hB : (B.map fun x => (kids (rdN X x).1).count (q : Int)).sum = 0 := by
      have : (B.map fun x => (kids (rdN X x).1).count (q : Int)) = B.map fun _ => 0 := List.map_congr_left fun x hx => by
        unfold kids
        rw [(f.bl x hx).2.2]
        rfl
      rw [this]
      exact sum_zero B
    rw [hB, Nat.zero_add]
    refine sum_le fun t ht => ?_
    obtain ⟨h0, ht2, hb⟩ := f.tr t ht
    rw [kids_sum (q : Int) ht2]
    have h1 := cnt_le (lsT X t.1 t.2) (q : Int)
    have h2 := List.count_le_length (a := (q : Int)) (l := (occT X t.1 t.2).tail)
    have h4 : (occT X t.1 t.2).tail.length ≤ (occT X t.1 t.2).length := by rw [List.length_tail]; omega
    omega
/-- Pages are fresh, or young, or spent, or nothing: none was there at a Commit. -/
def okM (x : Pg) : Prop := x.s = 1 ∨ x.s = 2 ∨ x.s = 3 ∨ (x.s = 0 ∧ x.c = 0)
def yng (x : Pg) : Bool := x.s == 2 || x.s == 3
/-- .. and so many are young, or spent. -/
structure PlM (k : Nat) (L : List Pg) : Prop where
  ok : ∀ i, okM (plAt L i)
  yn : L.countP yng = k
theorem PlM.set {k : Nat} {L : List Pg} (h : PlM k L) {i : Nat} (hi : i < L.length) {x : Pg} (hx : okM x) (hy : yng x = yng (plAt L i)) : PlM k (L.set i x) := by
  refine ⟨fun j => ?_, ?_⟩
  · rw [plAt_set _ _ _ _ hi]
    split
    · exact hx
    · exact h.ok j
  · rw [List.countP_set (h := hi), ← plAt_get L i hi, hy, h.yn]
    have : (if yng (plAt L i) = true then 1 else 0) ≤ k := by
      rw [← h.yn]
      split
      · rename_i hq
        exact List.countP_pos_iff.2 ⟨L[i], by simp, by rw [← plAt_get L i hi]; exact hq⟩
      · omega
    omega
theorem PlM.take {k : Nat} {L : List Pg} (h : PlM k L) : PlM k (plTake L).1 := by
  rcases plTake_cases L with ⟨i, hi, hf, _, e⟩ | ⟨_, e⟩
  · rw [e]
    refine h.set hi (Or.inl rfl) ?_
    unfold Pg.free at hf
    simp only [Bool.and_eq_true, beq_iff_eq] at hf
    unfold yng
    rw [hf.2]
    rfl
  · rw [e]; exact h
theorem PlM.hold {k : Nat} {L : List Pg} (h : PlM k L) (p : Int) : PlM k (plHold L p).1 := by
  rcases hold_cases L p with ⟨_, e⟩ | ⟨_, _, e⟩ | ⟨hh, _, e⟩
  · rw [e]; exact h
  · rw [e]; exact h
  · rw [e]
    have hr := plHeld_rng hh
    refine h.set (by omega) ?_ rfl
    rcases h.ok p.toNat with q | q | q | ⟨q, qc⟩
    · exact Or.inl q
    · exact Or.inr (Or.inl q)
    · exact Or.inr (Or.inr (Or.inl q))
    · unfold plHeld Pg.held at hh
      rw [q, qc] at hh
      simp at hh
theorem PlM.drop1 {k : Nat} {L : List Pg} (hok : plOk L) (h : PlM k L) (p : Int) : PlM k (plDrop L p).1 := by
  unfold plDrop
  split
  · rename_i hh
    simp only [Bool.and_eq_true] at hh
    have hi := (plIn_lt hh.1).1
    have hx := h.ok p.toNat
    split
    · rename_i hc
      refine h.set hi ?_ rfl
      rcases hx with q | q | q | ⟨q, qc⟩
      · exact Or.inl q
      · exact Or.inr (Or.inl q)
      · exact Or.inr (Or.inr (Or.inl q))
      · omega
    · have hs3 : ¬ (plAt L p.toNat).s = 3 := fun q => by
        have h3 := (hok.2 p.toNat).2.2.2 (by omega)
        have h4 := hh.2
        unfold Pg.held at h4
        rw [q, h3] at h4
        simp at h4
      rcases hx with q | q | q | ⟨q, qc⟩
      · refine h.set hi (Or.inr (Or.inr (Or.inr ⟨by simp only [q]; rfl, rfl⟩))) ?_
        unfold yng dropS; simp only [q]; rfl
      · refine h.set hi (Or.inr (Or.inr (Or.inl (by simp only [q]; rfl)))) ?_
        unfold yng dropS; simp only [q]; rfl
      · exact absurd q hs3
      · have h4 := hh.2
        unfold Pg.held at h4
        rw [q, qc] at h4
        simp at h4
  · exact h
theorem PlM.drop {X : DSt} {k : Nat} (n : Nat) {L : List Pg} (hok : plOk L) (h : PlM k L) (p : Int) : PlM k (dropF X n L p).1 :=
  (dropF_inv (I := fun M => plOk M ∧ PlM k M) (fun M q g => ⟨drop_ok g.1 q, g.2.drop1 g.1 q⟩) n L p ⟨hok, h⟩).2
theorem PlM.holds {k : Nat} (l : List Int) {L : List Pg} (h : PlM k L) : PlM k (eachF plHold L l).1 := eachF_inv (I := PlM k) (fun M q g => g.hold q) l L h
theorem PlM.make {k : Nat} {X : DSt} {L : List Pg} (h : PlM k L) (n : Nd) : PlM k (makeF X L n).1.2 := by
  unfold makeF
  split
  · split
    · exact h
    · split
      · split
        · exact h.take.holds _
        · exact h.take.holds _
      · exact h.take
  · exact h
theorem PlM.splA {k : Nat} {kd : Int} : ∀ (ps : List (List (Int × Int))) {S : DSt × List Pg} (tops : List (Int × Int)), PlM k S.2 → PlM k (splA kd S tops ps).1.2
  | [], S, tops, h => h
  | p :: ps, S, tops, h => by
    rw [Go.Proofs.YtmkinaijkgkgiaaGreat.splA]
    split
    · exact PlM.splA ps _ (h.make _)
    · exact h.make _
theorem PlM.spl {k : Nat} {kd : Int} {S : DSt × List Pg} (es : List (Int × Int)) (h : PlM k S.2) : PlM k (splF S kd es).1.2 := by
  unfold splF
  split
  · exact h
  · exact PlM.splA _ _ h
theorem PlM.place {k : Nat} {kd : Int} {S : DSt × List Pg} (l : List (Int × Int)) (i : Nat) (c : List (Int × Int)) (h : PlM k S.2) : PlM k (placeF S kd l i c).1.2 := by
  unfold placeF
  split
  · exact h
  · exact PlM.spl _ h
theorem PlM.wio {k : Nat} {X : DSt} {L : List Pg} (h : PlM k L) : ∀ (lv : Nat) (es : List (Int × Int)) (key : Int), PlM k (wioF X L lv es key).1.2
  | 0, _, _ => h
  | lv + 1, es, key => by
    unfold wioF
    split
    · exact PlM.place _ _ _ (PlM.wio h lv _ key)
    · exact PlM.wio h lv _ key
theorem PlM.cut {k : Nat} {X : DSt} {L : List Pg} (h : PlM k L) : ∀ (lv : Nat) (p : Int) (key : Int), PlM k (cutF X L lv p key).1.2 := by
  have top : ∀ lv es key, PlM k (topF lv (wioF X L lv es key)).1.2 := fun lv es key => by
    unfold topF
    split
    · split
      · exact PlM.wio h lv _ key
      · exact PlM.spl _ (PlM.wio h lv _ key)
    · exact PlM.wio h lv _ key
  intro lv
  induction lv with
  | zero => intro p key; exact top 0 _ key
  | succ lv ih =>
    intro p key
    unfold cutF
    split
    · exact ih _ key
    · exact top (lv + 1) _ key
/-- How many pages aren't free. -/
theorem FamK.used {X : DSt} {L : List Pg} {R : List Int} {B : List Int} {Ts : List (Nat × Int)} {k : Nat} (f : FamK X R B Ts) (h : Inv X L R) (y : PlM k L) : L.length ≤ plFree L + (k + (famP X B Ts).length) := by
  have h1 : (U.live L.length (cntL L)).length ≤ (famP X B Ts).length := by
    have := len_sub (W := (famP X B Ts).map Int.toNat) (live_nodup L.length (cntL L)) fun r hr => by
      have := f.live h (mem_live.1 hr).2
      exact List.mem_map.2 ⟨(r : Int), this, by simp⟩
    rwa [List.length_map] at this
  have h2 : L.length ≤ plFree L + (L.countP yng + (U.live L.length (cntL L)).length) := by
    have key : ∀ n, n ≤ L.length → n ≤ (L.take n).countP Pg.free + ((L.take n).countP yng + ((List.range n).filter fun q => decide (0 < cntL L q)).length) := by
      intro n
      induction n with
      | zero => intro _; omega
      | succ n ih =>
        intro hn
        have := ih (by omega)
        rw [List.take_succ_eq_append_getElem (by omega), List.countP_append, List.countP_append, List.range_succ, List.filter_append, List.length_append]
        have hx : 1 ≤ [L[n]].countP Pg.free + ([L[n]].countP yng + ([n].filter fun q => decide (0 < cntL L q)).length) := by
          have hp : plAt L n = L[n] := plAt_get L n (by omega)
          rcases y.ok n with hy | hy | hy | ⟨hs, hc⟩
          · have hf : (plAt L n).frsh = true := by unfold Pg.frsh; rw [hy]; rfl
            have hc := h.di.nf n hf
            have : 0 < cntL L n := (cnt_pos n).2 hc
            simp [List.filter, this]; omega
          · have : yng L[n] = true := by rw [← hp]; unfold yng; rw [hy]; rfl
            simp [List.countP_cons, this]; omega
          · have : yng L[n] = true := by rw [← hp]; unfold yng; rw [hy]; rfl
            simp [List.countP_cons, this]; omega
          · have : L[n].free = true := by rw [← hp]; unfold Pg.free; rw [hs, hc]; rfl
            simp [List.countP_cons, this]
        omega
    have := key L.length (Nat.le_refl _)
    rw [List.take_length] at this
    exact this
  have := y.yn
  omega
theorem PlY.toM {L : List Pg} (y : PlY L) : PlM 0 L := by
  refine ⟨fun i => (y i).elim Or.inl (fun q => Or.inr (Or.inr (Or.inr q))), ?_⟩
  rw [List.countP_eq_zero]
  intro x hx
  obtain ⟨i, hi, rfl⟩ := List.mem_iff_getElem.1 hx
  have := y i
  rw [plAt_get L i hi] at this
  unfold yng
  rcases this with q | ⟨q, _⟩ <;> rw [q] <;> decide
end Go.Proofs.YtmkinaijkgkgiaaGreat
/- What a mark found stays, through cuts and swaps; plain; no condition. (Written by vq_gen.py.) -/
namespace Go.Proofs.YtmkinaijkgkgiaaGreat
open Go.RowKit Go.Proofs.U
set_option linter.unusedSimpArgs false
set_option linter.unusedVariables false
/-- Pages are fresh, or young, or spent, or nothing; which are young or spent is told. -/
structure PlF (f : Nat → Bool) (L : List Pg) : Prop where
  ok : ∀ i, okM (plAt L i)
  yn : ∀ i, yng (plAt L i) = f i
theorem PlF.set {f : Nat → Bool} {L : List Pg} (h : PlF f L) {i : Nat} (hi : i < L.length) {x : Pg} (hx : okM x) (hy : yng x = yng (plAt L i)) : PlF f (L.set i x) := by
  refine ⟨fun j => ?_, fun j => ?_⟩
  · rw [plAt_set _ _ _ _ hi]
    split
    · exact hx
    · exact h.ok j
  · rw [plAt_set _ _ _ _ hi]
    split
    · rename_i e; rw [hy, e]; exact h.yn i
    · exact h.yn j
theorem PlM.toF {k : Nat} {L : List Pg} (h : PlM k L) : PlF (fun i => yng (plAt L i)) L := ⟨h.ok, fun _ => rfl⟩
theorem PlF.take {f : Nat → Bool} {L : List Pg} (h : PlF f L) : PlF f (plTake L).1 := by
  rcases plTake_cases L with ⟨i, hi, hf, _, e⟩ | ⟨_, e⟩
  · rw [e]
    refine h.set hi (Or.inl rfl) ?_
    unfold Pg.free at hf
    simp only [Bool.and_eq_true, beq_iff_eq] at hf
    unfold yng
    rw [hf.2]
    rfl
  · rw [e]; exact h
theorem PlF.hold {f : Nat → Bool} {L : List Pg} (h : PlF f L) (p : Int) : PlF f (plHold L p).1 := by
  rcases hold_cases L p with ⟨_, e⟩ | ⟨_, _, e⟩ | ⟨hh, _, e⟩
  · rw [e]; exact h
  · rw [e]; exact h
  · rw [e]
    have hr := plHeld_rng hh
    refine h.set (by omega) ?_ rfl
    rcases h.ok p.toNat with q | q | q | ⟨q, qc⟩
    · exact Or.inl q
    · exact Or.inr (Or.inl q)
    · exact Or.inr (Or.inr (Or.inl q))
    · unfold plHeld Pg.held at hh
      rw [q, qc] at hh
      simp at hh
theorem PlF.drop1 {f : Nat → Bool} {L : List Pg} (hok : plOk L) (h : PlF f L) (p : Int) : PlF f (plDrop L p).1 := by
  unfold plDrop
  split
  · rename_i hh
    simp only [Bool.and_eq_true] at hh
    have hi := (plIn_lt hh.1).1
    have hx := h.ok p.toNat
    split
    · rename_i hc
      refine h.set hi ?_ rfl
      rcases hx with q | q | q | ⟨q, qc⟩
      · exact Or.inl q
      · exact Or.inr (Or.inl q)
      · exact Or.inr (Or.inr (Or.inl q))
      · omega
    · have hs3 : ¬ (plAt L p.toNat).s = 3 := fun q => by
        have h3 := (hok.2 p.toNat).2.2.2 (by omega)
        have h4 := hh.2
        unfold Pg.held at h4
        rw [q, h3] at h4
        simp at h4
      rcases hx with q | q | q | ⟨q, qc⟩
      · refine h.set hi (Or.inr (Or.inr (Or.inr ⟨by simp only [q]; rfl, rfl⟩))) ?_
        unfold yng dropS; simp only [q]; rfl
      · refine h.set hi (Or.inr (Or.inr (Or.inl (by simp only [q]; rfl)))) ?_
        unfold yng dropS; simp only [q]; rfl
      · exact absurd q hs3
      · have h4 := hh.2
        unfold Pg.held at h4
        rw [q, qc] at h4
        simp at h4
  · exact h
theorem PlF.drop {X : DSt} {f : Nat → Bool} (n : Nat) {L : List Pg} (hok : plOk L) (h : PlF f L) (p : Int) : PlF f (dropF X n L p).1 :=
  (dropF_inv (I := fun M => plOk M ∧ PlF f M) (fun M q g => ⟨drop_ok g.1 q, g.2.drop1 g.1 q⟩) n L p ⟨hok, h⟩).2
theorem PlF.holds {f : Nat → Bool} (l : List Int) {L : List Pg} (h : PlF f L) : PlF f (eachF plHold L l).1 := eachF_inv (I := PlF f) (fun M q g => g.hold q) l L h
theorem PlF.make {f : Nat → Bool} {X : DSt} {L : List Pg} (h : PlF f L) (n : Nd) : PlF f (makeF X L n).1.2 := by
  unfold makeF
  split
  · split
    · exact h
    · split
      · split
        · exact h.take.holds _
        · exact h.take.holds _
      · exact h.take
  · exact h
theorem PlF.splA {f : Nat → Bool} {kd : Int} : ∀ (ps : List (List (Int × Int))) {S : DSt × List Pg} (tops : List (Int × Int)), PlF f S.2 → PlF f (splA kd S tops ps).1.2
  | [], S, tops, h => h
  | p :: ps, S, tops, h => by
    rw [Go.Proofs.YtmkinaijkgkgiaaGreat.splA]
    split
    · exact PlF.splA ps _ (h.make _)
    · exact h.make _
theorem PlF.spl {f : Nat → Bool} {kd : Int} {S : DSt × List Pg} (es : List (Int × Int)) (h : PlF f S.2) : PlF f (splF S kd es).1.2 := by
  unfold splF
  split
  · exact h
  · exact PlF.splA _ _ h
theorem PlF.place {f : Nat → Bool} {kd : Int} {S : DSt × List Pg} (l : List (Int × Int)) (i : Nat) (c : List (Int × Int)) (h : PlF f S.2) : PlF f (placeF S kd l i c).1.2 := by
  unfold placeF
  split
  · exact h
  · exact PlF.spl _ h
theorem PlF.wio {f : Nat → Bool} {X : DSt} {L : List Pg} (h : PlF f L) : ∀ (lv : Nat) (es : List (Int × Int)) (key : Int), PlF f (wioF X L lv es key).1.2
  | 0, _, _ => h
  | lv + 1, es, key => by
    unfold wioF
    split
    · exact PlF.place _ _ _ (PlF.wio h lv _ key)
    · exact PlF.wio h lv _ key
theorem PlF.cut {f : Nat → Bool} {X : DSt} {L : List Pg} (h : PlF f L) : ∀ (lv : Nat) (p : Int) (key : Int), PlF f (cutF X L lv p key).1.2 := by
  have top : ∀ lv es key, PlF f (topF lv (wioF X L lv es key)).1.2 := fun lv es key => by
    unfold topF
    split
    · split
      · exact PlF.wio h lv _ key
      · exact PlF.spl _ (PlF.wio h lv _ key)
    · exact PlF.wio h lv _ key
  intro lv
  induction lv with
  | zero => intro p key; exact top 0 _ key
  | succ lv ih =>
    intro p key
    unfold cutF
    split
    · exact ih _ key
    · exact top (lv + 1) _ key
theorem PlF.sw {X : DSt} {f : Nat → Bool} {L : List Pg} (hok : plOk L) (h : PlF f L) (old next : Int) : PlF f (swF X L old next).1 := by
  unfold swF
  split
  · split
    · exact h.hold next
    · exact (h.hold next).drop _ (hold_ok hok next) old
  · exact h.hold next
end Go.Proofs.YtmkinaijkgkgiaaGreat
/- Entries of a row are cleared, or appended where there is room; laws of the model; no condition. -/
namespace Go.Proofs.U
open Go.RowKit
set_option linter.unusedSimpArgs false
set_option linter.unusedVariables false
variable {P : Program}
/-- clear of some elements, of whatever size. -/
theorem run_clrN {w : World} {g : Nat} {tb : TypeId} {cur : List Value} (hB : BxV w g tb cur) (t e ty : TypeId) (z : Value) (sz : Nat) (ht : P.underlying t = some (.slice e)) (hi : (P.info? e).map (fun i => (i.zero, i.size)) = some (some z, sz)) (hz : z.cells.size = sz) (h1 : ∀ u ∈ z.cells.toList, u.oneCell' = true) (off n c : Nat) (hn : 0 < n) (hfit : off + n * sz ≤ cur.length) :
    ∃ cs : List Value, cs.length = n * sz ∧ (Builtin.clear_ #[t] ty #[.slice (some ⟨g, off, none⟩) n c]).run P w = .ok (.tuple #[]) (w.setCells g off cs) := by
  have hlen : (Builtin.zeroCells z.cells n).toList.length = n * sz := by rw [Array.length_toList, size_zeroCells, hz]
  refine ⟨(Builtin.zeroCells z.cells n).toList, hlen, ?_⟩
  have hone : ∀ v ∈ (Builtin.zeroCells z.cells n).toList, v.oneCell' = true := by
    intro v hv
    unfold Builtin.zeroCells at hv
    rw [Array.toList_map] at hv
    obtain ⟨j, hj, rfl⟩ := List.mem_map.1 hv
    have hj2 : j < n * z.cells.size := by simpa using hj
    have hs : 0 < z.cells.size := Nat.pos_of_ne_zero fun q => by rw [q] at hj2; omega
    have hlt : j % z.cells.size < z.cells.size := Nat.mod_lt _ hs
    rw [getElem!_pos z.cells _ hlt]
    exact h1 _ (Array.getElem_mem_toList hlt)
  obtain ⟨i, hq, hi2⟩ := Option.map_eq_some_iff.1 hi
  simp only [Prod.mk.injEq] at hi2
  have hv : ∀ w, (zeroValue e).run P w = .ok z w := fun w => by simp [zeroValue, typeInfo, hq, hi2.1]
  have hst := run_storeCells_cells (P := P) g off (Builtin.zeroCells z.cells n).toList 0 w (fun j hj => (hB.thereR off _ (by rw [hlen]; exact hfit) j hj).1) (fun j hj => (hB.thereR off _ (by rw [hlen]; exact hfit) j hj).2) hone
  simp only [Nat.add_zero] at hst
  obtain ⟨m, rfl⟩ : ∃ m, n = m + 1 := ⟨n - 1, by omega⟩
  simp [Builtin.clear_, run_underlying ht, hv, hst]
theorem wpList_clrN {w : World} {ops : Array Oper} {rest : List Oper} {o : Oper} {a : Act} {Q : Exit → Act → World → Prop} (hgd : Region.wanted o (yielded ops a.tmps) = true) (x : Operand) (t e : TypeId) (ho : o.op = .call { callee := .builtin .clear, args := #[x], argTypes := #[t] }) (z : Value) (sz : Nat) (ht : P.underlying t = some (.slice e))
    (hi : (P.info? e).map (fun i => (i.zero, i.size)) = some (some z, sz)) (hz : z.cells.size = sz) (h1 : ∀ u ∈ z.cells.toList, u.oneCell' = true) (g : Nat) (tb : TypeId) (cur : List Value) (hB : BxV w g tb cur) (off n c : Nat) (hx : a.eval x = .slice (some ⟨g, off, none⟩) n c) (hn : 0 < n) (hfit : off + n * sz ≤ cur.length)
    (h : ∀ cs w', cs.length = n * sz → BxV w' g tb (putAt cur off cs) → Fr (onB1 g) w w' → wpList P ops Q rest (a.put o.dst (.tuple #[])) w') : wpList P ops Q (o :: rest) a w := by
  refine wpList_wanted hgd fun K hK => ?_
  obtain ⟨cs, hl, hr⟩ := run_clrN (P := P) hB t e o.type z sz ht hi hz h1 off n c hn hfit
  unfold Oper.wp
  simp [execOp, ho, resolve, invoke, builtin, hx, hr, Result.andThen]
  exact hK _ _ (h cs _ hl (setCells_bx cs off w cur hB (by rw [hl]; exact hfit)) (setCells_fr1 _ _ _ _))
/-- append where there is room. -/
theorem wpList_appRm {w : World} {ops : Array Oper} {rest : List Oper} {o : Oper} {a : Act} {Q : Exit → Act → World → Prop} (hgd : o.guard = none) (s x : Operand) (t : TypeId) (ho : o.op = .call { callee := .builtin .append, args := #[s, x], argTypes := #[t, t] })
    (e : TypeId) (sz : Nat) (ht : P.underlying t = some (.slice e)) (hs : (P.info? e).map (·.size) = some sz) (g : Nat) (tb : TypeId) (cur : List Value) (hB : BxV w g tb cur) (n cap : Nat) (hsv : a.eval s = .slice (some ⟨g, 0, none⟩) n cap) (ad : Addr) (m c : Nat) (hx : a.eval x = .slice (some ad) m c) (cs : List Value) (hl : cs.length = m * sz)
    (hsrc : ∀ j u, cs[j]? = some u → w.cell? (ad.add j) = some u) (hroom : n + m ≤ cap) (hfit : n * sz + cs.length ≤ cur.length) (h1 : ∀ u ∈ cs, u.oneCell' = true)
    (h : ∀ w', BxV w' g tb (putAt cur (n * sz) cs) → Fr (onB1 g) w w' → wpList P ops Q rest (a.put o.dst (.slice (some ⟨g, 0, none⟩) (n + m) cap)) w') : wpList P ops Q (o :: rest) a w := by
  obtain ⟨i, hq, hi⟩ := Option.map_eq_some_iff.1 hs
  subst hi
  have hrun := run_append_room_cells (P := P) (w := w) t o.type e i ht hq g 0 n cap ad m c cs hl hsrc h1 hroom (fun j hj => by rw [Nat.zero_add]; exact (hB.thereR _ cs.length hfit j hj).1) (fun j hj => by rw [Nat.zero_add]; exact (hB.thereR _ cs.length hfit j hj).2)
  rw [Nat.zero_add] at hrun
  exact Lib.wpList_append_run w hgd s x t t ho _ _ hsv hx _ _ hrun (h _ (setCells_bx cs _ w cur hB hfit) (setCells_fr1 _ _ _ _))
/-- append of nothing. -/
theorem wpList_app0 {w : World} {ops : Array Oper} {rest : List Oper} {o : Oper} {a : Act} {Q : Exit → Act → World → Prop} (hgd : o.guard = none) (s x : Operand) (t : TypeId) (ho : o.op = .call { callee := .builtin .append, args := #[s, x], argTypes := #[t, t] })
    (e : TypeId) (sz : Nat) (ht : P.underlying t = some (.slice e)) (hs : (P.info? e).map (·.size) = some sz) (ao : Option Addr) (n cap : Nat) (hsv : a.eval s = .slice ao n cap) (hle : n ≤ cap) (ao' : Option Addr) (c : Nat) (hx : a.eval x = .slice ao' 0 c)
    (h : wpList P ops Q rest (a.put o.dst (.slice ao n cap)) w) : wpList P ops Q (o :: rest) a w := by
  obtain ⟨i, hq, hi⟩ := Option.map_eq_some_iff.1 hs
  have hrun : (Builtin.append_ #[t, t] o.type #[.slice ao n cap, .slice ao' 0 c]).run P w = .ok (.slice ao n cap) w := by
    cases ao <;> cases ao' <;> simp [Builtin.append_, run_underlying ht, sizeOf, typeInfo, hq, hle, Builtin.firstCells, Builtin.lenOf, storeCells, loadCells, loadCellsFrom]
  exact Lib.wpList_append_run w hgd s x t t ho _ _ hsv hx _ _ hrun h
/-- A row of noughts is made. -/
theorem wpList_appN0 {w : World} {ops : Array Oper} {rest : List Oper} {o : Oper} {a : Act} {Q : Exit → Act → World → Prop} (hgd : o.guard = none) (s x : Operand) (t tn : TypeId) (ho : o.op = .call { callee := .builtin .append, args := #[s, x], argTypes := #[t, tn] })
    (e : TypeId) (z : Value) (sz bytes : Nat) (ht : P.underlying t = some (.slice e)) (kn : IntKind) (htn : P.underlying tn = some (.int kn)) (hinfo : (P.info? e).map (fun i => (i.zero, i.size, i.bytes)) = some (some z, sz, bytes)) (hzs : z.cells.size = sz) (hsz : 0 < sz)
    (hs : a.eval s = .slice none 0 0) (kq : IntKind) (k : Nat) (hx : a.eval x = .int kq (k : Int)) (h0 : 0 < k) (hml : k ≤ maxLen) (hbytes : k * bytes ≤ 140737488355328)
    (h : ∀ g' cap' cur' w', BxV w' g' e cur' → Fr noB w w' → w.heap.size ≤ g' → k ≤ cap' → cap' ≤ maxLen → cur'.length = cap' * sz → wpList P ops Q rest (a.put o.dst (.slice (some ⟨g', 0, none⟩) k cap')) w') : wpList P ops Q (o :: rest) a w := by
  obtain ⟨i0, hi, hz0, hz1, hz2⟩ := info_parts hinfo
  have hml' : (k : Int) ≤ 9223372036854775807 := by unfold maxLen at hml; omega
  have hr := Lib.run_append_nil_zeros (P := P) w t tn o.type e i0 z kq kn ht htn hi hz0 k h0 (by omega) hml' (by rw [hz2]; omega)
  refine Lib.wpList_append_run w hgd s x t tn ho _ _ hs hx _ _ hr ?_
  have hge := grownCap_ge w k 0 e
  have hle := grownCap_le_maxLen w k 0 e hml
  have e1 : (Builtin.zeroCells z.cells k ++ Builtin.zeroCells z.cells (grownCap w k 0 e - k)) = ((Builtin.zeroCells z.cells k).toList ++ (Builtin.zeroCells z.cells (grownCap w k 0 e - k)).toList).toArray := by
    apply Array.ext'
    simp
  rw [e1]
  refine h w.heap.size _ _ _ (heap_alloc_new w.drew _) (((Fr.refl _ _).drew).alloc _) (Nat.le_refl _) hge hle ?_
  rw [List.length_append, Array.length_toList, Array.length_toList, size_zeroCells, size_zeroCells, hzs, ← Nat.add_mul]
  congr 1
  omega
end Go.Proofs.U
/- slices.Delete of one entry; no condition. -/
namespace Go.Proofs.YtmkinaijkgkgiaaGreat
open Go.RowKit Go.Proofs.U
set_option linter.unusedSimpArgs false
set_option linter.unusedVariables false
theorem at_clrP {P : Program} {ops : Array Oper} {rest : List Oper} {o : Oper} {a : Act} {w : World} {Q : Exit → Act → World → Prop} (x : Operand) (t : TypeId) (ho : o.op = .call { callee := .builtin .clear, args := #[x], argTypes := #[t] }) (h : wpList P ops Q (o :: rest) a w) : wpList P ops Q (o :: rest) a w := h
theorem en_zz : (Tryz.prog.info? 40).map (fun i => (i.zero, i.size)) = some (some (.agg (enC (0, 0)).toArray), 2) := en_info2
theorem en_zone : ∀ u ∈ (Value.agg (enC (0, 0)).toArray).cells.toList, u.oneCell' = true := by
  intro u hu
  exact en_one (0, 0) u hu
/-- Cells of which some were moved to the left. -/
theorem del_take {cur cs : List Value} {l : List (Int × Int)} {i : Nat} (hi : i < l.length) (ht : cur.take (l.length * 2) = l.flatMap enC) (hl : l.length * 2 ≤ cur.length) (hcs : cs.length = 1 * 2) :
    (putAt (putAt cur (i * 2) ((l.drop (i + 1)).flatMap enC)) ((l.length - 1) * 2) cs).take ((dropAt l i).length * 2) = (dropAt l i).flatMap enC ∧ (putAt (putAt cur (i * 2) ((l.drop (i + 1)).flatMap enC)) ((l.length - 1) * 2) cs).length = cur.length := by
  have hdl : (l.drop (i + 1)).length = l.length - (i + 1) := List.length_drop
  have hda : (dropAt l i).length = l.length - 1 := by unfold dropAt; rw [List.length_append, List.length_take, hdl]; omega
  have h1 : (putAt cur (i * 2) ((l.drop (i + 1)).flatMap enC)).length = cur.length := putAt_len _ _ _ (by rw [fl_len, hdl]; omega)
  refine ⟨?_, by rw [putAt_len _ _ _ (by rw [hcs, h1]; omega), h1]⟩
  rw [hda]
  have e1 : ∀ X : List Value, (l.length - 1) * 2 ≤ X.length → (putAt X ((l.length - 1) * 2) cs).take ((l.length - 1) * 2) = X.take ((l.length - 1) * 2) := fun X hX => by
    unfold putAt
    rw [List.append_assoc, List.take_left' (by rw [List.length_take]; omega)]
  rw [e1 _ (by rw [h1]; omega)]
  unfold putAt
  have hA : (cur.take (i * 2)).length = i * 2 := by rw [List.length_take]; omega
  rw [List.take_left' (by rw [List.length_append, hA, fl_len, hdl]; omega), cur_take ht i (by omega)]
  unfold dropAt
  rw [List.flatMap_append]
set_option maxRecDepth 100000 in
set_option maxHeartbeats 4000000 in
theorem delE_any {w : World} {base : Nat} {v : Value} {l : List (Int × Int)} {i : Nat} (hb : base ≤ w.heap.size) (hO : EnO w base v l) (hi : i < l.length) (hl : l.length ≤ 1000) :
    Calls Tryz.prog 79 #[v, .int .i64 (i : Int), .int .i64 ((i : Int) + 1)] w fun r w' => InsIs w w' base v (dropAt l i) r := by
  rcases hO.parts with ⟨_, rfl⟩ | ⟨g, cap, cur, hv', hbg, hB, hnc, hcm, hcl, hct⟩
  · simp at hi
  subst hv'
  obtain ⟨n, Hn⟩ : ∃ n, Hid (l.length = n) := ⟨_, rfl⟩
  have hdel := fun cs => del_take (cs := cs) hi hct (by omega)
  have hcd := drop_src hB hct (i + 1)
  have hdl : Hid ((l.drop (i + 1)).length = n - (i + 1)) := by rw [← Hn.out]; exact List.length_drop
  have hda : Hid ((dropAt l i).length = n - 1) := by
    have := hdl.out
    show (dropAt l i).length = n - 1
    unfold dropAt; rw [List.length_append, List.length_take, this, Hn.out]; rw [Hn.out] at hi; omega
  rw [Hn.out] at hi hl hnc hct hdel ⊢
  have hcm' : cap ≤ 9223372036854775807 := by unfold maxLen at hcm; omega
  have hz1 : ((i : Int) == (i : Int) + 1) = false := by simp; omega
  have uE1 := run_underlying uE
  have zE := Tryz.sizeOf40
  have mixed : Tryz.prog.follows Departure.mixedOrders = true := by kernel_rfl
  have hB0 : BxV w.drew g 40 cur := hB
  have hfit : i * 2 + ((l.drop (i + 1)).flatMap enC).length ≤ cur.length := by have := hdl.out; rw [fl_len, hdl.out]; omega
  have hsrc : ∃ A : Addr, (if cap = i + 1 then some (⟨g, 0, none⟩ : Addr) else some ⟨g, (i + 1) * 2, none⟩) = some A ∧ Hid (∀ t u, ((l.drop (i + 1)).flatMap enC)[t]? = some u → w.drew.cell? (A.add t) = some u) := by
    by_cases h : cap = i + 1
    · refine ⟨⟨g, 0, none⟩, by simp [h], fun t u hu => ?_⟩
      have h0 : (l.drop (i + 1)).length = 0 := by rw [hdl.out]; omega
      rw [List.length_eq_zero_iff.1 h0] at hu
      simp at hu
    · exact ⟨⟨g, (i + 1) * 2, none⟩, by simp [h], hcd⟩
  obtain ⟨A, hA, hsrc⟩ := hsrc
  obtain ⟨i0, hi0, hiz⟩ := Option.map_eq_some_iff.1 en_size
  have s1 : Hid (((l.drop (i + 1)).flatMap enC).length = (n - (i + 1)) * 2) := by show _ = _; rw [fl_len, hdl.out]
  have s3 : Hid (∀ t, t < ((l.drop (i + 1)).flatMap enC).length → (w.drew.cell? ⟨g, 0 + i * 2 + t, none⟩).isSome = true ∧ w.drew.frozen? ⟨g, 0 + i * 2 + t, none⟩ = false) := fun t ht => by
    rw [Nat.zero_add]
    exact hB0.thereR _ _ hfit t ht
  obtain ⟨W1, hW1⟩ : ∃ W1, Hid (w.drew.setCells g (0 + i * 2) ((l.drop (i + 1)).flatMap enC) = W1) := ⟨_, rfl⟩
  have b1 := setCells_bx ((l.drop (i + 1)).flatMap enC) (i * 2) w.drew _ hB0 hfit
  have f1 := setCells_fr1 w.drew g ((l.drop (i + 1)).flatMap enC) (i * 2)
  have hW1' := hW1.out
  rw [Nat.zero_add] at hW1'
  rw [hW1'] at b1 f1
  clear hW1'
  have F1 : Fr (onB1 g) w W1 := ((Fr.refl _ w).drew).thenT f1 (fun _ _ q => q)
  have hic : i ≤ cap := by omega
  have hjc : i + 1 ≤ cap := by omega
  have hin : i + 1 ≤ n := by omega
  have hp1 : (0 : Int) ≤ (i : Int) + 1 := by omega
  have hp3 : ((i : Int) + 1).toNat = i + 1 := by omega
  have hp4 : (i : Int) + 1 ≤ (n : Int) := by omega
  have hp5 : n ≤ cap := hnc
  have hp6 : ¬ n ≤ i := by omega
  have hnn : i + (n - (i + 1)) = n - 1 := by omega
  have hq1 : n - 1 ≤ n := by omega
  have hq2 : n - 1 ≤ cap := by omega
  have hq3 : n - (n - 1) = 1 := by omega
  have hq4 : ¬ cap = n - 1 := by omega
  clear hct hcd hO hi hb
  go_enter Tryz.func79, Tryz.ntmps79
  go_wp2_with fail
  go_region_law_o (refine step_append_room rfl (.tmp 22) (.tmp 25) 31 rfl 40 i0 2 uE hi0 hiz g 0 i cap (by simp [Act.eval, Act.put]) A (n - (i + 1)) (cap - (i + 1)) ((l.drop (i + 1)).flatMap enC) (by simp [Act.eval, Act.put, hA]) s1.out hsrc.out (fl_one _) (by omega) s3.out ?_; rw [hW1.out])
  have hc4 : (cap == n - 1) = false := by simp; omega
  go_wp2_with (first
    | (refine at_clrP _ _ rfl ?_; go_must (refine wpList_clrN rfl _ 31 40 rfl _ 2 uE en_zz rfl en_zone g 40 _ b1 ((n - 1) * 2) 1 (cap - (n - 1)) (by simp [Act.eval, Act.put, hq3, hq4, Addr.add_lit]) (by omega) (by rw [putAt_len _ _ _ hfit]; omega) ?_; intro cs w2 hcs b2 f2)))
  go_ret
  have hd := hdel cs hcs
  rw [hda.out] at hd
  refine ⟨_, rfl, EnO.mk hbg b2 hda.out.symm (by rw [hda.out]; omega) hcm (by rw [hd.2, hcl]) (by rw [hda.out]; exact hd.1), (F1.thenT f2 (fun _ _ q => q)).mono (fun k _ q => by unfold onB1 at q; subst q; rfl), fun k hk => Or.inl hk⟩
end Go.Proofs.YtmkinaijkgkgiaaGreat
/- A pruner's receiver; which nodes are inner ones of one entry; no condition. -/
namespace Go.Proofs.YtmkinaijkgkgiaaGreat
open Go.RowKit Go.Proofs.U
set_option linter.unusedSimpArgs false
set_option linter.unusedVariables false
theorem pr_cell {w : World} {g gs : Nat} (h : BxV w g 28 [ptr gs]) : w.cell? ⟨g, 0, none⟩ = some (ptr gs) := (h.cell 0 _ rfl).1
theorem pr_size : (Tryz.prog.info? 28).map (·.size) = some 1 := by kernel_rfl
theorem pr_struct : Tryz.prog.underlying 28 = some (.struct (Tryz.prog.fieldsOf 28)) := by kernel_rfl
theorem run_ldP {w : World} {g gs : Nat} (h : BxV w g 28 [ptr gs]) : (Instr.loadAt 28 (.pointer (some ⟨g, 0, none⟩))).run Tryz.prog w = .ok (trV gs) w := by
  have := run_loadVar_mid (P := Tryz.prog) w g 0 28 [ptr gs] _ (h.range 0 _ rfl) pr_struct rfl pr_size
  simpa [Instr.loadAt, Instr.sureAddr, Result.andThen, trV] using this
theorem wpList_ldP {w : World} {ops : Array Oper} {rest : List Oper} {o : Oper} {a : Act} {Q : Exit → Act → World → Prop} (hgd : Region.wanted o (yielded ops a.tmps) = true) (y : Operand) (ho : o.op = .load 28 y) (g : Nat) (hy : a.eval y = .pointer (some ⟨g, 0, none⟩)) (gs : Nat) (hB : BxV w g 28 [ptr gs])
    (h : wpList Tryz.prog ops Q rest (a.put o.dst (trV gs)) w) : wpList Tryz.prog ops Q (o :: rest) a w := by
  refine wpList_wanted hgd fun K hK => ?_
  have hr := run_ldP hB
  unfold Oper.wp
  simp [execOp, ho, hy, hr, Result.andThen]
  exact hK _ _ h
theorem run_ldPT {w : World} {g gs : Nat} (h : BxV w g 28 [ptr gs]) : (Instr.loadAt 26 (.pointer (some ⟨g, 0, none⟩))).run Tryz.prog w = .ok (trV gs) w := by
  have := run_loadVar_mid (P := Tryz.prog) w g 0 26 [ptr gs] _ (h.range 0 _ rfl) tr_struct rfl tr_size
  simpa [Instr.loadAt, Instr.sureAddr, Result.andThen, trV] using this
theorem wpList_ldPT {w : World} {ops : Array Oper} {rest : List Oper} {o : Oper} {a : Act} {Q : Exit → Act → World → Prop} (hgd : Region.wanted o (yielded ops a.tmps) = true) (y : Operand) (ho : o.op = .load 26 y) (g : Nat) (hy : a.eval y = .pointer (some ⟨g, 0, none⟩)) (gs : Nat) (hB : BxV w g 28 [ptr gs])
    (h : wpList Tryz.prog ops Q rest (a.put o.dst (trV gs)) w) : wpList Tryz.prog ops Q (o :: rest) a w := by
  refine wpList_wanted hgd fun K hK => ?_
  have hr := run_ldPT hB
  unfold Oper.wp
  simp [execOp, ho, hy, hr, Result.andThen]
  exact hK _ _ h
def soleN (n : Nd) : Bool := n.k == 3 && ((n.es.length : Int) == 1)
set_option maxRecDepth 100000 in
set_option maxHeartbeats 2000000 in
theorem sole_any {w : World} {v : Value} {N : Nd} (n : NdS w v N) :
    Calls Tryz.prog 57 #[ndV N.k N.b v] w fun r w' => r = .returned (.bool (soleN N)) ∧ Fr noB w w' := by
  have hb := NdS.bl n
  obtain ⟨a, c, hv, _⟩ := n.slr.opn
  subst hv
  unfold soleN
  obtain ⟨nk, nb, nes⟩ := N
  simp only at hb ⊢
  obtain ⟨m, Hm⟩ : ∃ m, Hid (nes.length = m) := ⟨_, rfl⟩
  rw [Hm.out]
  cases hk : (nk == 3) with
  | false =>
    go_enter Tryz.func57, Tryz.ntmps57
    go_wp2_with (first
      | (with_reducible refine at_wpP ?_; refine wpList_boxN rfl _ rfl nk nb _ rfl ?_; intro g3 w3 hg3 b3 f3 s3; have l3 := b3.lt; have z3 := f3.size; have q3 := NdB.ents b3 hb.out; have k3 := NdB.kind b3))
    go_ret
    exact ⟨rfl, f3⟩
  | true =>
    go_enter Tryz.func57, Tryz.ntmps57
    go_wp2_with (first
      | (with_reducible refine at_wpP ?_; refine wpList_boxN rfl _ rfl nk nb _ rfl ?_; intro g3 w3 hg3 b3 f3 s3; have l3 := b3.lt; have z3 := f3.size; have q3 := NdB.ents b3 hb.out; have k3 := NdB.kind b3))
    go_ret
    exact ⟨rfl, f3⟩
end Go.Proofs.YtmkinaijkgkgiaaGreat
