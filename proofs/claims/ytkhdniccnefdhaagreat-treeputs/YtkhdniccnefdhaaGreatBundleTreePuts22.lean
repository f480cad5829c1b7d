/- Texts JU, JV, JX, JY, TB, TE, JW of the proof of TreePuts, one behind the other. -/
import Derived.Test.YtkhdniccnefdhaaGreatBundleTreePuts1
import Derived.Test.YtkhdniccnefdhaaGreatBundleTreePuts2
import Derived.Test.YtkhdniccnefdhaaGreatBundleTreePuts3
import Derived.Test.YtkhdniccnefdhaaGreatBundleTreePuts4
import Derived.Test.YtkhdniccnefdhaaGreatBundleTreePuts5
import Derived.Test.YtkhdniccnefdhaaGreatBundleTreePuts6
import Derived.Test.YtkhdniccnefdhaaGreatBundleTreePuts7
import Derived.Test.YtkhdniccnefdhaaGreatBundleTreePuts8
import Derived.Test.YtkhdniccnefdhaaGreatBundleTreePuts9
import Derived.Test.YtkhdniccnefdhaaGreatBundleTreePuts10
import Derived.Test.YtkhdniccnefdhaaGreatBundleTreePuts11
import Derived.Test.YtkhdniccnefdhaaGreatBundleTreePuts12
import Derived.Test.YtkhdniccnefdhaaGreatBundleTreePuts13
import Derived.Test.YtkhdniccnefdhaaGreatBundleTreePuts14
import Derived.Test.YtkhdniccnefdhaaGreatBundleTreePuts15
import Derived.Test.YtkhdniccnefdhaaGreatBundleTreePuts16
import Derived.Test.YtkhdniccnefdhaaGreatBundleTreePuts17
import Derived.Test.YtkhdniccnefdhaaGreatBundleTreePuts18
import Derived.Test.YtkhdniccnefdhaaGreatBundleTreePuts19
import Derived.Test.YtkhdniccnefdhaaGreatBundleTreePuts20
import Derived.Test.YtkhdniccnefdhaaGreatBundleTreePuts21
/- How often pages are held, and how many, by the trees that there are, plain; no condition. -/
namespace Go.Proofs.YtkhdniccnefdhaaGreat
open Go.RowKit Go.Proofs.U
set_option linter.unusedSimpArgs false
set_option linter.unusedVariables false
theorem sum_app (a b : List Nat) : (a ++ b).sum = a.sum + b.sum := by induction a with
  | nil => simp
  | cons x a ih => simp only [List.cons_append, List.sum_cons, ih]; omega
theorem sum_sub {f : Nat → Nat} : ∀ {l W : List Nat}, l.Nodup → (∀ x ∈ l, x ∈ W) → (l.map f).sum ≤ (W.map f).sum
  | [], W, _, _ => by simp
  | x :: l, W, hn, h => by
    obtain ⟨hx, hn'⟩ := List.nodup_cons.1 hn
    have hp := List.perm_cons_erase (h x (by simp))
    have e := (hp.map f).sum_nat
    rw [List.map_cons, List.sum_cons] at e
    rw [e, List.map_cons, List.sum_cons]
    have := sum_sub (l := l) (W := W.erase x) (f := f) hn' fun y hy => by
      have hne : y ≠ x := fun e => hx (by rw [← e]; exact hy)
      exact (List.mem_erase_of_ne hne).2 (h y (by simp [hy]))
    omega
theorem sum_one {α : Type} : ∀ l : List α, (l.map fun _ => 1).sum = l.length
  | [] => rfl
  | x :: l => by rw [List.map_cons, List.sum_cons, sum_one l, List.length_cons]; omega
theorem len_sub {l W : List Nat} (hn : l.Nodup) (h : ∀ x ∈ l, x ∈ W) : l.length ≤ W.length := by
  have := sum_sub (f := fun _ => 1) hn h
  rwa [sum_one, sum_one] at this
theorem occ_cons (X : DSt) (lv : Nat) (p : Int) : occT X lv p = p :: (occT X lv p).tail := by cases lv <;> rfl
theorem kids_sum {X : DSt} (q : Int) : ∀ {lv : Nat} {p lo hi : Int}, okT X lv p lo hi → ((occT X lv p).map fun r => (kids (rdN X r).1).count q).sum = (occT X lv p).tail.count q + ((lsT X lv p).map (·.2)).count q
  | 0, p, lo, hi, h => by
    unfold occT lsT
    simp only [List.map_cons, List.map_nil, List.sum_cons, List.sum_nil, List.tail_cons, List.count_nil]
    show ((esX X p).map (·.2)).count q + 0 = 0 + _
    omega
  | lv + 1, p, lo, hi, h => by
    have hc := h.child
    have key : ∀ es : List (Int × Int), (∀ x ∈ es, ∃ b, okT X lv x.2 x.1 b) → (es.map (·.2)).count q + ((es.flatMap fun x => occT X lv x.2).map fun r => (kids (rdN X r).1).count q).sum = (es.flatMap fun x => occT X lv x.2).count q + ((es.flatMap fun x => lsT X lv x.2).map (·.2)).count q := by
      intro es
      induction es with
      | nil => intro _; simp
      | cons x es ih =>
        intro hh
        obtain ⟨b, hb⟩ := hh x (by simp)
        have h1 := kids_sum q hb
        have h2 := ih fun y hy => hh y (by simp [hy])
        have h3 : (occT X lv x.2).count q = (if x.2 == q then 1 else 0) + (occT X lv x.2).tail.count q := by
          conv => lhs; rw [occ_cons X lv x.2]
          rw [List.count_cons]
          omega
        simp only [List.flatMap_cons, List.map_append, List.map_cons, List.count_append, List.count_cons, sum_app]
        rw [h1, h3]
        omega
    unfold occT lsT
    simp only [List.map_cons, List.sum_cons, List.tail_cons]
    exact key _ hc
/-- A tree's nodes are as many as its entries at most, where each child has at least two entries. -/
theorem occ_len {X : DSt} {Q : List Nat → Prop} (hQ : ∀ l, Q l → ∀ c ∈ l, 2 ≤ c) : ∀ {lv : Nat} {p lo hi : Int}, okT X lv p lo hi → fitT X Q lv p → 2 ≤ szX X p → (occT X lv p).length + 1 ≤ (lsT X lv p).length
  | 0, p, lo, hi, h, _, hs => by unfold occT lsT; unfold szX at hs; simp; omega
  | lv + 1, p, lo, hi, h, hf, hs => by
    have hc := h.child
    have hf' := (show Q ((esX X p).map fun x => szX X x.2) ∧ ∀ x ∈ esX X p, fitT X Q lv x.2 from hf)
    have h2 := hQ _ hf'.1
    have key : ∀ es : List (Int × Int), (∀ x ∈ es, ∃ b, okT X lv x.2 x.1 b) → (∀ x ∈ es, fitT X Q lv x.2) → (∀ x ∈ es, 2 ≤ szX X x.2) → (es.flatMap fun x => occT X lv x.2).length + es.length ≤ (es.flatMap fun x => lsT X lv x.2).length := by
      intro es
      induction es with
      | nil => intro _ _ _; simp
      | cons x es ih =>
        intro h1 h2 h3
        obtain ⟨b, hb⟩ := h1 x (by simp)
        have := occ_len hQ hb (h2 x (by simp)) (h3 x (by simp))
        have := ih (fun y hy => h1 y (by simp [hy])) (fun y hy => h2 y (by simp [hy])) (fun y hy => h3 y (by simp [hy]))
        simp only [List.flatMap_cons, List.length_append, List.length_cons]
        omega
    have := key _ hc hf'.2 fun x hx => h2 _ (List.mem_map_of_mem (f := fun x : Int × Int => szX X x.2) hx)
    unfold occT lsT
    unfold szX at hs
    simp only [List.length_cons]
    omega
/-- .. and so many entries are below so many levels. -/
theorem pow_len {X : DSt} {Q : List Nat → Prop} (hQ : ∀ l, Q l → ∀ c ∈ l, 2 ≤ c) : ∀ {lv : Nat} {p lo hi : Int}, okT X lv p lo hi → fitT X Q lv p → 2 ≤ szX X p → 2 ^ (lv + 1) ≤ (lsT X lv p).length
  | 0, p, lo, hi, h, _, hs => by unfold lsT; unfold szX at hs; simpa using hs
  | lv + 1, p, lo, hi, h, hf, hs => by
    have hc := h.child
    have hf' := (show Q ((esX X p).map fun x => szX X x.2) ∧ ∀ x ∈ esX X p, fitT X Q lv x.2 from hf)
    have h2 := hQ _ hf'.1
    have key : ∀ es : List (Int × Int), (∀ x ∈ es, ∃ b, okT X lv x.2 x.1 b) → (∀ x ∈ es, fitT X Q lv x.2) → (∀ x ∈ es, 2 ≤ szX X x.2) → es.length * 2 ^ (lv + 1) ≤ (es.flatMap fun x => lsT X lv x.2).length := by
      intro es
      induction es with
      | nil => intro _ _ _; simp
      | cons x es ih =>
        intro h1 h2 h3
        obtain ⟨b, hb⟩ := h1 x (by simp)
        have := pow_len hQ hb (h2 x (by simp)) (h3 x (by simp))
        have := ih (fun y hy => h1 y (by simp [hy])) (fun y hy => h2 y (by simp [hy])) (fun y hy => h3 y (by simp [hy]))
        simp only [List.flatMap_cons, List.length_append, List.length_cons, Nat.succ_mul]
        omega
    have := key _ hc hf'.2 fun x hx => h2 _ (List.mem_map_of_mem (f := fun x : Int × Int => szX X x.2) hx)
    unfold lsT
    have h3 : 2 * 2 ^ (lv + 1) ≤ (esX X p).length * 2 ^ (lv + 1) := Nat.mul_le_mul_right _ hs
    rw [Nat.pow_succ 2 (lv + 1)]
    omega
/-- The blocks and the trees that there are: all that is held is theirs. -/
structure Fam (X : DSt) (R : List Int) (Q : List Nat → Prop) (B : List Int) (Ts : List (Nat × Int)) : Prop where
  bl : ∀ b ∈ B, 0 ≤ b ∧ (rdN X b).1.k = 1 ∧ (rdN X b).1.es = []
  tr : ∀ t ∈ Ts, 0 ≤ t.2 ∧ TreeAt X Q t.1 t.2 (lsT X t.1 t.2) ∧ ∀ z ∈ lsT X t.1 t.2, z.2 ∈ B
  rt : ∀ r ∈ R, r ∈ B ∨ ∃ t ∈ Ts, t.2 = r
theorem occ_kids {X : DSt} {B : List Int} : ∀ {lv : Nat} {p lo hi : Int}, okT X lv p lo hi → (∀ z ∈ lsT X lv p, z.2 ∈ B) → ∀ q ∈ occT X lv p, ∀ x ∈ kids (rdN X q).1, x ∈ B ∨ x ∈ occT X lv p
  | 0, p, lo, hi, h, hb, q, hq, x, hx => by
    simp [occT] at hq
    subst hq
    obtain ⟨y, hy, rfl⟩ := List.mem_map.1 hx
    exact Or.inl (hb y hy)
  | lv + 1, p, lo, hi, h, hb, q, hq, x, hx => by
    unfold occT at hq
    rcases List.mem_cons.1 hq with rfl | hq
    · obtain ⟨y, hy, rfl⟩ := List.mem_map.1 hx
      refine Or.inr ?_
      unfold occT
      refine List.mem_cons_of_mem _ (List.mem_flatMap.2 ⟨y, hy, ?_⟩)
      rw [occ_cons]; simp
    · obtain ⟨y, hy, hq⟩ := List.mem_flatMap.1 hq
      obtain ⟨b, hbb⟩ := h.child y hy
      rcases occ_kids hbb (fun z hz => hb z (by unfold lsT; exact List.mem_flatMap.2 ⟨y, hy, hz⟩)) q hq x hx with h1 | h1
      · exact Or.inl h1
      · refine Or.inr ?_
        unfold occT
        exact List.mem_cons_of_mem _ (List.mem_flatMap.2 ⟨y, hy, h1⟩)
theorem occ_kd {X : DSt} : ∀ {lv : Nat} {p lo hi : Int}, okT X lv p lo hi → ∀ q ∈ occT X lv p, ¬ (rdN X q).1.k = 1
  | 0, p, lo, hi, h, q, hq => by
    simp [occT] at hq; subst hq; rw [h.2.1]; decide
  | lv + 1, p, lo, hi, h, q, hq => by
    unfold occT at hq
    rcases List.mem_cons.1 hq with rfl | hq
    · rw [h.2.1]; decide
    · obtain ⟨y, hy, hq⟩ := List.mem_flatMap.1 hq
      obtain ⟨b, hb⟩ := h.child y hy
      exact occ_kd hb q hq
def famP (X : DSt) (B : List Int) (Ts : List (Nat × Int)) : List Int := B ++ Ts.flatMap fun t => occT X t.1 t.2
theorem Fam.live {X : DSt} {L : List Pg} {R : List Int} {Q : List Nat → Prop} {B : List Int} {Ts : List (Nat × Int)} (f : Fam X R Q B Ts) (h : Inv X L R) {q : Nat} (hq : 0 < cntL L q) : (q : Int) ∈ famP X B Ts := by
  obtain ⟨rk, hfl⟩ := h.fl
  have hr := (Exact.live_iff h.di.ex hfl).1 hq
  clear hq
  induction hr with
  | root hm =>
    obtain ⟨r, hr, rfl⟩ := List.mem_map.1 hm
    rw [Int.toNat_of_nonneg (h.nn r hr)]
    unfold famP
    rcases f.rt r hr with hb | ⟨t, ht, rfl⟩
    · exact List.mem_append_left _ hb
    · refine List.mem_append_right _ (List.mem_flatMap.2 ⟨t, ht, ?_⟩)
      rw [occ_cons]; simp
  | child hq hm ih =>
    obtain ⟨x, hx, rfl⟩ := List.mem_map.1 hm
    unfold famP at ih ⊢
    rcases List.mem_append.1 ih with hb | ho
    · rw [show kids (rdN X _).1 = [] by unfold kids; rw [(f.bl _ hb).2.2]; rfl] at hx
      cases hx
    · obtain ⟨t, ht, ho⟩ := List.mem_flatMap.1 ho
      rcases occ_kids (f.tr t ht).2.1.ok (f.tr t ht).2.2 _ ho x hx with h1 | h1
      · rw [Int.toNat_of_nonneg (f.bl x h1).1]
        exact List.mem_append_left _ h1
      · have h2 := h.di.kid (Exact.reached h.di.ex hq) x hx
        rw [Int.toNat_of_nonneg h2.1]
        exact List.mem_append_right _ (List.mem_flatMap.2 ⟨t, ht, h1⟩)
end Go.Proofs.YtkhdniccnefdhaaGreat
/- Bounds of how often pages are held and of how many are free, plain; no condition. -/
namespace Go.Proofs.YtkhdniccnefdhaaGreat
open Go.RowKit Go.Proofs.U
set_option linter.unusedSimpArgs false
set_option linter.unusedVariables false
theorem occ_nn {X : DSt} : ∀ {lv : Nat} {p lo hi : Int}, okT X lv p lo hi → 0 ≤ p → ∀ q ∈ occT X lv p, 0 ≤ q
  | 0, p, lo, hi, h, h0, q, hq => by simp [occT] at hq; subst hq; exact h0
  | lv + 1, p, lo, hi, h, h0, q, hq => by
    unfold occT at hq
    rcases List.mem_cons.1 hq with rfl | hq
    · exact h0
    · obtain ⟨y, hy, hq⟩ := List.mem_flatMap.1 hq
      obtain ⟨b, hb⟩ := h.child y hy
      exact occ_nn hb (h.es.2.2.2 y hy).2.2.1 q hq
theorem fam_nn {X : DSt} {R : List Int} {Q : List Nat → Prop} {B : List Int} {Ts : List (Nat × Int)} (f : Fam X R Q B Ts) : ∀ x ∈ famP X B Ts, 0 ≤ x := by
  intro x hx
  rcases List.mem_append.1 hx with h | h
  · exact (f.bl x h).1
  · obtain ⟨t, ht, h⟩ := List.mem_flatMap.1 h
    exact occ_nn (f.tr t ht).2.1.ok (f.tr t ht).1 x h
theorem sum_zero {α : Type} : ∀ l : List α, (l.map fun _ => 0).sum = 0
  | [] => rfl
  | x :: l => by rw [List.map_cons, List.sum_cons, sum_zero l]
theorem sum_le {α : Type} {f g : α → Nat} : ∀ {l : List α}, (∀ x ∈ l, f x ≤ g x) → (l.map f).sum ≤ (l.map g).sum
  | [], _ => by simp
  | x :: l, h => by
    rw [List.map_cons, List.map_cons, List.sum_cons, List.sum_cons]
    have := h x (by simp)
    have := sum_le (l := l) fun y hy => h y (by simp [hy])
    omega
theorem sum_flat {α β : Type} (f : β → Nat) (g : α → List β) : ∀ l : List α, ((l.flatMap g).map f).sum = (l.map fun x => ((g x).map f).sum).sum
  | [] => rfl
  | x :: l => by rw [List.flatMap_cons, List.map_append, sum_app, sum_flat f g l, List.map_cons, List.sum_cons]
/-- How often a page is held: as a root, and by as many nodes as there are entries at most. -/
theorem Fam.cnt {X : DSt} {L : List Pg} {R : List Int} {Q : List Nat → Prop} {B : List Int} {Ts : List (Nat × Int)} (f : Fam X R Q B Ts) (h : Inv X L R) (ho : ∀ t ∈ Ts, (occT X t.1 t.2).length ≤ (lsT X t.1 t.2).length) (q : Nat) :
    cntL L q ≤ R.count (q : Int) + (Ts.map fun t => (lsT X t.1 t.2).length).sum := by
  have e := h.di.ex.cnt q
  rw [count_toNat h.nn q] at e
  rw [e]
  refine Nat.add_le_add_left ?_ _
  unfold byCh
  have e1 : (U.live L.length (cntL L)).map (fun r => (chX X r).count q) = (U.live L.length (cntL L)).map fun r : Nat => (kids (rdN X (r : Int)).1).count (q : Int) := by
    refine List.map_congr_left fun r hr => ?_
    have hr := (mem_live.1 hr).2
    unfold chX
    exact count_toNat (fun x hx => (h.di.kid hr x hx).1) q
  rw [e1]
  have hnn := fam_nn f
  refine Nat.le_trans (sum_sub (W := (famP X B Ts).map Int.toNat) (live_nodup _ _) fun r hr => ?_) ?_
  · have := f.live h (mem_live.1 hr).2
    exact List.mem_map.2 ⟨(r : Int), this, by simp⟩
  · rw [List.map_map]
    have e2 : (famP X B Ts).map ((fun r : Nat => (kids (rdN X (r : Int)).1).count (q : Int)) ∘ Int.toNat) = (famP X B Ts).map fun x => (kids (rdN X x).1).count (q : Int) := by
      refine List.map_congr_left fun x hx => ?_
      show (kids (rdN X ((x.toNat : Nat) : Int)).1).count (q : Int) = _
      rw [Int.toNat_of_nonneg (hnn x hx)]
    rw [e2]
    unfold famP
    rw [List.map_append, sum_app, sum_flat]
    have hB : (B.map fun x => (kids (rdN X x).1).count (q : Int)).sum = 0 := by
      have : (B.map fun x => (kids (rdN X x).1).count (q : Int)) = B.map fun _ => 0 := List.map_congr_left fun x hx => by
        unfold kids
        rw [(f.bl x hx).2.2]
        rfl
      rw [this]
      exact sum_zero B
    rw [hB, Nat.zero_add]
    refine sum_le fun t ht => ?_
    obtain ⟨h0, ht2, hb⟩ := f.tr t ht
    rw [kids_sum (q : Int) ht2.ok]
    by_cases hq : (q : Int) ∈ B
    · have : (occT X t.1 t.2).tail.count (q : Int) = 0 := List.count_eq_zero.2 fun hm => by
        have := occ_kd ht2.ok _ (List.mem_of_mem_tail hm)
        exact this (f.bl _ hq).2.1
      rw [this]
      have := cnt_le (lsT X t.1 t.2) (q : Int)
      omega
    · have h1 : ((lsT X t.1 t.2).map (·.2)).count (q : Int) = 0 := List.count_eq_zero.2 fun hm => by
        obtain ⟨z, hz, e⟩ := List.mem_map.1 hm
        exact hq (by rw [← e]; exact hb z hz)
      rw [h1]
      have h2 := List.count_le_length (a := (q : Int)) (l := (occT X t.1 t.2).tail)
      have h3 := ho t ht
      have h4 : (occT X t.1 t.2).tail.length ≤ (occT X t.1 t.2).length := by rw [List.length_tail]; omega
      omega
/-- How many pages aren't free. -/
theorem Fam.used {X : DSt} {L : List Pg} {R : List Int} {Q : List Nat → Prop} {B : List Int} {Ts : List (Nat × Int)} (f : Fam X R Q B Ts) (h : Inv X L R) (y : PlY L) : L.length ≤ plFree L + (famP X B Ts).length := by
  have h1 : (U.live L.length (cntL L)).length ≤ (famP X B Ts).length := by
    have := len_sub (W := (famP X B Ts).map Int.toNat) (live_nodup L.length (cntL L)) fun r hr => by
      have := f.live h (mem_live.1 hr).2
      exact List.mem_map.2 ⟨(r : Int), this, by simp⟩
    rwa [List.length_map] at this
  have h2 : L.length ≤ plFree L + (U.live L.length (cntL L)).length := by
    have key : ∀ n, n ≤ L.length → n ≤ (L.take n).countP Pg.free + ((List.range n).filter fun q => decide (0 < cntL L q)).length := by
      intro n
      induction n with
      | zero => intro _; omega
      | succ n ih =>
        intro hn
        have := ih (by omega)
        rw [List.take_succ_eq_append_getElem (by omega), List.countP_append, List.range_succ, List.filter_append, List.length_append]
        have hx : 1 ≤ [L[n]].countP Pg.free + ([n].filter fun q => decide (0 < cntL L q)).length := by
          have hp : plAt L n = L[n] := plAt_get L n (by omega)
          rcases y n with hy | ⟨hs, hc⟩
          · have hf : (plAt L n).frsh = true := by unfold Pg.frsh; rw [hy]; rfl
            have hc := h.di.nf n hf
            have : 0 < cntL L n := (cnt_pos n).2 hc
            simp [List.filter, this]
          · have : L[n].free = true := by rw [← hp]; unfold Pg.free; rw [hs, hc]; rfl
            simp [List.countP_cons, this]
        omega
    have := key L.length (Nat.le_refl _)
    rw [List.take_length] at this
    exact this
  omega
end Go.Proofs.YtkhdniccnefdhaaGreat
/- A tree over a store with blocks and other trees, plain; no condition. -/
namespace Go.Proofs.YtkhdniccnefdhaaGreat
open Go.RowKit Go.Proofs.U
set_option linter.unusedSimpArgs false
set_option linter.unusedVariables false
/-- The roots: the blocks, and the tree's if there is one. -/
def rtsB (B : List Int) (root : Int) : List Int := if root = -1 then B else B ++ [root]
/-- What other trees are. -/
def OthT (X : DSt) (B : List Int) (O : List (Nat × Int)) : Prop := ∀ t ∈ O, 0 ≤ t.2 ∧ TreeAt X Q2 t.1 t.2 (lsT X t.1 t.2) ∧ (∀ z ∈ lsT X t.1 t.2, z.2 ∈ B) ∧ lsT X t.1 t.2 ≠ []
/-- One tree over a store: B are the pages of blocks, O are other trees. -/
structure OneT (X : DSt) (L : List Pg) (B : List Int) (O : List (Nat × Int)) (lv : Nat) (root : Int) (l : List (Int × Int)) : Prop where
  iv : Inv X L (rtsB (B ++ O.map (·.2)) root)
  ot : OthT X B O
  bl : ∀ b ∈ B, 0 ≤ b ∧ (rdN X b).1.k = 1 ∧ (rdN X b).1.es = []
  rt : RtAt X L [] Q2 lv root l
  pg : ∀ z ∈ l, z.2 ∈ B
  ne : ¬ root = -1 → l ≠ []
  nn : root = -1 ∨ 0 ≤ root
theorem rtsB_B {B : List Int} {root b : Int} (h : b ∈ B) : b ∈ rtsB B root := by
  unfold rtsB; split
  · exact h
  · exact List.mem_append_left _ h
def oneTs (O : List (Nat × Int)) (lv : Nat) (root : Int) : List (Nat × Int) := if root = -1 then O else O ++ [(lv, root)]
theorem OneT.tree {X : DSt} {L : List Pg} {B : List Int} {O : List (Nat × Int)} {lv : Nat} {root : Int} {l : List (Int × Int)} (o : OneT X L B O lv root l) (hr : ¬ root = -1) : 0 ≤ root ∧ lv < 8 ∧ TreeAt X Q2 lv root l := by
  rcases o.rt with ⟨q, _⟩ | ⟨h0, _, hl, t⟩
  · exact absurd q hr
  · exact ⟨h0, hl, t⟩
theorem oneTs_mem {O : List (Nat × Int)} {lv : Nat} {root : Int} {t : Nat × Int} (h : t ∈ oneTs O lv root) : t ∈ O ∨ (¬ root = -1 ∧ t = (lv, root)) := by
  unfold oneTs at h
  split at h
  · exact Or.inl h
  · rename_i e
    rcases List.mem_append.1 h with q | q
    · exact Or.inl q
    · simp at q; exact Or.inr ⟨e, q⟩
theorem OneT.fam {X : DSt} {L : List Pg} {B : List Int} {O : List (Nat × Int)} {lv : Nat} {root : Int} {l : List (Int × Int)} (o : OneT X L B O lv root l) : Fam X (rtsB (B ++ O.map (·.2)) root) Q2 B (oneTs O lv root) := by
  refine ⟨o.bl, fun t ht => ?_, fun r hr => ?_⟩
  · rcases oneTs_mem ht with h | ⟨h, rfl⟩
    · exact ⟨(o.ot t h).1, (o.ot t h).2.1, (o.ot t h).2.2.1⟩
    · obtain ⟨h0, _, t⟩ := o.tree h
      have e : lsT X lv root = l := t.ls
      exact ⟨h0, by show TreeAt X Q2 lv root (lsT X lv root); rw [e]; exact t, by show ∀ z ∈ lsT X lv root, z.2 ∈ B; rw [e]; exact o.pg⟩
  · have key : ∀ r ∈ B ++ O.map (·.2), r ∈ B ∨ ∃ t ∈ O, t.2 = r := by
      intro r hr
      rcases List.mem_append.1 hr with q | q
      · exact Or.inl q
      · obtain ⟨t, ht, e⟩ := List.mem_map.1 q
        exact Or.inr ⟨t, ht, e⟩
    unfold rtsB at hr
    unfold oneTs
    split at hr
    · rename_i h
      rw [if_pos h]
      exact key r hr
    · rename_i h
      rw [if_neg h]
      rcases List.mem_append.1 hr with q | q
      · rcases key r q with q | ⟨t, ht, e⟩
        · exact Or.inl q
        · exact Or.inr ⟨t, List.mem_append_left _ ht, e⟩
      · simp at q; exact Or.inr ⟨(lv, root), by simp, by simp [q]⟩
theorem OneT.len {X : DSt} {L : List Pg} {B : List Int} {O : List (Nat × Int)} {lv : Nat} {root : Int} {l : List (Int × Int)} (o : OneT X L B O lv root l) : l.length ≤ 64 := o.rt.len
theorem TreeAt.occ {X : DSt} {lv : Nat} {root : Int} {l : List (Int × Int)} (t : TreeAt X Q2 lv root l) (hn : l ≠ []) : (occT X lv root).length ≤ l.length := by
  have hp := List.length_pos_iff.2 hn
  cases lv with
  | zero => simp [occT]; omega
  | succ lv =>
    have h2 : 2 ≤ szX X root := by rcases t.rt with q | q; · omega
                                   · exact q
    have := occ_len (Q := Q2) (fun _ q => q) t.ok t.ft h2
    rw [t.ls] at this
    omega
theorem TreeAt.len {X : DSt} {lv : Nat} {root : Int} {l : List (Int × Int)} (t : TreeAt X Q2 lv root l) : l.length ≤ 64 := by
  rw [← t.ls]
  have := KeysUp.len (lsT_up t.ok) (a := 0) (b := 63) (by decide) (fun z hz => by have := lsT_rng t.ok z hz; omega)
  omega
theorem OneT.all {X : DSt} {L : List Pg} {B : List Int} {O : List (Nat × Int)} {lv : Nat} {root : Int} {l : List (Int × Int)} (o : OneT X L B O lv root l) : ∀ t ∈ oneTs O lv root, (occT X t.1 t.2).length ≤ (lsT X t.1 t.2).length ∧ (lsT X t.1 t.2).length ≤ 64 := by
  intro t ht
  rcases oneTs_mem ht with h | ⟨h, rfl⟩
  · exact ⟨(o.ot t h).2.1.occ (o.ot t h).2.2.2, (o.ot t h).2.1.len⟩
  · obtain ⟨_, _, t⟩ := o.tree h
    show (occT X lv root).length ≤ (lsT X lv root).length ∧ (lsT X lv root).length ≤ 64
    rw [t.ls]
    exact ⟨t.occ (o.ne h), o.len⟩
theorem sum_64 {α : Type} {f : α → Nat} (l : List α) (h : ∀ x ∈ l, f x ≤ 64) : (l.map f).sum ≤ 64 * l.length := by
  induction l with
  | nil => simp
  | cons x l ih =>
    have := ih fun y hy => h y (by simp [hy])
    have := h x (by simp)
    simp only [List.map_cons, List.sum_cons, List.length_cons]
    omega
theorem len_flat {α β : Type} (g : α → List β) (l : List α) : (l.flatMap g).length = (l.map fun x => (g x).length).sum := by
  induction l with
  | nil => rfl
  | cons x l ih => rw [List.flatMap_cons, List.length_append, ih, List.map_cons, List.sum_cons]
theorem oneTs_len (O : List (Nat × Int)) (lv : Nat) (root : Int) : (oneTs O lv root).length ≤ O.length + 1 := by
  unfold oneTs; split <;> simp
/-- How often a page is held. -/
theorem OneT.cnt {X : DSt} {L : List Pg} {B : List Int} {O : List (Nat × Int)} {lv : Nat} {root : Int} {l : List (Int × Int)} (o : OneT X L B O lv root l) (q : Nat) : cntL L q ≤ B.length + 65 * (O.length + 1) := by
  have h := o.fam.cnt o.iv (fun t ht => (o.all t ht).1) q
  have h1 : (rtsB (B ++ O.map (·.2)) root).count (q : Int) ≤ B.length + O.length + 1 := by
    refine Nat.le_trans (List.count_le_length) ?_
    unfold rtsB; split <;> simp <;> omega
  have h2 := sum_64 (f := fun t => (lsT X t.1 t.2).length) (oneTs O lv root) fun t ht => (o.all t ht).2
  have h3 := oneTs_len O lv root
  omega
/-- How many are free. -/
theorem OneT.free {X : DSt} {L : List Pg} {B : List Int} {O : List (Nat × Int)} {lv : Nat} {root : Int} {l : List (Int × Int)} (o : OneT X L B O lv root l) (y : PlY L) : L.length ≤ plFree L + (B.length + 64 * (O.length + 1)) := by
  have h := o.fam.used o.iv y
  have h2 := sum_64 (f := fun t => (occT X t.1 t.2).length) (oneTs O lv root) fun t ht => by have := o.all t ht; omega
  have h3 := oneTs_len O lv root
  have h1 : (famP X B (oneTs O lv root)).length ≤ B.length + 64 * (O.length + 1) := by
    unfold famP
    rw [List.length_append, len_flat]
    omega
  omega
theorem OneT.lv5 {X : DSt} {L : List Pg} {B : List Int} {O : List (Nat × Int)} {lv : Nat} {root : Int} {l : List (Int × Int)} (o : OneT X L B O lv root l) (hr : ¬ root = -1) : lv ≤ 5 := by
  obtain ⟨_, _, t⟩ := o.tree hr
  cases lv with
  | zero => omega
  | succ lv =>
    have h2 : 2 ≤ szX X root := by rcases t.rt with q | q; · omega
                                   · exact q
    have h := pow_len (Q := Q2) (fun _ q => q) t.ok t.ft h2
    rw [t.ls] at h
    have := o.len
    by_cases hl : lv + 1 ≤ 5
    · exact hl
    · have : 2 ^ 7 ≤ 2 ^ (lv + 1 + 1) := Nat.pow_le_pow_right (by decide) (by omega)
      omega
/-- Its height. -/
def hgt (lv : Nat) (root : Int) : Nat := if root = -1 then 0 else lv + 1
theorem putL_ne (l : List (Int × Int)) (x : Int × Int) : putL l x ≠ [] := by
  cases l with
  | nil => simp [putL]
  | cons y l => unfold putL; split <;> simp
theorem OthT.ext {X X' : DSt} {L L' : List Pg} {R : List Int} {B : List Int} {O : List (Nat × Int)} (h : Inv X L R) (hx : Ext X L X' L') (hr : ∀ t ∈ O, t.2 ∈ R) (o : OthT X B O) : OthT X' B O := by
  intro t ht
  obtain ⟨h0, k, hb, hn⟩ := o t ht
  have hp := (h.toT.root (hr t ht)).2
  obtain ⟨a1, a2, a3⟩ := okT.ext h.toT hx k.ok h0 hp
  have hf := fitT.ext h.toT hx k.ok h0 hp k.ft
  rw [a2]
  refine ⟨h0, ⟨a1, a2, ?_, hf⟩, hb, hn⟩
  rcases k.rt with q | q
  · exact Or.inl q
  · refine Or.inr ?_
    have e := (hx.kp t.2.toNat (h.toT.live hp).1).1
    have e2 : ((t.2.toNat : Nat) : Int) = t.2 := by omega
    rw [e2] at e
    unfold szX esX at q ⊢
    rw [e]
    exact q
/-- A key is put, the tree is swapped for the new one. -/
theorem OneT.put {X : DSt} {L : List Pg} {B : List Int} {O : List (Nat × Int)} {lv : Nat} {root : Int} {l : List (Int × Int)} (o : OneT X L B O lv root l) {x : Int × Int} (hx : x.2 ∈ B) {X' : DSt} {L' : List Pg} {p' : Int} (r : PutR X L (rtsB (B ++ O.map (·.2)) root) [] Q2 (hgt lv root) (putL l x) X' L' p' 0) (hc : B.length + 65 * O.length ≤ 135) :
    0 ≤ p' ∧ ∃ L2 lv', swF X' L' root p' = (L2, 0) ∧ L2.length = L.length ∧ (PlY L → PlY L2) ∧ OneT X' L2 B O lv' p' (putL l x) := by
  obtain ⟨lv', hlv, iv, t⟩ := r.ys rfl
  have h0 := r.p0 rfl
  have hh : hgt lv root ≤ 6 := by
    unfold hgt; split
    · omega
    · rename_i h; have := o.lv5 h; omega
  have hcc : cntL L' p'.toNat < 255 := by
    have := r.ct rfl p'.toNat
    have := o.cnt p'.toNat
    omega
  have hs : ∃ L2, swF X' L' root p' = (L2, 0) ∧ Inv X' L2 ((B ++ O.map (·.2)) ++ [p']) ∧ L2.length = L'.length ∧ (PlY L' → PlY L2) := by
    unfold rtsB at iv
    split at iv
    · rename_i e
      subst e
      exact swap_first iv h0 hcc
    · rename_i e
      exact swap_in iv h0 e hcc
  obtain ⟨L2, sw, iv2, ln, yg⟩ := hs
  have hp1 : ¬ p' = -1 := by omega
  have hR : rtsB (B ++ O.map (·.2)) p' = (B ++ O.map (·.2)) ++ [p'] := by unfold rtsB; rw [if_neg hp1]
  have hl := iv2.toT.root (r := p') (by simp)
  have hup := o.rt.up.1
  have hot : OthT X' B O := OthT.ext o.iv r.ext (fun t ht => rtsB_B (List.mem_append_right _ (List.mem_map_of_mem ht))) o.ot
  refine ⟨h0, L2, lv', sw, ln.trans r.ext.ln, fun y => yg (r.ext.yg y), ⟨by rw [hR]; exact iv2, hot, fun b hb => ?_, Or.inr ⟨h0, hl.2, by omega, t⟩, fun z hz => ?_, fun _ => putL_ne l x, Or.inr h0⟩⟩
  · obtain ⟨b0, bk, be⟩ := o.bl b hb
    have hb2 := o.iv.toT.root (rtsB_B (root := root) (List.mem_append_left _ hb))
    have hk := (r.ext.kp b.toNat (o.iv.toT.live hb2.2).1).1
    have e : ((b.toNat : Nat) : Int) = b := by omega
    rw [e] at hk
    rw [hk]
    exact ⟨b0, bk, be⟩
  · rcases (mem_putL hup).1 hz with rfl | ⟨q, _⟩
    · exact hx
    · exact o.pg z q
/-- With room, a key is put. -/
theorem OneT.good {X : DSt} {L : List Pg} {B : List Int} {O : List (Nat × Int)} {lv : Nat} {root : Int} {l l' : List (Int × Int)} (o : OneT X L B O lv root l) (y : PlY L) (hc : B.length + 65 * O.length ≤ 135) (hL : B.length + 64 * (O.length + 1) + 13 ≤ L.length) {X' : DSt} {L' : List Pg} {p' e : Int} (r : PutR X L (rtsB (B ++ O.map (·.2)) root) [] Q2 (hgt lv root) l' X' L' p' e) : e = 0 := by
  have hh : hgt lv root ≤ 6 := by
    unfold hgt; split
    · omega
    · rename_i h; have := o.lv5 h; omega
  refine r.good ?_ fun q => ?_
  · have := o.free y; omega
  · have := o.cnt q; omega
end Go.Proofs.YtkhdniccnefdhaaGreat
/- Build: entries put in one behind the other; no condition. -/
namespace Go.Proofs.YtkhdniccnefdhaaGreat
open Go.RowKit Go.Proofs.U
set_option linter.unusedSimpArgs false
set_option linter.unusedVariables false
/-- .. behind what turned the pool. -/
theorem StT.pool {w w1 w2 : World} {F F' : Nat → Prop} {gs gp : Nat} {S : DSt × List Pg} {L2 : List Pg} {m : Nat} (h : StT w w1 F F' gs gp S m) (f : Fr (onB1 gp) w1 w2) (s : Sto w2 F' gs gp S.1 L2 m) : StT w w2 F F' gs gp (S.1, L2) m :=
  ⟨s, fun k hk => ⟨(h.ft k hk).1, s.ft k hk⟩, h.fr.thenT (f.mono (fun k _ q => Or.inr q)) (fun _ _ q => q)⟩
theorem OneT.start {X : DSt} {L : List Pg} {B : List Int} {O : List (Nat × Int)} (iv : Inv X L (B ++ O.map (·.2))) (ot : OthT X B O) (bl : ∀ b ∈ B, 0 ≤ b ∧ (rdN X b).1.k = 1 ∧ (rdN X b).1.es = []) : OneT X L B O 0 (-1) [] :=
  ⟨by unfold rtsB; rw [if_pos rfl]; exact iv, ot, bl, Or.inl ⟨rfl, rfl⟩, by simp, fun h => absurd rfl h, Or.inl rfl⟩
end Go.Proofs.YtkhdniccnefdhaaGreat
/- Put with its answers named ahead of the world; no condition. -/
namespace Go.Proofs.YtkhdniccnefdhaaGreat
open Go.RowKit Go.Proofs.U
set_option linter.unusedSimpArgs false
set_option linter.unusedVariables false
/-- What Put answers, whatever the world. -/
def PutEx (X : DSt) (L : List Pg) (root : Int) (x : Int × Int) (m : Nat) (X' : DSt) (L' : List Pg) (p' e : Int) : Prop := ∀ (F : Nat → Prop) (gs gp : Nat) (w : World), Sto w F gs gp X L m → Calls Tryz.prog 9 #[trV gs, .int .i64 root, .int .i64 x.1, .int .i64 x.2] w fun r w' => TopIs w w' F gs gp (X', L') p' e (m + 20) r
theorem Put_tree_ex {X : DSt} {L : List Pg} {R : List Int} {T : List Nat} {Q : List Nat → Prop} {m lv : Nat} {p : Int} {l : List (Int × Int)} (hQ : QOk Q) (hQ34 : Q [3, 4]) (hI : InvT X L R T) (t : TreeAt X Q lv p l) (h0 : 0 ≤ p) (hp : 0 < cntT L T p.toNat) (hlv : lv < 8) (hm : m ≤ 80000) (x : Int × Int) (hk : 0 ≤ x.1 ∧ x.1 ≤ 63) (hpg : 0 ≤ x.2 ∧ 0 < cntT L T x.2.toNat) (hU : Up X L.length m) :
    ∃ X' L' p' e, PutR X L R T Q (lv + 1) (putL l x) X' L' p' e ∧ Up X' L'.length (m + 20) ∧ PutEx X L p x m X' L' p' e := by
  have hE := putF_E hI (x := x) hk hpg lv hU t.ok h0 hp (Int.le_refl _) (Int.le_refl _) hk.1 (by show x.1 < 64; omega)
  have hPc := fun (F : Nat → Prop) (gs gp : Nat) W (s : Sto W F gs gp X L m) => put_lv hI hm x hk hpg lv 0 W t.ok h0 hp (Int.le_refl _) (by omega) (Int.le_refl _) (Int.le_refl _) hk.1 (by show x.1 < 64; omega) s
  generalize putF X L lv p x = S at *
  obtain ⟨⟨X1, L1⟩, tops, e⟩ := S
  simp only at hE
  by_cases hl : 1 < tops.length
  · obtain ⟨rfl, hl2, X2, L2, t2, e2, es, hup, h1, hR⟩ := t.put2 hQ hQ34 hE.2 hE.1 hl
    have i := hE.2.ys rfl
    refine ⟨X2, L2, _, e2, hR, hup.mono (by omega), fun F gs gp w h => ?_⟩
    refine (Put_two p x.1 x.2 hk w h ((X1, L1), tops, 0) hl hl2 (fun y hy => by
      have h3 := i.ok.1 y hy
      have h4 := i.pg y hy
      exact ⟨wfSm (by omega) (by omega), wfSm (by omega) (by omega)⟩) (hPc F gs gp) (by omega) _ es h1).mono ?_
    rintro r w' ⟨F', er, s⟩
    exact ⟨F', er, s.mono (by omega)⟩
  · obtain ⟨h1, hR⟩ := t.put1 hQ hE.2 hl
    refine ⟨X1, L1, _, e, hR, hE.1.mono (by omega), fun F gs gp w h => ?_⟩
    refine (Put_one p x.1 x.2 hk w h ((X1, L1), tops, e) (by show tops.length ≤ 1; omega) h1 (hPc F gs gp)).mono ?_
    rintro r w' ⟨F', er, s⟩
    exact ⟨F', er, s.mono (by omega)⟩
theorem Put_empty_ex {X : DSt} {L : List Pg} {R : List Int} {T : List Nat} {Q : List Nat → Prop} {m : Nat} (hI : InvT X L R T) (hm : m ≤ 80000) (x : Int × Int) (hk : 0 ≤ x.1 ∧ x.1 ≤ 63) (hpg : 0 ≤ x.2 ∧ 0 < cntT L T x.2.toNat) (hU : Up X L.length m) :
    ∃ X' L' p' e, PutR X L R T Q 0 [x] X' L' p' e ∧ Up X' L'.length (m + 20) ∧ PutEx X L (-1) x m X' L' p' e := by
  obtain ⟨X', L', tops, e, es, hup, hl, h1, hR⟩ := put_none (Q := Q) hI hU (z := x) hk hpg
  have hlow := hI.low hpg.2
  have hPc := fun (F : Nat → Prop) (gs gp : Nat) W (s : Sto W F gs gp X L m) => put_n1 (by omega) x ⟨wfSm (by omega) (by omega), wfSm (by omega) (by omega)⟩ 0 W s
  rw [es] at hPc
  refine ⟨X', L', _, e, hR, hup.mono (by omega), fun F gs gp w h => ?_⟩
  refine (Put_one (-1) x.1 x.2 hk w h ((X', L'), tops, e) hl h1 (hPc F gs gp)).mono ?_
  rintro r w' ⟨F', er, s⟩
  exact ⟨F', er, s.mono (by omega)⟩
theorem OneT.Put_ex {X : DSt} {L : List Pg} {B : List Int} {O : List (Nat × Int)} {m lv : Nat} {root : Int} {l : List (Int × Int)} (o : OneT X L B O lv root l) (hm : m ≤ 80000) (x : Int × Int) (hk : 0 ≤ x.1 ∧ x.1 ≤ 63) (hb : x.2 ∈ B) (hU : Up X L.length m) :
    ∃ X' L' p' e, PutR X L (rtsB (B ++ O.map (·.2)) root) [] Q2 (hgt lv root) (putL l x) X' L' p' e ∧ Up X' L'.length (m + 20) ∧ PutEx X L root x m X' L' p' e := by
  have hpg := o.iv.toT.root (rtsB_B (root := root) (List.mem_append_left (O.map (·.2)) hb))
  rcases o.rt with ⟨rfl, rfl⟩ | ⟨h0, hp, hlv, t⟩
  · exact Put_empty_ex o.iv.toT hm x hk hpg hU
  · have e : hgt lv root = lv + 1 := by unfold hgt; rw [if_neg (by omega)]
    rw [e]
    exact Put_tree_ex Q2_ok Q2_34 o.iv.toT t h0 hp hlv hm x hk hpg hU
/-- A state of Build. -/
structure BSt where
  X : DSt
  L : List Pg
  lv : Nat
  root : Int
/-- One step of Build. -/
structure BStep (m : Nat) (x : Int × Int) (s s' : BSt) : Prop where
  put : ∃ L' , PutEx s.X s.L s.root x m s'.X L' s'.root 0 ∧ swF s'.X L' s.root s'.root = (s'.L, 0)
  nn : 0 ≤ s'.root
end Go.Proofs.YtkhdniccnefdhaaGreat
/- A mark, and what is undone, plain; no condition. -/
namespace Go.Proofs.YtkhdniccnefdhaaGreat
open Go.RowKit Go.Proofs.U
set_option linter.unusedSimpArgs false
set_option linter.unusedVariables false
theorem OneT.mark {X : DSt} {L : List Pg} {B : List Int} {O : List (Nat × Int)} {lv : Nat} {root : Int} {l : List (Int × Int)} (o : OneT X L B O lv root l) : OneT X (plMark L) B O lv root l := by
  refine ⟨o.iv.mark, o.ot, o.bl, ?_, o.pg, o.ne, o.nn⟩
  have h := o.rt
  unfold RtAt at h ⊢
  rw [cntT_nil, cntL_mark]
  rwa [cntT_nil] at h
theorem TreeAt.ext {X X' : DSt} {L L' : List Pg} {R : List Int} {T : List Nat} (h : InvT X L R T) (hx : Ext X L X' L') {lv : Nat} {p : Int} {l : List (Int × Int)} (t : TreeAt X Q2 lv p l) (h0 : 0 ≤ p) (hp : 0 < cntT L T p.toNat) : TreeAt X' Q2 lv p l := by
  obtain ⟨a1, a2, a3⟩ := okT.ext h hx t.ok h0 hp
  have hf := fitT.ext h hx t.ok h0 hp t.ft
  refine ⟨a1, a2.trans t.ls, ?_, hf⟩
  rcases t.rt with q | q
  · exact Or.inl q
  · refine Or.inr ?_
    have e := (hx.kp p.toNat (h.live hp).1).1
    rw [Int.toNat_of_nonneg h0] at e
    unfold szX esX at q ⊢
    rw [e]
    exact q
end Go.Proofs.YtkhdniccnefdhaaGreat
/- The document's Same of entries (layer 10); no condition. -/
namespace Go.Proofs.YtkhdniccnefdhaaGreat
open Go.RowKit Go.Proofs.U
set_option linter.unusedSimpArgs false
set_option linter.unusedVariables false
theorem cells_at {w : World} {b o n c : Nat} {l : List (Int × Int)} (h : SlR enC 2 w (.slice (some ⟨b, o, none⟩) n c) l) (k : Nat) (hk : k < l.length) {x : Int × Int} (hx : Hid (l[k] = x)) : ∀ q u, (enC x)[q]? = some u → w.cell? ⟨b, o + k * 2 + q, none⟩ = some u := by
  intro q u hq
  obtain ⟨hall, ao, cap, hv, hcap, hlen, hnone, hsome⟩ := h
  cases hv
  have hq2 : q < 2 := (List.getElem?_eq_some_iff.1 hq).1
  have hfl := flat_at enC 2 l hall k hk q hq2
  rw [hx.out, hq] at hfl
  have := hsome _ rfl _ _ hfl
  rw [Addr.add_lit] at this
  rw [Nat.add_assoc]
  exact this
set_option maxRecDepth 100000 in
set_option maxHeartbeats 4000000 in
theorem same10_any (va vb : Value) (la lb : List (Int × Int)) (w : World) (ha : SlP .i64 .i64 w va la) (hb : SlP .i64 .i64 w vb lb) (hm : la.length ≤ 1000) :
    Calls Tryz.prog 11 #[va, vb] w fun r w' => r = .returned (.bool (la == lb)) ∧ Fr noB w w' := by
  obtain ⟨a0, c0, hva, hc0⟩ := ha.1.opn
  obtain ⟨a1, c1, hvb, hc1⟩ := hb.1.opn
  by_cases hne : la.length = lb.length
  · by_cases h0 : la.length = 0
    · have e1 : la = [] := List.eq_nil_of_length_eq_zero h0
      have e2 : lb = [] := List.eq_nil_of_length_eq_zero (by omega)
      subst e1; subst e2
      subst hva; subst hvb
      go_enter Tryz.func11, Tryz.ntmps11
      go_wp2
      go_loop [13] (fun i => i = .int .i64 0) (fun _ => 0)
      case atStart => rfl
      case round =>
        subst hrel
        go_wp2
        go_ret
        exact ⟨rfl, Fr.refl _ _⟩
    · clear hva hvb hc0 hc1
      obtain ⟨ba, oa, ca, rfl, hca⟩ := SlR.addr ha.1 (by decide) (by omega)
      obtain ⟨bb, ob, cb, rfl, hcb⟩ := SlR.addr hb.1 (by decide) (by omega)
      have hnt : ((la.length : Int) == (lb.length : Int)) = true := by simp; omega
      have hneI : (la.length : Int) = (lb.length : Int) := by omega
      have hneI := show Hid _ from hneI
      have hne' := show Hid _ from hne
      clear hne
      go_enter Tryz.func11, Tryz.ntmps11
      go_wp2
      go_loopw [13] (fun i wr => ∃ (k : Nat), k ≤ la.length ∧ i = .int .i64 (k : Int) ∧ Hid (la.take k = lb.take k) ∧ Fr noB w wr) (fun i _ => la.length - (intOf i).toNat)
      case atStart => exact ⟨0, by omega, rfl, rfl, Fr.refl _ _⟩
      case round =>
        obtain ⟨k, hk, rfl, htk, hf⟩ := hrel
        by_cases hlt : k < la.length
        · have hltb : k < lb.length := by rw [← hne'.out]; exact hlt
          have hlt' : (k : Int) < (la.length : Int) := by omega
          have hltb' : (k : Int) < (lb.length : Int) := by omega
          obtain ⟨x, Hx⟩ : ∃ x, Hid (la[k] = x) := ⟨la[k], (rfl : la[k] = la[k])⟩
          obtain ⟨y, Hy⟩ : ∃ y, Hid (lb[k] = y) := ⟨lb[k], (rfl : lb[k] = lb[k])⟩
          go_wp2
          obtain ⟨w0, HW⟩ : ∃ w0, Hid (wr.drew = w0) := ⟨_, rfl⟩
          have f0 : Fr noB wr w0 := by rw [← HW.out]; exact (Fr.refl _ _).drew
          have z0 := f0.size
          have hSA := (ha.1.fr0 hf).fr0 f0
          have hSB := (hb.1.fr0 hf).fr0 f0
          refine wp_region_chain_layT (by kernel_rfl) [] [none, none, none, none, none, none, none, none, none]
            [fun v => v = .slice (some ⟨ba, oa, none⟩) la.length ca, fun v => v = .int .i64 (k : Int), fun v => v = .pointer (some ⟨ba, oa + k * 2, none⟩), fun v => v = enV x, fun v => v = .slice (some ⟨bb, ob, none⟩) lb.length cb, fun v => v = .int .i64 (k : Int), fun v => v = .pointer (some ⟨bb, ob + k * 2, none⟩), fun v => v = enV y, fun v => v = .bool (!(x == y))]
            (JGX w0) (by rw [HW.out]; exact Fr.refl _ _) (by kernel_rfl) (by kernel_rfl) (by decide) ⟨?o0, ?o1, ?o2, ?o3, ?o4, ?o5, ?o6, ?o7, ?o8, trivial⟩ ?oe
          case o0 =>
            intro A W hv hlen hJ hbase hdL hdH
            have e0 : A.eval (.tmp 0) = .slice (some ⟨ba, oa, none⟩) la.length ca := hbase 0 (by kernel_rfl)
            have f0 : A.tmps[0]?.getD undef = .slice (some ⟨ba, oa, none⟩) la.length ca := by simpa [Act.eval] using e0
            exact light_val rfl (v := .slice (some ⟨ba, oa, none⟩) la.length ca) (by simp [execOp, e0, f0]) hJ rfl
          case o1 =>
            intro A W hv hlen hJ hbase hdL hdH
            have e5 : A.eval (.tmp 5) = .int .i64 (k : Int) := hbase 5 (by kernel_rfl)
            have f5 : A.tmps[5]?.getD undef = .int .i64 (k : Int) := by simpa [Act.eval] using e5
            exact light_val rfl (v := .int .i64 (k : Int)) (by simp [execOp, e5, f5]) hJ rfl
          case o2 =>
            intro A W hv hlen hJ hbase hdL hdH
            have e16 : A.eval (.tmp 16) = .slice (some ⟨ba, oa, none⟩) la.length ca := hdL 0 16 (by kernel_rfl) (by kernel_rfl) (by kernel_rfl)
            have f16 : A.tmps[16]?.getD undef = .slice (some ⟨ba, oa, none⟩) la.length ca := by simpa [Act.eval] using e16
            have e17 : A.eval (.tmp 17) = .int .i64 (k : Int) := hdL 1 17 (by kernel_rfl) (by kernel_rfl) (by kernel_rfl)
            have f17 : A.tmps[17]?.getD undef = .int .i64 (k : Int) := by simpa [Act.eval] using e17
            have hr := run_idxS (P := Tryz.prog) (w := W) (sz := 2) 22 33 uE en_size ba oa la.length ca .i64 k (by exact hlt)
            exact light_val rfl (v := .pointer (some ⟨ba, oa + k * 2, none⟩)) (by simp [execOp, e16, e17, hr, Result.andThen]) hJ rfl
          case o3 =>
            intro A W hv hlen hJ hbase hdL hdH
            have e18 : A.eval (.tmp 18) = .pointer (some ⟨ba, oa + k * 2, none⟩) := hdL 2 18 (by kernel_rfl) (by kernel_rfl) (by kernel_rfl)
            have f18 : A.tmps[18]?.getD undef = .pointer (some ⟨ba, oa + k * 2, none⟩) := by simpa [Act.eval] using e18
            have hr := run_ldE W ba (oa + k * 2) x (cells_at (hSA.fr0 (show Fr noB w0 W from hJ)) k (by exact hlt) Hx)
            exact light_val rfl (v := enV x) (by simp [execOp, e18, hr, Result.andThen]) hJ rfl
          case o4 =>
            intro A W hv hlen hJ hbase hdL hdH
            have e1 : A.eval (.tmp 1) = .slice (some ⟨bb, ob, none⟩) lb.length cb := hbase 1 (by kernel_rfl)
            have f1 : A.tmps[1]?.getD undef = .slice (some ⟨bb, ob, none⟩) lb.length cb := by simpa [Act.eval] using e1
            exact light_val rfl (v := .slice (some ⟨bb, ob, none⟩) lb.length cb) (by simp [execOp, e1, f1]) hJ rfl
          case o5 =>
            intro A W hv hlen hJ hbase hdL hdH
            have e5 : A.eval (.tmp 5) = .int .i64 (k : Int) := hbase 5 (by kernel_rfl)
            have f5 : A.tmps[5]?.getD undef = .int .i64 (k : Int) := by simpa [Act.eval] using e5
            exact light_val rfl (v := .int .i64 (k : Int)) (by simp [execOp, e5, f5]) hJ rfl
          case o6 =>
            intro A W hv hlen hJ hbase hdL hdH
            have e20 : A.eval (.tmp 20) = .slice (some ⟨bb, ob, none⟩) lb.length cb := hdL 4 20 (by kernel_rfl) (by kernel_rfl) (by kernel_rfl)
            have f20 : A.tmps[20]?.getD undef = .slice (some ⟨bb, ob, none⟩) lb.length cb := by simpa [Act.eval] using e20
            have e21 : A.eval (.tmp 21) = .int .i64 (k : Int) := hdL 5 21 (by kernel_rfl) (by kernel_rfl) (by kernel_rfl)
            have f21 : A.tmps[21]?.getD undef = .int .i64 (k : Int) := by simpa [Act.eval] using e21
            have hr := run_idxS (P := Tryz.prog) (w := W) (sz := 2) 22 33 uE en_size bb ob lb.length cb .i64 k (by exact hltb)
            exact light_val rfl (v := .pointer (some ⟨bb, ob + k * 2, none⟩)) (by simp [execOp, e20, e21, hr, Result.andThen]) hJ rfl
          case o7 =>
            intro A W hv hlen hJ hbase hdL hdH
            have e22 : A.eval (.tmp 22) = .pointer (some ⟨bb, ob + k * 2, none⟩) := hdL 6 22 (by kernel_rfl) (by kernel_rfl) (by kernel_rfl)
            have f22 : A.tmps[22]?.getD undef = .pointer (some ⟨bb, ob + k * 2, none⟩) := by simpa [Act.eval] using e22
            have hr := run_ldE W bb (ob + k * 2) y (cells_at (hSB.fr0 (show Fr noB w0 W from hJ)) k (by exact hltb) Hy)
            exact light_val rfl (v := enV y) (by simp [execOp, e22, hr, Result.andThen]) hJ rfl
          case o8 =>
            intro A W hv hlen hJ hbase hdL hdH
            have e19 : A.eval (.tmp 19) = enV x := hdL 3 19 (by kernel_rfl) (by kernel_rfl) (by kernel_rfl)
            have f19 : A.tmps[19]?.getD undef = enV x := by simpa [Act.eval] using e19
            have e23 : A.eval (.tmp 23) = enV y := hdL 7 23 (by kernel_rfl) (by kernel_rfl) (by kernel_rfl)
            have f23 : A.tmps[23]?.getD undef = enV y := by simpa [Act.eval] using e23
            have hr := run_neE x y W
            have hg : (eqGuard .neq 33 (.tmp 19) (.tmp 23) (enV x) (enV y)).run Tryz.prog W = .ok () W := run_eqGuard_agg W _ _ _ _ _ _ en_eqg
            exact light_val rfl (v := .bool (!(x == y))) (by simp [execOp, e19, e23, hr, hg, Result.andThen]) hJ rfl
          case oe =>
            intro vs W' hv hlen hJ hL hH
            have x0 : vs 0 = .slice (some ⟨ba, oa, none⟩) la.length ca := hL 0 (by kernel_rfl) (by kernel_rfl)
            have x1 : vs 1 = .int .i64 (k : Int) := hL 1 (by kernel_rfl) (by kernel_rfl)
            have x2 : vs 2 = .pointer (some ⟨ba, oa + k * 2, none⟩) := hL 2 (by kernel_rfl) (by kernel_rfl)
            have x3 : vs 3 = enV x := hL 3 (by kernel_rfl) (by kernel_rfl)
            have x4 : vs 4 = .slice (some ⟨bb, ob, none⟩) lb.length cb := hL 4 (by kernel_rfl) (by kernel_rfl)
            have x5 : vs 5 = .int .i64 (k : Int) := hL 5 (by kernel_rfl) (by kernel_rfl)
            have x6 : vs 6 = .pointer (some ⟨bb, ob + k * 2, none⟩) := hL 6 (by kernel_rfl) (by kernel_rfl)
            have x7 : vs 7 = enV y := hL 7 (by kernel_rfl) (by kernel_rfl)
            have x8 : vs 8 = .bool (!(x == y)) := hL 8 (by kernel_rfl) (by kernel_rfl)
            simp only [layL, Nat.reduceAdd, Act.put, List.setIfInBounds_toArray, List.set_cons_zero, List.set_cons_succ, x0, x1, x2, x3, x4, x5, x6, x7, x8]
            clear x0 x1 x2 x3 x4 x5 x6 x7 x8 hL hH
            have hF : Fr noB w W' := hf.thenN (f0.thenN hJ)
            clear hJ
            by_cases hxy : x = y
            · have hb : (x == y) = true := by rw [beq_iff_eq]; exact hxy
              rw [hb]
              go_wp2
              go_roundw
              case rel => exact ⟨k + 1, by omega, by go_num, take_eq_succ htk hlt hltb (by rw [Hx.out, Hy.out, hxy]), hF⟩
              case measure => simp [intOf]; omega
            · have hb : (x == y) = false := by rw [beq_eq_false_iff_ne]; exact hxy
              rw [hb]
              have hr : (la == lb) = false := by
                rw [beq_eq_false_iff_ne]
                intro h
                subst h
                exact hxy (Hx.out.symm.trans Hy.out)
              go_wp2
              go_ret
              exact ⟨by first | rfl | (rw [hr]; rfl), hF⟩
        · have hke : k = la.length := by omega
          have hr : (la == lb) = true := by
            rw [beq_iff_eq]
            have h1 := htk.out
            rw [List.take_of_length_le (by omega), List.take_of_length_le (by rw [← hne'.out]; omega)] at h1
            exact h1
          have hlt' : ¬ (k : Int) < (la.length : Int) := by omega
          go_wp2
          go_ret
          exact ⟨by first | rfl | (rw [hr]; rfl), hf⟩
  · subst hva; subst hvb
    have hnt : ((la.length : Int) == (lb.length : Int)) = false := by simp; omega
    have hnt' : ¬ (la.length : Int) = (lb.length : Int) := by omega
    have hr : (la == lb) = false := by
      rw [beq_eq_false_iff_ne]
      intro e; exact hne (by rw [e])
    rw [hr]
    go_enter Tryz.func11, Tryz.ntmps11
    go_wp2
    go_ret
    exact ⟨rfl, Fr.refl _ _⟩
end Go.Proofs.YtkhdniccnefdhaaGreat
