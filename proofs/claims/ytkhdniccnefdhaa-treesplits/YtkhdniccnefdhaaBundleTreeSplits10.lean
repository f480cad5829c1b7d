/- Texts G0, G1, H0, H1, H2, H3 of the proof of TreeSplits, one behind the other. -/
import Derived.Shelf.Abstract
import Derived.Test.YtkhdniccnefdhaaBundleTreeSplits1
import Derived.Test.YtkhdniccnefdhaaBundleTreeSplits2
import Derived.Test.YtkhdniccnefdhaaBundleTreeSplits3
import Derived.Test.YtkhdniccnefdhaaBundleTreeSplits4
import Derived.Test.YtkhdniccnefdhaaBundleTreeSplits5
import Derived.Test.YtkhdniccnefdhaaBundleTreeSplits6
import Derived.Test.YtkhdniccnefdhaaBundleTreeSplits7
import Derived.Test.YtkhdniccnefdhaaBundleTreeSplits8
import Derived.Test.YtkhdniccnefdhaaBundleTreeSplits9
/- Pages held as often as they are needed, plain: counts, children, what is held from outside; no condition. -/
namespace Go.Proofs.U
set_option linter.unusedSimpArgs false
set_option linter.unusedVariables false
def updG {α : Type} (f : Nat → α) (p : Nat) (x : α) : Nat → α := fun q => if q = p then x else f q
theorem updG_at {α : Type} (f : Nat → α) (p : Nat) (x : α) : updG f p x p = x := by simp [updG]
theorem updG_ne {α : Type} (f : Nat → α) {p q : Nat} (x : α) (h : q ≠ p) : updG f p x q = f q := by simp [updG, h]
theorem le_sumG {l : List Nat} {x : Nat} (h : x ∈ l) : x ≤ l.sum := by
  induction l with
  | nil => simp at h
  | cons y l ih =>
    rw [List.sum_cons]
    rcases List.mem_cons.1 h with rfl | h
    · omega
    · have := ih h; omega
/-- The pages that are held. -/
def live (n : Nat) (c : Nat → Nat) : List Nat := (List.range n).filter fun q => decide (0 < c q)
/-- How often p is among the children of what is held. -/
def byCh (ch : Nat → List Nat) (l : List Nat) (p : Nat) : Nat := (l.map fun q => (ch q).count p).sum
theorem mem_live {n : Nat} {c : Nat → Nat} {q : Nat} : q ∈ live n c ↔ q < n ∧ 0 < c q := by simp [live]
theorem live_nodup (n : Nat) (c : Nat → Nat) : (live n c).Nodup := List.Pairwise.filter _ List.nodup_range
/-- Each page is held as often as it is among R and the children of what is held. -/
structure Exact (n : Nat) (c : Nat → Nat) (ch : Nat → List Nat) (R : List Nat) : Prop where
  cnt : ∀ p, c p = R.count p + byCh ch (live n c) p
  out : ∀ p, n ≤ p → c p = 0
theorem Exact.perm {n : Nat} {c : Nat → Nat} {ch : Nat → List Nat} {R R' : List Nat} (h : Exact n c ch R) (hp : ∀ p, R.count p = R'.count p) : Exact n c ch R' := ⟨fun p => by rw [h.cnt p, hp p], h.out⟩
theorem Exact.pos {n : Nat} {c : Nat → Nat} {ch : Nat → List Nat} {R : List Nat} (h : Exact n c ch R) {p : Nat} (hp : p ∈ R) : 0 < c p := by
  have h1 := h.cnt p
  have := List.count_pos_iff.2 hp
  omega
theorem Exact.lt {n : Nat} {c : Nat → Nat} {ch : Nat → List Nat} {R : List Nat} (h : Exact n c ch R) {p : Nat} (hp : 0 < c p) : p < n := by
  rcases Nat.lt_or_ge p n with h1 | h1
  · exact h1
  · have := h.out p h1; omega
theorem byCh_pos {ch : Nat → List Nat} {l : List Nat} {p : Nat} : 0 < byCh ch l p ↔ ∃ q ∈ l, p ∈ ch q := by
  unfold byCh
  induction l with
  | nil => simp
  | cons q l ih =>
    rw [List.map_cons, List.sum_cons]
    constructor
    · intro h
      by_cases hq : 0 < (ch q).count p
      · exact ⟨q, by simp, List.count_pos_iff.1 hq⟩
      · obtain ⟨q', h1, h2⟩ := ih.1 (by omega)
        exact ⟨q', by simp [h1], h2⟩
    · rintro ⟨q', h1, h2⟩
      rcases List.mem_cons.1 h1 with rfl | h1
      · have := List.count_pos_iff.2 h2; omega
      · have := ih.2 ⟨q', h1, h2⟩; omega
theorem Exact.child {n : Nat} {c : Nat → Nat} {ch : Nat → List Nat} {R : List Nat} (h : Exact n c ch R) {p q : Nat} (hq : 0 < c q) (hp : p ∈ ch q) : 0 < c p := by
  have h1 := h.cnt p
  have := byCh_pos.2 ⟨q, mem_live.2 ⟨h.lt hq, hq⟩, hp⟩
  omega
theorem live_same {n : Nat} {c c' : Nat → Nat} (h : ∀ q, 0 < c q ↔ 0 < c' q) : live n c = live n c' := by
  unfold live
  exact List.filter_congr fun q _ => decide_eq_decide.2 (h q)
/-- One of several holds is given up. -/
theorem Exact.less {n : Nat} {c : Nat → Nat} {ch : Nat → List Nat} {p : Nat} {R : List Nat} (h : Exact n c ch (p :: R)) (h2 : 2 ≤ c p) : Exact n (updG c p (c p - 1)) ch R := by
  have hl : live n c = live n (updG c p (c p - 1)) := live_same fun q => by
    by_cases hq : q = p
    · subst hq; rw [updG_at]; omega
    · rw [updG_ne _ _ hq]
  refine ⟨fun q => ?_, fun q hq => ?_⟩
  · rw [← hl]
    have h1 := h.cnt q
    rw [List.count_cons] at h1
    by_cases hq : q = p
    · subst hq; rw [updG_at]; simp at h1; omega
    · rw [updG_ne _ _ hq]
      have : ¬ (p == q) = true := by simp; exact fun h => hq h.symm
      simp [this] at h1; exact h1
  · have h1 := h.out q hq
    by_cases hqp : q = p
    · subst hqp; omega
    · rw [updG_ne _ _ hqp]; exact h1
theorem byCh_take {n : Nat} {c : Nat → Nat} {ch : Nat → List Nat} {p : Nat} (hp : p < n) (h1 : 0 < c p) (q : Nat) : byCh ch (live n c) q = (ch p).count q + byCh ch (live n (updG c p 0)) q := by
  have hf : live n (updG c p 0) = (live n c).erase p := by
    rw [List.Nodup.erase_eq_filter (live_nodup n c)]
    unfold live
    rw [List.filter_filter]
    refine List.filter_congr fun q _ => ?_
    by_cases hq : q = p
    · subst hq; rw [updG_at]; simp
    · rw [updG_ne _ _ hq]; simp [hq]
  rw [hf]
  unfold byCh
  have hm : p ∈ live n c := mem_live.2 ⟨hp, h1⟩
  have hperm := List.perm_cons_erase hm
  have := (hperm.map fun q' => (ch q').count q).sum_nat
  rw [this, List.map_cons, List.sum_cons]
/-- The last hold is given up: the children's holds are left to be given up. -/
theorem Exact.last {n : Nat} {c : Nat → Nat} {ch : Nat → List Nat} {p : Nat} {R : List Nat} (h : Exact n c ch (p :: R)) (h1 : c p = 1) : Exact n (updG c p 0) ch (ch p ++ R) := by
  have hp : p < n := h.lt (by omega)
  refine ⟨fun q => ?_, fun q hq => ?_⟩
  · have h2 := h.cnt q
    rw [byCh_take hp (by omega) q, List.count_cons] at h2
    rw [List.count_append]
    by_cases hq : q = p
    · subst hq; rw [updG_at]; simp at h2; omega
    · rw [updG_ne _ _ hq]
      have : ¬ (p == q) = true := by simp; exact fun h => hq h.symm
      simp [this] at h2; omega
  · have h2 := h.out q hq
    by_cases hqp : q = p
    · subst hqp; rw [updG_at]
    · rw [updG_ne _ _ hqp]; exact h2
/-- A page that is held is held once more. -/
theorem Exact.more {n : Nat} {c : Nat → Nat} {ch : Nat → List Nat} {p : Nat} {R : List Nat} (h : Exact n c ch R) (h1 : 0 < c p) : Exact n (updG c p (c p + 1)) ch (R ++ [p]) := by
  have hl : live n c = live n (updG c p (c p + 1)) := live_same fun q => by
    by_cases hq : q = p
    · subst hq; rw [updG_at]; omega
    · rw [updG_ne _ _ hq]
  have hp := h.lt h1
  refine ⟨fun q => ?_, fun q hq => ?_⟩
  · rw [← hl, List.count_append]
    have h2 := h.cnt q
    by_cases hq : q = p
    · subst hq; rw [updG_at]; simp; omega
    · rw [updG_ne _ _ hq]
      have : [p].count q = 0 := List.count_eq_zero.2 (by simp [hq])
      omega
  · have h2 := h.out q hq
    rw [updG_ne _ _ (by omega)]; exact h2
/-- A page that isn't held, whose children's holds are laid ready, is held for the first time. -/
theorem Exact.adopt {n : Nat} {c : Nat → Nat} {ch : Nat → List Nat} {p : Nat} {l R : List Nat} (h : Exact n c ch (R ++ l)) (h0 : c p = 0) (hp : p < n) : Exact n (updG c p 1) (updG ch p l) (R ++ [p]) := by
  have hc : updG (updG c p 1) p 0 = c := by
    funext q
    by_cases hq : q = p
    · subst hq; rw [updG_at, h0]
    · rw [updG_ne _ _ hq, updG_ne _ _ hq]
  have hb : ∀ q, byCh (updG ch p l) (live n c) q = byCh ch (live n c) q := by
    intro q
    unfold byCh
    congr 1
    refine List.map_congr_left fun q' hq' => ?_
    have hne : q' ≠ p := fun e => by subst e; have := (mem_live.1 hq').2; omega
    rw [updG_ne _ _ hne]
  refine ⟨fun q => ?_, fun q hq => ?_⟩
  · have h2 := h.cnt q
    have h3 := byCh_take (ch := updG ch p l) (c := updG c p 1) hp (by rw [updG_at]; omega) q
    rw [hc, hb, updG_at] at h3
    rw [h3, List.count_append]
    rw [List.count_append] at h2
    by_cases hq : q = p
    · subst hq; rw [updG_at]; simp; omega
    · rw [updG_ne _ _ hq]
      have : [p].count q = 0 := List.count_eq_zero.2 (by simp [hq])
      omega
  · have h2 := h.out q hq
    rw [updG_ne _ _ (by omega)]; exact h2
/-- What can be reached from R. -/
inductive Rch (ch : Nat → List Nat) (R : List Nat) : Nat → Prop
  | root {p : Nat} : p ∈ R → Rch ch R p
  | child {p q : Nat} : Rch ch R q → p ∈ ch q → Rch ch R p
/-- Children lie below. -/
def Falls (c : Nat → Nat) (ch : Nat → List Nat) (rk : Nat → Nat) : Prop := ∀ q, 0 < c q → ∀ p ∈ ch q, rk p < rk q
theorem Falls.less {c c' : Nat → Nat} {ch : Nat → List Nat} {rk : Nat → Nat} (h : Falls c ch rk) (hc : ∀ q, 0 < c' q → 0 < c q) : Falls c' ch rk := fun q hq => h q (hc q hq)
theorem Falls.adopt {n : Nat} {c : Nat → Nat} {ch : Nat → List Nat} {rk : Nat → Nat} {R l : List Nat} {p : Nat} (h : Falls c ch rk) (hE : Exact n c ch (R ++ l)) (h0 : c p = 0) : Falls (updG c p 1) (updG ch p l) (updG rk p ((l.map rk).sum + 1)) := by
  have hpl : p ∉ l := fun hm => by have := hE.pos (List.mem_append_right R hm); omega
  intro q hq x hx
  by_cases hqp : q = p
  · subst hqp
    rw [updG_at] at hx ⊢
    have hne : x ≠ q := fun e => by subst e; exact hpl hx
    rw [updG_ne _ _ hne]
    have := le_sumG (List.mem_map.2 ⟨x, hx, rfl⟩ : rk x ∈ l.map rk)
    omega
  · rw [updG_ne _ _ hqp] at hq hx
    have hx0 := hE.child hq hx
    have hne : x ≠ p := fun e => by subst e; omega
    rw [updG_ne _ _ hne, updG_ne _ _ hqp]
    exact h q hq x hx
end Go.Proofs.U
/- The pool's counts are exact, plain: what Take, Hold, Drop, Mark, Tidy and Commit make of it; no condition. -/
namespace Go.Proofs.Ytkhdniccnefdhaa
open Go.RowKit Go.Proofs.U
set_option linter.unusedSimpArgs false
set_option linter.unusedVariables false
def cntL (L : List Pg) (p : Nat) : Nat := (plAt L p).c.toNat
/-- Each page of a pool is held as often as it is among R and the children of what is held. -/
def PlEx (L : List Pg) (ch : Nat → List Nat) (R : List Nat) : Prop := Exact L.length (cntL L) ch R
theorem cntL_set (L : List Pg) (p : Nat) (x : Pg) (h : p < L.length) : cntL (L.set p x) = updG (cntL L) p x.c.toNat := by
  funext q
  unfold cntL
  rw [plAt_set L p x q h]
  by_cases hq : q = p
  · subst hq; rw [updG_at, if_pos rfl]
  · rw [updG_ne _ _ hq, if_neg hq]
theorem cntL_congr {L L' : List Pg} (hl : L'.length = L.length) (h : ∀ i, (plAt L' i).c = (plAt L i).c) {ch : Nat → List Nat} {R : List Nat} (hE : PlEx L ch R) : PlEx L' ch R := by
  have : cntL L' = cntL L := by funext q; unfold cntL; rw [h q]
  unfold PlEx at *
  rw [hl, this]; exact hE
theorem PlEx.pos {L : List Pg} {ch : Nat → List Nat} {R : List Nat} (h : PlEx L ch R) (ho : plOk L) {p : Nat} (hp : p ∈ R) : p < L.length ∧ 0 < (plAt L p).c ∧ (plAt L p).held = true := by
  have h1 := Exact.pos h hp
  have h2 := Exact.lt h h1
  have h3 : 0 < (plAt L p).c := by unfold cntL at h1; omega
  refine ⟨h2, h3, ?_⟩
  unfold Pg.held
  have : ((plAt L p).c == 0) = false := by simp; omega
  rw [this]; rfl
/-- One more step of giving up. -/
theorem PlEx.drop {L : List Pg} {ch : Nat → List Nat} {p : Nat} {R : List Nat} (h : PlEx L ch (p :: R)) (ho : plOk L) :
    (1 < (plAt L p).c ∧ plDrop L (p : Int) = (L.set p ⟨(plAt L p).c - 1, (plAt L p).s⟩, false, 0) ∧ PlEx (L.set p ⟨(plAt L p).c - 1, (plAt L p).s⟩) ch R) ∨
    ((plAt L p).c = 1 ∧ plDrop L (p : Int) = (L.set p ⟨0, dropS (plAt L p).s⟩, true, 0) ∧ PlEx (L.set p ⟨0, dropS (plAt L p).s⟩) ch (ch p ++ R)) := by
  obtain ⟨hp, hc, hh⟩ := h.pos ho (List.mem_cons_self)
  have hin : plIn L (p : Int) = true := by unfold plIn; simp; omega
  by_cases h1 : 1 < (plAt L p).c
  · refine Or.inl ⟨h1, ?_, ?_⟩
    · unfold plDrop
      simp [hin, hh, h1]
    · unfold PlEx
      rw [List.length_set, cntL_set L p _ hp]
      have := Exact.less h (show 2 ≤ cntL L p by unfold cntL; omega)
      have e : (⟨(plAt L p).c - 1, (plAt L p).s⟩ : Pg).c.toNat = cntL L p - 1 := by unfold cntL; simp
      rw [e]; exact this
  · have h1' : (plAt L p).c = 1 := by omega
    refine Or.inr ⟨h1', ?_, ?_⟩
    · unfold plDrop
      simp [hin, hh, h1]
    · unfold PlEx
      rw [List.length_set, cntL_set L p _ hp]
      exact Exact.last h (show cntL L p = 1 by unfold cntL; rw [h1']; rfl)
theorem PlEx.hold {L : List Pg} {ch : Nat → List Nat} {p : Nat} {R : List Nat} (h : PlEx L ch R) (hc : 0 < (plAt L p).c) : PlEx (L.set p ⟨(plAt L p).c + 1, (plAt L p).s⟩) ch (R ++ [p]) := by
  have h1 : 0 < cntL L p := by unfold cntL; omega
  have hp := Exact.lt h h1
  unfold PlEx
  rw [List.length_set, cntL_set L p _ hp]
  have := Exact.more h h1
  have e : (⟨(plAt L p).c + 1, (plAt L p).s⟩ : Pg).c.toNat = cntL L p + 1 := by unfold cntL; simp; omega
  rw [e]; exact this
theorem PlEx.adopt {L : List Pg} {ch : Nat → List Nat} {p : Nat} {l R : List Nat} (h : PlEx L ch (R ++ l)) (hc : (plAt L p).c = 0) (hp : p < L.length) (s : Nat) : PlEx (L.set p ⟨1, s⟩) (updG ch p l) (R ++ [p]) := by
  unfold PlEx
  rw [List.length_set, cntL_set L p _ hp]
  exact Exact.adopt h (show cntL L p = 0 by unfold cntL; rw [hc]; rfl) hp
theorem PlEx.take {L : List Pg} {ch : Nat → List Nat} {R : List Nat} (h : PlEx L ch R) : PlEx (plTake L).1 ch R := by
  refine cntL_congr (take_len L) (fun i => ?_) h
  rcases plTake_cases L with ⟨k, hk, hf, _, e⟩ | ⟨_, e⟩
  · rw [e]
    simp only
    rw [plAt_set L k _ i hk]
    by_cases hi : i = k
    · subst hi
      rw [if_pos rfl]
      unfold Pg.free at hf
      simp at hf
      exact hf.1.symm
    · rw [if_neg hi]
  · rw [e]
theorem PlEx.mark {L : List Pg} {ch : Nat → List Nat} {R : List Nat} (h : PlEx L ch R) : PlEx (plMark L) ch R :=
  cntL_congr (mark_len L) (fun i => by unfold plMark; rw [plAt_map _ _ mark0]; unfold markP; split <;> rfl) h
end Go.Proofs.Ytkhdniccnefdhaa
/- A store of nodes, plain: the disk's pages as nodes, what is made, gotten, dropped and reached; no condition. -/
namespace Go.Proofs.Ytkhdniccnefdhaa
open Go.RowKit Go.Proofs.U
set_option linter.unusedSimpArgs false
set_option linter.unusedVariables false
/-- A node's children. -/
def kids (n : Nd) : List Int := n.es.map (·.2)
theorem lack_eq {L : List Pg} (hL : plOk L) (p : Int) : (plCount L p == 0 && !plFresh L p) = !plHeld L p := by
  unfold plCount plFresh plHeld Pg.held Pg.frsh
  cases plIn L p <;> simp
/-- What stands on the pool's page p. -/
def ct (X : DSt) (p : Int) : List Int := (readP X (p + 4)).1
/-- A disk that works, with room for N pages of a pool, written m times at most. -/
structure Up (X : DSt) (N m : Nat) : Prop where
  dn : X.down = false
  lf : X.left = -1
  bd : ∀ i, X.bad i = false
  ln : N + 4 ≤ X.pages.length
  pm : X.pend.length ≤ m
  by8 : ∀ p : Int, 0 ≤ p → p < (N : Int) → (ct X p).length = 256 ∧ Byt (ct X p)
theorem Up.inR {X : DSt} {N m : Nat} (h : Up X N m) {p : Int} (h0 : 0 ≤ p) (h1 : p < (N : Int)) : inR X.pages.length (p + 4) = true := by
  have := h.ln
  unfold Go.Proofs.Ytkhdniccnefdhaa.inR
  simp; omega
theorem Up.read {X : DSt} {N m : Nat} (h : Up X N m) {p : Int} (h0 : 0 ≤ p) (h1 : p < (N : Int)) : readP X (p + 4) = (ct X p, 0) := by
  unfold ct readP
  rw [if_pos (h.inR h0 h1), h.bd]
  rfl
theorem Up.mono {X : DSt} {N m m' : Nat} (h : Up X N m) (hm : m ≤ m') : Up X N m' := { h with pm := Nat.le_trans h.pm hm }
theorem lastW_app (l : List (Int × List Int)) (i : Int) (p : List Int) (j : Int) (q : List Int) : lastW (l ++ [(j, q)]) i p = if j == i then q else lastW l i p := by
  unfold lastW
  rw [List.foldl_append]
  rfl
theorem Up.write {X : DSt} {N m : Nat} (h : Up X N m) {p : Int} (h0 : 0 ≤ p) (h1 : p < (N : Int)) {q : List Int} (hq : q.length = 256) (hb : Byt q) :
    X.writeE (p + 4) = 0 ∧ Up (X.write (p + 4) q) N (m + 1) ∧ ∀ r : Int, 0 ≤ r → r < (N : Int) → ct (X.write (p + 4) q) r = if r = p then q else ct X r := by
  have hin := h.inR h0 h1
  have hE : X.actE = 0 := by unfold DSt.actE actP; rw [h.dn, h.lf]; rfl
  have hw : X.write (p + 4) q = { X with pend := X.pend ++ [(p + 4, q)] } := by
    unfold DSt.write
    rw [if_pos hin, if_pos hE]
    unfold DSt.act actP
    rw [h.dn, h.lf]
    cases X
    simp at *
  have hct : ∀ r : Int, 0 ≤ r → r < (N : Int) → ct (X.write (p + 4) q) r = if r = p then q else ct X r := by
    intro r r0 r1
    rw [hw]
    unfold ct readP
    simp only [h.inR r0 r1, h.bd, if_true, lastW_app]
    by_cases hr : r = p
    · subst hr; simp
    · have : ((p + 4 : Int) == r + 4) = false := by simp; omega
      simp [this, hr]
  refine ⟨by unfold DSt.writeE; rw [if_pos hin]; exact hE, ?_, hct⟩
  refine ⟨by rw [hw]; exact h.dn, by rw [hw]; exact h.lf, by rw [hw]; exact h.bd, by rw [hw]; exact h.ln, by rw [hw]; simp; have := h.pm; omega, fun r r0 r1 => ?_⟩
  rw [hct r r0 r1]
  split
  · exact ⟨hq, hb⟩
  · exact h.by8 r r0 r1
/-- How many pages the pool of a disk of so many has. -/
def sizeN (n : Int) : Int := min (max n 4) 244 - 4
theorem Up.new {n : Int} (hn : 4 ≤ n) : Up (newD n) (plN (sizeN n)) 0 := by
  have hl : (newD n).pages.length = newN n := by unfold newD; simp
  have hr : ∀ p : Int, ct (newD n) p = zeroP := by
    intro p
    unfold ct readP
    split
    · unfold newD
      simp only [Bool.false_eq_true, if_false, lastW, List.foldl_nil]
      rename_i h
      rw [hl] at h
      unfold Go.Proofs.Ytkhdniccnefdhaa.inR at h
      simp at h
      simp only [List.getD, List.getElem?_replicate]
      rw [if_pos (by omega)]
      rfl
    · rfl
  refine ⟨rfl, rfl, fun _ => rfl, ?_, Nat.le_refl _, fun p _ _ => ?_⟩
  · rw [hl]; unfold plN sizeN newN; omega
  · rw [hr p]; exact ⟨zeroP_len, zeroP_byt⟩
/-- The node of the pool's page p, whoever has it. -/
def rdN (X : DSt) (p : Int) : Nd × Int := opN (ct X p)
/-- The node of a page that somebody has. -/
def getF (X : DSt) (L : List Pg) (p : Int) : Nd × Int := if plHeld L p then rdN X p else (nd0, 73)
theorem plHeld_rng {L : List Pg} {p : Int} (h : plHeld L p = true) : 0 ≤ p ∧ p < (L.length : Int) := by
  obtain ⟨j, rfl, hj⟩ := plHeld_in h
  omega
/-- Something is done with pages, in order, up to the first error. -/
def eachF {σ : Type} (f : σ → Int → σ × Int) : σ → List Int → σ × Int
  | s, [] => (s, 0)
  | s, p :: ps => if (f s p).2 = 0 then eachF f (f s p).1 ps else f s p
theorem eachF_cons0 {σ : Type} {f : σ → Int → σ × Int} {s : σ} {p : Int} {ps : List Int} (h : (f s p).2 = 0) : eachF f s (p :: ps) = eachF f (f s p).1 ps := by rw [eachF, if_pos h]
theorem eachF_cons1 {σ : Type} {f : σ → Int → σ × Int} {s : σ} {p : Int} {ps : List Int} (h : ¬ (f s p).2 = 0) : eachF f s (p :: ps) = f s p := by rw [eachF, if_neg h]
theorem eachF_inv {σ : Type} {f : σ → Int → σ × Int} {I : σ → Prop} (hf : ∀ s p, I s → I (f s p).1) : ∀ (l : List Int) (s : σ), I s → I (eachF f s l).1
  | [], s, h => h
  | p :: ps, s, h => by
    by_cases h0 : (f s p).2 = 0
    · rw [eachF_cons0 h0]; exact eachF_inv hf ps _ (hf s p h)
    · rw [eachF_cons1 h0]; exact hf s p h
/-- What Drop's way is measured by: the holds, and what is fresh. -/
def muP (x : Pg) : Nat := x.c.toNat + if x.frsh then 1 else 0
def muL (L : List Pg) : Nat := (L.map muP).sum
theorem sum_set_nat : ∀ (l : List Nat) (k : Nat) (x : Nat) (h : k < l.length), (l.set k x).sum + l[k] = l.sum + x
  | [], k, x, h => by simp at h
  | a :: l, 0, x, h => by simp; omega
  | a :: l, k + 1, x, h => by
    have := sum_set_nat l k x (by simpa using h)
    simp only [List.set_cons_succ, List.sum_cons, List.getElem_cons_succ]
    omega
theorem muL_set (L : List Pg) (k : Nat) (x : Pg) (h : k < L.length) : muL (L.set k x) + muP (plAt L k) = muL L + muP x := by
  unfold muL
  rw [List.map_set]
  have := sum_set_nat (L.map muP) k (muP x) (by simpa using h)
  rw [List.getElem_map, ← plAt_get L k h] at this
  exact this
theorem dropS_frsh (c : Int) (s : Nat) : (Pg.mk c (dropS s)).frsh = false := by
  unfold Pg.frsh dropS
  simp only
  split
  · rfl
  · split <;> rfl
theorem drop_mu {L L' : List Pg} (hL : plOk L) {p : Int} {b : Bool} {e : Int} (h : plDrop L p = (L', b, e)) : muL L' ≤ muL L ∧ (b = true → e = 0 ∧ muL L' < muL L ∧ 0 ≤ p ∧ p < (L.length : Int)) := by
  cases hh : plHeld L p with
  | false =>
    rw [plDrop_not hh] at h
    cases h
    exact ⟨Nat.le_refl _, fun q => by cases q⟩
  | true =>
    obtain ⟨j, rfl, hj⟩ := plHeld_in hh
    have ho := hL.2 j
    unfold Pg.ok at ho
    by_cases hc : 1 < (plAt L j).c
    · rw [plDrop_less hh hc] at h
      cases h
      have := muL_set L j ⟨(plAt L j).c - 1, (plAt L j).s⟩ hj
      refine ⟨?_, fun q => by cases q⟩
      have e : muP ⟨(plAt L j).c - 1, (plAt L j).s⟩ ≤ muP (plAt L j) := by
        unfold muP Pg.frsh
        simp only
        omega
      omega
    · rw [plDrop_up hh hc] at h
      cases h
      have := muL_set L j ⟨0, dropS (plAt L j).s⟩ hj
      have e : muP ⟨0, dropS (plAt L j).s⟩ = 0 := by
        unfold muP
        rw [dropS_frsh]
        rfl
      have e2 : 0 < muP (plAt L j) := by
        unfold plHeld at hh
        simp only [Bool.and_eq_true, Int.toNat_natCast] at hh
        have h2 := hh.2
        unfold Pg.held at h2
        unfold muP Pg.frsh
        cases hf : ((plAt L j).s == 1 || (plAt L j).s == 2) with
        | true => simp
        | false =>
          rw [hf] at h2
          simp at h2
          simp
          omega
      refine ⟨by omega, fun _ => ⟨rfl, by omega, by omega, by omega⟩⟩
/-- Drop: the page, and, if nobody holds it then, its children. -/
def dropF (X : DSt) : Nat → List Pg → Int → List Pg × Int
  | 0, L, _ => (L, 0)
  | n + 1, L, p => if (plDrop L p).2.1 then (if (rdN X p).2 = 0 then eachF (dropF X n) (plDrop L p).1 (kids (rdN X p).1) else ((plDrop L p).1, (rdN X p).2)) else ((plDrop L p).1, (plDrop L p).2.2)
theorem dropF_inv {X : DSt} {I : List Pg → Prop} (hI : ∀ L p, I L → I (plDrop L p).1) : ∀ (n : Nat) (L : List Pg) (p : Int), I L → I (dropF X n L p).1
  | 0, L, p, h => h
  | n + 1, L, p, h => by
    unfold dropF
    split
    · split
      · exact eachF_inv (dropF_inv hI n) _ _ (hI L p h)
      · exact hI L p h
    · exact hI L p h
theorem dropF_mu {X : DSt} (n : Nat) {L : List Pg} (p : Int) (h : plOk L) : muL (dropF X n L p).1 ≤ muL L :=
  (dropF_inv (I := fun M => plOk M ∧ muL M ≤ muL L) (fun M p h => ⟨drop_ok h.1 p, Nat.le_trans (drop_mu h.1 (p := p) rfl).1 h.2⟩) n L p ⟨h, Nat.le_refl _⟩).2
/-- Make. -/
def makeF (X : DSt) (L : List Pg) (n : Nd) : (DSt × List Pg) × Int × Int :=
  if n.right then
    (if (kids n).any (fun p => !plHeld L p) then ((X, L), -1, 73)
     else if (plTake L).2.2 = 0 then
      (if (eachF plHold (plTake L).1 (kids n)).2 = 0 then ((X.write ((plTake L).2.1 + 4) n.page, (eachF plHold (plTake L).1 (kids n)).1), (plTake L).2.1, 0)
       else ((X.write ((plTake L).2.1 + 4) n.page, (eachF plHold (plTake L).1 (kids n)).1), -1, (eachF plHold (plTake L).1 (kids n)).2))
     else ((X, (plTake L).1), -1, (plTake L).2.2))
  else ((X, L), -1, 81)
end Go.Proofs.Ytkhdniccnefdhaa
/- leaf.Children; slices.IndexFunc, ContainsFunc; nodes.each: whatever function they are handed. -/
namespace Go.Proofs.Ytkhdniccnefdhaa
open Go.RowKit Go.Proofs.U Go.Shelf
set_option linter.unusedSimpArgs false
set_option linter.unusedVariables false
theorem ownI_of_R {e : TypeId} {w : World} {base : Nat} {v : Value} {l : List Int} (h : OwnR en64 1 e w base v l) : OwnI .i64 e w base v l := by
  have e1 : l.flatMap en64 = l.map (Value.int .i64) := by
    clear h
    induction l with
    | nil => rfl
    | cons x l ih => rw [List.flatMap_cons, ih]; rfl
  have := h.2
  rw [e1] at this
  exact this
set_option maxRecDepth 100000 in
set_option maxHeartbeats 1000000 in
theorem children_any (n : Nd) (v : Value) (w : World) (h : NdS w v n) :
    Calls Try.prog 40 #[ndV n.k n.b v] w fun r w' => ∃ u, r = .returned u ∧ OwnI .i64 3 w' w.heap.size u (kids n) ∧ SlI .i64 w' u (kids n) ∧ Fr noB w w' := by
  obtain ⟨k, b, es⟩ := n
  obtain ⟨hs, ⟨hb, hy⟩, hm, hwf⟩ := h
  unfold kids
  simp only at hs hb hy hm hwf ⊢
  have Hb := show Hid _ from hb
  have hS := hs
  obtain ⟨a0, c0, rfl, hc0⟩ := hs.1.opn
  clear hb hy hwf hs
  have hS1 := hS.1
  have hw6 : ∀ x ∈ es.map (·.2), (Lit.int .i64 x).wf = true := by
    intro x hx
    obtain ⟨y, hy, rfl⟩ := List.mem_map.1 hx
    exact (hS.2 y hy).2
  go_enter Try.func40, Try.ntmps40
  go_wp2_with (first
    | (with_reducible refine at_wpP ?_; refine wpList_boxN rfl _ rfl _ b (.slice a0 es.length c0) rfl ?_; intro g1 w1 hg1 b1 f1 s1; have q2 := NdB.ents b1 Hb.out; have l1 := b1.lt; have z1 := f1.size)
    | (refine at_make 36 _ _ rfl ?_; go_must (refine wpList_make0R en64 1 rfl _ _ 36 rfl w.heap.size 3 _ 8 Try.underlying36 info_int .i64 .i64 _ es.length rfl rfl rfl ?hb2 ?hb3 f1.size ?_; rotate_left 2; intro g2 w2 o2 f2 s2 t2; have b2 := b1.fr0 f2; have q2 := NdB.ents b2 Hb.out)))
  case hb2 => omega
  case hb3 => unfold maxLen; omega
  go_loopw [13, 3] (fun i v wr => ∃ (k : Nat), k ≤ es.length ∧ i = .int .i64 (k : Int) ∧ OwnR en64 1 3 wr w.heap.size v ((es.take k).map (·.2)) ∧ Fr noB w wr) (fun i _ _ => es.length - (intOf i).toNat)
  case atStart => exact ⟨0, Nat.zero_le _, rfl, o2, f1.thenN f2⟩
  case round =>
    obtain ⟨j, hj, rfl, ho, hf⟩ := hrel
    by_cases hlt : j < es.length
    · obtain ⟨x, Hx⟩ : ∃ x, Hid (es[j] = x) := ⟨es[j], (rfl : es[j] = es[j])⟩
      obtain ⟨L, HL⟩ : ∃ L, Hid ((es.take j).map (·.2) = L) := ⟨_, rfl⟩
      have hLl : Hid (L.length = j) := by show _ = _; rw [← HL.out]; simp; omega
      rw [HL.out] at ho
      obtain ⟨a5, c5, rfl⟩ := ho.opn
      have hnx : Hid ((es.take (j + 1)).map (·.2) = L ++ [x.2]) := by
        show _ = _
        rw [← HL.out, List.take_succ_eq_append_getElem hlt, List.map_append, Hx.out]; rfl
      have zf := hf.size
      have hlt' : (j : Int) < (es.length : Int) := by omega
      go_wp2_with (first
        | (with_reducible refine at_wpP ?_; refine at_idx 31 _ _ rfl ?_; go_must (refine wpList_idxR rfl 31 _ _ rfl 49 Try.underlying31 2 en_size _ _ _ rfl (hS1.fr0 hf) (by decide) _ _ j rfl rfl hlt ?_; rw [Hx.out]; intro ba oa hba hca))
        | (with_reducible refine at_wpP ?_; refine at_ld 49 _ rfl ?_; have q := hca; refine wpList_ldE rfl _ rfl ba oa rfl x hca ?_)
        | (with_reducible refine at_wpP ?_; refine wpList_allocE rfl rfl ?_; intro gl w5 hgl b5 f5 sl; have l5 := b5.lt; have F5 := hf.thenN f5; have z5 := f5.size)
        | (with_reducible refine at_wpP ?_; refine at_st 49 _ _ rfl ?_; go_must (refine wpList_stE rfl _ _ rfl gl rfl (0, 0) x b5 rfl ?_; intro w6 B6 f6; have F6 := Fr.ownX F5 (by omega) f6; have z6 := f6.size; obtain ⟨c0, c1⟩ := B6.all; have o6 := (ho.fr0 f5).fr f6 (fun q hq e => by have := (ho.newB q hq).2; unfold onB1 at e; omega)))
        | (with_reducible refine at_wpP ?_; refine wpList_mk1 (ec := en64) (sz := 1) rfl 36 _ rfl 3 Try.underlying36 _ info_int2 (by decide) (by decide) x.2 _ rfl rfl rfl ?_; intro g8 w8 s8 f8 r8 t8; have o8 := o6.fr0 f8; have F8 := F6.thenN f8; have z8 := f8.size)
        | (at_builtin; go_must (refine wpList_appR (ec := en64) (sz := 1) rfl _ _ 36 rfl w.heap.size 3 _ 8 Try.underlying36 info_int rfl (by decide) _ L rfl o8 _ [x.2] rfl s8 (by intro y hy u hu; simp at hu; subst hu; rfl) ?hr1 ?hr2 ?hr3 ?_; rotate_left 3; intro v9 w9 o9 hg9; have F9 := o8.grown F8 (Nat.le_refl _) hg9)))
      case hr1 => have := hLl.out; unfold maxLen; simp; omega
      case hr2 => have := hLl.out; simp; omega
      case hr3 => have := F8.size; omega
      go_roundw
      case rel => exact ⟨j + 1, by omega, by go_num, by rw [hnx.out]; exact o9, F9⟩
      case measure => simp [intOf]; omega
    · obtain rfl : j = es.length := by omega
      go_wp2
      go_ret
      rw [List.take_length] at ho
      exact ⟨_, rfl, ownI_of_R ho, (ownI_of_R ho).sl hw6, hf⟩
theorem int_size1 : (Try.prog.info? 3).map (·.size) = some 1 := by kernel_rfl
theorem getX {k : IntKind} {l : List Int} {j : Nat} {u : Value} {x : Int} (hu : (l.map (Value.int k))[j]? = some u) (h : j < l.length) (hx : l[j] = x) : u = .int k x := by
  rw [List.getElem?_map, List.getElem?_eq_getElem h, hx] at hu
  exact (Option.some.inj hu).symm
/-- How many come ahead of the first of which p holds; -1, if there is none. -/
def idxF (p : Int → Bool) (l : List Int) : Int := match l.findIdx? p with | some i => (i : Int) | none => -1
theorem idxF_any (p : Int → Bool) (l : List Int) : decide (0 ≤ idxF p l) = l.any p := by
  unfold idxF
  cases h : l.findIdx? p with
  | none =>
    have := List.findIdx?_eq_none_iff.1 h
    simp
    exact this
  | some i =>
    obtain ⟨hi, h1, _⟩ := List.findIdx?_eq_some_iff_getElem.1 h
    simp
    exact ⟨l[i], by simp, h1⟩
set_option maxRecDepth 100000 in
set_option maxHeartbeats 1000000 in
theorem indexFunc_any (p : Int → Bool) (g : Nat) (bd lb : Array Value) (eg : ∀ args w, (callFunc g args).run Try.prog w = .ok (.enter g args) w) (v : Value) (l : List Int) (w : World) (hv : SlI .i64 w v l) (hl : l.length ≤ 1000000)
    (hc : ∀ x ∈ l, Calls Try.prog g (bd ++ #[.int .i64 x] ++ lb) w fun r w' => r = .returned (.bool (p x)) ∧ w = w') :
    Calls Try.prog 58 #[v, .func (.func g) bd lb] w fun r w' => r = .returned (.int .i64 (idxF p l)) ∧ w = w' := by
  obtain ⟨a0, c0, rfl, hc0⟩ := hv.opn
  have hv1 := hv.1
  go_enter Try.func58, Try.ntmps58
  go_wp2
  go_loop [5, 8] (fun _ i => ∃ (j : Nat), j ≤ l.length ∧ i = .int .i64 (j : Int) ∧ Hid (∀ k (hk : k < l.length), k < j → p l[k] = false)) (fun _ i => l.length - (intOf i).toNat)
  case atStart => exact ⟨0, Nat.zero_le _, rfl, fun k hk h => absurd h (by omega)⟩
  case round =>
    obtain ⟨j, hj, rfl, hA⟩ := hrel
    by_cases hlt : j < l.length
    · obtain ⟨x, Hx⟩ : ∃ x, Hid (l[j] = x) := ⟨l[j], (rfl : l[j] = l[j])⟩
      have hcx := hc x (by rw [← Hx.out]; simp)
      have hlt' : (j : Int) < (l.length : Int) := by omega
      cases hp : p x with
      | true =>
        rw [hp] at hcx
        have hres : Hid (idxF p l = (j : Int)) := by
          show _ = _
          unfold idxF
          have : l.findIdx? p = some j := List.findIdx?_eq_some_iff_getElem.2 ⟨hlt, by rw [Hx.out]; exact hp, fun k hk => by have := hA.out k (by omega) hk; simp [this]⟩
          rw [this]
        go_wp2_with (first
          | (with_reducible refine at_wpP ?_; refine at_idx 36 _ _ rfl ?_; go_must (refine wpList_idx1 rfl 36 _ _ rfl 3 Try.underlying36 int_size1 (.slice a0 l.length c0) _ _ rfl hv1 .i64 (j : Int) j rfl rfl hlt ?_; intro pp u hu hcu; obtain rfl := getX hu hlt Hx.out))
          | (go_at_fn g; go_must (refine hcx.mono ?_; rintro e w' ⟨rfl, rfl⟩)))
        go_ret
        exact ⟨by rw [hres.out]; rfl, rfl⟩
      | false =>
        rw [hp] at hcx
        go_wp2_with (first
          | (with_reducible refine at_wpP ?_; refine at_idx 36 _ _ rfl ?_; go_must (refine wpList_idx1 rfl 36 _ _ rfl 3 Try.underlying36 int_size1 (.slice a0 l.length c0) _ _ rfl hv1 .i64 (j : Int) j rfl rfl hlt ?_; intro pp u hu hcu; obtain rfl := getX hu hlt Hx.out))
          | (go_at_fn g; go_must (refine hcx.mono ?_; rintro e w' ⟨rfl, rfl⟩)))
        go_round
        case rel => exact ⟨j + 1, by omega, by go_num, fun k hk h => by
          by_cases e : k = j
          · subst e; rw [Hx.out]; exact hp
          · exact hA.out k hk (by omega)⟩
        case measure => simp [intOf]; omega
    · obtain rfl : j = l.length := by omega
      have hres : Hid (idxF p l = -1) := by
        show _ = _
        unfold idxF
        have : l.findIdx? p = none := List.findIdx?_eq_none_iff.2 (fun x hx => by
          obtain ⟨k, hk, rfl⟩ := List.mem_iff_getElem.1 hx
          exact hA.out k hk hk)
        rw [this]
      go_wp2
      go_ret
      exact ⟨by rw [hres.out]; rfl, rfl⟩
set_option maxRecDepth 100000 in
set_option maxHeartbeats 1000000 in
theorem containsFunc_any (p : Int → Bool) (g : Nat) (bd lb : Array Value) (eg : ∀ args w, (callFunc g args).run Try.prog w = .ok (.enter g args) w) (v : Value) (l : List Int) (w : World) (hv : SlI .i64 w v l) (hl : l.length ≤ 1000000)
    (hc : ∀ x ∈ l, Calls Try.prog g (bd ++ #[.int .i64 x] ++ lb) w fun r w' => r = .returned (.bool (p x)) ∧ w = w') :
    Calls Try.prog 41 #[v, .func (.func g) bd lb] w fun r w' => r = .returned (.bool (l.any p)) ∧ w = w' := by
  have hI := indexFunc_any p g bd lb eg v l w hv hl hc
  have hr := show Hid _ from idxF_any p l
  obtain ⟨i, Hi⟩ : ∃ i, Hid (idxF p l = i) := ⟨_, rfl⟩
  rw [Hi.out] at hI hr
  go_enter Try.func41, Try.ntmps41
  go_wp2_with (first
    | (go_at_call 58; go_must (refine hI.mono ?_; rintro e w' ⟨rfl, rfl⟩)))
  go_ret
  exact ⟨by rw [← hr.out]; rfl, rfl⟩
set_option maxRecDepth 100000 in
set_option maxHeartbeats 1000000 in
theorem each_any {σ : Type} (f : σ → Int → σ × Int) (I : σ → World → Prop) (g : Nat) (bd lb : Array Value) (eg : ∀ args w, (callFunc g args).run Try.prog w = .ok (.enter g args) w) (v : Value) (l : List Int) (hl : l.length ≤ 1000000)
    (hsl : ∀ s W, I s W → SlI .i64 W v l)
    (hc : ∀ s W x, x ∈ l → I s W → Calls Try.prog g (bd ++ #[.int .i64 x] ++ lb) W fun r W' => r = .returned (.int .i64 (f s x).2) ∧ I (f s x).1 W')
    (s : σ) (w : World) (hI : I s w) :
    Calls Try.prog 43 #[v, .func (.func g) bd lb] w fun r w' => r = .returned (.int .i64 (eachF f s l).2) ∧ I (eachF f s l).1 w' := by
  obtain ⟨a0, c0, rfl, hc0⟩ := (hsl s w hI).opn
  obtain ⟨R, HR⟩ : ∃ R, Hid (eachF f s l = R) := ⟨_, rfl⟩
  rw [HR.out]
  go_enter Try.func43, Try.ntmps43
  go_wp2
  go_loopw [10] (fun i wr => ∃ (j : Nat) (t : σ), j ≤ l.length ∧ i = .int .i64 (j : Int) ∧ I t wr ∧ Hid (eachF f t (l.drop j) = R)) (fun i _ => l.length - (intOf i).toNat)
  case atStart => exact ⟨0, s, Nat.zero_le _, rfl, hI, HR⟩
  case round =>
    obtain ⟨j, t, hj, rfl, hIt, hA⟩ := hrel
    by_cases hlt : j < l.length
    · obtain ⟨x, Hx⟩ : ∃ x, Hid (l[j] = x) := ⟨l[j], (rfl : l[j] = l[j])⟩
      have hcx := hc t wr x (by rw [← Hx.out]; simp) hIt
      have hv1 := (hsl t wr hIt).1
      have hlt' : (j : Int) < (l.length : Int) := by omega
      have hd : l.drop j = x :: l.drop (j + 1) := by rw [← Hx.out]; exact List.drop_eq_getElem_cons hlt
      rw [hd] at hA
      obtain ⟨y, Hy⟩ : ∃ y, Hid (f t x = y) := ⟨_, rfl⟩
      rw [Hy.out] at hcx
      by_cases h0 : y.2 = 0
      · replace hA : Hid (eachF f y.1 (l.drop (j + 1)) = R) := by show _ = _; rw [← hA.out, eachF_cons0 (by rw [Hy.out]; exact h0), Hy.out]
        obtain ⟨y1, y2⟩ := y
        simp only at h0 hA hcx
        subst h0
        go_wp2_with (first
          | (with_reducible refine at_wpP ?_; refine at_idx 36 _ _ rfl ?_; go_must (refine wpList_idx1 rfl 36 _ _ rfl 3 Try.underlying36 int_size1 (.slice a0 l.length c0) _ _ rfl hv1 .i64 (j : Int) j rfl rfl hlt ?_; intro pp u hu hcu; obtain rfl := getX hu hlt Hx.out))
          | (go_at_fn g; go_must (refine hcx.mono ?_; rintro e w2 ⟨rfl, I2⟩)))
        go_roundw
        case rel => exact ⟨j + 1, y1, by omega, by go_num, I2, hA⟩
        case measure => simp [intOf]; omega
      · replace hA : Hid (y = R) := by show _ = _; rw [← hA.out, eachF_cons1 (by rw [Hy.out]; exact h0), Hy.out]
        have h0' : ¬ y.2 = 0 := h0
        go_wp2_with (first
          | (with_reducible refine at_wpP ?_; refine at_idx 36 _ _ rfl ?_; go_must (refine wpList_idx1 rfl 36 _ _ rfl 3 Try.underlying36 int_size1 (.slice a0 l.length c0) _ _ rfl hv1 .i64 (j : Int) j rfl rfl hlt ?_; intro pp u hu hcu; obtain rfl := getX hu hlt Hx.out))
          | (go_at_fn g; go_must (refine hcx.mono ?_; rintro e w2 ⟨rfl, I2⟩)))
        go_ret
        rw [← hA.out]
        exact ⟨rfl, I2⟩
    · obtain rfl : j = l.length := by omega
      replace hA : Hid ((t, (0 : Int)) = R) := by have := hA.out; rw [List.drop_length] at this; exact this
      go_wp2
      go_ret
      rw [← hA.out]
      exact ⟨rfl, hIt⟩
end Go.Proofs.Ytkhdniccnefdhaa
/- A store in memory: Size, New, made, Pool, lacks, read, Get, Hold, Mark. -/
namespace Go.Proofs.Ytkhdniccnefdhaa
open Go.RowKit Go.Proofs.U Go.Shelf
set_option linter.unusedSimpArgs false
set_option linter.unusedVariables false
theorem wrap_sm {n : Int} (h : -9223372036854775808 ≤ n ∧ n ≤ 9223372036854775807) : IntKind.i64.wrap n = n := by rw [IntKind.wrap_i64]; omega
theorem _root_.Go.Proofs.U.BxV.two {w : World} {g : Nat} {t : TypeId} {x0 x1 : Value} (h : BxV w g t [x0, x1]) : w.cell? ⟨g, 0, none⟩ = some x0 ∧ w.cell? ⟨g, 1, none⟩ = some x1 := ⟨(h.cell 0 _ rfl).1, (h.cell 1 _ rfl).1⟩
/-- A store lies at gs: its pool at gp, its disk in the blocks F. -/
structure Sto (w : World) (F : Nat → Prop) (gs gp : Nat) (X : DSt) (L : List Pg) (m : Nat) : Prop where
  dk : ∃ gd, BxV w gs 66 [ptr gd, ptr gp] ∧ Disk w F gd X
  pl : PoolB w gp L
  ok : plOk L
  up : Up X L.length m
  fs : ¬ F gs
  fp : ¬ F gp
  ne : gs ≠ gp
  ft : ∀ k, F k → k < w.heap.size
theorem Sto.fr {S : Nat → Prop} {w w' : World} {F : Nat → Prop} {gs gp : Nat} {X : DSt} {L : List Pg} {m : Nat} (h : Sto w F gs gp X L m) (f : Fr S w w') (hs : ∀ k, k < w.heap.size → (F k ∨ k = gp ∨ k = gs) → ¬ S k) : Sto w' F gs gp X L m := by
  obtain ⟨gd, hb, hd⟩ := h.dk
  exact { h with dk := ⟨gd, hb.fr f (hs gs hb.lt (Or.inr (Or.inr rfl))), hd.fr f (fun k hk hF => hs k hk (Or.inl hF))⟩, pl := h.pl.fr f (hs gp h.pl.lt (Or.inr (Or.inl rfl))), ft := fun k hk => Nat.lt_of_lt_of_le (h.ft k hk) f.size }
theorem Sto.fr0 {w w' : World} {F : Nat → Prop} {gs gp : Nat} {X : DSt} {L : List Pg} {m : Nat} (h : Sto w F gs gp X L m) (f : Fr noB w w') : Sto w' F gs gp X L m := h.fr f (fun _ _ _ q => q)
theorem Sto.pool {w w' : World} {F : Nat → Prop} {gs gp : Nat} {X : DSt} {L L' : List Pg} {m : Nat} (h : Sto w F gs gp X L m) (f : Fr (onB1 gp) w w') (hp : PoolB w' gp L') (ho : plOk L') (hl : L'.length = L.length) : Sto w' F gs gp X L' m := by
  obtain ⟨gd, hb, hd⟩ := h.dk
  exact { h with
    dk := ⟨gd, hb.fr f (fun q => by unfold onB1 at q; exact h.ne q), hd.fr f (fun k hk hF q => by unfold onB1 at q; subst q; exact h.fp hF)⟩
    pl := hp
    ok := ho
    up := by rw [hl]; exact h.up
    ft := fun k hk => Nat.lt_of_lt_of_le (h.ft k hk) f.size }
theorem Sto.mono {w : World} {F : Nat → Prop} {gs gp : Nat} {X : DSt} {L : List Pg} {m m' : Nat} (h : Sto w F gs gp X L m) (hm : m ≤ m') : Sto w F gs gp X L m' := { h with up := h.up.mono hm }
theorem Sto.lts {w : World} {F : Nat → Prop} {gs gp : Nat} {X : DSt} {L : List Pg} {m : Nat} (h : Sto w F gs gp X L m) : gs < w.heap.size := by
  obtain ⟨gd, hb, hd⟩ := h.dk
  exact hb.lt
theorem Sto.ltp {w : World} {F : Nat → Prop} {gs gp : Nat} {X : DSt} {L : List Pg} {m : Nat} (h : Sto w F gs gp X L m) : gp < w.heap.size := h.pl.lt
theorem Sto.tight {w : World} {F : Nat → Prop} {gs gp : Nat} {X : DSt} {L : List Pg} {m : Nat} (h : Sto w F gs gp X L m) : Sto w (fun k => F k ∧ k < w.heap.size) gs gp X L m := by
  obtain ⟨gd, hb, hd⟩ := h.dk
  exact { h with dk := ⟨gd, hb, hd.tight⟩, fs := fun q => h.fs q.1, fp := fun q => h.fp q.1, ft := fun k hk => hk.2 }
theorem Sto.cells {w : World} {F : Nat → Prop} {gs gp : Nat} {X : DSt} {L : List Pg} {m : Nat} (h : Sto w F gs gp X L m) : ∃ gd, w.cell? ⟨gs, 0, none⟩ = some (ptr gd) ∧ w.cell? ⟨gs, 1, none⟩ = some (ptr gp) ∧ Disk w F gd X := by
  obtain ⟨gd, hb, hd⟩ := h.dk
  exact ⟨gd, hb.two.1, hb.two.2, hd⟩
set_option maxRecDepth 100000 in
set_option maxHeartbeats 1000000 in
theorem nsize_any (n : Int) (w : World) :
    Calls Try.prog 25 #[.int .i64 n] w fun r w' => r = .returned (.int .i64 (sizeN n)) ∧ w = w' := by
  have hs : IntKind.i64.wrap (min (max n 4) 244 - 4) = min (max n 4) 244 - 4 := wrap_sm (by omega)
  unfold sizeN
  go_enter Try.func25, Try.ntmps25
  go_wp2
  go_ret
  exact ⟨rfl, rfl⟩
set_option maxRecDepth 100000 in
set_option maxHeartbeats 1000000 in
theorem lacks_any {F : Nat → Prop} {gs gp : Nat} {X : DSt} {L : List Pg} {m : Nat} (p : Int) (w : World) (h : Sto w F gs gp X L m) :
    Calls Try.prog 37 #[ptr gs, .int .i64 p] w fun r w' => r = .returned (.bool (!plHeld L p)) ∧ w = w' := by
  obtain ⟨gd, k0, k1, hd⟩ := h.cells
  rw [← lack_eq h.ok p]
  have hC := pcount_any h.ok gp p w h.pl
  have hF := pfresh_any h.ok gp p w h.pl
  obtain ⟨c, Hc⟩ : ∃ c, Hid (plCount L p = c) := ⟨_, rfl⟩
  rw [Hc.out] at hC ⊢
  obtain ⟨b, Hb⟩ : ∃ b, Hid (plFresh L p = b) := ⟨_, rfl⟩
  rw [Hb.out] at hF ⊢
  cases hc0 : (c == 0) with
  | false =>
    go_enter Try.func37, Try.ntmps37
    go_wp2_with (first
      | (go_at_call 51; go_must (refine hC.mono ?_; rintro e w' ⟨rfl, rfl⟩)))
    go_ret
    exact ⟨rfl, rfl⟩
  | true =>
    obtain rfl : c = 0 := by simpa using hc0
    go_enter Try.func37, Try.ntmps37
    go_wp2_with (first
      | (go_at_call 51; go_must (refine hC.mono ?_; rintro e w' ⟨rfl, rfl⟩))
      | (go_at_call 52; go_must (refine hF.mono ?_; rintro e w' ⟨rfl, rfl⟩)))
    go_ret
    exact ⟨by cases b <;> rfl, rfl⟩
set_option maxRecDepth 100000 in
set_option maxHeartbeats 1000000 in
theorem nread_own {F : Nat → Prop} {gs gp : Nat} {X : DSt} {L : List Pg} {m : Nat} (p : Int) (h0 : 0 ≤ p) (h1 : p < (L.length : Int)) (w : World) (h : Sto w F gs gp X L m) (hm : m ≤ 100000) :
    Calls Try.prog 38 #[ptr gs, .int .i64 p] w fun r w' => NOpenO w w' (rdN X p) r := by
  obtain ⟨gd, k0, k1, hd⟩ := h.cells
  have hlen := h.ok.1
  have hR := fun W (f : Fr noB w W) => read_any gd (p + 4) (by omega) W (hd.fr0 f) (Nat.le_trans h.up.pm hm)
  rw [h.up.read h0 h1] at hR
  have hbt := h.up.by8 p h0 h1
  have hO := fun W => nopen_own (ct X p) hbt.1 hbt.2 W
  unfold rdN
  obtain ⟨R, HR⟩ : ∃ R, Hid (opN (ct X p) = R) := ⟨_, rfl⟩
  rw [HR.out] at hO ⊢
  obtain ⟨P, HP⟩ : ∃ P, Hid (ct X p = P) := ⟨_, rfl⟩
  have hPl := show Hid _ from hbt.1
  rw [HP.out] at hO hR hPl
  clear hbt
  have hp4 : IntKind.i64.wrap (p + 4) = p + 4 := wrap_sm (by omega)
  simp only at hR
  obtain ⟨Z, HZ⟩ : ∃ Z, Hid (zerB 256 = Z) := ⟨_, rfl⟩
  have hZl : Hid (Z.length = 256) := by show _ = _; rw [← HZ.out]; exact zerB_len 256
  go_enter Try.func38, Try.ntmps38
  go_wp2_with (first
    | (with_reducible refine at_wpP ?_; refine wpList_allocN rfl rfl ?_; intro g1 w1 hg1 b1 f1 s1; have l1 := b1.lt; have z1 := f1.size; have k0 := f1.cell k0 (fun q => q))
    | (go_at_call 53; go_must (refine (hR _ f1).mono ?_; rintro e w2 ⟨rfl, f2⟩; have z2 := f2.size; have B2 := b1.fr0 f2))
    | (with_reducible refine at_wpP ?_; refine wpList_allocA arr_page rfl rfl ?_; rw [HZ.out]; intro g3 w3 hg3 b3 f3 s3; have l3 := b3.lt; have z3 := f3.size)
    | (with_reducible refine at_wpP ?_; refine at_st 82 _ _ rfl ?_; go_must (refine wpList_storeA arr_page rfl _ _ rfl g3 rfl P rfl _ b3 hPl.out hZl.out ?_; intro w4 b4 f4; have z4 := f4.size; have F4 : Fr noB w2 w4 := Fr.ownX f3 s3 f4))
    | (with_reducible refine at_wpP ?_; refine at_ld 82 _ rfl ?_; have q := b4; refine wpList_loadA arr_page rfl _ rfl g3 rfl P b4 hPl.out ?_)
    | (go_at_call 54; go_must (refine (hO _).mono ?_; rintro e w5 ⟨v, rfl, n5, o5, f5, q5⟩; have z5 := f5.size; have hv := NdS.sl n5; have hbl := NdS.bl n5; have B5 := (B2.fr0 F4).fr0 f5))
    | (with_reducible refine at_wpP ?_; refine at_st 47 _ _ rfl ?_; have q := n5; go_must (refine wpList_stN rfl _ _ rfl g1 rfl R.1.k R.1.b v rfl hbl.out hv 0 (zerB 16) nilS B5 (zerB_len 16) ?_; intro w6 b6 f6)))
  have F6 : Fr noB w w6 := ((((f1.thenN f2).thenN F4).thenN f5)).thenT f6 (fun i hi q => by unfold onB1 at q; omega)
  exact bodyPost_ret (results_nd2 Try.results38 _ w6 g1 R.1.k R.1.b v rfl b6 hbl.out) rfl ⟨v, rfl, n5.frS f6 (fun k hk q => by have := o5 k hk; unfold onB1 at q; omega), (fun k hk => by have := o5 k hk; omega), F6, (q5.fr f6 (fun k hk q => by have := o5 k hk; unfold onB1 at q; omega)).rebase (by omega)⟩
theorem nread_any {F : Nat → Prop} {gs gp : Nat} {X : DSt} {L : List Pg} {m : Nat} (p : Int) (h0 : 0 ≤ p) (h1 : p < (L.length : Int)) (w : World) (h : Sto w F gs gp X L m) (hm : m ≤ 100000) :
    Calls Try.prog 38 #[ptr gs, .int .i64 p] w fun r w' => NOpenIs w w' (rdN X p) r := (nread_own p h0 h1 w h hm).mono fun _ _ h => h.is
end Go.Proofs.Ytkhdniccnefdhaa
/- A store: Get, Hold, Mark, New, made. -/
namespace Go.Proofs.Ytkhdniccnefdhaa
open Go.RowKit Go.Proofs.U Go.Shelf
set_option linter.unusedSimpArgs false
set_option linter.unusedVariables false
theorem NOpenIs.fr0 {w w1 w' : World} {x : Nd × Int} {r : Ending} (f : Fr noB w w1) (h : NOpenIs w1 w' x r) : NOpenIs w w' x r := by
  obtain ⟨v, e, n, o, f'⟩ := h
  exact ⟨v, e, n, fun k hk => by have := o k hk; have := f.size; omega, f.thenN f'⟩
set_option maxRecDepth 100000 in
set_option maxHeartbeats 1000000 in
theorem nget_own {F : Nat → Prop} {gs gp : Nat} {X : DSt} {L : List Pg} {m : Nat} (p : Int) (w : World) (h : Sto w F gs gp X L m) (hm : m ≤ 100000) :
    Calls Try.prog 20 #[ptr gs, .int .i64 p] w fun r w' => NOpenO w w' (getF X L p) r := by
  unfold getF
  have hl := fun W (f : Fr noB w W) => lacks_any p W (h.fr0 f)
  cases hh : plHeld L p with
  | false =>
    rw [hh] at hl
    simp only [Bool.false_eq_true, if_false]
    go_enter Try.func20, Try.ntmps20
    go_wp2_with (first
      | (with_reducible refine at_wpP ?_; refine wpList_allocN rfl rfl ?_; intro g1 w1 hg1 b1 f1 s1; have l1 := b1.lt; have z1 := f1.size)
      | (go_at_call 37; go_must (refine (hl _ f1).mono ?_; rintro e w2 ⟨rfl, rfl⟩))
      | (with_reducible refine at_wpP ?_; refine wpList_bldN rfl _ rfl 0 (zerB 16) nilS [] rfl built_nd0 ?_)
      | (with_reducible refine at_wpP ?_; refine at_st 47 _ _ rfl ?_; go_must (refine wpList_stN rfl _ _ rfl g1 rfl 0 (zerB 16) nilS rfl (zerB_len 16) ⟨_, _, _, rfl⟩ 0 (zerB 16) nilS b1 (zerB_len 16) ?_; intro w3 b3 f3)))
    have F3 : Fr noB w w3 := f1.thenT f3 (fun i hi q => by unfold onB1 at q; omega)
    exact bodyPost_ret (results_nd2 Try.results20 _ w3 g1 0 (zerB 16) nilS rfl b3 (zerB_len 16)) rfl ⟨nilS, rfl, NdS.none w3, (fun k hk => by cases hk), F3, OwnR.none _ _⟩
  | true =>
    rw [hh] at hl
    have hr := plHeld_rng hh
    have hR := fun W (f : Fr noB w W) => nread_own p hr.1 hr.2 W (h.fr0 f) hm
    simp only [if_true]
    obtain ⟨R, HR⟩ : ∃ R, Hid (rdN X p = R) := ⟨_, rfl⟩
    rw [HR.out] at hR ⊢
    go_enter Try.func20, Try.ntmps20
    go_wp2_with (first
      | (with_reducible refine at_wpP ?_; refine wpList_allocN rfl rfl ?_; intro g1 w1 hg1 b1 f1 s1; have l1 := b1.lt; have z1 := f1.size)
      | (go_at_call 37; go_must (refine (hl _ f1).mono ?_; rintro e w2 ⟨rfl, rfl⟩))
      | (go_at_call 38; go_must (refine (hR _ f1).mono ?_; rintro e w5 ⟨v, rfl, n5, o5, f5, q5⟩; have z5 := f5.size; have hv := NdS.sl n5; have hbl := NdS.bl n5; have B5 := b1.fr0 f5))
      | (with_reducible refine at_wpP ?_; refine at_st 47 _ _ rfl ?_; have q := n5; go_must (refine wpList_stN rfl _ _ rfl g1 rfl R.1.k R.1.b v rfl hbl.out hv 0 (zerB 16) nilS B5 (zerB_len 16) ?_; intro w6 b6 f6)))
    have F6 : Fr noB w w6 := (f1.thenN f5).thenT f6 (fun i hi q => by unfold onB1 at q; omega)
    exact bodyPost_ret (results_nd2 Try.results20 _ w6 g1 R.1.k R.1.b v rfl b6 hbl.out) rfl ⟨v, rfl, n5.frS f6 (fun k hk q => by have := o5 k hk; unfold onB1 at q; omega), (fun k hk => by have := o5 k hk; omega), F6, (q5.fr f6 (fun k hk q => by have := o5 k hk; unfold onB1 at q; omega)).rebase (by omega)⟩
theorem nget_any {F : Nat → Prop} {gs gp : Nat} {X : DSt} {L : List Pg} {m : Nat} (p : Int) (w : World) (h : Sto w F gs gp X L m) (hm : m ≤ 100000) :
    Calls Try.prog 20 #[ptr gs, .int .i64 p] w fun r w' => NOpenIs w w' (getF X L p) r := (nget_own p w h hm).mono fun _ _ h => h.is
set_option maxRecDepth 100000 in
set_option maxHeartbeats 1000000 in
theorem nhold_any {F : Nat → Prop} {gs gp : Nat} {X : DSt} {L : List Pg} {m : Nat} (p : Int) (w : World) (h : Sto w F gs gp X L m) :
    Calls Try.prog 27 #[ptr gs, .int .i64 p] w fun r w' => r = .returned (.int .i64 (plHold L p).2) ∧ Sto w' F gs gp X (plHold L p).1 m ∧ Fr (onB1 gp) w w' := by
  obtain ⟨gd, k0, k1, hd⟩ := h.cells
  have hH := phold_any h.ok gp p w h.pl
  have ho := hold_ok h.ok p
  have hn := show Hid _ from hold_len L p
  obtain ⟨R, HR⟩ : ∃ R, Hid (plHold L p = R) := ⟨_, rfl⟩
  rw [HR.out] at hH ho hn ⊢
  go_enter Try.func27, Try.ntmps27
  go_wp2_with (first
    | (go_at_call 44; go_must (refine hH.mono ?_; rintro e w1 ⟨rfl, b1, f1⟩)))
  go_ret
  exact ⟨rfl, h.pool f1 b1 ho hn.out, f1⟩
set_option maxRecDepth 100000 in
set_option maxHeartbeats 1000000 in
theorem nnew_any (gd gp : Nat) (w : World) :
    Calls Try.prog 22 #[ptr gd, ptr gp] w fun r w' => ∃ gs, r = .returned (ptr gs) ∧ w.heap.size ≤ gs ∧ BxV w' gs 66 [ptr gd, ptr gp] ∧ Fr noB w w' := by
  go_enter Try.func22, Try.ntmps22
  go_wp2_with (first
    | (with_reducible refine at_wpP ?_; refine wpList_boxG rfl 66 _ rfl (.agg #[ptr gd, ptr gp]) [ptr gd, ptr gp] rfl rfl ?_; intro g1 w1 hg1 b1 f1 s1))
  go_ret
  exact ⟨g1, rfl, s1, b1, f1⟩
end Go.Proofs.Ytkhdniccnefdhaa
