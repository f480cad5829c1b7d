/- Texts H0, H1, H2, H3, J9, JA of the proof of PruneTrims, one behind the other. -/
import Derived.Shelf.Abstract
import Derived.Lib.AppendZerosOnto
import Derived.Lib.Overlaps
import Derived.Laws.Externs
import Derived.Test.YtmkinaijkgkgiaaGreatBundlePruneTrims1
import Derived.Test.YtmkinaijkgkgiaaGreatBundlePruneTrims2
import Derived.Test.YtmkinaijkgkgiaaGreatBundlePruneTrims3
import Derived.Test.YtmkinaijkgkgiaaGreatBundlePruneTrims4
import Derived.Test.YtmkinaijkgkgiaaGreatBundlePruneTrims5
import Derived.Test.YtmkinaijkgkgiaaGreatBundlePruneTrims6
import Derived.Test.YtmkinaijkgkgiaaGreatBundlePruneTrims7
import Derived.Test.YtmkinaijkgkgiaaGreatBundlePruneTrims8
import Derived.Test.YtmkinaijkgkgiaaGreatBundlePruneTrims9
import Derived.Test.YtmkinaijkgkgiaaGreatBundlePruneTrims10
/- A store of nodes, plain: the disk's pages as nodes, what is made, gotten, dropped and reached; no condition. -/
namespace Go.Proofs.YtmkinaijkgkgiaaGreat
open Go.RowKit Go.Proofs.U
set_option linter.unusedSimpArgs false
set_option linter.unusedVariables false
/-- A node's children. -/
def kids (n : Nd) : List Int := n.es.map (·.2)
theorem lack_eq {L : List Pg} (hL : plOk L) (p : Int) : (plCount L p == 0 && !plFresh L p) = !plHeld L p := by
  unfold plCount plFresh plHeld Pg.held Pg.frsh
  cases plIn L p <;> simp
/-- What stands on the pool's page p. -/
def ct (X : DSt) (p : Int) : List Int := (readP X (p + 4)).1
/-- A disk that works, with room for N pages of a pool, written m times at most. -/
structure Up (X : DSt) (N m : Nat) : Prop where
  dn : X.down = false
  lf : X.left = -1
  bd : ∀ i, X.bad i = false
  ln : N + 4 ≤ X.pages.length
  pm : X.pend.length ≤ m
  by8 : ∀ p : Int, 0 ≤ p → p < (N : Int) → (ct X p).length = 256 ∧ Byt (ct X p)
theorem Up.inR {X : DSt} {N m : Nat} (h : Up X N m) {p : Int} (h0 : 0 ≤ p) (h1 : p < (N : Int)) : inR X.pages.length (p + 4) = true := by
  have := h.ln
  unfold Go.Proofs.YtmkinaijkgkgiaaGreat.inR
  simp; omega
theorem Up.read {X : DSt} {N m : Nat} (h : Up X N m) {p : Int} (h0 : 0 ≤ p) (h1 : p < (N : Int)) : readP X (p + 4) = (ct X p, 0) := by
  unfold ct readP
  rw [if_pos (h.inR h0 h1), h.bd]
  rfl
theorem Up.mono {X : DSt} {N m m' : Nat} (h : Up X N m) (hm : m ≤ m') : Up X N m' := { h with pm := Nat.le_trans h.pm hm }
theorem lastW_app (l : List (Int × List Int)) (i : Int) (p : List Int) (j : Int) (q : List Int) : lastW (l ++ [(j, q)]) i p = if j == i then q else lastW l i p := by
  unfold lastW
  rw [List.foldl_append]
  rfl
theorem Up.write {X : DSt} {N m : Nat} (h : Up X N m) {p : Int} (h0 : 0 ≤ p) (h1 : p < (N : Int)) {q : List Int} (hq : q.length = 256) (hb : Byt q) :
    X.writeE (p + 4) = 0 ∧ Up (X.write (p + 4) q) N (m + 1) ∧ ∀ r : Int, 0 ≤ r → r < (N : Int) → ct (X.write (p + 4) q) r = if r = p then q else ct X r := by
  have hin := h.inR h0 h1
  have hE : X.actE = 0 := by unfold DSt.actE actP; rw [h.dn, h.lf]; rfl
  have hw : X.write (p + 4) q = { X with pend := X.pend ++ [(p + 4, q)] } := by
    unfold DSt.write
    rw [if_pos hin, if_pos hE]
    unfold DSt.act actP
    rw [h.dn, h.lf]
    cases X
    simp at *
  have hct : ∀ r : Int, 0 ≤ r → r < (N : Int) → ct (X.write (p + 4) q) r = if r = p then q else ct X r := by
    intro r r0 r1
    rw [hw]
    unfold ct readP
    simp only [h.inR r0 r1, h.bd, if_true, lastW_app]
    by_cases hr : r = p
    · subst hr; simp
    · have : ((p + 4 : Int) == r + 4) = false := by simp; omega
      simp [this, hr]
  refine ⟨by unfold DSt.writeE; rw [if_pos hin]; exact hE, ?_, hct⟩
  refine ⟨by rw [hw]; exact h.dn, by rw [hw]; exact h.lf, by rw [hw]; exact h.bd, by rw [hw]; exact h.ln, by rw [hw]; simp; have := h.pm; omega, fun r r0 r1 => ?_⟩
  rw [hct r r0 r1]
  split
  · exact ⟨hq, hb⟩
  · exact h.by8 r r0 r1
/-- How many pages the pool of a disk of so many has. -/
def sizeN (n : Int) : Int := min (max n 4) 244 - 4
theorem Up.new {n : Int} (hn : 4 ≤ n) : Up (newD n) (plN (sizeN n)) 0 := by
  have hl : (newD n).pages.length = newN n := by unfold newD; simp
  have hr : ∀ p : Int, ct (newD n) p = zeroP := by
    intro p
    unfold ct readP
    split
    · unfold newD
      simp only [Bool.false_eq_true, if_false, lastW, List.foldl_nil]
      rename_i h
      rw [hl] at h
      unfold Go.Proofs.YtmkinaijkgkgiaaGreat.inR at h
      simp at h
      simp only [List.getD, List.getElem?_replicate]
      rw [if_pos (by omega)]
      rfl
    · rfl
  refine ⟨rfl, rfl, fun _ => rfl, ?_, Nat.le_refl _, fun p _ _ => ?_⟩
  · rw [hl]; unfold plN sizeN newN; omega
  · rw [hr p]; exact ⟨zeroP_len, zeroP_byt⟩
/-- The node of the pool's page p, whoever has it. -/
def rdN (X : DSt) (p : Int) : Nd × Int := opN (ct X p)
/-- The node of a page that somebody has. -/
def getF (X : DSt) (L : List Pg) (p : Int) : Nd × Int := if plHeld L p then rdN X p else (nd0, 73)
theorem plHeld_rng {L : List Pg} {p : Int} (h : plHeld L p = true) : 0 ≤ p ∧ p < (L.length : Int) := by
  obtain ⟨j, rfl, hj⟩ := plHeld_in h
  omega
/-- Something is done with pages, in order, up to the first error. -/
def eachF {σ : Type} (f : σ → Int → σ × Int) : σ → List Int → σ × Int
  | s, [] => (s, 0)
  | s, p :: ps => if (f s p).2 = 0 then eachF f (f s p).1 ps else f s p
theorem eachF_cons0 {σ : Type} {f : σ → Int → σ × Int} {s : σ} {p : Int} {ps : List Int} (h : (f s p).2 = 0) : eachF f s (p :: ps) = eachF f (f s p).1 ps := by rw [eachF, if_pos h]
theorem eachF_cons1 {σ : Type} {f : σ → Int → σ × Int} {s : σ} {p : Int} {ps : List Int} (h : ¬ (f s p).2 = 0) : eachF f s (p :: ps) = f s p := by rw [eachF, if_neg h]
theorem eachF_inv {σ : Type} {f : σ → Int → σ × Int} {I : σ → Prop} (hf : ∀ s p, I s → I (f s p).1) : ∀ (l : List Int) (s : σ), I s → I (eachF f s l).1
  | [], s, h => h
  | p :: ps, s, h => by
    by_cases h0 : (f s p).2 = 0
    · rw [eachF_cons0 h0]; exact eachF_inv hf ps _ (hf s p h)
    · rw [eachF_cons1 h0]; exact hf s p h
/-- What Drop's way is measured by: the holds, and what is fresh. -/
def muP (x : Pg) : Nat := x.c.toNat + if x.frsh then 1 else 0
def muL (L : List Pg) : Nat := (L.map muP).sum
theorem sum_set_nat : ∀ (l : List Nat) (k : Nat) (x : Nat) (h : k < l.length), (l.set k x).sum + l[k] = l.sum + x
  | [], k, x, h => by simp at h
  | a :: l, 0, x, h => by simp; omega
  | a :: l, k + 1, x, h => by
    have := sum_set_nat l k x (by simpa using h)
    simp only [List.set_cons_succ, List.sum_cons, List.getElem_cons_succ]
    omega
theorem muL_set (L : List Pg) (k : Nat) (x : Pg) (h : k < L.length) : muL (L.set k x) + muP (plAt L k) = muL L + muP x := by
  unfold muL
  rw [List.map_set]
  have := sum_set_nat (L.map muP) k (muP x) (by simpa using h)
  rw [List.getElem_map, ← plAt_get L k h] at this
  exact this
theorem dropS_frsh (c : Int) (s : Nat) : (Pg.mk c (dropS s)).frsh = false := by
  unfold Pg.frsh dropS
  simp only
  split
  · rfl
  · split <;> rfl
theorem drop_mu {L L' : List Pg} (hL : plOk L) {p : Int} {b : Bool} {e : Int} (h : plDrop L p = (L', b, e)) : muL L' ≤ muL L ∧ (b = true → e = 0 ∧ muL L' < muL L ∧ 0 ≤ p ∧ p < (L.length : Int)) := by
  cases hh : plHeld L p with
  | false =>
    rw [plDrop_not hh] at h
    cases h
    exact ⟨Nat.le_refl _, fun q => by cases q⟩
  | true =>
    obtain ⟨j, rfl, hj⟩ := plHeld_in hh
    have ho := hL.2 j
    unfold Pg.ok at ho
    by_cases hc : 1 < (plAt L j).c
    · rw [plDrop_less hh hc] at h
      cases h
      have := muL_set L j ⟨(plAt L j).c - 1, (plAt L j).s⟩ hj
      refine ⟨?_, fun q => by cases q⟩
      have e : muP ⟨(plAt L j).c - 1, (plAt L j).s⟩ ≤ muP (plAt L j) := by
        unfold muP Pg.frsh
        simp only
        omega
      omega
    · rw [plDrop_up hh hc] at h
      cases h
      have := muL_set L j ⟨0, dropS (plAt L j).s⟩ hj
      have e : muP ⟨0, dropS (plAt L j).s⟩ = 0 := by
        unfold muP
        rw [dropS_frsh]
        rfl
      have e2 : 0 < muP (plAt L j) := by
        unfold plHeld at hh
        simp only [Bool.and_eq_true, Int.toNat_natCast] at hh
        have h2 := hh.2
        unfold Pg.held at h2
        unfold muP Pg.frsh
        cases hf : ((plAt L j).s == 1 || (plAt L j).s == 2) with
        | true => simp
        | false =>
          rw [hf] at h2
          simp at h2
          simp
          omega
      refine ⟨by omega, fun _ => ⟨rfl, by omega, by omega, by omega⟩⟩
/-- Drop: the page, and, if nobody holds it then, its children. -/
def dropF (X : DSt) : Nat → List Pg → Int → List Pg × Int
  | 0, L, _ => (L, 0)
  | n + 1, L, p => if (plDrop L p).2.1 then (if (rdN X p).2 = 0 then eachF (dropF X n) (plDrop L p).1 (kids (rdN X p).1) else ((plDrop L p).1, (rdN X p).2)) else ((plDrop L p).1, (plDrop L p).2.2)
theorem dropF_inv {X : DSt} {I : List Pg → Prop} (hI : ∀ L p, I L → I (plDrop L p).1) : ∀ (n : Nat) (L : List Pg) (p : Int), I L → I (dropF X n L p).1
  | 0, L, p, h => h
  | n + 1, L, p, h => by
    unfold dropF
    split
    · split
      · exact eachF_inv (dropF_inv hI n) _ _ (hI L p h)
      · exact hI L p h
    · exact hI L p h
theorem dropF_len {X : DSt} (n : Nat) (L : List Pg) (p : Int) : (dropF X n L p).1.length = L.length := dropF_inv (I := fun M => M.length = L.length) (fun M p h => by rw [drop_len]; exact h) n L p rfl
theorem dropF_mu {X : DSt} (n : Nat) {L : List Pg} (p : Int) (h : plOk L) : muL (dropF X n L p).1 ≤ muL L :=
  (dropF_inv (I := fun M => plOk M ∧ muL M ≤ muL L) (fun M p h => ⟨drop_ok h.1 p, Nat.le_trans (drop_mu h.1 (p := p) rfl).1 h.2⟩) n L p ⟨h, Nat.le_refl _⟩).2
/-- Make. -/
def makeF (X : DSt) (L : List Pg) (n : Nd) : (DSt × List Pg) × Int × Int :=
  if n.right then
    (if (kids n).any (fun p => !plHeld L p) then ((X, L), -1, 73)
     else if (plTake L).2.2 = 0 then
      (if (eachF plHold (plTake L).1 (kids n)).2 = 0 then ((X.write ((plTake L).2.1 + 4) n.page, (eachF plHold (plTake L).1 (kids n)).1), (plTake L).2.1, 0)
       else ((X.write ((plTake L).2.1 + 4) n.page, (eachF plHold (plTake L).1 (kids n)).1), -1, (eachF plHold (plTake L).1 (kids n)).2))
     else ((X, (plTake L).1), -1, (plTake L).2.2))
  else ((X, L), -1, 81)
/-- See: what can be reached from p, put to what was seen. -/
def seeF (get : Int → Nd × Int) : Nat → (Int → Bool) → Int → (Int → Bool) × Int
  | 0, S, _ => (S, 0)
  | n + 1, S, p => if S p then (S, 0) else if (get p).2 = 0 then eachF (seeF get n) (fun x => if x == p then true else S x) (kids (get p).1) else (S, (get p).2)
end Go.Proofs.YtmkinaijkgkgiaaGreat
/- leaf.Children; slices.IndexFunc, ContainsFunc; nodes.each: whatever function they are handed. -/
namespace Go.Proofs.YtmkinaijkgkgiaaGreat
open Go.RowKit Go.Proofs.U Go.Shelf
set_option linter.unusedSimpArgs false
set_option linter.unusedVariables false
theorem ownI_of_R {e : TypeId} {w : World} {base : Nat} {v : Value} {l : List Int} (h : OwnR en64 1 e w base v l) : OwnI .i64 e w base v l := by
  have e1 : l.flatMap en64 = l.map (Value.int .i64) := by
    clear h
    induction l with
    | nil => rfl
    | cons x l ih => rw [List.flatMap_cons, ih]; rfl
  have := h.2
  rw [e1] at this
  exact this
set_option maxRecDepth 100000 in
set_option maxHeartbeats 1000000 in
theorem children_any (n : Nd) (v : Value) (w : World) (h : NdS w v n) :
    Calls Tryz.prog 46 #[ndV n.k n.b v] w fun r w' => ∃ u, r = .returned u ∧ OwnI .i64 3 w' w.heap.size u (kids n) ∧ SlI .i64 w' u (kids n) ∧ Fr noB w w' := by
  obtain ⟨k, b, es⟩ := n
  obtain ⟨hs, ⟨hb, hy⟩, hm, hwf⟩ := h
  unfold kids
  simp only at hs hb hy hm hwf ⊢
  have Hb := show Hid _ from hb
  have hS := hs
  obtain ⟨a0, c0, rfl, hc0⟩ := hs.1.opn
  clear hb hy hwf hs
  have hS1 := hS.1
  have hw6 : ∀ x ∈ es.map (·.2), (Lit.int .i64 x).wf = true := by
    intro x hx
    obtain ⟨y, hy, rfl⟩ := List.mem_map.1 hx
    exact (hS.2 y hy).2
  go_enter Tryz.func46, Tryz.ntmps46
  go_wp2_with (first
    | (with_reducible refine at_wpP ?_; refine wpList_boxN rfl _ rfl _ b (.slice a0 es.length c0) rfl ?_; intro g1 w1 hg1 b1 f1 s1; have q2 := NdB.ents b1 Hb.out; have l1 := b1.lt; have z1 := f1.size)
    | (refine at_make 52 _ _ rfl ?_; go_must (refine wpList_make0R en64 1 rfl _ _ 52 rfl w.heap.size 3 _ 8 Tryz.underlying52 info_int .i64 .i64 _ es.length rfl rfl rfl ?hb2 ?hb3 f1.size ?_; rotate_left 2; intro g2 w2 o2 f2 s2 t2; have b2 := b1.fr0 f2; have q2 := NdB.ents b2 Hb.out)))
  case hb2 => omega
  case hb3 => unfold maxLen; omega
  go_loopw [13, 3] (fun i v wr => ∃ (k : Nat), k ≤ es.length ∧ i = .int .i64 (k : Int) ∧ OwnR en64 1 3 wr w.heap.size v ((es.take k).map (·.2)) ∧ Fr noB w wr) (fun i _ _ => es.length - (intOf i).toNat)
  case atStart => exact ⟨0, Nat.zero_le _, rfl, o2, f1.thenN f2⟩
  case round =>
    obtain ⟨j, hj, rfl, ho, hf⟩ := hrel
    by_cases hlt : j < es.length
    · obtain ⟨x, Hx⟩ : ∃ x, Hid (es[j] = x) := ⟨es[j], (rfl : es[j] = es[j])⟩
      obtain ⟨L, HL⟩ : ∃ L, Hid ((es.take j).map (·.2) = L) := ⟨_, rfl⟩
      have hLl : Hid (L.length = j) := by show _ = _; rw [← HL.out]; simp; omega
      rw [HL.out] at ho
      obtain ⟨a5, c5, rfl⟩ := ho.opn
      have hnx : Hid ((es.take (j + 1)).map (·.2) = L ++ [x.2]) := by
        show _ = _
        rw [← HL.out, List.take_succ_eq_append_getElem hlt, List.map_append, Hx.out]; rfl
      have zf := hf.size
      have hlt' : (j : Int) < (es.length : Int) := by omega
      go_wp2_with (first
        | (with_reducible refine at_wpP ?_; refine at_idx 31 _ _ rfl ?_; go_must (refine wpList_idxR rfl 31 _ _ rfl 40 Tryz.underlying31 2 en_size _ _ _ rfl (hS1.fr0 hf) (by decide) _ _ j rfl rfl hlt ?_; rw [Hx.out]; intro ba oa hba hca))
        | (with_reducible refine at_wpP ?_; refine at_ld 40 _ rfl ?_; have q := hca; refine wpList_ldE rfl _ rfl ba oa rfl x hca ?_)
        | (with_reducible refine at_wpP ?_; refine wpList_allocE rfl rfl ?_; intro gl w5 hgl b5 f5 sl; have l5 := b5.lt; have F5 := hf.thenN f5; have z5 := f5.size)
        | (with_reducible refine at_wpP ?_; refine at_st 40 _ _ rfl ?_; go_must (refine wpList_stE rfl _ _ rfl gl rfl (0, 0) x b5 rfl ?_; intro w6 B6 f6; have F6 := Fr.ownX F5 (by omega) f6; have z6 := f6.size; obtain ⟨c0, c1⟩ := B6.all; have o6 := (ho.fr0 f5).fr f6 (fun q hq e => by have := (ho.newB q hq).2; unfold onB1 at e; omega)))
        | (with_reducible refine at_wpP ?_; refine wpList_mk1 (ec := en64) (sz := 1) rfl 52 _ rfl 3 Tryz.underlying52 _ info_int2 (by decide) (by decide) x.2 _ rfl rfl rfl ?_; intro g8 w8 s8 f8 r8 t8; have o8 := o6.fr0 f8; have F8 := F6.thenN f8; have z8 := f8.size)
        | (at_builtin; go_must (refine wpList_appR (ec := en64) (sz := 1) rfl _ _ 52 rfl w.heap.size 3 _ 8 Tryz.underlying52 info_int rfl (by decide) _ L rfl o8 _ [x.2] rfl s8 (by intro y hy u hu; simp at hu; subst hu; rfl) ?hr1 ?hr2 ?hr3 ?_; rotate_left 3; intro v9 w9 o9 hg9; have F9 := o8.grown F8 (Nat.le_refl _) hg9)))
      case hr1 => have := hLl.out; unfold maxLen; simp; omega
      case hr2 => have := hLl.out; simp; omega
      case hr3 => have := F8.size; omega
      go_roundw
      case rel => exact ⟨j + 1, by omega, by go_num, by rw [hnx.out]; exact o9, F9⟩
      case measure => simp [intOf]; omega
    · obtain rfl : j = es.length := by omega
      go_wp2
      go_ret
      rw [List.take_length] at ho
      exact ⟨_, rfl, ownI_of_R ho, (ownI_of_R ho).sl hw6, hf⟩
theorem int_size1 : (Tryz.prog.info? 3).map (·.size) = some 1 := by kernel_rfl
theorem getX {k : IntKind} {l : List Int} {j : Nat} {u : Value} {x : Int} (hu : (l.map (Value.int k))[j]? = some u) (h : j < l.length) (hx : l[j] = x) : u = .int k x := by
  rw [List.getElem?_map, List.getElem?_eq_getElem h, hx] at hu
  exact (Option.some.inj hu).symm
/-- How many come ahead of the first of which p holds; -1, if there is none. -/
def idxF (p : Int → Bool) (l : List Int) : Int := match l.findIdx? p with | some i => (i : Int) | none => -1
theorem idxF_any (p : Int → Bool) (l : List Int) : decide (0 ≤ idxF p l) = l.any p := by
  unfold idxF
  cases h : l.findIdx? p with
  | none =>
    have := List.findIdx?_eq_none_iff.1 h
    simp
    exact this
  | some i =>
    obtain ⟨hi, h1, _⟩ := List.findIdx?_eq_some_iff_getElem.1 h
    simp
    exact ⟨l[i], by simp, h1⟩
set_option maxRecDepth 100000 in
set_option maxHeartbeats 1000000 in
theorem indexFunc_any (p : Int → Bool) (g : Nat) (bd lb : Array Value) (eg : ∀ args w, (callFunc g args).run Tryz.prog w = .ok (.enter g args) w) (v : Value) (l : List Int) (w : World) (hv : SlI .i64 w v l) (hl : l.length ≤ 1000000)
    (hc : ∀ x ∈ l, Calls Tryz.prog g (bd ++ #[.int .i64 x] ++ lb) w fun r w' => r = .returned (.bool (p x)) ∧ w = w') :
    Calls Tryz.prog 68 #[v, .func (.func g) bd lb] w fun r w' => r = .returned (.int .i64 (idxF p l)) ∧ w = w' := by
  obtain ⟨a0, c0, rfl, hc0⟩ := hv.opn
  have hv1 := hv.1
  go_enter Tryz.func68, Tryz.ntmps68
  go_wp2
  go_loop [5, 8] (fun _ i => ∃ (j : Nat), j ≤ l.length ∧ i = .int .i64 (j : Int) ∧ Hid (∀ k (hk : k < l.length), k < j → p l[k] = false)) (fun _ i => l.length - (intOf i).toNat)
  case atStart => exact ⟨0, Nat.zero_le _, rfl, fun k hk h => absurd h (by omega)⟩
  case round =>
    obtain ⟨j, hj, rfl, hA⟩ := hrel
    by_cases hlt : j < l.length
    · obtain ⟨x, Hx⟩ : ∃ x, Hid (l[j] = x) := ⟨l[j], (rfl : l[j] = l[j])⟩
      have hcx := hc x (by rw [← Hx.out]; simp)
      have hlt' : (j : Int) < (l.length : Int) := by omega
      cases hp : p x with
      | true =>
        rw [hp] at hcx
        have hres : Hid (idxF p l = (j : Int)) := by
          show _ = _
          unfold idxF
          have : l.findIdx? p = some j := List.findIdx?_eq_some_iff_getElem.2 ⟨hlt, by rw [Hx.out]; exact hp, fun k hk => by have := hA.out k (by omega) hk; simp [this]⟩
          rw [this]
        go_wp2_with (first
          | (with_reducible refine at_wpP ?_; refine at_idx 52 _ _ rfl ?_; go_must (refine wpList_idx1 rfl 52 _ _ rfl 3 Tryz.underlying52 int_size1 (.slice a0 l.length c0) _ _ rfl hv1 .i64 (j : Int) j rfl rfl hlt ?_; intro pp u hu hcu; obtain rfl := getX hu hlt Hx.out))
          | (go_at_fn g; go_must (refine hcx.mono ?_; rintro e w' ⟨rfl, rfl⟩)))
        go_ret
        exact ⟨by rw [hres.out]; rfl, rfl⟩
      | false =>
        rw [hp] at hcx
        go_wp2_with (first
          | (with_reducible refine at_wpP ?_; refine at_idx 52 _ _ rfl ?_; go_must (refine wpList_idx1 rfl 52 _ _ rfl 3 Tryz.underlying52 int_size1 (.slice a0 l.length c0) _ _ rfl hv1 .i64 (j : Int) j rfl rfl hlt ?_; intro pp u hu hcu; obtain rfl := getX hu hlt Hx.out))
          | (go_at_fn g; go_must (refine hcx.mono ?_; rintro e w' ⟨rfl, rfl⟩)))
        go_round
        case rel => exact ⟨j + 1, by omega, by go_num, fun k hk h => by
          by_cases e : k = j
          · subst e; rw [Hx.out]; exact hp
          · exact hA.out k hk (by omega)⟩
        case measure => simp [intOf]; omega
    · obtain rfl : j = l.length := by omega
      have hres : Hid (idxF p l = -1) := by
        show _ = _
        unfold idxF
        have : l.findIdx? p = none := List.findIdx?_eq_none_iff.2 (fun x hx => by
          obtain ⟨k, hk, rfl⟩ := List.mem_iff_getElem.1 hx
          exact hA.out k hk hk)
        rw [this]
      go_wp2
      go_ret
      exact ⟨by rw [hres.out]; rfl, rfl⟩
set_option maxRecDepth 100000 in
set_option maxHeartbeats 1000000 in
theorem containsFunc_any (p : Int → Bool) (g : Nat) (bd lb : Array Value) (eg : ∀ args w, (callFunc g args).run Tryz.prog w = .ok (.enter g args) w) (v : Value) (l : List Int) (w : World) (hv : SlI .i64 w v l) (hl : l.length ≤ 1000000)
    (hc : ∀ x ∈ l, Calls Tryz.prog g (bd ++ #[.int .i64 x] ++ lb) w fun r w' => r = .returned (.bool (p x)) ∧ w = w') :
    Calls Tryz.prog 47 #[v, .func (.func g) bd lb] w fun r w' => r = .returned (.bool (l.any p)) ∧ w = w' := by
  have hI := indexFunc_any p g bd lb eg v l w hv hl hc
  have hr := show Hid _ from idxF_any p l
  obtain ⟨i, Hi⟩ : ∃ i, Hid (idxF p l = i) := ⟨_, rfl⟩
  rw [Hi.out] at hI hr
  go_enter Tryz.func47, Tryz.ntmps47
  go_wp2_with (first
    | (go_at_call 68; go_must (refine hI.mono ?_; rintro e w' ⟨rfl, rfl⟩)))
  go_ret
  exact ⟨by rw [← hr.out]; rfl, rfl⟩
set_option maxRecDepth 100000 in
set_option maxHeartbeats 1000000 in
theorem each_any {σ : Type} (f : σ → Int → σ × Int) (I : σ → World → Prop) (g : Nat) (bd lb : Array Value) (eg : ∀ args w, (callFunc g args).run Tryz.prog w = .ok (.enter g args) w) (v : Value) (l : List Int) (hl : l.length ≤ 1000000)
    (hsl : ∀ s W, I s W → SlI .i64 W v l)
    (hc : ∀ s W x, x ∈ l → I s W → Calls Tryz.prog g (bd ++ #[.int .i64 x] ++ lb) W fun r W' => r = .returned (.int .i64 (f s x).2) ∧ I (f s x).1 W')
    (s : σ) (w : World) (hI : I s w) :
    Calls Tryz.prog 50 #[v, .func (.func g) bd lb] w fun r w' => r = .returned (.int .i64 (eachF f s l).2) ∧ I (eachF f s l).1 w' := by
  obtain ⟨a0, c0, rfl, hc0⟩ := (hsl s w hI).opn
  obtain ⟨R, HR⟩ : ∃ R, Hid (eachF f s l = R) := ⟨_, rfl⟩
  rw [HR.out]
  go_enter Tryz.func50, Tryz.ntmps50
  go_wp2
  go_loopw [10] (fun i wr => ∃ (j : Nat) (t : σ), j ≤ l.length ∧ i = .int .i64 (j : Int) ∧ I t wr ∧ Hid (eachF f t (l.drop j) = R)) (fun i _ => l.length - (intOf i).toNat)
  case atStart => exact ⟨0, s, Nat.zero_le _, rfl, hI, HR⟩
  case round =>
    obtain ⟨j, t, hj, rfl, hIt, hA⟩ := hrel
    by_cases hlt : j < l.length
    · obtain ⟨x, Hx⟩ : ∃ x, Hid (l[j] = x) := ⟨l[j], (rfl : l[j] = l[j])⟩
      have hcx := hc t wr x (by rw [← Hx.out]; simp) hIt
      have hv1 := (hsl t wr hIt).1
      have hlt' : (j : Int) < (l.length : Int) := by omega
      have hd : l.drop j = x :: l.drop (j + 1) := by rw [← Hx.out]; exact List.drop_eq_getElem_cons hlt
      rw [hd] at hA
      obtain ⟨y, Hy⟩ : ∃ y, Hid (f t x = y) := ⟨_, rfl⟩
      rw [Hy.out] at hcx
      by_cases h0 : y.2 = 0
      · replace hA : Hid (eachF f y.1 (l.drop (j + 1)) = R) := by show _ = _; rw [← hA.out, eachF_cons0 (by rw [Hy.out]; exact h0), Hy.out]
        obtain ⟨y1, y2⟩ := y
        simp only at h0 hA hcx
        subst h0
        go_wp2_with (first
          | (with_reducible refine at_wpP ?_; refine at_idx 52 _ _ rfl ?_; go_must (refine wpList_idx1 rfl 52 _ _ rfl 3 Tryz.underlying52 int_size1 (.slice a0 l.length c0) _ _ rfl hv1 .i64 (j : Int) j rfl rfl hlt ?_; intro pp u hu hcu; obtain rfl := getX hu hlt Hx.out))
          | (go_at_fn g; go_must (refine hcx.mono ?_; rintro e w2 ⟨rfl, I2⟩)))
        go_roundw
        case rel => exact ⟨j + 1, y1, by omega, by go_num, I2, hA⟩
        case measure => simp [intOf]; omega
      · replace hA : Hid (y = R) := by show _ = _; rw [← hA.out, eachF_cons1 (by rw [Hy.out]; exact h0), Hy.out]
        have h0' : ¬ y.2 = 0 := h0
        go_wp2_with (first
          | (with_reducible refine at_wpP ?_; refine at_idx 52 _ _ rfl ?_; go_must (refine wpList_idx1 rfl 52 _ _ rfl 3 Tryz.underlying52 int_size1 (.slice a0 l.length c0) _ _ rfl hv1 .i64 (j : Int) j rfl rfl hlt ?_; intro pp u hu hcu; obtain rfl := getX hu hlt Hx.out))
          | (go_at_fn g; go_must (refine hcx.mono ?_; rintro e w2 ⟨rfl, I2⟩)))
        go_ret
        rw [← hA.out]
        exact ⟨rfl, I2⟩
    · obtain rfl : j = l.length := by omega
      replace hA : Hid ((t, (0 : Int)) = R) := by have := hA.out; rw [List.drop_length] at this; exact this
      go_wp2
      go_ret
      rw [← hA.out]
      exact ⟨rfl, hIt⟩
end Go.Proofs.YtmkinaijkgkgiaaGreat
/- A store in memory: Size, New, made, Pool, lacks, read, Get, Hold, Mark. -/
namespace Go.Proofs.YtmkinaijkgkgiaaGreat
open Go.RowKit Go.Proofs.U Go.Shelf
set_option linter.unusedSimpArgs false
set_option linter.unusedVariables false
theorem wrap_sm {n : Int} (h : -9223372036854775808 ≤ n ∧ n ≤ 9223372036854775807) : IntKind.i64.wrap n = n := by rw [IntKind.wrap_i64]; omega
theorem _root_.Go.Proofs.U.BxV.two {w : World} {g : Nat} {t : TypeId} {x0 x1 : Value} (h : BxV w g t [x0, x1]) : w.cell? ⟨g, 0, none⟩ = some x0 ∧ w.cell? ⟨g, 1, none⟩ = some x1 := ⟨(h.cell 0 _ rfl).1, (h.cell 1 _ rfl).1⟩
/-- A store lies at gs: its pool at gp, its disk in the blocks F. -/
structure Sto (w : World) (F : Nat → Prop) (gs gp : Nat) (X : DSt) (L : List Pg) (m : Nat) : Prop where
  dk : ∃ gd, BxV w gs 82 [ptr gd, ptr gp] ∧ Disk w F gd X
  pl : PoolB w gp L
  ok : plOk L
  up : Up X L.length m
  fs : ¬ F gs
  fp : ¬ F gp
  ne : gs ≠ gp
  ft : ∀ k, F k → k < w.heap.size
theorem Sto.fr {S : Nat → Prop} {w w' : World} {F : Nat → Prop} {gs gp : Nat} {X : DSt} {L : List Pg} {m : Nat} (h : Sto w F gs gp X L m) (f : Fr S w w') (hs : ∀ k, k < w.heap.size → (F k ∨ k = gp ∨ k = gs) → ¬ S k) : Sto w' F gs gp X L m := by
  obtain ⟨gd, hb, hd⟩ := h.dk
  exact { h with dk := ⟨gd, hb.fr f (hs gs hb.lt (Or.inr (Or.inr rfl))), hd.fr f (fun k hk hF => hs k hk (Or.inl hF))⟩, pl := h.pl.fr f (hs gp h.pl.lt (Or.inr (Or.inl rfl))), ft := fun k hk => Nat.lt_of_lt_of_le (h.ft k hk) f.size }
theorem Sto.fr0 {w w' : World} {F : Nat → Prop} {gs gp : Nat} {X : DSt} {L : List Pg} {m : Nat} (h : Sto w F gs gp X L m) (f : Fr noB w w') : Sto w' F gs gp X L m := h.fr f (fun _ _ _ q => q)
theorem Sto.pool {w w' : World} {F : Nat → Prop} {gs gp : Nat} {X : DSt} {L L' : List Pg} {m : Nat} (h : Sto w F gs gp X L m) (f : Fr (onB1 gp) w w') (hp : PoolB w' gp L') (ho : plOk L') (hl : L'.length = L.length) : Sto w' F gs gp X L' m := by
  obtain ⟨gd, hb, hd⟩ := h.dk
  exact { h with
    dk := ⟨gd, hb.fr f (fun q => by unfold onB1 at q; exact h.ne q), hd.fr f (fun k hk hF q => by unfold onB1 at q; subst q; exact h.fp hF)⟩
    pl := hp
    ok := ho
    up := by rw [hl]; exact h.up
    ft := fun k hk => Nat.lt_of_lt_of_le (h.ft k hk) f.size }
theorem Sto.mono {w : World} {F : Nat → Prop} {gs gp : Nat} {X : DSt} {L : List Pg} {m m' : Nat} (h : Sto w F gs gp X L m) (hm : m ≤ m') : Sto w F gs gp X L m' := { h with up := h.up.mono hm }
theorem Sto.lts {w : World} {F : Nat → Prop} {gs gp : Nat} {X : DSt} {L : List Pg} {m : Nat} (h : Sto w F gs gp X L m) : gs < w.heap.size := by
  obtain ⟨gd, hb, hd⟩ := h.dk
  exact hb.lt
theorem Sto.ltp {w : World} {F : Nat → Prop} {gs gp : Nat} {X : DSt} {L : List Pg} {m : Nat} (h : Sto w F gs gp X L m) : gp < w.heap.size := h.pl.lt
theorem Sto.tight {w : World} {F : Nat → Prop} {gs gp : Nat} {X : DSt} {L : List Pg} {m : Nat} (h : Sto w F gs gp X L m) : Sto w (fun k => F k ∧ k < w.heap.size) gs gp X L m := by
  obtain ⟨gd, hb, hd⟩ := h.dk
  exact { h with dk := ⟨gd, hb, hd.tight⟩, fs := fun q => h.fs q.1, fp := fun q => h.fp q.1, ft := fun k hk => hk.2 }
theorem Sto.cells {w : World} {F : Nat → Prop} {gs gp : Nat} {X : DSt} {L : List Pg} {m : Nat} (h : Sto w F gs gp X L m) : ∃ gd, w.cell? ⟨gs, 0, none⟩ = some (ptr gd) ∧ w.cell? ⟨gs, 1, none⟩ = some (ptr gp) ∧ Disk w F gd X := by
  obtain ⟨gd, hb, hd⟩ := h.dk
  exact ⟨gd, hb.two.1, hb.two.2, hd⟩
set_option maxRecDepth 100000 in
set_option maxHeartbeats 1000000 in
theorem nsize_any (n : Int) (w : World) :
    Calls Tryz.prog 28 #[.int .i64 n] w fun r w' => r = .returned (.int .i64 (sizeN n)) ∧ w = w' := by
  have hs : IntKind.i64.wrap (min (max n 4) 244 - 4) = min (max n 4) 244 - 4 := wrap_sm (by omega)
  unfold sizeN
  go_enter Tryz.func28, Tryz.ntmps28
  go_wp2
  go_ret
  exact ⟨rfl, rfl⟩
set_option maxRecDepth 100000 in
set_option maxHeartbeats 1000000 in
theorem npool_any {F : Nat → Prop} {gs gp : Nat} {X : DSt} {L : List Pg} {m : Nat} (w : World) (h : Sto w F gs gp X L m) :
    Calls Tryz.prog 19 #[ptr gs] w fun r w' => r = .returned (ptr gp) ∧ w = w' := by
  obtain ⟨gd, k0, k1, hd⟩ := h.cells
  go_enter Tryz.func19, Tryz.ntmps19
  go_wp2
  go_ret
  exact ⟨rfl, rfl⟩
set_option maxRecDepth 100000 in
set_option maxHeartbeats 1000000 in
theorem lacks_any {F : Nat → Prop} {gs gp : Nat} {X : DSt} {L : List Pg} {m : Nat} (p : Int) (w : World) (h : Sto w F gs gp X L m) :
    Calls Tryz.prog 48 #[ptr gs, .int .i64 p] w fun r w' => r = .returned (.bool (!plHeld L p)) ∧ w = w' := by
  obtain ⟨gd, k0, k1, hd⟩ := h.cells
  rw [← lack_eq h.ok p]
  have hC := pcount_any h.ok gp p w h.pl
  have hF := pfresh_any h.ok gp p w h.pl
  obtain ⟨c, Hc⟩ : ∃ c, Hid (plCount L p = c) := ⟨_, rfl⟩
  rw [Hc.out] at hC ⊢
  obtain ⟨b, Hb⟩ : ∃ b, Hid (plFresh L p = b) := ⟨_, rfl⟩
  rw [Hb.out] at hF ⊢
  cases hc0 : (c == 0) with
  | false =>
    go_enter Tryz.func48, Tryz.ntmps48
    go_wp2_with (first
      | (go_at_call 69; go_must (refine hC.mono ?_; rintro e w' ⟨rfl, rfl⟩)))
    go_ret
    exact ⟨rfl, rfl⟩
  | true =>
    obtain rfl : c = 0 := by simpa using hc0
    go_enter Tryz.func48, Tryz.ntmps48
    go_wp2_with (first
      | (go_at_call 69; go_must (refine hC.mono ?_; rintro e w' ⟨rfl, rfl⟩))
      | (go_at_call 70; go_must (refine hF.mono ?_; rintro e w' ⟨rfl, rfl⟩)))
    go_ret
    exact ⟨by cases b <;> rfl, rfl⟩
set_option maxRecDepth 100000 in
set_option maxHeartbeats 1000000 in
theorem nread_own {F : Nat → Prop} {gs gp : Nat} {X : DSt} {L : List Pg} {m : Nat} (p : Int) (h0 : 0 ≤ p) (h1 : p < (L.length : Int)) (w : World) (h : Sto w F gs gp X L m) (hm : m ≤ 100000) :
    Calls Tryz.prog 60 #[ptr gs, .int .i64 p] w fun r w' => NOpenO w w' (rdN X p) r := by
  obtain ⟨gd, k0, k1, hd⟩ := h.cells
  have hlen := h.ok.1
  have hR := fun W (f : Fr noB w W) => read_any gd (p + 4) (by omega) W (hd.fr0 f) (Nat.le_trans h.up.pm hm)
  rw [h.up.read h0 h1] at hR
  have hbt := h.up.by8 p h0 h1
  have hO := fun W => nopen_own (ct X p) hbt.1 hbt.2 W
  unfold rdN
  obtain ⟨R, HR⟩ : ∃ R, Hid (opN (ct X p) = R) := ⟨_, rfl⟩
  rw [HR.out] at hO ⊢
  obtain ⟨P, HP⟩ : ∃ P, Hid (ct X p = P) := ⟨_, rfl⟩
  have hPl := show Hid _ from hbt.1
  rw [HP.out] at hO hR hPl
  clear hbt
  have hp4 : IntKind.i64.wrap (p + 4) = p + 4 := wrap_sm (by omega)
  simp only at hR
  obtain ⟨Z, HZ⟩ : ∃ Z, Hid (zerB 256 = Z) := ⟨_, rfl⟩
  have hZl : Hid (Z.length = 256) := by show _ = _; rw [← HZ.out]; exact zerB_len 256
  go_enter Tryz.func60, Tryz.ntmps60
  go_wp2_with (first
    | (with_reducible refine at_wpP ?_; refine wpList_allocN rfl rfl ?_; intro g1 w1 hg1 b1 f1 s1; have l1 := b1.lt; have z1 := f1.size; have k0 := f1.cell k0 (fun q => q))
    | (go_at_call 82; go_must (refine (hR _ f1).mono ?_; rintro e w2 ⟨rfl, f2⟩; have z2 := f2.size; have B2 := b1.fr0 f2))
    | (with_reducible refine at_wpP ?_; refine wpList_allocA arr_page rfl rfl ?_; rw [HZ.out]; intro g3 w3 hg3 b3 f3 s3; have l3 := b3.lt; have z3 := f3.size)
    | (with_reducible refine at_wpP ?_; refine at_st 96 _ _ rfl ?_; go_must (refine wpList_storeA arr_page rfl _ _ rfl g3 rfl P rfl _ b3 hPl.out hZl.out ?_; intro w4 b4 f4; have z4 := f4.size; have F4 : Fr noB w2 w4 := Fr.ownX f3 s3 f4))
    | (with_reducible refine at_wpP ?_; refine at_ld 96 _ rfl ?_; have q := b4; refine wpList_loadA arr_page rfl _ rfl g3 rfl P b4 hPl.out ?_)
    | (go_at_call 83; go_must (refine (hO _).mono ?_; rintro e w5 ⟨v, rfl, n5, o5, f5, q5⟩; have z5 := f5.size; have hv := NdS.sl n5; have hbl := NdS.bl n5; have B5 := (B2.fr0 F4).fr0 f5))
    | (with_reducible refine at_wpP ?_; refine at_st 72 _ _ rfl ?_; have q := n5; go_must (refine wpList_stN rfl _ _ rfl g1 rfl R.1.k R.1.b v rfl hbl.out hv 0 (zerB 16) nilS B5 (zerB_len 16) ?_; intro w6 b6 f6)))
  have F6 : Fr noB w w6 := ((((f1.thenN f2).thenN F4).thenN f5)).thenT f6 (fun i hi q => by unfold onB1 at q; omega)
  exact bodyPost_ret (results_nd2 Tryz.results60 _ w6 g1 R.1.k R.1.b v rfl b6 hbl.out) rfl ⟨v, rfl, n5.frS f6 (fun k hk q => by have := o5 k hk; unfold onB1 at q; omega), (fun k hk => by have := o5 k hk; omega), F6, (q5.fr f6 (fun k hk q => by have := o5 k hk; unfold onB1 at q; omega)).rebase (by omega)⟩
theorem nread_any {F : Nat → Prop} {gs gp : Nat} {X : DSt} {L : List Pg} {m : Nat} (p : Int) (h0 : 0 ≤ p) (h1 : p < (L.length : Int)) (w : World) (h : Sto w F gs gp X L m) (hm : m ≤ 100000) :
    Calls Tryz.prog 60 #[ptr gs, .int .i64 p] w fun r w' => NOpenIs w w' (rdN X p) r := (nread_own p h0 h1 w h hm).mono fun _ _ h => h.is
end Go.Proofs.YtmkinaijkgkgiaaGreat
/- A store: Get, Hold, Mark, New, made. -/
namespace Go.Proofs.YtmkinaijkgkgiaaGreat
open Go.RowKit Go.Proofs.U Go.Shelf
set_option linter.unusedSimpArgs false
set_option linter.unusedVariables false
theorem NOpenIs.fr0 {w w1 w' : World} {x : Nd × Int} {r : Ending} (f : Fr noB w w1) (h : NOpenIs w1 w' x r) : NOpenIs w w' x r := by
  obtain ⟨v, e, n, o, f'⟩ := h
  exact ⟨v, e, n, fun k hk => by have := o k hk; have := f.size; omega, f.thenN f'⟩
set_option maxRecDepth 100000 in
set_option maxHeartbeats 1000000 in
theorem nget_own {F : Nat → Prop} {gs gp : Nat} {X : DSt} {L : List Pg} {m : Nat} (p : Int) (w : World) (h : Sto w F gs gp X L m) (hm : m ≤ 100000) :
    Calls Tryz.prog 40 #[ptr gs, .int .i64 p] w fun r w' => NOpenO w w' (getF X L p) r := by
  unfold getF
  have hl := fun W (f : Fr noB w W) => lacks_any p W (h.fr0 f)
  cases hh : plHeld L p with
  | false =>
    rw [hh] at hl
    simp only [Bool.false_eq_true, if_false]
    go_enter Tryz.func40, Tryz.ntmps40
    go_wp2_with (first
      | (with_reducible refine at_wpP ?_; refine wpList_allocN rfl rfl ?_; intro g1 w1 hg1 b1 f1 s1; have l1 := b1.lt; have z1 := f1.size)
      | (go_at_call 48; go_must (refine (hl _ f1).mono ?_; rintro e w2 ⟨rfl, rfl⟩))
      | (with_reducible refine at_wpP ?_; refine wpList_bldN rfl _ rfl 0 (zerB 16) nilS [] rfl built_nd0 ?_)
      | (with_reducible refine at_wpP ?_; refine at_st 72 _ _ rfl ?_; go_must (refine wpList_stN rfl _ _ rfl g1 rfl 0 (zerB 16) nilS rfl (zerB_len 16) ⟨_, _, _, rfl⟩ 0 (zerB 16) nilS b1 (zerB_len 16) ?_; intro w3 b3 f3)))
    have F3 : Fr noB w w3 := f1.thenT f3 (fun i hi q => by unfold onB1 at q; omega)
    exact bodyPost_ret (results_nd2 Tryz.results40 _ w3 g1 0 (zerB 16) nilS rfl b3 (zerB_len 16)) rfl ⟨nilS, rfl, NdS.none w3, (fun k hk => by cases hk), F3, OwnR.none _ _⟩
  | true =>
    rw [hh] at hl
    have hr := plHeld_rng hh
    have hR := fun W (f : Fr noB w W) => nread_own p hr.1 hr.2 W (h.fr0 f) hm
    simp only [if_true]
    obtain ⟨R, HR⟩ : ∃ R, Hid (rdN X p = R) := ⟨_, rfl⟩
    rw [HR.out] at hR ⊢
    go_enter Tryz.func40, Tryz.ntmps40
    go_wp2_with (first
      | (with_reducible refine at_wpP ?_; refine wpList_allocN rfl rfl ?_; intro g1 w1 hg1 b1 f1 s1; have l1 := b1.lt; have z1 := f1.size)
      | (go_at_call 48; go_must (refine (hl _ f1).mono ?_; rintro e w2 ⟨rfl, rfl⟩))
      | (go_at_call 60; go_must (refine (hR _ f1).mono ?_; rintro e w5 ⟨v, rfl, n5, o5, f5, q5⟩; have z5 := f5.size; have hv := NdS.sl n5; have hbl := NdS.bl n5; have B5 := b1.fr0 f5))
      | (with_reducible refine at_wpP ?_; refine at_st 72 _ _ rfl ?_; have q := n5; go_must (refine wpList_stN rfl _ _ rfl g1 rfl R.1.k R.1.b v rfl hbl.out hv 0 (zerB 16) nilS B5 (zerB_len 16) ?_; intro w6 b6 f6)))
    have F6 : Fr noB w w6 := (f1.thenN f5).thenT f6 (fun i hi q => by unfold onB1 at q; omega)
    exact bodyPost_ret (results_nd2 Tryz.results40 _ w6 g1 R.1.k R.1.b v rfl b6 hbl.out) rfl ⟨v, rfl, n5.frS f6 (fun k hk q => by have := o5 k hk; unfold onB1 at q; omega), (fun k hk => by have := o5 k hk; omega), F6, (q5.fr f6 (fun k hk q => by have := o5 k hk; unfold onB1 at q; omega)).rebase (by omega)⟩
theorem nget_any {F : Nat → Prop} {gs gp : Nat} {X : DSt} {L : List Pg} {m : Nat} (p : Int) (w : World) (h : Sto w F gs gp X L m) (hm : m ≤ 100000) :
    Calls Tryz.prog 40 #[ptr gs, .int .i64 p] w fun r w' => NOpenIs w w' (getF X L p) r := (nget_own p w h hm).mono fun _ _ h => h.is
set_option maxRecDepth 100000 in
set_option maxHeartbeats 1000000 in
theorem nhold_any {F : Nat → Prop} {gs gp : Nat} {X : DSt} {L : List Pg} {m : Nat} (p : Int) (w : World) (h : Sto w F gs gp X L m) :
    Calls Tryz.prog 30 #[ptr gs, .int .i64 p] w fun r w' => r = .returned (.int .i64 (plHold L p).2) ∧ Sto w' F gs gp X (plHold L p).1 m ∧ Fr (onB1 gp) w w' := by
  obtain ⟨gd, k0, k1, hd⟩ := h.cells
  have hH := phold_any h.ok gp p w h.pl
  have ho := hold_ok h.ok p
  have hn := show Hid _ from hold_len L p
  obtain ⟨R, HR⟩ : ∃ R, Hid (plHold L p = R) := ⟨_, rfl⟩
  rw [HR.out] at hH ho hn ⊢
  go_enter Tryz.func30, Tryz.ntmps30
  go_wp2_with (first
    | (go_at_call 51; go_must (refine hH.mono ?_; rintro e w1 ⟨rfl, b1, f1⟩)))
  go_ret
  exact ⟨rfl, h.pool f1 b1 ho hn.out, f1⟩
set_option maxRecDepth 100000 in
set_option maxHeartbeats 1000000 in
theorem nmark_any {F : Nat → Prop} {gs gp : Nat} {X : DSt} {L : List Pg} {m : Nat} (w : World) (h : Sto w F gs gp X L m) :
    Calls Tryz.prog 18 #[ptr gs] w fun r w' => ∃ gm, r = .returned (ptr gm) ∧ w.heap.size ≤ gm ∧ PoolB w' gm (plMark L) ∧ Sto w' F gs gp X (plMark L) m ∧ Fr (onB1 gp) w w' := by
  obtain ⟨gd, k0, k1, hd⟩ := h.cells
  have hH := pmark_any h.ok gp w h.pl
  have ho := mark_ok h.ok
  have hn := show Hid _ from mark_len L
  obtain ⟨R, HR⟩ : ∃ R, Hid (plMark L = R) := ⟨_, rfl⟩
  rw [HR.out] at hH ho hn ⊢
  go_enter Tryz.func18, Tryz.ntmps18
  go_wp2_with (first
    | (go_at_call 42; go_must (refine hH.mono ?_; rintro e w1 ⟨gm, rfl, s1, m1, b1, f1⟩)))
  go_ret
  exact ⟨gm, rfl, s1, m1, h.pool f1 b1 ho hn.out, f1⟩
set_option maxRecDepth 100000 in
set_option maxHeartbeats 1000000 in
theorem nnew_any (gd gp : Nat) (w : World) :
    Calls Tryz.prog 25 #[ptr gd, ptr gp] w fun r w' => ∃ gs, r = .returned (ptr gs) ∧ w.heap.size ≤ gs ∧ BxV w' gs 82 [ptr gd, ptr gp] ∧ Fr noB w w' := by
  go_enter Tryz.func25, Tryz.ntmps25
  go_wp2_with (first
    | (with_reducible refine at_wpP ?_; refine wpList_boxG rfl 82 _ rfl (.agg #[ptr gd, ptr gp]) [ptr gd, ptr gp] rfl rfl ?_; intro g1 w1 hg1 b1 f1 s1))
  go_ret
  exact ⟨g1, rfl, s1, b1, f1⟩
end Go.Proofs.YtmkinaijkgkgiaaGreat
/- Entries moved in rows of the call's own making: slices.Insert; no condition. -/
namespace Go.Proofs.U
open Go.RowKit
set_option linter.unusedSimpArgs false
set_option linter.unusedVariables false
/-- What was moved behind a gap, and what is put into the gap. -/
theorem put_gap {c A M B : List Value} (hc : c.take A.length = A) (hl : A.length + M.length + B.length ≤ c.length) :
    (putAt (putAt c (A.length + M.length) B) A.length M).take (A.length + M.length + B.length) = A ++ (M ++ B) := by
  have h1 : (c.take (A.length + M.length)).length = A.length + M.length := by rw [List.length_take]; omega
  have hin : putAt c (A.length + M.length) B = c.take (A.length + M.length) ++ (B ++ c.drop (A.length + M.length + B.length)) := by unfold putAt; rw [List.append_assoc]
  have ht : (putAt c (A.length + M.length) B).take A.length = A := by
    rw [hin, List.take_append_of_le_length (by omega), List.take_take, Nat.min_eq_left (by omega), hc]
  have hd : (putAt c (A.length + M.length) B).drop (A.length + M.length) = B ++ c.drop (A.length + M.length + B.length) := by
    rw [hin, List.drop_left' h1]
  have e0 : ∀ X : List Value, putAt X A.length M = X.take A.length ++ M ++ X.drop (A.length + M.length) := fun _ => rfl
  rw [e0, ht, hd]
  have e : A ++ M ++ (B ++ c.drop (A.length + M.length + B.length)) = (A ++ (M ++ B)) ++ c.drop (A.length + M.length + B.length) := by simp
  rw [e, List.take_left' (by simp; omega)]
theorem put_gap' {c A M B : List Value} (hc : c.take A.length = A) (hl : A.length + M.length + B.length ≤ c.length) :
    (putAt (putAt c A.length M) (A.length + M.length) B).take (A.length + M.length + B.length) = A ++ (M ++ B) := by
  have hin : putAt c A.length M = (A ++ M) ++ c.drop (A.length + M.length) := by unfold putAt; rw [hc]
  have hAM : (A ++ M).length = A.length + M.length := by simp
  unfold putAt
  rw [show c.take A.length ++ M ++ c.drop (A.length + M.length) = (A ++ M) ++ c.drop (A.length + M.length) by rw [hc], List.take_left' hAM]
  rw [show A ++ M ++ B = A ++ (M ++ B) by simp]
  rw [List.take_left' (by simp; omega)]
variable {P : Program}
/-- copy into a block of whatever cells. -/
theorem run_cpyN {w : World} {g : Nat} {t : TypeId} {cur : List Value} (hB : BxV w g t cur) (dT sT ty elem : TypeId) (sz : Nat) (hu : P.underlying dT = some (.slice elem)) (hs : (P.info? elem).map (·.size) = some sz)
    (off n dcap m sCap : Nat) (a : Addr) (cs : List Value) (hl : cs.length = min m n * sz) (hsrc : ∀ j u, cs[j]? = some u → w.cell? (a.add j) = some u) (hfit : off + cs.length ≤ cur.length) (h1 : ∀ u ∈ cs, u.oneCell' = true) :
    (Builtin.copy_ #[dT, sT] ty #[.slice (some ⟨g, off, none⟩) n dcap, .slice (some a) m sCap]).run P w = .ok (goInt (min m n : Nat)) (w.setCells g off cs) := by
  obtain ⟨i, hq, hi⟩ := Option.map_eq_some_iff.1 hs
  have hf := run_firstCells_some (P := P) w sz (min m n) a m sCap cs hl hsrc
  have hst := run_storeCells_cells (P := P) g off cs 0 w (fun j hj => (hB.thereR off cs.length hfit j hj).1) (fun j hj => (hB.thereR off cs.length hfit j hj).2) h1
  simp only [Nat.add_zero] at hst
  have hmin : Nat.min m n = min m n := rfl
  simp [Builtin.copy_, run_underlying hu, Builtin.lenOf, sizeOf, typeInfo, hq, hi, hmin, hf, hst]
theorem wpList_extern {w : World} {ops : Array Oper} {rest : List Oper} {o : Oper} {a : Act} {Q : Exit → Act → World → Prop} (hgd : Region.wanted o (yielded ops a.tmps) = true) (f : FuncId) (x y : Operand) (ts : Array TypeId)
    (ho : o.op = .call { callee := .value (.func f), args := #[x, y], argTypes := ts }) (vx vy : Value) (hx : a.eval x = vx) (hy : a.eval y = vy) {v : Value} (hr : (callFunc f #[vx, vy]).run P w = .ok (.value v) w) (h : wpList P ops Q rest (a.put o.dst v) w) : wpList P ops Q (o :: rest) a w := by
  refine wpList_wanted hgd fun K hK => ?_
  have hf : a.eval (.func f) = Value.func (Fn.func f) #[] #[] := rfl
  have hrun : (execOp a.eval o).run P w = .ok (.value v) w := by
    have hr' := hr
    rw [← hx, ← hy] at hr'
    simp [execOp, ho, resolve, invoke, Deferred.ofValue, hf, Result.andThen, go_sem]
    simpa [Act.eval] using hr'
  unfold Oper.wp
  rw [hrun]
  exact hK _ _ h
/-- x[i:], exactly. -/
theorem wpList_cutlo {w : World} {ops : Array Oper} {rest : List Oper} {o : Oper} {a : Act} {Q : Exit → Act → World → Prop} (hgd : Region.wanted o (yielded ops a.tmps) = true) (t : TypeId) (x lo : Operand) (ho : o.op = .slice t x (some lo) none none) (e : TypeId) (ht : P.underlying t = some (.slice e)) (sz : Nat) (hsz : (P.info? e).map (·.size) = some sz)
    (ao : Option Addr) (n cap : Nat) (hx : a.eval x = .slice ao n cap) (kl : IntKind) (zl : Int) (i : Nat) (hlo : a.eval lo = .int kl zl) (hzl : zl = (i : Int)) (hi : i ≤ n)
    (h : wpList P ops Q rest (a.put o.dst (.slice (if cap = i then ao else ao.map (·.add (i * sz))) (n - i) (cap - i))) w) : wpList P ops Q (o :: rest) a w := by
  refine wpList_wanted hgd fun K hK => ?_
  subst hzl
  have hrun := run_cutl (P := P) (w := w) t e ht sz hsz ao n cap kl i hi
  unfold Oper.wp
  simp [execOp, ho, hx, hlo, hrun, Result.andThen]
  exact hK _ _ h
/-- .. wherever it lies. -/
theorem wpList_cutlox {w : World} {ops : Array Oper} {rest : List Oper} {o : Oper} {a : Act} {Q : Exit → Act → World → Prop} (hgd : Region.wanted o (yielded ops a.tmps) = true) (t : TypeId) (x lo : Operand) (ho : o.op = .slice t x (some lo) none none) (e : TypeId) (ht : P.underlying t = some (.slice e)) (sz : Nat) (hsz : (P.info? e).map (·.size) = some sz)
    (ao : Option Addr) (n cap : Nat) (hx : a.eval x = .slice ao n cap) (kl : IntKind) (zl : Int) (i : Nat) (hlo : a.eval lo = .int kl zl) (hzl : zl = (i : Int)) (hi : i ≤ n)
    (h : ∀ ao', wpList P ops Q rest (a.put o.dst (.slice ao' (n - i) (cap - i))) w) : wpList P ops Q (o :: rest) a w :=
  wpList_cutlo hgd t x lo ho e ht sz hsz ao n cap hx kl zl i hlo hzl hi (h _)
/-- .. of a row that begins in its block, where something is behind. -/
theorem wpList_cutlo1 {w : World} {ops : Array Oper} {rest : List Oper} {o : Oper} {a : Act} {Q : Exit → Act → World → Prop} (hgd : Region.wanted o (yielded ops a.tmps) = true) (t : TypeId) (x lo : Operand) (ho : o.op = .slice t x (some lo) none none) (e : TypeId) (ht : P.underlying t = some (.slice e)) (sz : Nat) (hsz : (P.info? e).map (·.size) = some sz)
    (g n cap : Nat) (hx : a.eval x = .slice (some ⟨g, 0, none⟩) n cap) (kl : IntKind) (zl : Int) (i : Nat) (hlo : a.eval lo = .int kl zl) (hzl : zl = (i : Int)) (hi : i ≤ n) (hc : i < cap)
    (h : wpList P ops Q rest (a.put o.dst (.slice (some ⟨g, i * sz, none⟩) (n - i) (cap - i))) w) : wpList P ops Q (o :: rest) a w := by
  refine wpList_cutlo hgd t x lo ho e ht sz hsz _ n cap hx kl zl i hlo hzl hi ?_
  rw [if_neg (by omega)]
  simpa [Addr.plain] using h
/-- append(s, x...), where the new row lies is told. -/
theorem wpList_appM {α : Type} {ec : α → List Value} {sz : Nat} {e : TypeId} {w : World} {base : Nat} {l : List α} {ops : Array Oper} {rest : List Oper} {o : Oper} {a : Act} {Q : Exit → Act → World → Prop} (hgd : o.guard = none) (s x : Operand) (t : TypeId) (ho : o.op = .call { callee := .builtin .append, args := #[s, x], argTypes := #[t, t] })
    (z : Value) (bytes : Nat) (ht : P.underlying t = some (.slice e)) (hinfo : (P.info? e).map (fun i => (i.zero, i.size, i.bytes)) = some (some z, sz, bytes)) (hzs : z.cells.size = sz) (hsz : 0 < sz)
    (v : Value) (hs : a.eval s = v) (hO : OwnR ec sz e w base v l) (vx : Value) (m : List α) (hx : a.eval x = vx) (hS : SlR ec sz w vx m) (hm : 1 ≤ m.length) (h1 : ∀ y ∈ m, ∀ u ∈ ec y, u.oneCell' = true)
    (h63 : l.length + m.length ≤ maxLen) (hbytes : (l.length + m.length) * bytes ≤ 140737488355328) (hbase : base ≤ w.heap.size)
    (h : ∀ v' w', OwnR ec sz e w' base v' (l ++ m) → Fr (fun k => v.ownBlock = some k) w w' → (∀ k, v'.ownBlock = some k → v.ownBlock = some k ∨ w.heap.size ≤ k) → wpList P ops Q rest (a.put o.dst v') w') : wpList P ops Q (o :: rest) a w := by
  refine wpList_wanted (by simp [Region.wanted, hgd]) fun K hK => ?_
  obtain ⟨i0, hi, hz0, hz1, hz2⟩ := info_parts hinfo
  obtain ⟨hall, ao, cap, rfl, hcap, hlen, hnone, hsome⟩ := hS
  cases ao with
  | none => have := hnone rfl; omega
  | some ad =>
    have hcell := hsome ad rfl
    obtain ⟨v', w', hr, h2, h3, _, h5⟩ := run_append_own_at (P := P) w base t o.type e i0 z sz bytes ht hi hz0 hz1 hz2 hzs hsz v l.length (l.flatMap ec) hO.2 ad m.length cap (m.flatMap ec) (by omega) hcell (by
      intro u hu
      obtain ⟨y, hy, hu⟩ := List.mem_flatMap.1 hu
      exact h1 y hy u hu) h63 hbytes hbase
    unfold Oper.wp execOp
    simp only [ho, resolve, invoke, builtin, Sem.run_bind, Sem.run_pure, Result.andThen_ok, List.map_toArray, List.map_cons, List.map_nil, hs, hx, hr]
    refine hK _ _ (h v' w' ⟨?_, ?_⟩ ((Fr.refl _ _).grown h3 (fun k hk _ => hk)) fun k hk => ?_)
    · intro u hu
      rcases List.mem_append.1 hu with hu | hu
      · exact hO.1 u hu
      · exact hall u hu
    · rw [List.length_append, List.flatMap_append]; exact h2
    · rcases h5 with q | q
      · exact Or.inl (by rw [← q]; exact hk)
      · rw [q] at hk; cases hk; exact Or.inr (Nat.le_refl _)
/-- copy into a block of whatever cells, for the walk. -/
theorem wpList_cpyN {w : World} {ops : Array Oper} {rest : List Oper} {o : Oper} {a : Act} {Q : Exit → Act → World → Prop} (hgd : o.guard = none) (d s : Operand) (t : TypeId) (ho : o.op = .call { callee := .builtin .copy, args := #[d, s], argTypes := #[t, t] })
    (elem : TypeId) (sz : Nat) (hu : P.underlying t = some (.slice elem)) (hs : (P.info? elem).map (·.size) = some sz) (g : Nat) (tb : TypeId) (cur : List Value) (hB : BxV w g tb cur)
    (off n dcap m sCap : Nat) (ad : Addr) (cs : List Value) (hd : a.eval d = .slice (some ⟨g, off, none⟩) n dcap) (hsv : a.eval s = .slice (some ad) m sCap) (hl : cs.length = min m n * sz) (hsrc : ∀ j u, cs[j]? = some u → w.cell? (ad.add j) = some u) (hfit : off + cs.length ≤ cur.length) (h1 : ∀ u ∈ cs, u.oneCell' = true)
    (h : ∀ w', BxV w' g tb (putAt cur off cs) → Fr (onB1 g) w w' → wpList P ops Q rest (a.put o.dst (goInt (min m n : Nat))) w') : wpList P ops Q (o :: rest) a w :=
  Lib.wpList_copy_run w hgd d s t t ho _ _ hd hsv (run_cpyN hB t t o.type elem sz hu hs off n dcap m sCap ad cs hl hsrc hfit h1) (h _ (setCells_bx cs off w cur hB hfit) (setCells_fr1 _ _ _ _))
/-- .. and as a step of a region that draws. -/
theorem step_cpyN {w : World} {ops : Array Oper} {o : Oper} {a : Act} {K : Act → World → Prop} {Q : Exit → Act → World → Prop} {E : Prop} (hgd : o.guard = none) (d s : Operand) (t : TypeId) (ho : o.op = .call { callee := .builtin .copy, args := #[d, s], argTypes := #[t, t] })
    (elem : TypeId) (sz : Nat) (hu : P.underlying t = some (.slice elem)) (hs : (P.info? elem).map (·.size) = some sz) (g : Nat) (tb : TypeId) (cur : List Value) (hB : BxV w g tb cur)
    (off n dcap m sCap : Nat) (ad : Addr) (cs : List Value) (hd : a.eval d = .slice (some ⟨g, off, none⟩) n dcap) (hsv : a.eval s = .slice (some ad) m sCap) (hl : cs.length = min m n * sz) (hsrc : ∀ j u, cs[j]? = some u → w.cell? (ad.add j) = some u) (hfit : off + cs.length ≤ cur.length) (h1 : ∀ u ∈ cs, u.oneCell' = true)
    (h : K (a.put o.dst (goInt (min m n : Nat))) (w.setCells g off cs)) : if Region.wanted o (yielded ops a.tmps) = true then o.wp P a w K Q else E := by
  have hw : Region.wanted o (yielded ops a.tmps) = true := by simp [Region.wanted, hgd]
  rw [if_pos hw]
  unfold Oper.wp
  simp [execOp, ho, resolve, invoke, builtin, hd, hsv, run_cpyN hB t t o.type elem sz hu hs off n dcap m sCap ad cs hl hsrc hfit h1, Result.andThen]
  exact h
/-- append(s, make([]T, k)...), where there is no room for so many. -/
theorem wpList_appZ {w : World} {ops : Array Oper} {rest : List Oper} {o : Oper} {a : Act} {Q : Exit → Act → World → Prop} (hgd : o.guard = none) (s x : Operand) (t tn : TypeId) (ho : o.op = .call { callee := .builtin .append, args := #[s, x], argTypes := #[t, tn] })
    (e : TypeId) (z : Value) (sz bytes : Nat) (ht : P.underlying t = some (.slice e)) (kn : IntKind) (htn : P.underlying tn = some (.int kn)) (hinfo : (P.info? e).map (fun i => (i.zero, i.size, i.bytes)) = some (some z, sz, bytes)) (hzs : z.cells.size = sz) (hsz : 0 < sz)
    (g i cap : Nat) (hs : a.eval s = .slice (some ⟨g, 0, none⟩) i cap) (cur : List Value) (hB : BxV w g e cur) (hfit : i * sz ≤ cur.length) (kq : IntKind) (k : Nat) (hx : a.eval x = .int kq (k : Int)) (h0 : 0 < k) (hcap : cap < i + k) (hml : i + k ≤ maxLen) (hbytes : (i + k) * bytes ≤ 140737488355328) (hic : i ≤ cap)
    (h : ∀ g' cap' cur' w', BxV w' g' e cur' → Fr noB w w' → w.heap.size ≤ g' → i + k ≤ cap' → cap' ≤ maxLen → cur'.length = cap' * sz → cur'.take (i * sz) = cur.take (i * sz) → wpList P ops Q rest (a.put o.dst (.slice (some ⟨g', 0, none⟩) (i + k) cap')) w') : wpList P ops Q (o :: rest) a w := by
  obtain ⟨i0, hi, hz0, hz1, hz2⟩ := info_parts hinfo
  have hl : (cur.take (i * sz)).length = i * sz := by rw [List.length_take]; omega
  have hold : (Builtin.firstCells i0.size i (.slice (some ⟨g, 0, none⟩) i cap)).run P w.drew = .ok (cur.take (i * sz)).toArray w.drew := by
    rw [hz1]
    refine run_firstCells_some w.drew sz i ⟨g, 0, none⟩ i cap _ hl fun j u hj => ?_
    rw [Addr.add_lit, Nat.zero_add]
    rw [List.getElem?_take] at hj
    split at hj
    · exact (hB.cell j u hj).1
    · cases hj
  have hml' : i + k ≤ 9223372036854775807 := by unfold maxLen at hml; omega
  have hk48 : k * bytes ≤ 281474976710656 := by
    have : k * bytes ≤ (i + k) * bytes := Nat.mul_le_mul_right _ (by omega)
    omega
  have hr := Lib.run_append_grow_zeros (P := P) (ty := o.type) w t tn e i0 z kq kn ht htn hi hz0 (some ⟨g, 0, none⟩) i cap (cur.take (i * sz)) hold k h0 (by omega) hcap (by omega) (by rw [hz2]; exact hk48) (growslice_fits (by omega) (by rw [hz2]; exact hbytes))
  refine Lib.wpList_append_run w hgd s x t tn ho _ _ hs hx _ _ hr ?_
  have hge := grownCap_ge w (i + k) cap e
  have hle := grownCap_le_maxLen w (i + k) cap e hml
  have e1 : ((cur.take (i * sz)).toArray ++ Builtin.zeroCells z.cells k ++ Builtin.zeroCells z.cells (grownCap w (i + k) cap e - (i + k))) = (cur.take (i * sz) ++ ((Builtin.zeroCells z.cells k).toList ++ (Builtin.zeroCells z.cells (grownCap w (i + k) cap e - (i + k))).toList)).toArray := by
    apply Array.ext'
    simp
  rw [e1]
  refine h w.heap.size _ _ _ (heap_alloc_new w.drew _) (((Fr.refl _ _).drew).alloc _) (Nat.le_refl _) hge hle ?_ ?_
  · rw [List.length_append, List.length_append, hl, Array.length_toList, Array.length_toList, size_zeroCells, size_zeroCells, hzs, ← Nat.add_mul, ← Nat.add_mul]
    congr 1
    omega
  · rw [List.take_left' hl]
/-- clear of nothing. -/
theorem wpList_clr0 {w : World} {ops : Array Oper} {rest : List Oper} {o : Oper} {a : Act} {Q : Exit → Act → World → Prop} (hgd : Region.wanted o (yielded ops a.tmps) = true) (x : Operand) (t e : TypeId) (ho : o.op = .call { callee := .builtin .clear, args := #[x], argTypes := #[t] }) (ht : P.underlying t = some (.slice e))
    (ao : Option Addr) (cap : Nat) (hx : a.eval x = .slice ao 0 cap) (h : wpList P ops Q rest (a.put o.dst (.tuple #[])) w) : wpList P ops Q (o :: rest) a w := by
  refine wpList_wanted hgd fun K hK => ?_
  have hr : ∀ ty, (Builtin.clear_ #[t] ty #[.slice ao 0 cap]).run P w = .ok (.tuple #[]) w := fun ty => by
    cases ao <;> simp [Builtin.clear_, run_underlying ht]
  unfold Oper.wp
  simp [execOp, ho, resolve, invoke, builtin, hx, hr, Result.andThen]
  exact hK _ _ h
end Go.Proofs.U
/- slices.Insert of entries into a row of the call's own making; no condition. -/
namespace Go.Proofs.YtmkinaijkgkgiaaGreat
open Go.RowKit Go.Proofs.U
set_option linter.unusedSimpArgs false
set_option linter.unusedVariables false
abbrev EnO (w : World) (base : Nat) (v : Value) (l : List (Int × Int)) : Prop := OwnR enC 2 40 w base v l
theorem enC_len (x : Int × Int) : (enC x).length = 2 := rfl
theorem fl_len (l : List (Int × Int)) : (l.flatMap enC).length = l.length * 2 := by
  induction l with
  | nil => rfl
  | cons x l ih => rw [List.flatMap_cons, List.length_append, ih, enC_len, List.length_cons]; omega
theorem fl_one (l : List (Int × Int)) : ∀ u ∈ l.flatMap enC, u.oneCell' = true := by
  intro u hu
  obtain ⟨x, _, hx⟩ := List.mem_flatMap.1 hu
  exact en_one x u hx
/-- What a row of one's own is, where it isn't nil. -/
theorem EnO.parts {w : World} {base : Nat} {v : Value} {l : List (Int × Int)} (h : EnO w base v l) : (v = .slice none 0 0 ∧ l = []) ∨ ∃ g cap cur, v = .slice (some ⟨g, 0, none⟩) l.length cap ∧ base ≤ g ∧ BxV w g 40 cur ∧ l.length ≤ cap ∧ cap ≤ maxLen ∧ cur.length = cap * 2 ∧ cur.take (l.length * 2) = l.flatMap enC := by
  rcases h.2.2 with ⟨h0, h1⟩ | ⟨g, cap, cur, hv, h1, h2, h3, h4, h5, h6⟩
  · exact Or.inl ⟨h0, List.eq_nil_of_length_eq_zero h1⟩
  · exact Or.inr ⟨g, cap, cur.toList, hv, h1, h2, h3, h4, by rw [Array.length_toList]; exact h5, h6⟩
theorem EnO.mk {w : World} {base g cap : Nat} {cur : List Value} {l : List (Int × Int)} {n : Nat} (hb : base ≤ g) (h : BxV w g 40 cur) (hn : n = l.length) (hc : l.length ≤ cap) (hm : cap ≤ maxLen) (hl : cur.length = cap * 2) (ht : cur.take (l.length * 2) = l.flatMap enC) : EnO w base (.slice (some ⟨g, 0, none⟩) n cap) l := by
  subst hn
  exact ⟨fun x _ => enC_len x, fl_len l, Or.inr ⟨g, cap, cur.toArray, rfl, hb, h, hc, hm, by rw [List.size_toArray]; exact hl, ht⟩⟩
/-- The cells of some of a row's elements. -/
theorem bx_part {w : World} {g : Nat} {t : TypeId} {cur : List Value} (h : BxV w g t cur) {l : List (Int × Int)} (ht : cur.take (l.length * 2) = l.flatMap enC) (i k : Nat) : ∀ j u, ((l.drop i).take k |>.flatMap enC)[j]? = some u → w.cell? ((⟨g, i * 2, none⟩ : Addr).add j) = some u := by
  intro j u hj
  rw [Addr.add_lit]
  refine (h.cell (i * 2 + j) u ?_).1
  have hjl := (List.getElem?_eq_some_iff.1 hj).1
  rw [fl_len] at hjl
  have hkl : ((l.drop i).take k).length ≤ l.length - i := by rw [List.length_take, List.length_drop]; omega
  have e1 : l = l.take i ++ ((l.drop i).take k ++ (l.drop i).drop k) := by rw [List.take_append_drop, List.take_append_drop]
  have hin : i * 2 + j < l.length * 2 := by omega
  have hil : (l.take i).length = i := by rw [List.length_take]; omega
  have : (cur.take (l.length * 2))[i * 2 + j]? = some u := by
    rw [ht]
    conv => lhs; rw [e1]
    rw [List.flatMap_append, List.flatMap_append, List.getElem?_append_right (by rw [fl_len, hil]; omega), fl_len, hil, Nat.add_sub_cancel_left, List.getElem?_append_left (by rw [fl_len]; exact hjl)]
    exact hj
  rwa [List.getElem?_take, if_pos hin] at this
theorem uE : Tryz.prog.underlying 31 = some (.slice 40) := Tryz.underlying31
/-- overlaps of two rows that lie apart. -/
theorem ovl_run {w : World} {g g' : Nat} {c c' : List Value} (h : BxV w g 40 c) (h' : BxV w g' 40 c') (hne : g ≠ g') (hc' : 0 < c'.length) (o o' n cap n' cap' : Nat) :
    (callFunc 76 #[.slice (some ⟨g, o, none⟩) n cap, .slice (some ⟨g', o', none⟩) n' cap']).run Tryz.prog w = .ok (.value (.bool false)) w := by
  have h1 : w.heap[g]? = _ := h
  have h2 : w.heap[g']? = _ := h'
  rw [run_callFunc_extern Tryz.func76 (by kernel_rfl) (by kernel_rfl) (by kernel_rfl) (e := Extern.SlicesOverlaps.overlaps #[31, 31] #[4]) (by kernel_rfl),
    Lib.run_overlaps_apart w 31 4 40 Tryz.underlying31 2 Tryz.sizeOf40 ⟨g, o, none⟩ ⟨g', o', none⟩ n cap n' cap' hne 40 40 c.length c'.length (by simp [World.shape?, h1]) (by simp [World.shape?, h2]) (by omega) (by simp [World.frozen?, h1]) (by simp [World.frozen?, h1])]
  rfl
end Go.Proofs.YtmkinaijkgkgiaaGreat
