/- Texts TB, TK1, TK3, TK5, TK4, UA, UB of the proof of PruneTrims, one behind the other. -/
import Derived.Test.YtmkinaijkgkgiaaGreatBundlePruneTrims1
import Derived.Test.YtmkinaijkgkgiaaGreatBundlePruneTrims2
import Derived.Test.YtmkinaijkgkgiaaGreatBundlePruneTrims3
import Derived.Test.YtmkinaijkgkgiaaGreatBundlePruneTrims4
import Derived.Test.YtmkinaijkgkgiaaGreatBundlePruneTrims5
import Derived.Test.YtmkinaijkgkgiaaGreatBundlePruneTrims6
import Derived.Test.YtmkinaijkgkgiaaGreatBundlePruneTrims7
import Derived.Test.YtmkinaijkgkgiaaGreatBundlePruneTrims8
import Derived.Test.YtmkinaijkgkgiaaGreatBundlePruneTrims9
import Derived.Test.YtmkinaijkgkgiaaGreatBundlePruneTrims10
import Derived.Test.YtmkinaijkgkgiaaGreatBundlePruneTrims11
import Derived.Test.YtmkinaijkgkgiaaGreatBundlePruneTrims12
import Derived.Test.YtmkinaijkgkgiaaGreatBundlePruneTrims13
import Derived.Test.YtmkinaijkgkgiaaGreatBundlePruneTrims14
import Derived.Test.YtmkinaijkgkgiaaGreatBundlePruneTrims15
import Derived.Test.YtmkinaijkgkgiaaGreatBundlePruneTrims16
import Derived.Test.YtmkinaijkgkgiaaGreatBundlePruneTrims17
import Derived.Test.YtmkinaijkgkgiaaGreatBundlePruneTrims18
import Derived.Test.YtmkinaijkgkgiaaGreatBundlePruneTrims19
import Derived.Test.YtmkinaijkgkgiaaGreatBundlePruneTrims20
import Derived.Test.YtmkinaijkgkgiaaGreatBundlePruneTrims21
/- Put with its answers named ahead of the world; no condition. -/
namespace Go.Proofs.YtmkinaijkgkgiaaGreat
open Go.RowKit Go.Proofs.U
set_option linter.unusedSimpArgs false
set_option linter.unusedVariables false
/-- What Put answers, whatever the world. -/
def PutEx (X : DSt) (L : List Pg) (root : Int) (x : Int × Int) (m : Nat) (X' : DSt) (L' : List Pg) (p' e : Int) : Prop := ∀ (F : Nat → Prop) (gs gp : Nat) (w : World), Sto w F gs gp X L m → Calls Tryz.prog 8 #[trV gs, .int .i64 root, .int .i64 x.1, .int .i64 x.2] w fun r w' => TopIs w w' F gs gp (X', L') p' e (m + 20) r
theorem Put_tree_ex {X : DSt} {L : List Pg} {R : List Int} {T : List Nat} {Q : List Nat → Prop} {m lv : Nat} {p : Int} {l : List (Int × Int)} (hQ : QOk Q) (hQ34 : Q [3, 4]) (hI : InvT X L R T) (t : TreeAt X Q lv p l) (h0 : 0 ≤ p) (hp : 0 < cntT L T p.toNat) (hlv : lv < 8) (hm : m ≤ 80000) (x : Int × Int) (hk : 0 ≤ x.1 ∧ x.1 ≤ 63) (hpg : 0 ≤ x.2 ∧ 0 < cntT L T x.2.toNat) (hU : Up X L.length m) :
    ∃ X' L' p' e, PutR X L R T Q (lv + 1) (putL l x) X' L' p' e ∧ Up X' L'.length (m + 20) ∧ PutEx X L p x m X' L' p' e := by
  have hE := putF_E hI (x := x) hk hpg lv hU t.ok h0 hp (Int.le_refl _) (Int.le_refl _) hk.1 (by show x.1 < 64; omega)
  have hPc := fun (F : Nat → Prop) (gs gp : Nat) W (s : Sto W F gs gp X L m) => put_lv hI hm x hk hpg lv 0 W t.ok h0 hp (Int.le_refl _) (by omega) (Int.le_refl _) (Int.le_refl _) hk.1 (by show x.1 < 64; omega) s
  generalize putF X L lv p x = S at *
  obtain ⟨⟨X1, L1⟩, tops, e⟩ := S
  simp only at hE
  by_cases hl : 1 < tops.length
  · obtain ⟨rfl, hl2, X2, L2, t2, e2, es, hup, h1, hR⟩ := t.put2 hQ hQ34 hE.2 hE.1 hl
    have i := hE.2.ys rfl
    refine ⟨X2, L2, _, e2, hR, hup.mono (by omega), fun F gs gp w h => ?_⟩
    refine (Put_two p x.1 x.2 hk w h ((X1, L1), tops, 0) hl hl2 (fun y hy => by
      have h3 := i.ok.1 y hy
      have h4 := i.pg y hy
      exact ⟨wfSm (by omega) (by omega), wfSm (by omega) (by omega)⟩) (hPc F gs gp) (by omega) _ es h1).mono ?_
    rintro r w' ⟨F', er, s⟩
    exact ⟨F', er, s.mono (by omega)⟩
  · obtain ⟨h1, hR⟩ := t.put1 hQ hE.2 hl
    refine ⟨X1, L1, _, e, hR, hE.1.mono (by omega), fun F gs gp w h => ?_⟩
    refine (Put_one p x.1 x.2 hk w h ((X1, L1), tops, e) (by show tops.length ≤ 1; omega) h1 (hPc F gs gp)).mono ?_
    rintro r w' ⟨F', er, s⟩
    exact ⟨F', er, s.mono (by omega)⟩
theorem Put_empty_ex {X : DSt} {L : List Pg} {R : List Int} {T : List Nat} {Q : List Nat → Prop} {m : Nat} (hI : InvT X L R T) (hm : m ≤ 80000) (x : Int × Int) (hk : 0 ≤ x.1 ∧ x.1 ≤ 63) (hpg : 0 ≤ x.2 ∧ 0 < cntT L T x.2.toNat) (hU : Up X L.length m) :
    ∃ X' L' p' e, PutR X L R T Q 0 [x] X' L' p' e ∧ Up X' L'.length (m + 20) ∧ PutEx X L (-1) x m X' L' p' e := by
  obtain ⟨X', L', tops, e, es, hup, hl, h1, hR⟩ := put_none (Q := Q) hI hU (z := x) hk hpg
  have hlow := hI.low hpg.2
  have hPc := fun (F : Nat → Prop) (gs gp : Nat) W (s : Sto W F gs gp X L m) => put_n1 (by omega) x ⟨wfSm (by omega) (by omega), wfSm (by omega) (by omega)⟩ 0 W s
  rw [es] at hPc
  refine ⟨X', L', _, e, hR, hup.mono (by omega), fun F gs gp w h => ?_⟩
  refine (Put_one (-1) x.1 x.2 hk w h ((X', L'), tops, e) hl h1 (hPc F gs gp)).mono ?_
  rintro r w' ⟨F', er, s⟩
  exact ⟨F', er, s.mono (by omega)⟩
theorem OneT.Put_ex {X : DSt} {L : List Pg} {B : List Int} {O : List (Nat × Int)} {m lv : Nat} {root : Int} {l : List (Int × Int)} (o : OneT X L B O lv root l) (hm : m ≤ 80000) (x : Int × Int) (hk : 0 ≤ x.1 ∧ x.1 ≤ 63) (hb : x.2 ∈ B) (hU : Up X L.length m) :
    ∃ X' L' p' e, PutR X L (rtsB (B ++ O.map (·.2)) root) [] Q2 (hgt lv root) (putL l x) X' L' p' e ∧ Up X' L'.length (m + 20) ∧ PutEx X L root x m X' L' p' e := by
  have hpg := o.iv.toT.root (rtsB_B (root := root) (List.mem_append_left (O.map (·.2)) hb))
  rcases o.rt with ⟨rfl, rfl⟩ | ⟨h0, hp, hlv, t⟩
  · exact Put_empty_ex o.iv.toT hm x hk hpg hU
  · have e : hgt lv root = lv + 1 := by unfold hgt; rw [if_neg (by omega)]
    rw [e]
    exact Put_tree_ex Q2_ok Q2_34 o.iv.toT t h0 hp hlv hm x hk hpg hU
/-- A state of Build. -/
structure BSt where
  X : DSt
  L : List Pg
  lv : Nat
  root : Int
/-- One step of Build. -/
structure BStep (m : Nat) (x : Int × Int) (s s' : BSt) : Prop where
  put : ∃ L' , PutEx s.X s.L s.root x m s'.X L' s'.root 0 ∧ swF s'.X L' s.root s'.root = (s'.L, 0)
  nn : 0 ≤ s'.root
theorem OneT.step {s : BSt} {B : List Int} {O : List (Nat × Int)} {m : Nat} {l : List (Int × Int)} (o : OneT s.X s.L B O s.lv s.root l) (y : PlY s.L) (hm : m ≤ 80000) (x : Int × Int) (hk : 0 ≤ x.1 ∧ x.1 ≤ 63) (hb : x.2 ∈ B) (hU : Up s.X s.L.length m) (hc : B.length + 65 * O.length ≤ 135) (hL : B.length + 64 * (O.length + 1) + 13 ≤ s.L.length) :
    ∃ s', BStep m x s s' ∧ OneT s'.X s'.L B O s'.lv s'.root (putL l x) ∧ PlY s'.L ∧ s'.L.length = s.L.length ∧ Up s'.X s'.L.length (m + 20) ∧ ∀ t ∈ O, lsT s'.X t.1 t.2 = lsT s.X t.1 t.2 := by
  obtain ⟨X', L', p', e, R, up, P⟩ := o.Put_ex hm x hk hb hU
  obtain rfl := o.good y hc hL R
  obtain ⟨h0, L2, lv', sw, ln, yg, o'⟩ := o.put hb R hc
  refine ⟨⟨X', L2, lv', p'⟩, ⟨⟨L', P, sw⟩, h0⟩, o', yg y, ln, ?_, fun t ht => (okT.ext o.iv.toT R.ext (o.ot t ht).2.1.ok (o.ot t ht).1 (o.iv.toT.root (rtsB_B (root := s.root) (List.mem_append_right B (List.mem_map_of_mem ht)))).2).2.1⟩
  have e : L2.length = L'.length := ln.trans R.ext.ln.symm
  show Up X' L2.length (m + 20)
  rw [e]
  exact up
/-- All of Build's states. -/
theorem OneT.steps {s0 : BSt} {B : List Int} {O : List (Nat × Int)} {m : Nat} (es : List (Int × Int)) (o : OneT s0.X s0.L B O s0.lv s0.root []) (y : PlY s0.L) (hm : m ≤ 10000) (he : es.length ≤ 100) (hes : ∀ x ∈ es, (0 ≤ x.1 ∧ x.1 ≤ 63) ∧ x.2 ∈ B) (hU : Up s0.X s0.L.length m) (hc : B.length + 65 * O.length ≤ 135) (hL : B.length + 64 * (O.length + 1) + 13 ≤ s0.L.length) :
    ∃ s : Nat → BSt, s 0 = s0 ∧ (∀ (k : Nat) (hk : k < es.length), BStep (m + 20 * k) es[k] (s k) (s (k + 1))) ∧ ∀ k, k ≤ es.length → OneT (s k).X (s k).L B O (s k).lv (s k).root ((es.take k).foldl putL []) ∧ PlY (s k).L ∧ (s k).L.length = s0.L.length ∧ Up (s k).X (s k).L.length (m + 20 * k) ∧ ∀ t ∈ O, lsT (s k).X t.1 t.2 = lsT s0.X t.1 t.2 := by
  have key : ∀ n, n ≤ es.length → ∃ s : Nat → BSt, s 0 = s0 ∧ (∀ (k : Nat) (hk : k < es.length), k < n → BStep (m + 20 * k) es[k] (s k) (s (k + 1))) ∧ ∀ k, k ≤ n → OneT (s k).X (s k).L B O (s k).lv (s k).root ((es.take k).foldl putL []) ∧ PlY (s k).L ∧ (s k).L.length = s0.L.length ∧ Up (s k).X (s k).L.length (m + 20 * k) ∧ ∀ t ∈ O, lsT (s k).X t.1 t.2 = lsT s0.X t.1 t.2 := by
    intro n
    induction n with
    | zero =>
      intro _
      refine ⟨fun _ => s0, rfl, fun k _ hk => absurd hk (by omega), fun k hk => ?_⟩
      obtain rfl : k = 0 := by omega
      exact ⟨o, y, rfl, hU, fun _ _ => rfl⟩
    | succ n ih =>
      intro hn
      obtain ⟨s, h0, h1, h2⟩ := ih (by omega)
      obtain ⟨on, yn, ln, un, en⟩ := h2 n (Nat.le_refl _)
      have hx := hes es[n] (List.getElem_mem _)
      obtain ⟨s', b, o', y', l', u', e'⟩ := on.step yn (by omega) es[n] hx.1 hx.2 un hc (by omega)
      refine ⟨fun k => if k = n + 1 then s' else s k, by simp [h0], fun k hk hkn => ?_, fun k hk => ?_⟩
      · by_cases e : k = n
        · subst e; simpa using b
        · have := h1 k hk (by omega)
          show BStep (m + 20 * k) es[k] (if k = n + 1 then s' else s k) (if k + 1 = n + 1 then s' else s (k + 1))
          rw [if_neg (by omega), if_neg (by omega)]
          exact this
      · by_cases e : k = n + 1
        · subst e
          simp only [if_pos]
          rw [List.take_succ_eq_append_getElem (by omega), List.foldl_append]
          exact ⟨o', y', l'.trans ln, by rw [show m + 20 * (n + 1) = m + 20 * n + 20 by omega]; exact u', fun t ht => (e' t ht).trans (en t ht)⟩
        · have h3 := h2 k (by omega)
          simp only [if_neg e]
          exact h3
  obtain ⟨s, h0, h1, h2⟩ := key es.length (Nat.le_refl _)
  exact ⟨s, h0, fun k hk => h1 k hk hk, h2⟩
end Go.Proofs.YtmkinaijkgkgiaaGreat
/- Put, and what the tree lacks of three entries a node, plain; no condition. -/
namespace Go.Proofs.YtmkinaijkgkgiaaGreat
open Go.RowKit Go.Proofs.U
set_option linter.unusedSimpArgs false
set_option linter.unusedVariables false
theorem TreeAt.put2_df {X : DSt} {L : List Pg} {R : List Int} {T : List Nat} {m lv : Nat} {p : Int} {z : Int × Int} {X1 X2 : DSt} {L1 L2 : List Pg} {tops tops2 : List (Int × Int)} (s : PutE X L R T lv p 0 64 z X1 L1 tops 0) (hU : Up X1 L1.length m) (hl : 1 < tops.length) (em : splF (X1, L1) 3 tops = ((X2, L2), tops2, 0)) :
    szX X p = 6 ∧ dfT X2 (lv + 1) (tops2.getD 0 (0, 0)).2 ≤ dfT X lv p ∧ okT X2 (lv + 1) (tops2.getD 0 (0, 0)).2 0 64 := by
  have i := s.ys rfl
  have hlen := i.len
  have hl2 : tops.length = 2 := by omega
  have hmem : ∀ x ∈ tops, (0 ≤ x.1 ∧ x.1 ≤ 63 ∧ 0 ≤ x.2 ∧ x.2 ≤ 239) ∧ 0 < cntT L1 (pgsT tops ++ T) x.2.toNat := fun x hx => by
    have h1 := i.ok.1 x hx
    have h2 := i.pg x hx
    exact ⟨by omega, i.iv.mem (List.mem_append_left _ (List.mem_map_of_mem (f := fun x : Int × Int => x.2.toNat) hx))⟩
  obtain ⟨Y2, M2, u2, e2, em', hx2, hup, he, h71, h72, hno, hys⟩ := split_T i.iv hU (Or.inr rfl) (by omega) (by omega) i.up hmem
  rw [em] at em'
  simp only [Prod.mk.injEq] at em'
  obtain ⟨⟨rfl, rfl⟩, rfl, rfl⟩ := em'
  have sp := hys rfl
  have w := split_row (lv := lv + 1) i.iv hx2 sp i.up i.ok (by omega) (by omega) (fun _ x hx' => ⟨(hmem x hx').1.2.2.1, (hmem x hx').2⟩)
  have h6 : szX X p = 6 := by
    rcases i.sz with ⟨t, rfl, _⟩ | ⟨t, u, rfl, h6, _⟩
    · simp at hl
    · exact h6
  rcases w.sz with ⟨x, rfl, hs, _⟩ | ⟨_, _, _, h7, _⟩
  · have hok : okT X2 (lv + 1) x.2 x.1 64 := w.ok.2
    have hx0 := w.ok.1 x (by simp)
    refine ⟨h6, ?_, okT_mono hok hx0.1 (Int.le_refl _)⟩
    have hd := w.df
    have hn := i.dn
    have e6 : lackZ 6 = -1 := by decide
    rw [h6, e6] at hn
    simp only [List.map_cons, List.map_nil, List.sum_cons, List.sum_nil] at hd
    simp only [List.getD_cons_zero]
    omega
  · omega
end Go.Proofs.YtmkinaijkgkgiaaGreat
/- Trees as what they hold alone, without pages: put; plain; no condition. -/
namespace Go.Proofs.YtmkinaijkgkgiaaGreat
open Go.RowKit Go.Proofs.U
set_option linter.unusedSimpArgs false
set_option linter.unusedVariables false
/-- A tree of so many levels above its leaves. -/
def Tr : Nat → Type
  | 0 => List (Int × Int)
  | n + 1 => List (Int × Tr n)
/-- The tree that a page is. -/
def absT (X : DSt) : (lv : Nat) → Int → Tr lv
  | 0, p => esX X p
  | lv + 1, p => (esX X p).map fun x => (x.1, absT X lv x.2)
def absN (X : DSt) : (lv : Nat) → List (Int × Int) → Tr lv
  | 0, es => es
  | lv + 1, es => es.map fun x => (x.1, absT X lv x.2)
def absL (X : DSt) (lv : Nat) (es : List (Int × Int)) : List (Int × Tr lv) := es.map fun x => (x.1, absT X lv x.2)
theorem absT_N (X : DSt) (lv : Nat) (p : Int) : absT X lv p = absN X lv (esX X p) := by cases lv <;> rfl
def keyG {α : Type} (es : List (Int × α)) : Int := match es with | [] => 0 | x :: _ => x.1
/-- Entries put into nodes. -/
def splG {α : Type} (es : List (Int × α)) : List (Int × List (Int × α)) :=
  if es.length ≤ 6 then [(keyG es, es)] else [(keyG (es.take (es.length / 2)), es.take (es.length / 2)), (keyG (es.drop (es.length / 2)), es.drop (es.length / 2))]
def splTr : (lv : Nat) → Tr lv → List (Int × Tr lv)
  | 0, t => splG (α := Int) t
  | n + 1, t => splG (α := Tr n) t
/-- Which child a key goes into. -/
def pickG {α : Type} (es : List (Int × α)) (k : Int) : Nat := es.countP (fun x => decide (x.1 ≤ k)) - 1
/-- Put. -/
def putA : (lv : Nat) → Tr lv → Int × Int → List (Int × Tr lv)
  | 0, t, x => splTr 0 (putL t x)
  | n + 1, t, x =>
    let t : List (Int × Tr n) := t
    splTr (n + 1) (t.take (pickG t x.1) ++ ((match t[pickG t x.1]? with | some c => putA n c.2 x | none => []) ++ t.drop (pickG t x.1 + 1)))
theorem pickX_G (X : DSt) (lv : Nat) (es : List (Int × Int)) (k : Int) : pickX es k = pickG (absL X lv es) k := by
  unfold pickX pickG absL atN
  rw [List.countP_map]
  have : ((fun x : Int × Tr lv => decide (x.1 ≤ k)) ∘ fun x : Int × Int => (x.1, absT X lv x.2)) = fun x : Int × Int => decide (x.1 ≤ k) := rfl
  rw [this]
  omega
theorem absT_congr {X X' : DSt} : ∀ {lv : Nat} {p lo hi : Int}, okT X lv p lo hi → (∀ q ∈ occT X lv p, rdN X' q = rdN X q) → absT X' lv p = absT X lv p
  | 0, p, lo, hi, h, hq => by
    show esX X' p = esX X p
    unfold esX; rw [hq p (by simp [occT])]
  | lv + 1, p, lo, hi, h, hq => by
    have hes : esX X' p = esX X p := by unfold esX; rw [hq p (by simp [occT])]
    have hin : ∀ x ∈ esX X p, ∀ q ∈ occT X lv x.2, rdN X' q = rdN X q := fun x hx q hq' => hq q (by
      unfold occT
      exact List.mem_cons_of_mem _ (List.mem_flatMap.2 ⟨x, hx, hq'⟩))
    show (esX X' p).map _ = (esX X p).map _
    rw [hes]
    refine List.map_congr_left fun x hx => ?_
    obtain ⟨b, hb⟩ := h.child x hx
    rw [absT_congr hb (hin x hx)]
theorem absT.ext {X X' : DSt} {L L' : List Pg} {R : List Int} {T : List Nat} (h : InvT X L R T) (hx : Ext X L X' L') {lv : Nat} {p lo hi : Int} (k : okT X lv p lo hi) (h0 : 0 ≤ p) (hp : 0 < cntT L T p.toNat) : absT X' lv p = absT X lv p :=
  absT_congr k (fun q hq => by
    obtain ⟨q0, ql⟩ := occT_live h k h0 hp q hq
    have := (hx.kp q.toNat (h.live ql).1).1
    rwa [Int.toNat_of_nonneg q0] at this)
theorem absL.ext {X X' : DSt} {L L' : List Pg} {R : List Int} {T : List Nat} (h : InvT X L R T) (hx : Ext X L X' L') {lv : Nat} {es : List (Int × Int)} (hl : ∀ x ∈ es, (∃ a b, okT X lv x.2 a b) ∧ 0 ≤ x.2 ∧ 0 < cntT L T x.2.toNat) : absL X' lv es = absL X lv es :=
  List.map_congr_left fun x hx' => by
    obtain ⟨⟨a, b, hb⟩, h2, h3⟩ := hl x hx'
    rw [absT.ext h hx hb h2 h3]
theorem absN.ext {X X' : DSt} {L L' : List Pg} {R : List Int} {T : List Nat} (h : InvT X L R T) (hx : Ext X L X' L') : ∀ {lv : Nat} {es : List (Int × Int)}, (∀ x ∈ es, 0 < lv → (∃ a b, okT X (lv - 1) x.2 a b) ∧ 0 ≤ x.2 ∧ 0 < cntT L T x.2.toNat) → absN X' lv es = absN X lv es
  | 0, es, _ => rfl
  | lv + 1, es, hl => absL.ext h hx (lv := lv) fun x hx' => by simpa using hl x hx' (by omega)
theorem keyG_0 (es : List (Int × Int)) : key0 es = keyG es := by cases es <;> rfl
theorem keyG_N (X : DSt) (lv : Nat) (es : List (Int × Int)) : keyG (absL X lv es) = keyG es := by cases es <;> rfl
/-- Split, of trees. -/
theorem split_ab {X X' : DSt} {L L' : List Pg} {R : List Int} {T : List Nat} {lv : Nat} {es tops : List (Int × Int)} (h : InvT X L R T) (hx : Ext X L X' L') (s : SplIs X L R T (kdL lv) es X' L' tops)
    (hl : ∀ x ∈ es, 0 < lv → (∃ a b, okT X (lv - 1) x.2 a b) ∧ 0 ≤ x.2 ∧ 0 < cntT L T x.2.toNat) : absL X' lv tops = splTr lv (absN X lv es) := by
  have hN : ∀ {p : Int} {l : List (Int × Int)}, NewN X' L p (kdL lv) l → (∀ x ∈ l, x ∈ es) → absT X' lv p = absN X lv l := fun {p l} n hm => by
    have e : esX X' p = l := by unfold esX; rw [n.rd]
    rw [absT_N, e]
    exact absN.ext h hx fun x hx' => hl x (hm x hx')
  rcases s.ways with ⟨h6, p, rfl, n, _⟩ | ⟨h6, p, q, rfl, n1, n2⟩
  · have e := hN n (fun x hx' => hx')
    unfold absL
    simp only [List.map_cons, List.map_nil, e, keyG_0]
    cases lv with
    | zero => show _ = splG es; unfold splG; rw [if_pos h6]; rfl
    | succ lv =>
      show _ = splG (absL X lv es)
      unfold splG
      have hle : (absL X lv es).length = es.length := List.length_map _
      rw [if_pos (by omega), keyG_N]
      rfl
  · have e1 := hN n1 (fun x hx' => List.mem_of_mem_take hx')
    have e2 := hN n2 (fun x hx' => List.mem_of_mem_drop hx')
    unfold absL
    simp only [List.map_cons, List.map_nil, e1, e2, keyG_0]
    cases lv with
    | zero => show _ = splG es; unfold splG; rw [if_neg (by omega)]; rfl
    | succ lv =>
      show _ = splG (absL X lv es)
      unfold splG
      have hle : (absL X lv es).length = es.length := List.length_map _
      rw [if_neg (by omega), hle]
      have t1 : (absL X lv es).take (es.length / 2) = absL X lv (es.take (es.length / 2)) := (List.map_take).symm
      have t2 : (absL X lv es).drop (es.length / 2) = absL X lv (es.drop (es.length / 2)) := (List.map_drop).symm
      rw [t1, t2, keyG_N, keyG_N]
      rfl
end Go.Proofs.YtmkinaijkgkgiaaGreat
/- Keys cut out of trees without pages, and what it does to a tree's count; plain; no condition. -/
namespace Go.Proofs.YtmkinaijkgkgiaaGreat
open Go.RowKit Go.Proofs.U
set_option linter.unusedSimpArgs false
set_option linter.unusedVariables false
def lenTr : (lv : Nat) → Tr lv → Nat
  | 0, t => List.length (α := Int × Int) t
  | n + 1, t => List.length (α := Int × Tr n) t
/-- What a tree's nodes below its root count. -/
def dfA : (lv : Nat) → Tr lv → Int
  | 0, _ => 0
  | n + 1, t => (List.map (fun x : Int × Tr n => lackZ (lenTr n x.2) + dfA n x.2) t).sum
/-- No node below the root is empty. -/
def neA : (lv : Nat) → Tr lv → Prop
  | 0, _ => True
  | n + 1, t => ∀ x ∈ (show List (Int × Tr n) from t), 1 ≤ lenTr n x.2 ∧ neA n x.2
def appA : (lv : Nat) → Tr lv → Tr lv → Tr lv
  | 0, a, b => List.append (α := Int × Int) a b
  | n + 1, a, b => List.append (α := Int × Tr n) a b
def keyA : (lv : Nat) → Tr lv → Int
  | 0, t => keyG (α := Int) t
  | n + 1, t => keyG (α := Tr n) t
def nodA {n : Nat} (t : Tr n) : Int × Tr n := (keyA n t, t)
/-- A node that was changed, and isn't empty, with those behind it. -/
def joinB {n : Nat} (c : Tr n) : List (Int × Tr n) → List (Int × Tr n)
  | [] => [nodA c]
  | b :: B => if lenTr n c + lenTr n b.2 ≤ 6 then nodA (appA n c b.2) :: B else nodA c :: b :: B
/-- .. and with those ahead of it (the nearest first). -/
def joinA {n : Nat} (c : Tr n) (A B : List (Int × Tr n)) : List (Int × Tr n) :=
  match A with
  | [] => joinB c B
  | a :: A' => if lenTr n a.2 + lenTr n c ≤ 6 then A'.reverse ++ nodA (appA n a.2 c) :: B else (a :: A').reverse ++ joinB c B
def rowA {n : Nat} (c : Tr n) (A B : List (Int × Tr n)) : List (Int × Tr n) := if lenTr n c = 0 then A ++ B else joinA c A.reverse B
/-- Cut: none, if nothing belongs to the key. -/
def cutA : (lv : Nat) → Tr lv → Int → Option (Tr lv)
  | 0, t, k => if (cutL t k).length < List.length (α := Int × Int) t then some (cutL t k) else none
  | n + 1, t, k =>
    let t : List (Int × Tr n) := t
    match t[pickG t k]? with
    | none => none
    | some c => match cutA n c.2 k with
      | none => none
      | some c' => some (rowA c' (t.take (pickG t k)) (t.drop (pickG t k + 1)))
def dfR {n : Nat} (l : List (Int × Tr n)) : Int := (l.map fun x => lackZ (lenTr n x.2) + dfA n x.2).sum
theorem dfR_nil {n : Nat} : dfR ([] : List (Int × Tr n)) = 0 := rfl
theorem dfR_app {n : Nat} (a b : List (Int × Tr n)) : dfR (a ++ b) = dfR a + dfR b := by
  unfold dfR
  rw [List.map_append, sum_appZ]
theorem dfR_cons {n : Nat} (x : Int × Tr n) (b : List (Int × Tr n)) : dfR (x :: b) = (lackZ (lenTr n x.2) + dfA n x.2) + dfR b := rfl
theorem dfR_rev {n : Nat} (a : List (Int × Tr n)) : dfR a.reverse = dfR a := by
  induction a with
  | nil => rfl
  | cons x a ih =>
    rw [List.reverse_cons, dfR_app, ih, dfR_cons, dfR_cons, dfR_nil]
    omega
theorem len_app (n : Nat) (a b : Tr n) : lenTr n (appA n a b) = lenTr n a + lenTr n b := by
  cases n with
  | zero => exact List.length_append
  | succ n => exact List.length_append
theorem df_app (n : Nat) (a b : Tr n) : dfA n (appA n a b) = dfA n a + dfA n b := by
  cases n with
  | zero => rfl
  | succ n => exact dfR_app a b
theorem joinB_cons {n : Nat} (c : Tr n) (b : Int × Tr n) (B : List (Int × Tr n)) : joinB c (b :: B) = if lenTr n c + lenTr n b.2 ≤ 6 then nodA (appA n c b.2) :: B else nodA c :: b :: B := rfl
theorem joinA_nil {n : Nat} (c : Tr n) (B : List (Int × Tr n)) : joinA c [] B = joinB c B := rfl
theorem joinA_cons {n : Nat} (c : Tr n) (a : Int × Tr n) (A B : List (Int × Tr n)) : joinA c (a :: A) B = if lenTr n a.2 + lenTr n c ≤ 6 then A.reverse ++ nodA (appA n a.2 c) :: B else (a :: A).reverse ++ joinB c B := rfl
/-- How a node changes behind a cut. -/
def CutZ (n : Nat) (c c' : Tr n) : Prop := (lenTr n c' + 1 = lenTr n c ∧ dfA n c' ≤ dfA n c) ∨ (lenTr n c' = lenTr n c ∧ dfA n c' ≤ dfA n c + 1)
theorem joinB_z {n : Nat} {c c' : Tr n} (h : CutZ n c c') (h0 : 1 ≤ lenTr n c') (B : List (Int × Tr n)) (hB : ∀ b ∈ B, 1 ≤ lenTr n b.2) :
    ((joinB c' B).length = B.length ∧ dfR (joinB c' B) ≤ lackZ (lenTr n c) + dfA n c + dfR B) ∨ ((joinB c' B).length = B.length + 1 ∧ dfR (joinB c' B) ≤ lackZ (lenTr n c) + dfA n c + dfR B + 1) := by
  have alone : ∀ B' : List (Int × Tr n), dfR (nodA c' :: B') ≤ lackZ (lenTr n c) + dfA n c + dfR B' + 1 := fun B' => by
    rw [dfR_cons]
    show lackZ (lenTr n c') + dfA n c' + _ ≤ _
    unfold lackZ
    rcases h with ⟨h1, h2⟩ | ⟨h1, h2⟩ <;> omega
  cases B with
  | nil => exact Or.inr ⟨rfl, alone []⟩
  | cons b B =>
    have hb := hB b (by simp)
    rw [joinB_cons]
    by_cases h6 : lenTr n c' + lenTr n b.2 ≤ 6
    · rw [if_pos h6]
      refine Or.inl ⟨rfl, ?_⟩
      rw [dfR_cons, dfR_cons]
      show lackZ (lenTr n (appA n c' b.2)) + dfA n (appA n c' b.2) + _ ≤ _
      rw [len_app, df_app]
      unfold lackZ
      rcases h with ⟨h1, h2⟩ | ⟨h1, h2⟩ <;> omega
    · rw [if_neg h6]
      exact Or.inr ⟨rfl, alone (b :: B)⟩
theorem rowA_z {n : Nat} {c c' : Tr n} {k : Int} (h : CutZ n c c') (h1 : 1 ≤ lenTr n c) (h00 : lenTr n c' = 0 → dfA n c' = 0) (A B : List (Int × Tr n)) (hA : ∀ b ∈ A, 1 ≤ lenTr n b.2) (hB : ∀ b ∈ B, 1 ≤ lenTr n b.2) :
    ((rowA c' A B).length + 1 = (A ++ (k, c) :: B).length ∧ dfR (rowA c' A B) ≤ dfR (A ++ (k, c) :: B)) ∨ ((rowA c' A B).length = (A ++ (k, c) :: B).length ∧ dfR (rowA c' A B) ≤ dfR (A ++ (k, c) :: B) + 1) := by
  have e0 : dfR (A ++ (k, c) :: B) = dfR A + (lackZ (lenTr n c) + dfA n c + dfR B) := by rw [dfR_app, dfR_cons]
  have l0 : (A ++ (k, c) :: B).length = A.length + (B.length + 1) := by rw [List.length_append, List.length_cons]
  rw [e0, l0]
  unfold rowA
  by_cases hc : lenTr n c' = 0
  · rw [if_pos hc, dfR_app, List.length_append]
    have hd := h00 hc
    refine Or.inl ⟨by omega, ?_⟩
    unfold lackZ
    rcases h with ⟨g1, g2⟩ | ⟨g1, g2⟩ <;> omega
  · rw [if_neg hc]
    have hj := joinB_z h (by omega) B hB
    have eR : dfR A = dfR A.reverse := (dfR_rev A).symm
    have lR : A.length = A.reverse.length := List.length_reverse.symm
    have hA' : ∀ b ∈ A.reverse, 1 ≤ lenTr n b.2 := fun b hb => hA b (List.mem_reverse.1 hb)
    rw [eR, lR]
    generalize A.reverse = R at *
    cases R with
    | nil =>
      rw [joinA_nil, dfR_nil, List.length_nil]
      rcases hj with ⟨j1, j2⟩ | ⟨j1, j2⟩
      · exact Or.inl ⟨by omega, by omega⟩
      · exact Or.inr ⟨by omega, by omega⟩
    | cons a R =>
      have ha := hA' a (by simp)
      rw [joinA_cons, dfR_cons, List.length_cons]
      by_cases h6 : lenTr n a.2 + lenTr n c' ≤ 6
      · rw [if_pos h6, List.length_append, List.length_reverse, List.length_cons, dfR_app, dfR_rev, dfR_cons]
        refine Or.inl ⟨by omega, ?_⟩
        show dfR R + (lackZ (lenTr n (appA n a.2 c')) + dfA n (appA n a.2 c') + _) ≤ _
        rw [len_app, df_app]
        unfold lackZ
        rcases h with ⟨g1, g2⟩ | ⟨g1, g2⟩ <;> omega
      · rw [if_neg h6, List.length_append, List.length_reverse, List.length_cons, dfR_app, dfR_rev, dfR_cons]
        rcases hj with ⟨j1, j2⟩ | ⟨j1, j2⟩
        · exact Or.inl ⟨by omega, by omega⟩
        · exact Or.inr ⟨by omega, by omega⟩
/-- What a cut does to a tree's count. -/
theorem cutL_one {l : List (Int × Int)} (hu : KeysUp l) (k : Int) (h : (cutL l k).length < l.length) : (cutL l k).length + 1 = l.length := by
  induction l with
  | nil => simp at h
  | cons x l ih =>
    by_cases e : x.1 = k
    · have : cutL (x :: l) k = cutL l k := by unfold cutL; simp [e]
      have h2 : cutL l k = l := by
        unfold cutL
        rw [List.filter_eq_self]
        intro y hy
        have := hu.head y hy
        simp
        omega
      rw [this, h2, List.length_cons]
    · have : cutL (x :: l) k = x :: cutL l k := by unfold cutL; simp [e]
      rw [this, List.length_cons] at h ⊢
      rw [List.length_cons] at h
      have := ih hu.tail (by omega)
      rw [List.length_cons]
      omega
/-- A tree in which leaves are in order. -/
def upA : (lv : Nat) → Tr lv → Prop
  | 0, t => KeysUp t
  | n + 1, t => ∀ x ∈ (show List (Int × Tr n) from t), upA n x.2
theorem cutA_z : ∀ (lv : Nat) (t : Tr lv) (k : Int) (t' : Tr lv), neA lv t → upA lv t → cutA lv t k = some t' → CutZ lv t t' ∧ (lenTr lv t' = 0 → dfA lv t' = 0)
  | 0, t, k, t', _, hu, h => by
    unfold cutA at h
    split at h
    · rename_i hl
      cases h
      exact ⟨Or.inl ⟨cutL_one hu k hl, Int.le_refl _⟩, fun _ => rfl⟩
    · cases h
  | n + 1, t, k, t', hne, hu, h => by
    unfold cutA at h
    simp only at h
    generalize pickG (α := Tr n) t k = j at h
    cases hc : (show List (Int × Tr n) from t)[j]? with
    | none => rw [hc] at h; cases h
    | some c =>
      rw [hc] at h
      simp only at h
      obtain ⟨hj, hcj⟩ := List.getElem?_eq_some_iff.1 hc
      have hm : c ∈ (show List (Int × Tr n) from t) := by rw [← hcj]; exact List.getElem_mem hj
      cases hcut : cutA n c.2 k with
      | none => rw [hcut] at h; cases h
      | some c' =>
        rw [hcut] at h
        simp only at h
        cases h
        obtain ⟨hz, h00⟩ := cutA_z n c.2 k c' (hne c hm).2 (hu c hm) hcut
        have hs : (show List (Int × Tr n) from t) = List.take j (show List (Int × Tr n) from t) ++ (c.1, c.2) :: List.drop (j + 1) (show List (Int × Tr n) from t) := by
          have : (c.1, c.2) = (show List (Int × Tr n) from t)[j] := hcj.symm
          rw [this, List.getElem_cons_drop, List.take_append_drop]
        have hr := rowA_z (k := c.1) hz (hne c hm).1 h00 (List.take j (show List (Int × Tr n) from t)) (List.drop (j + 1) (show List (Int × Tr n) from t)) (fun b hb => (hne b (List.mem_of_mem_take hb)).1) (fun b hb => (hne b (List.mem_of_mem_drop hb)).1)
        rw [← hs] at hr
        refine ⟨hr, fun h0 => ?_⟩
        have : rowA c' (List.take j (show List (Int × Tr n) from t)) (List.drop (j + 1) (show List (Int × Tr n) from t)) = [] := List.eq_nil_of_length_eq_zero h0
        show dfR (rowA c' _ _) = 0
        rw [this]
        rfl
end Go.Proofs.YtmkinaijkgkgiaaGreat
/- Put below a page is put of the tree that it is; plain; no condition. -/
namespace Go.Proofs.YtmkinaijkgkgiaaGreat
open Go.RowKit Go.Proofs.U
set_option linter.unusedSimpArgs false
set_option linter.unusedVariables false
theorem putF_ab {X : DSt} {L : List Pg} {R : List Int} {T : List Nat} (hI : InvT X L R T) {x : Int × Int} (hx : 0 ≤ x.1 ∧ x.1 ≤ 63) (hz2 : 0 ≤ x.2 ∧ 0 < cntT L T x.2.toNat) : ∀ (lv : Nat) {m : Nat} {p lo hi : Int}, Up X L.length m → okT X lv p lo hi → 0 ≤ p → 0 < cntT L T p.toNat → 0 ≤ lo → hi ≤ 64 → lo ≤ x.1 → x.1 < hi →
    ∀ {X' : DSt} {L' : List Pg} {tops : List (Int × Int)}, putF X L lv p x = ((X', L'), tops, 0) → absL X' lv tops = putA lv (absT X lv p) x
  | 0, m, p, lo, hi, hU, k, h0, hp, hlo, hhi, h1, h2, X', L', tops, he => by
    obtain ⟨hu, q1, q6, hr⟩ := k.es
    have hlen := putL_len hu (at_is x.1 k.rises)
    have hup := putL_up (x := x) hu
    have hz239 : x.2 ≤ 239 := by have := hI.low hz2.2; omega
    have hmem : ∀ y ∈ putL (esX X p) x, (0 ≤ y.1 ∧ y.1 ≤ 63 ∧ 0 ≤ y.2 ∧ y.2 ≤ 239) ∧ 0 < cntT L T y.2.toNat := by
      intro y hy
      rcases (mem_putL hu).1 hy with rfl | ⟨hy, _⟩
      · exact ⟨⟨hx.1, hx.2, hz2.1, hz239⟩, hz2.2⟩
      · exact ⟨hr y hy, (hI.kid h0 hp y.2 (by unfold kids; exact List.mem_map_of_mem hy)).2.2⟩
    obtain ⟨Y, M, u, e, es, hx', hup', _, _, _, _, hys⟩ := split_T hI hU (Or.inl rfl) (by omega) (by omega) hup hmem
    unfold putF at he
    rw [he] at es
    simp only [Prod.mk.injEq] at es
    obtain ⟨⟨rfl, rfl⟩, rfl, rfl⟩ := es
    exact split_ab (lv := 0) hI hx' (hys rfl) (fun _ _ q => absurd q (by decide))
  | lv + 1, m, p, lo, hi, hU, k, h0, hp, hlo, hhi, h1, h2, X', L', tops, he => by
    obtain ⟨hj, hsp, hca, hcb⟩ := pick_is (key := x.1) k.rises k.es.2.1
    have hpk := pickX_G X lv (esX X p) x.1
    unfold putF at he
    generalize pickX (esX X p) x.1 = j at *
    have hgd : (esX X p).getD j (0, 0) = (esX X p)[j] := by simp [List.getD, hj]
    rw [hgd] at he
    have hmem : (esX X p)[j] ∈ esX X p := by simp
    have hrng := k.2.2.1 _ hmem
    have hkd := hI.kid h0 hp (esX X p)[j].2 (by unfold kids; exact List.mem_map_of_mem hmem)
    have hC := k.2.2.2
    have hC0 := k.2.2.2
    rw [hsp] at hC
    have hf := (row_parts (f := okT X lv) (g := lsT X lv) (fun p a b k => lsT_rng k) (by rw [← hsp]; exact k.es.1) (by rw [← hsp]; exact fun y hy => (k.2.2.1 y hy).2) hC).2.2.2
    have hnx : nxt ((esX X p).drop (j + 1)) hi ≤ 64 ∧ x.1 < nxt ((esX X p).drop (j + 1)) hi := by
      cases hd : (esX X p).drop (j + 1) with
      | nil => exact ⟨hhi, h2⟩
      | cons y r =>
        have hy : y ∈ esX X p := List.mem_of_mem_drop (i := j + 1) (by rw [hd]; simp)
        have := k.2.2.1 y hy
        have := hcb y (by rw [hd]; simp)
        exact ⟨by simp only [nxt]; omega, by simp only [nxt]; omega⟩
    have hclo : (if (esX X p).take j = [] then lo else (esX X p)[j].1) ≤ (esX X p)[j].1 ∧ 0 ≤ (if (esX X p).take j = [] then lo else (esX X p)[j].1) ∧ (if (esX X p).take j = [] then lo else (esX X p)[j].1) ≤ x.1 := by
      split
      · omega
      · rename_i hne
        have := hca hne
        omega
    have ih := putF_E hI hx hz2 lv hU (okT_mono hf hclo.1 (Int.le_refl _)) hkd.1 hkd.2.2 hclo.2.1 hnx.1 hclo.2.2 hnx.2
    have ia := fun {X' L' tops} => putF_ab hI hx hz2 lv hU (okT_mono hf hclo.1 (Int.le_refl _)) hkd.1 hkd.2.2 hclo.2.1 hnx.1 hclo.2.2 hnx.2 (X' := X') (L' := L') (tops := tops)
    generalize putF X L lv (esX X p)[j].2 x = S at *
    obtain ⟨⟨X1, L1⟩, below, e⟩ := S
    simp only at ih he
    by_cases e0 : e = 0
    · subst e0
      rw [if_pos rfl] at he
      have s := ih.2.ys rfl
      have r := put_row hI k h0 hp hsp hlo hhi hca hcb ⟨h1, h2⟩ ih.2.ext s
      have h6 : szX X p ≤ 6 := k.es.2.2.1
      have h1' : 1 ≤ szX X p := k.es.2.1
      have hln := r.ln
      obtain ⟨Y, M, u, e2, em, hx2, hup, _, _, _, _, hys⟩ := split_T s.iv ih.1 (Or.inr rfl) (by omega) (by omega) r.up r.mem
      rw [he] at em
      simp only [Prod.mk.injEq] at em
      obtain ⟨⟨rfl, rfl⟩, rfl, rfl⟩ := em
      have ab := split_ab (lv := lv + 1) s.iv hx2 (hys rfl) (fun y hy _ => by
        obtain ⟨w, hw⟩ := okC_mem r.ok.2 y hy
        exact ⟨⟨_, _, hw⟩, (r.mem y hy).1.2.2.1, (r.mem y hy).2⟩)
      rw [ab]
      have hlive : ∀ y ∈ esX X p, (∃ a b, okT X lv y.2 a b) ∧ 0 ≤ y.2 ∧ 0 < cntT L T y.2.toNat := fun y hy => by
        obtain ⟨w, hw⟩ := okC_mem hC0 y hy
        have := hI.kid h0 hp y.2 (by unfold kids; exact List.mem_map_of_mem hy)
        exact ⟨⟨_, _, hw⟩, this.1, this.2.2⟩
      have eN : absN X1 (lv + 1) ((esX X p).take j ++ (below ++ (esX X p).drop (j + 1))) = absL X1 lv ((esX X p).take j) ++ (absL X1 lv below ++ absL X1 lv ((esX X p).drop (j + 1))) := by
        show ((esX X p).take j ++ (below ++ (esX X p).drop (j + 1))).map _ = _
        rw [List.map_append, List.map_append]
        rfl
      have ea : absL X1 lv ((esX X p).take j) = absL X lv ((esX X p).take j) := absL.ext hI ih.2.ext fun y hy => hlive y (List.mem_of_mem_take hy)
      have ed : absL X1 lv ((esX X p).drop (j + 1)) = absL X lv ((esX X p).drop (j + 1)) := absL.ext hI ih.2.ext fun y hy => hlive y (List.mem_of_mem_drop hy)
      have eb := ia rfl
      rw [eN, ea, ed, eb]
      have hp2 : putA (lv + 1) (absT X (lv + 1) p) x = splTr (lv + 1) ((absL X lv (esX X p)).take (pickG (absL X lv (esX X p)) x.1) ++ ((match (absL X lv (esX X p))[pickG (absL X lv (esX X p)) x.1]? with | some c => putA lv c.2 x | none => []) ++ (absL X lv (esX X p)).drop (pickG (absL X lv (esX X p)) x.1 + 1))) := rfl
      rw [hp2, ← hpk]
      have g1 : (absL X lv (esX X p))[j]? = some ((esX X p)[j].1, absT X lv (esX X p)[j].2) := by
        unfold absL
        rw [List.getElem?_map, List.getElem?_eq_getElem hj]
        rfl
      rw [g1]
      have t1 : (absL X lv (esX X p)).take j = absL X lv ((esX X p).take j) := (List.map_take).symm
      have t2 : (absL X lv (esX X p)).drop (j + 1) = absL X lv ((esX X p).drop (j + 1)) := (List.map_drop).symm
      rw [t1, t2]
    · rw [if_neg e0] at he
      simp only [Prod.mk.injEq] at he
      exact absurd he.2.2 e0
end Go.Proofs.YtmkinaijkgkgiaaGreat
/- A stretch of a row of trees becomes one node, plain; no condition. -/
namespace Go.Proofs.YtmkinaijkgkgiaaGreat
open Go.RowKit Go.Proofs.U
set_option linter.unusedSimpArgs false
set_option linter.unusedVariables false
/-- A list without the one at a place. -/
def dropAt {α : Type} (l : List α) (i : Nat) : List α := l.take i ++ l.drop (i + 1)
theorem cutL_app (a b : List (Int × Int)) (k : Int) : cutL (a ++ b) k = cutL a k ++ cutL b k := List.filter_append ..
theorem cutL_none {l : List (Int × Int)} {k : Int} (h : ∀ z ∈ l, ¬ z.1 = k) : cutL l k = l := by
  unfold cutL
  rw [List.filter_eq_self]
  intro z hz
  simpa using h z hz
theorem cutL_mid {A M B : List (Int × Int)} {k : Int} (hA : ∀ z ∈ A, ¬ z.1 = k) (hB : ∀ z ∈ B, ¬ z.1 = k) : cutL (A ++ (M ++ B)) k = A ++ (cutL M k ++ B) := by
  rw [cutL_app, cutL_app, cutL_none hA, cutL_none hB]
/-- Of a leaf. -/
theorem cutL_at {l : List (Int × Int)} (hu : KeysUp l) {i : Nat} (hi : i < l.length) {k : Int} (hk : l[i].1 = k) : cutL l k = dropAt l i := by
  have hl : l = l.take i ++ ([l[i]] ++ l.drop (i + 1)) := by
    show l = l.take i ++ l[i] :: l.drop (i + 1)
    rw [List.getElem_cons_drop, List.take_append_drop]
  have hu2 := hu
  rw [hl] at hu2
  obtain ⟨_, _, ha, hb, _⟩ := KeysUp.split hu2
  conv => lhs; rw [hl]
  rw [cutL_mid (fun z hz => by have := ha z hz; omega) (fun z hz => by have := hb z hz; omega)]
  have : cutL [l[i]] k = [] := by unfold cutL; simp [hk]
  rw [this]
  rfl
theorem okN_join {X : DSt} {lv : Nat} {A B : List (Int × Int)} {lo mid hi : Int} (hA : okN X lv A lo mid) (hB : okN X lv B mid hi) (hl : lo ≤ mid) (hm : mid ≤ hi) : okN X lv (A ++ B) lo hi := by
  have hr : ∀ x ∈ A ++ B, lo ≤ x.1 ∧ x.1 < hi := fun x hx => by
    rcases List.mem_append.1 hx with h | h
    · have := okN_rng hA x h; omega
    · have := okN_rng hB x h; omega
  cases lv with
  | zero => exact hr
  | succ lv =>
    refine ⟨hr, (okC_app _ A B hi).2 ⟨okC_hi (f := okT X lv) (fun p a b c k hbc => okT_mono k (Int.le_refl a) hbc) ?_ hA.2, hB.2⟩⟩
    cases B with
    | nil => exact hm
    | cons y r => have := hB.1 y (by simp); exact this.1
theorem up_join {X : DSt} {lv : Nat} {A B : List (Int × Int)} {lo mid hi : Int} (uA : KeysUp A) (uB : KeysUp B) (hA : okN X lv A lo mid) (hB : okN X lv B mid hi) : KeysUp (A ++ B) :=
  KeysUp.app uA uB fun x hx y hy => by
    have := okN_rng hA x hx
    have := okN_rng hB y hy
    omega
theorem len_abN (X : DSt) (lv : Nat) (es : List (Int × Int)) : lenTr lv (absN X lv es) = es.length := by
  cases lv with
  | zero => rfl
  | succ lv => exact List.length_map _
theorem len_abT (X : DSt) (lv : Nat) (p : Int) : lenTr lv (absT X lv p) = szX X p := by rw [absT_N]; exact len_abN X lv _
theorem ab_app (X : DSt) (lv : Nat) (a b : List (Int × Int)) : absN X lv (a ++ b) = appA lv (absN X lv a) (absN X lv b) := by
  cases lv with
  | zero => rfl
  | succ lv => exact List.map_append
theorem spl_one {lv : Nat} {t : Tr lv} (h : lenTr lv t ≤ 6) : splTr lv t = [nodA t] := by
  cases lv with
  | zero => show splG (α := Int) t = _; unfold splG; rw [if_pos (show List.length (α := Int × Int) t ≤ 6 from h)]; rfl
  | succ n => show splG (α := Tr n) t = _; unfold splG; rw [if_pos (show List.length (α := Int × Tr n) t ≤ 6 from h)]; rfl
/-- What comes of a stretch S of a row that has become one node. -/
structure SegIs (X : DSt) (L : List Pg) (R : List Int) (T : List Nat) (lv : Nat) (A S B : List (Int × Int)) (lo hi key : Int) (X1 : DSt) (L1 : List Pg) (es2 : List (Int × Int)) (X2 : DSt) (L2 : List Pg) (t : Int × Int) : Prop where
  ext : Ext X1 L1 X2 L2
  iv : InvT X2 L2 R ([t.2.toNat] ++ T)
  up : KeysUp (A ++ t :: B)
  ok : okN X2 (lv + 1) (A ++ t :: B) lo hi
  ls : lsN X2 (lv + 1) (A ++ t :: B) = cutL (lsN X (lv + 1) (A ++ (S ++ B))) key
  mem : ∀ x ∈ A ++ t :: B, (0 ≤ x.1 ∧ x.1 ≤ 63 ∧ 0 ≤ x.2 ∧ x.2 ≤ 239) ∧ 0 < cntT L2 ([t.2.toNat] ++ T) x.2.toNat
  fr : plFree L1 ≤ plFree L2 + 1
  ct : ∀ q, cntL L2 q ≤ cntL L1 q + 6
  ab : absL X2 lv (A ++ t :: B) = absL X lv A ++ nodA (absN X1 lv es2) :: absL X lv B
theorem seg_ok {X : DSt} {L : List Pg} {R : List Int} {T M1 : List Nat} {X1 : DSt} {L1 : List Pg} {m lv : Nat} {A S B es2 : List (Int × Int)} {lo hi key : Int} (h : InvT X L R T) (hx1 : Ext X L X1 L1) (iv1 : InvT X1 L1 R (M1 ++ T)) (hU : Up X1 L1.length m)
    (hS : 1 ≤ S.length) (hu : KeysUp (A ++ (S ++ B))) (hn : okN X (lv + 1) (A ++ (S ++ B)) lo hi) (hlive : ∀ x ∈ A ++ (S ++ B), (0 ≤ x.1 ∧ x.1 ≤ 63 ∧ 0 ≤ x.2 ∧ x.2 ≤ 239) ∧ 0 < cntT L T x.2.toNat) (hlo : 0 ≤ lo) (hhi : hi ≤ 64)
    (hkA : ∀ z ∈ A.flatMap fun x => lsT X lv x.2, ¬ z.1 = key) (hkB : ∀ z ∈ B.flatMap fun x => lsT X lv x.2, ¬ z.1 = key)
    (h2u : KeysUp es2) (h2n : okN X1 lv es2 (key0 S) (nxt B hi)) (h2l : lsN X1 lv es2 = cutL (S.flatMap fun x => lsT X lv x.2) key) (h21 : 1 ≤ es2.length) (h26 : es2.length ≤ 6)
    (h2m : ∀ x ∈ es2, (0 ≤ x.1 ∧ x.1 ≤ 63 ∧ 0 ≤ x.2 ∧ x.2 ≤ 239) ∧ 0 < cntT L1 (M1 ++ T) x.2.toNat) (h2s : ∀ t ∈ M1, ∃ x ∈ es2, x.2.toNat = t) (hf : 1 ≤ plFree L1) (hc : ∀ q, cntL L1 q + 6 ≤ 255) :
    ∃ X2 L2 t, splF (X1, L1) (kdL lv) es2 = ((X2, L2), [t], 0) ∧ Up X2 L2.length (m + 2) ∧ SegIs X L R T lv A S B lo hi key X1 L1 es2 X2 L2 t := by
  obtain ⟨X2, L2, tops, e, es, hx2, hup, he, h71, h72, hno, hys⟩ := split_T (k := kdL lv) iv1 hU (by unfold kdL; split <;> simp) h21 (by omega) h2u h2m
  have e0 : e = 0 := by
    rcases he with q | q | q
    · exact q
    · have := (h71 q).2 h26; omega
    · exact absurd (fun x => by have := hc x; omega) (h72 q)
  subst e0
  have sp := hys rfl
  have w := split_row (lv := lv) iv1 hx2 sp h2u h2n h21 (by omega) (fun _ x hx => ⟨(h2m x hx).1.2.2.1, (h2m x hx).2⟩)
  have ab := split_ab (lv := lv) iv1 hx2 sp (fun x hx q => by
    obtain ⟨a, b, k⟩ := okN_kid h2n x hx q
    exact ⟨⟨a, b, k⟩, (h2m x hx).1.2.2.1, (h2m x hx).2⟩)
  rcases w.sz with ⟨t, rfl, hsz, _⟩ | ⟨_, _, _, h7, _⟩
  · have hxx := hx1.trans hx2
    have hr := hn.1
    have hC := hn.2
    obtain ⟨ca, csb⟩ := (okC_app _ A (S ++ B) hi).1 hC
    obtain ⟨cs, cb⟩ := (okC_app _ S B hi).1 csb
    have hlA : ∀ x ∈ A, 0 ≤ x.2 ∧ 0 < cntT L T x.2.toNat := fun x hx => ⟨(hlive x (by simp [hx])).1.2.2.1, (hlive x (by simp [hx])).2⟩
    have hlB : ∀ x ∈ B, 0 ≤ x.2 ∧ 0 < cntT L T x.2.toNat := fun x hx => ⟨(hlive x (by simp [hx])).1.2.2.1, (hlive x (by simp [hx])).2⟩
    have ea : okC (okT X2 lv) A (nxt (S ++ B) hi) ∧ (A.flatMap fun x => lsT X2 lv x.2) = A.flatMap fun x => lsT X lv x.2 :=
      ⟨okC_mono (fun x hx w hw => (okT.ext h hxx hw (hlA x hx).1 (hlA x hx).2).1) ca, flatMap_congr fun x hx => by
        obtain ⟨w, hw⟩ := okC_mem ca x hx
        exact (okT.ext h hxx hw (hlA x hx).1 (hlA x hx).2).2.1⟩
    have eb : okC (okT X2 lv) B hi ∧ (B.flatMap fun x => lsT X2 lv x.2) = B.flatMap fun x => lsT X lv x.2 :=
      ⟨okC_mono (fun x hx w hw => (okT.ext h hxx hw (hlB x hx).1 (hlB x hx).2).1) cb, flatMap_congr fun x hx => by
        obtain ⟨w, hw⟩ := okC_mem cb x hx
        exact (okT.ext h hxx hw (hlB x hx).1 (hlB x hx).2).2.1⟩
    have ht := w.ok.1 t (by simp)
    have hks : nxt (S ++ B) hi = key0 S := by rw [nxt_app]; exact nxt_key0 hS _
    obtain ⟨s0, hs0, hsk⟩ := key0_mem hS
    obtain ⟨uA, uSB, hAS⟩ := List.pairwise_append.1 hu
    obtain ⟨uS, uB, hSB⟩ := List.pairwise_append.1 uSB
    have hAt : ∀ x ∈ A, x.1 < t.1 := fun x hx => by
      have := hAS x hx s0 (List.mem_append_left _ hs0)
      omega
    have hnb : nxt B hi ≤ hi ∧ ∀ y ∈ B, nxt B hi ≤ y.1 := by
      cases B with
      | nil => exact ⟨Int.le_refl _, by simp⟩
      | cons y r =>
        refine ⟨?_, fun z hz => ?_⟩
        · have := hr y (by simp); simp only [nxt]; omega
        · rcases List.mem_cons.1 hz with rfl | hz
          · exact Int.le_refl _
          · have := KeysUp.head uB z hz; simp only [nxt]; omega
    have htB : ∀ y ∈ B, t.1 < y.1 := fun y hy => by have := hnb.2 y hy; omega
    have hs0r := hr s0 (by simp [hs0])
    have htr : lo ≤ t.1 ∧ t.1 < hi := by omega
    have htp := w.pg t (by simp)
    have hup' : KeysUp (A ++ t :: B) := KeysUp.app uA (List.pairwise_cons.2 ⟨htB, uB⟩) fun x hx y hy => by
      rcases List.mem_cons.1 hy with rfl | hy
      · exact hAt x hx
      · exact hAS x hx y (List.mem_append_right _ hy)
    have hiv : InvT X2 L2 R ([t.2.toNat] ++ T) := by
      refine InvT.lessL (S := M1) (InvT.swap sp.iv) fun q hq => ?_
      obtain ⟨x, hx, rfl⟩ := h2s q hq
      rw [sp.ct x.2.toNat]
      have hp0 := (h2m x hx).1.2.2.1
      have : 0 < (es2.map (·.2)).count ((x.2.toNat : Nat) : Int) := List.count_pos_iff.2 (by
        rw [Int.toNat_of_nonneg hp0]
        exact List.mem_map_of_mem (f := fun x : Int × Int => x.2) hx)
      omega
    have hmono : ∀ x ∈ A ++ (S ++ B), 0 < cntT L2 ([t.2.toNat] ++ T) x.2.toNat := fun x hx => by
      have := (hxx.kp x.2.toNat (h.live (hlive x hx).2).1).2.2
      have h2 := (hlive x hx).2
      unfold cntT at h2 ⊢
      rw [List.count_append]; omega
    have habA : absL X2 lv A = absL X lv A := absL.ext h hxx fun y hy => by
      obtain ⟨w, hw⟩ := okC_mem ca y hy
      exact ⟨⟨_, _, hw⟩, hlA y hy⟩
    have habB : absL X2 lv B = absL X lv B := absL.ext h hxx fun y hy => by
      obtain ⟨w, hw⟩ := okC_mem cb y hy
      exact ⟨⟨_, _, hw⟩, hlB y hy⟩
    refine ⟨X2, L2, t, es, hup, hx2, hiv, hup', ⟨?_, ?_⟩, ?_, ?_, ?_, fun q => ?_, ?_⟩
    · intro x hx
      rcases List.mem_append.1 hx with hx | hx
      · exact hr x (by simp [hx])
      · rcases List.mem_cons.1 hx with rfl | hx
        · exact htr
        · exact hr x (by simp [hx])
    · refine (okC_app _ A (t :: B) hi).2 ⟨?_, (okC_app _ [t] B hi).2 ⟨w.ok.2, eb.1⟩⟩
      refine okC_hi (f := okT X2 lv) (fun p a b c k hbc => okT_mono k (Int.le_refl a) hbc) ?_ ea.1
      rw [hks]
      exact ht.1
    · show ((A ++ t :: B).flatMap fun x => lsT X2 lv x.2) = cutL ((A ++ (S ++ B)).flatMap fun x => lsT X lv x.2) key
      have hlt : ([t].flatMap fun x => lsT X2 lv x.2) = lsN X1 lv es2 := w.ls
      rw [List.flatMap_append, List.flatMap_append, List.flatMap_append, cutL_mid hkA hkB, ← h2l, ← hlt, List.flatMap_cons, ea.2, eb.2]
      simp
    · intro x hx
      rcases List.mem_append.1 hx with hx | hx
      · exact ⟨(hlive x (by simp [hx])).1, hmono x (by simp [hx])⟩
      · rcases List.mem_cons.1 hx with rfl | hx
        · exact ⟨⟨by omega, by omega, htp⟩, hiv.mem (by simp)⟩
        · exact ⟨(hlive x (by simp [hx])).1, hmono x (by simp [hx])⟩
    · rcases sp.ways with ⟨_, p, _, _, hfr⟩ | ⟨h6, _⟩
      · exact hfr
      · omega
    · rw [sp.ct q]
      have := cnt_le es2 (q : Int)
      omega
    · have e1 : absL X2 lv (A ++ t :: B) = absL X2 lv A ++ (absL X2 lv [t] ++ absL X2 lv B) := by
        unfold absL
        rw [List.map_append, List.map_cons]
        rfl
      rw [e1, habA, habB, ab, spl_one (by rw [len_abN]; exact h26)]
      rfl
  · omega
end Go.Proofs.YtmkinaijkgkgiaaGreat
/- A key cut out below a node's entries: the function, and what comes of it, plain; no condition. -/
namespace Go.Proofs.YtmkinaijkgkgiaaGreat
open Go.RowKit Go.Proofs.U
set_option linter.unusedSimpArgs false
set_option linter.unusedVariables false
/-- Which neighbour has room for so many. -/
def besF (X : DSt) (l : List (Int × Int)) (i n : Nat) : Nat :=
  if 1 ≤ i ∧ szX X (l.getD (i - 1) (0, 0)).2 + n ≤ 6 then i - 1 else if i + 1 < l.length ∧ szX X (l.getD (i + 1) (0, 0)).2 + n ≤ 6 then i + 1 else i
def othF (X : DSt) (l : List (Int × Int)) (i j : Nat) : List (Int × Int) := if j = i then [] else esX X (l.getD j (0, 0)).2
def joinF (X : DSt) (l : List (Int × Int)) (i j : Nat) (c : List (Int × Int)) : List (Int × Int) := if j < i then othF X l i j ++ c else c ++ othF X l i j
/-- A changed child is made, with the neighbour that has room for it. -/
def placeF (S : DSt × List Pg) (k : Int) (l : List (Int × Int)) (i : Nat) (c : List (Int × Int)) : (DSt × List Pg) × List (Int × Int) × Int :=
  if c.length = 0 then (S, dropAt l i, 0) else
    ((splF S k (joinF S.1 l i (besF S.1 l i c.length) c)).1,
      l.take (min i (besF S.1 l i c.length)) ++ ((splF S k (joinF S.1 l i (besF S.1 l i c.length) c)).2.1 ++ l.drop (max i (besF S.1 l i c.length) + 1)),
      (splF S k (joinF S.1 l i (besF S.1 l i c.length) c)).2.2)
/-- A node's entries without a key that is below it. -/
def wioF (X : DSt) (L : List Pg) : Nat → List (Int × Int) → Int → (DSt × List Pg) × List (Int × Int) × Int
  | 0, es, key => ((X, L), cutL es key, 0)
  | lv + 1, es, key =>
    if (wioF X L lv (esX X (es.getD (pickX es key) (0, 0)).2) key).2.2 = 0 then
      placeF (wioF X L lv (esX X (es.getD (pickX es key) (0, 0)).2) key).1 (kdL lv) es (pickX es key) (wioF X L lv (esX X (es.getD (pickX es key) (0, 0)).2) key).2.1
    else ((wioF X L lv (esX X (es.getD (pickX es key) (0, 0)).2) key).1, [], (wioF X L lv (esX X (es.getD (pickX es key) (0, 0)).2) key).2.2)
theorem getD_at {l : List (Int × Int)} {A B : List (Int × Int)} {x : Int × Int} (h : l = A ++ x :: B) : l.getD A.length (0, 0) = x := by
  subst h
  simp [List.getD]
/-- The three ways of a neighbour. -/
theorem bes_cases (X : DSt) (A B : List (Int × Int)) (x : Int × Int) (c : List (Int × Int)) :
    (∃ A' a, A = A' ++ [a] ∧ szX X a.2 + c.length ≤ 6 ∧ besF X (A ++ x :: B) A.length c.length = A'.length ∧ A'.length < A.length ∧
      joinF X (A ++ x :: B) A.length (besF X (A ++ x :: B) A.length c.length) c = esX X a.2 ++ c ∧ (A ++ x :: B).take (min A.length (besF X (A ++ x :: B) A.length c.length)) = A' ∧ (A ++ x :: B).drop (max A.length (besF X (A ++ x :: B) A.length c.length) + 1) = B) ∨
    ((A = [] ∨ ∃ A' a, A = A' ++ [a] ∧ ¬ szX X a.2 + c.length ≤ 6) ∧ ∃ b B', B = b :: B' ∧ szX X b.2 + c.length ≤ 6 ∧ besF X (A ++ x :: B) A.length c.length = A.length + 1 ∧
      joinF X (A ++ x :: B) A.length (besF X (A ++ x :: B) A.length c.length) c = c ++ esX X b.2 ∧ (A ++ x :: B).take (min A.length (besF X (A ++ x :: B) A.length c.length)) = A ∧ (A ++ x :: B).drop (max A.length (besF X (A ++ x :: B) A.length c.length) + 1) = B') ∨
    ((A = [] ∨ ∃ A' a, A = A' ++ [a] ∧ ¬ szX X a.2 + c.length ≤ 6) ∧ (B = [] ∨ ∃ b B', B = b :: B' ∧ ¬ szX X b.2 + c.length ≤ 6) ∧ besF X (A ++ x :: B) A.length c.length = A.length ∧
      joinF X (A ++ x :: B) A.length (besF X (A ++ x :: B) A.length c.length) c = c ∧ (A ++ x :: B).take (min A.length (besF X (A ++ x :: B) A.length c.length)) = A ∧ (A ++ x :: B).drop (max A.length (besF X (A ++ x :: B) A.length c.length) + 1) = B) := by
  have hdrop1 : (A ++ x :: B).drop (A.length + 1) = B := by simp [List.drop_append]
  by_cases hA : ∃ A' a, A = A' ++ [a] ∧ szX X a.2 + c.length ≤ 6
  · obtain ⟨A', a, rfl, h6⟩ := hA
    have hl : (A' ++ [a]).length = A'.length + 1 := by simp
    have hg : ((A' ++ [a]) ++ x :: B).getD A'.length (0, 0) = a := by simp [List.getD]
    have hb : besF X ((A' ++ [a]) ++ x :: B) (A' ++ [a]).length c.length = A'.length := by
      unfold besF
      rw [hl]
      rw [if_pos ⟨by omega, by rw [show A'.length + 1 - 1 = A'.length by omega, hg]; exact h6⟩]
      omega
    refine Or.inl ⟨A', a, rfl, h6, hb, by omega, ?_, ?_, ?_⟩
    · rw [hb, hl]
      unfold joinF othF
      rw [if_pos (by omega), if_neg (by omega), hg]
    · rw [hb, hl, Nat.min_eq_right (by omega)]
      simp
    · rw [hb, Nat.max_eq_left (by omega)]
      exact hdrop1
  · have hA2 : A = [] ∨ ∃ A' a, A = A' ++ [a] ∧ ¬ szX X a.2 + c.length ≤ 6 := by
      rcases List.eq_nil_or_concat A with e | ⟨A', a, e⟩
      · exact Or.inl e
      · rw [List.concat_eq_append] at e
        exact Or.inr ⟨A', a, e, fun q => hA ⟨A', a, e, q⟩⟩
    have h1 : ¬ (1 ≤ A.length ∧ szX X ((A ++ x :: B).getD (A.length - 1) (0, 0)).2 + c.length ≤ 6) := by
      rintro ⟨g1, g2⟩
      rcases hA2 with e | ⟨A', a, e, hn⟩
      · rw [e] at g1; simp at g1
      · subst e
        have : ((A' ++ [a]) ++ x :: B).getD ((A' ++ [a]).length - 1) (0, 0) = a := by simp [List.getD]
        rw [this] at g2
        exact hn g2
    by_cases hB : ∃ b B', B = b :: B' ∧ szX X b.2 + c.length ≤ 6
    · obtain ⟨b, B', rfl, h6⟩ := hB
      have hg : (A ++ x :: b :: B').getD (A.length + 1) (0, 0) = b := by simp [List.getD]
      have hb : besF X (A ++ x :: b :: B') A.length c.length = A.length + 1 := by
        unfold besF
        rw [if_neg h1, if_pos ⟨by simp, by rw [hg]; exact h6⟩]
      refine Or.inr (Or.inl ⟨hA2, b, B', rfl, h6, hb, ?_, ?_, ?_⟩)
      · rw [hb]
        unfold joinF othF
        rw [if_neg (by omega), if_neg (by omega), hg]
      · rw [hb, Nat.min_eq_left (by omega)]
        simp
      · rw [hb, Nat.max_eq_right (by omega), List.drop_append, List.drop_eq_nil_of_le (by omega), show A.length + 1 + 1 - A.length = 2 by omega]
        rfl
    · have hB2 : B = [] ∨ ∃ b B', B = b :: B' ∧ ¬ szX X b.2 + c.length ≤ 6 := by
        cases B with
        | nil => exact Or.inl rfl
        | cons b B' => exact Or.inr ⟨b, B', rfl, fun q => hB ⟨b, B', rfl, q⟩⟩
      have h2 : ¬ (A.length + 1 < (A ++ x :: B).length ∧ szX X ((A ++ x :: B).getD (A.length + 1) (0, 0)).2 + c.length ≤ 6) := by
        rintro ⟨g1, g2⟩
        rcases hB2 with e | ⟨b, B', e, hn⟩
        · rw [e] at g1; simp at g1
        · subst e
          have : (A ++ x :: b :: B').getD (A.length + 1) (0, 0) = b := by simp [List.getD]
          rw [this] at g2
          exact hn g2
      have hb : besF X (A ++ x :: B) A.length c.length = A.length := by
        unfold besF
        rw [if_neg h1, if_neg h2]
      refine Or.inr (Or.inr ⟨hA2, hB2, hb, ?_, ?_, ?_⟩)
      · rw [hb]
        unfold joinF othF
        rw [if_neg (by omega), if_pos rfl, List.append_nil]
      · rw [hb, Nat.min_self]; simp
      · rw [hb, Nat.max_self]; exact hdrop1
/-- What comes of a key cut out below a node's entries. -/
structure WioIs (X : DSt) (L : List Pg) (R : List Int) (T : List Nat) (lv : Nat) (es : List (Int × Int)) (lo hi key : Int) (X' : DSt) (L' : List Pg) (es' : List (Int × Int)) (M : List Nat) : Prop where
  ext : Ext X L X' L'
  iv : InvT X' L' R (M ++ T)
  ms : ∀ t ∈ M, ∃ x ∈ es', x.2.toNat = t
  m1 : M.length ≤ 1
  up : KeysUp es'
  ok : okN X' lv es' lo hi
  ls : lsN X' lv es' = cutL (lsN X lv es) key
  mem : ∀ x ∈ es', (0 ≤ x.1 ∧ x.1 ≤ 63 ∧ 0 ≤ x.2 ∧ x.2 ≤ 239) ∧ 0 < cntT L' (M ++ T) x.2.toNat
  ln : es'.length ≤ es.length ∧ es.length ≤ es'.length + 1
  fr : plFree L ≤ plFree L' + lv
  ct : ∀ q, cntL L' q ≤ cntL L q + 6 * lv
  ab : cutA lv (absN X lv es) key = some (absN X' lv es')
theorem rowA_none {n : Nat} {c : Tr n} (h : lenTr n c = 0) (A B : List (Int × Tr n)) : rowA c A B = A ++ B := by unfold rowA; rw [if_pos h]
theorem rowA_left {n : Nat} {c : Tr n} (h : ¬ lenTr n c = 0) {A : List (Int × Tr n)} {a : Int × Tr n} (h6 : lenTr n a.2 + lenTr n c ≤ 6) (B : List (Int × Tr n)) : rowA c (A ++ [a]) B = A ++ nodA (appA n a.2 c) :: B := by
  unfold rowA
  rw [if_neg h, List.reverse_append, List.reverse_singleton, List.singleton_append, joinA_cons, if_pos h6, List.reverse_reverse]
theorem rowA_right {n : Nat} {c : Tr n} (h : ¬ lenTr n c = 0) {A : List (Int × Tr n)} (hA : A = [] ∨ ∃ A' a, A = A' ++ [a] ∧ ¬ lenTr n a.2 + lenTr n c ≤ 6) (B : List (Int × Tr n)) : rowA c A B = A ++ joinB c B := by
  unfold rowA
  rw [if_neg h]
  rcases hA with rfl | ⟨A', a, rfl, h6⟩
  · rfl
  · rw [List.reverse_append, List.reverse_singleton, List.singleton_append, joinA_cons, if_neg h6, List.reverse_cons, List.reverse_reverse]
end Go.Proofs.YtmkinaijkgkgiaaGreat
