/- Texts JX, JY, TB, TE, JW, TF of the proof of TreeRoom, one behind the other. -/
import Derived.Test.YtkhdniccnefdhaaBundleTreeRoom1
import Derived.Test.YtkhdniccnefdhaaBundleTreeRoom2
import Derived.Test.YtkhdniccnefdhaaBundleTreeRoom3
import Derived.Test.YtkhdniccnefdhaaBundleTreeRoom4
import Derived.Test.YtkhdniccnefdhaaBundleTreeRoom5
import Derived.Test.YtkhdniccnefdhaaBundleTreeRoom6
import Derived.Test.YtkhdniccnefdhaaBundleTreeRoom7
import Derived.Test.YtkhdniccnefdhaaBundleTreeRoom8
import Derived.Test.YtkhdniccnefdhaaBundleTreeRoom9
import Derived.Test.YtkhdniccnefdhaaBundleTreeRoom10
import Derived.Test.YtkhdniccnefdhaaBundleTreeRoom11
import Derived.Test.YtkhdniccnefdhaaBundleTreeRoom12
import Derived.Test.YtkhdniccnefdhaaBundleTreeRoom13
import Derived.Test.YtkhdniccnefdhaaBundleTreeRoom14
import Derived.Test.YtkhdniccnefdhaaBundleTreeRoom15
import Derived.Test.YtkhdniccnefdhaaBundleTreeRoom16
import Derived.Test.YtkhdniccnefdhaaBundleTreeRoom17
import Derived.Test.YtkhdniccnefdhaaBundleTreeRoom18
import Derived.Test.YtkhdniccnefdhaaBundleTreeRoom19
import Derived.Test.YtkhdniccnefdhaaBundleTreeRoom20
/- A tree over a store with blocks and other trees, plain; no condition. -/
namespace Go.Proofs.Ytkhdniccnefdhaa
open Go.RowKit Go.Proofs.U
set_option linter.unusedSimpArgs false
set_option linter.unusedVariables false
/-- The roots: the blocks, and the tree's if there is one. -/
def rtsB (B : List Int) (root : Int) : List Int := if root = -1 then B else B ++ [root]
/-- What other trees are. -/
def OthT (X : DSt) (B : List Int) (O : List (Nat × Int)) : Prop := ∀ t ∈ O, 0 ≤ t.2 ∧ TreeAt X Q2 t.1 t.2 (lsT X t.1 t.2) ∧ (∀ z ∈ lsT X t.1 t.2, z.2 ∈ B) ∧ lsT X t.1 t.2 ≠ []
/-- One tree over a store: B are the pages of blocks, O are other trees. -/
structure OneT (X : DSt) (L : List Pg) (B : List Int) (O : List (Nat × Int)) (lv : Nat) (root : Int) (l : List (Int × Int)) : Prop where
  iv : Inv X L (rtsB (B ++ O.map (·.2)) root)
  ot : OthT X B O
  bl : ∀ b ∈ B, 0 ≤ b ∧ (rdN X b).1.k = 1 ∧ (rdN X b).1.es = []
  rt : RtAt X L [] Q2 lv root l
  pg : ∀ z ∈ l, z.2 ∈ B
  ne : ¬ root = -1 → l ≠ []
  nn : root = -1 ∨ 0 ≤ root
theorem rtsB_B {B : List Int} {root b : Int} (h : b ∈ B) : b ∈ rtsB B root := by
  unfold rtsB; split
  · exact h
  · exact List.mem_append_left _ h
def oneTs (O : List (Nat × Int)) (lv : Nat) (root : Int) : List (Nat × Int) := if root = -1 then O else O ++ [(lv, root)]
theorem OneT.tree {X : DSt} {L : List Pg} {B : List Int} {O : List (Nat × Int)} {lv : Nat} {root : Int} {l : List (Int × Int)} (o : OneT X L B O lv root l) (hr : ¬ root = -1) : 0 ≤ root ∧ lv < 8 ∧ TreeAt X Q2 lv root l := by
  rcases o.rt with ⟨q, _⟩ | ⟨h0, _, hl, t⟩
  · exact absurd q hr
  · exact ⟨h0, hl, t⟩
theorem oneTs_mem {O : List (Nat × Int)} {lv : Nat} {root : Int} {t : Nat × Int} (h : t ∈ oneTs O lv root) : t ∈ O ∨ (¬ root = -1 ∧ t = (lv, root)) := by
  unfold oneTs at h
  split at h
  · exact Or.inl h
  · rename_i e
    rcases List.mem_append.1 h with q | q
    · exact Or.inl q
    · simp at q; exact Or.inr ⟨e, q⟩
theorem OneT.fam {X : DSt} {L : List Pg} {B : List Int} {O : List (Nat × Int)} {lv : Nat} {root : Int} {l : List (Int × Int)} (o : OneT X L B O lv root l) : Fam X (rtsB (B ++ O.map (·.2)) root) Q2 B (oneTs O lv root) := by
  refine ⟨o.bl, fun t ht => ?_, fun r hr => ?_⟩
  · rcases oneTs_mem ht with h | ⟨h, rfl⟩
    · exact ⟨(o.ot t h).1, (o.ot t h).2.1, (o.ot t h).2.2.1⟩
    · obtain ⟨h0, _, t⟩ := o.tree h
      have e : lsT X lv root = l := t.ls
      exact ⟨h0, by show TreeAt X Q2 lv root (lsT X lv root); rw [e]; exact t, by show ∀ z ∈ lsT X lv root, z.2 ∈ B; rw [e]; exact o.pg⟩
  · have key : ∀ r ∈ B ++ O.map (·.2), r ∈ B ∨ ∃ t ∈ O, t.2 = r := by
      intro r hr
      rcases List.mem_append.1 hr with q | q
      · exact Or.inl q
      · obtain ⟨t, ht, e⟩ := List.mem_map.1 q
        exact Or.inr ⟨t, ht, e⟩
    unfold rtsB at hr
    unfold oneTs
    split at hr
    · rename_i h
      rw [if_pos h]
      exact key r hr
    · rename_i h
      rw [if_neg h]
      rcases List.mem_append.1 hr with q | q
      · rcases key r q with q | ⟨t, ht, e⟩
        · exact Or.inl q
        · exact Or.inr ⟨t, List.mem_append_left _ ht, e⟩
      · simp at q; exact Or.inr ⟨(lv, root), by simp, by simp [q]⟩
theorem OneT.len {X : DSt} {L : List Pg} {B : List Int} {O : List (Nat × Int)} {lv : Nat} {root : Int} {l : List (Int × Int)} (o : OneT X L B O lv root l) : l.length ≤ 64 := o.rt.len
theorem TreeAt.occ {X : DSt} {lv : Nat} {root : Int} {l : List (Int × Int)} (t : TreeAt X Q2 lv root l) (hn : l ≠ []) : (occT X lv root).length ≤ l.length := by
  have hp := List.length_pos_iff.2 hn
  cases lv with
  | zero => simp [occT]; omega
  | succ lv =>
    have h2 : 2 ≤ szX X root := by rcases t.rt with q | q; · omega
                                   · exact q
    have := occ_len (Q := Q2) (fun _ q => q) t.ok t.ft h2
    rw [t.ls] at this
    omega
theorem TreeAt.len {X : DSt} {lv : Nat} {root : Int} {l : List (Int × Int)} (t : TreeAt X Q2 lv root l) : l.length ≤ 64 := by
  rw [← t.ls]
  have := KeysUp.len (lsT_up t.ok) (a := 0) (b := 63) (by decide) (fun z hz => by have := lsT_rng t.ok z hz; omega)
  omega
theorem OneT.all {X : DSt} {L : List Pg} {B : List Int} {O : List (Nat × Int)} {lv : Nat} {root : Int} {l : List (Int × Int)} (o : OneT X L B O lv root l) : ∀ t ∈ oneTs O lv root, (occT X t.1 t.2).length ≤ (lsT X t.1 t.2).length ∧ (lsT X t.1 t.2).length ≤ 64 := by
  intro t ht
  rcases oneTs_mem ht with h | ⟨h, rfl⟩
  · exact ⟨(o.ot t h).2.1.occ (o.ot t h).2.2.2, (o.ot t h).2.1.len⟩
  · obtain ⟨_, _, t⟩ := o.tree h
    show (occT X lv root).length ≤ (lsT X lv root).length ∧ (lsT X lv root).length ≤ 64
    rw [t.ls]
    exact ⟨t.occ (o.ne h), o.len⟩
theorem sum_64 {α : Type} {f : α → Nat} (l : List α) (h : ∀ x ∈ l, f x ≤ 64) : (l.map f).sum ≤ 64 * l.length := by
  induction l with
  | nil => simp
  | cons x l ih =>
    have := ih fun y hy => h y (by simp [hy])
    have := h x (by simp)
    simp only [List.map_cons, List.sum_cons, List.length_cons]
    omega
theorem len_flat {α β : Type} (g : α → List β) (l : List α) : (l.flatMap g).length = (l.map fun x => (g x).length).sum := by
  induction l with
  | nil => rfl
  | cons x l ih => rw [List.flatMap_cons, List.length_append, ih, List.map_cons, List.sum_cons]
theorem oneTs_len (O : List (Nat × Int)) (lv : Nat) (root : Int) : (oneTs O lv root).length ≤ O.length + 1 := by
  unfold oneTs; split <;> simp
/-- How often a page is held. -/
theorem OneT.cnt {X : DSt} {L : List Pg} {B : List Int} {O : List (Nat × Int)} {lv : Nat} {root : Int} {l : List (Int × Int)} (o : OneT X L B O lv root l) (q : Nat) : cntL L q ≤ B.length + 65 * (O.length + 1) := by
  have h := o.fam.cnt o.iv (fun t ht => (o.all t ht).1) q
  have h1 : (rtsB (B ++ O.map (·.2)) root).count (q : Int) ≤ B.length + O.length + 1 := by
    refine Nat.le_trans (List.count_le_length) ?_
    unfold rtsB; split <;> simp <;> omega
  have h2 := sum_64 (f := fun t => (lsT X t.1 t.2).length) (oneTs O lv root) fun t ht => (o.all t ht).2
  have h3 := oneTs_len O lv root
  omega
/-- How many are free. -/
theorem OneT.free {X : DSt} {L : List Pg} {B : List Int} {O : List (Nat × Int)} {lv : Nat} {root : Int} {l : List (Int × Int)} (o : OneT X L B O lv root l) (y : PlY L) : L.length ≤ plFree L + (B.length + 64 * (O.length + 1)) := by
  have h := o.fam.used o.iv y
  have h2 := sum_64 (f := fun t => (occT X t.1 t.2).length) (oneTs O lv root) fun t ht => by have := o.all t ht; omega
  have h3 := oneTs_len O lv root
  have h1 : (famP X B (oneTs O lv root)).length ≤ B.length + 64 * (O.length + 1) := by
    unfold famP
    rw [List.length_append, len_flat]
    omega
  omega
theorem OneT.lv5 {X : DSt} {L : List Pg} {B : List Int} {O : List (Nat × Int)} {lv : Nat} {root : Int} {l : List (Int × Int)} (o : OneT X L B O lv root l) (hr : ¬ root = -1) : lv ≤ 5 := by
  obtain ⟨_, _, t⟩ := o.tree hr
  cases lv with
  | zero => omega
  | succ lv =>
    have h2 : 2 ≤ szX X root := by rcases t.rt with q | q; · omega
                                   · exact q
    have h := pow_len (Q := Q2) (fun _ q => q) t.ok t.ft h2
    rw [t.ls] at h
    have := o.len
    by_cases hl : lv + 1 ≤ 5
    · exact hl
    · have : 2 ^ 7 ≤ 2 ^ (lv + 1 + 1) := Nat.pow_le_pow_right (by decide) (by omega)
      omega
/-- Its height. -/
def hgt (lv : Nat) (root : Int) : Nat := if root = -1 then 0 else lv + 1
theorem putL_ne (l : List (Int × Int)) (x : Int × Int) : putL l x ≠ [] := by
  cases l with
  | nil => simp [putL]
  | cons y l => unfold putL; split <;> simp
theorem OthT.ext {X X' : DSt} {L L' : List Pg} {R : List Int} {B : List Int} {O : List (Nat × Int)} (h : Inv X L R) (hx : Ext X L X' L') (hr : ∀ t ∈ O, t.2 ∈ R) (o : OthT X B O) : OthT X' B O := by
  intro t ht
  obtain ⟨h0, k, hb, hn⟩ := o t ht
  have hp := (h.toT.root (hr t ht)).2
  obtain ⟨a1, a2, a3⟩ := okT.ext h.toT hx k.ok h0 hp
  have hf := fitT.ext h.toT hx k.ok h0 hp k.ft
  rw [a2]
  refine ⟨h0, ⟨a1, a2, ?_, hf⟩, hb, hn⟩
  rcases k.rt with q | q
  · exact Or.inl q
  · refine Or.inr ?_
    have e := (hx.kp t.2.toNat (h.toT.live hp).1).1
    have e2 : ((t.2.toNat : Nat) : Int) = t.2 := by omega
    rw [e2] at e
    unfold szX esX at q ⊢
    rw [e]
    exact q
/-- A key is put, the tree is swapped for the new one. -/
theorem OneT.put {X : DSt} {L : List Pg} {B : List Int} {O : List (Nat × Int)} {lv : Nat} {root : Int} {l : List (Int × Int)} (o : OneT X L B O lv root l) {x : Int × Int} (hx : x.2 ∈ B) {X' : DSt} {L' : List Pg} {p' : Int} (r : PutR X L (rtsB (B ++ O.map (·.2)) root) [] Q2 (hgt lv root) (putL l x) X' L' p' 0) (hc : B.length + 65 * O.length ≤ 135) :
    0 ≤ p' ∧ ∃ L2 lv', swF X' L' root p' = (L2, 0) ∧ L2.length = L.length ∧ (PlY L → PlY L2) ∧ OneT X' L2 B O lv' p' (putL l x) := by
  obtain ⟨lv', hlv, iv, t⟩ := r.ys rfl
  have h0 := r.p0 rfl
  have hh : hgt lv root ≤ 6 := by
    unfold hgt; split
    · omega
    · rename_i h; have := o.lv5 h; omega
  have hcc : cntL L' p'.toNat < 255 := by
    have := r.ct rfl p'.toNat
    have := o.cnt p'.toNat
    omega
  have hs : ∃ L2, swF X' L' root p' = (L2, 0) ∧ Inv X' L2 ((B ++ O.map (·.2)) ++ [p']) ∧ L2.length = L'.length ∧ (PlY L' → PlY L2) := by
    unfold rtsB at iv
    split at iv
    · rename_i e
      subst e
      exact swap_first iv h0 hcc
    · rename_i e
      exact swap_in iv h0 e hcc
  obtain ⟨L2, sw, iv2, ln, yg⟩ := hs
  have hp1 : ¬ p' = -1 := by omega
  have hR : rtsB (B ++ O.map (·.2)) p' = (B ++ O.map (·.2)) ++ [p'] := by unfold rtsB; rw [if_neg hp1]
  have hl := iv2.toT.root (r := p') (by simp)
  have hup := o.rt.up.1
  have hot : OthT X' B O := OthT.ext o.iv r.ext (fun t ht => rtsB_B (List.mem_append_right _ (List.mem_map_of_mem ht))) o.ot
  refine ⟨h0, L2, lv', sw, ln.trans r.ext.ln, fun y => yg (r.ext.yg y), ⟨by rw [hR]; exact iv2, hot, fun b hb => ?_, Or.inr ⟨h0, hl.2, by omega, t⟩, fun z hz => ?_, fun _ => putL_ne l x, Or.inr h0⟩⟩
  · obtain ⟨b0, bk, be⟩ := o.bl b hb
    have hb2 := o.iv.toT.root (rtsB_B (root := root) (List.mem_append_left _ hb))
    have hk := (r.ext.kp b.toNat (o.iv.toT.live hb2.2).1).1
    have e : ((b.toNat : Nat) : Int) = b := by omega
    rw [e] at hk
    rw [hk]
    exact ⟨b0, bk, be⟩
  · rcases (mem_putL hup).1 hz with rfl | ⟨q, _⟩
    · exact hx
    · exact o.pg z q
/-- With room, a key is put. -/
theorem OneT.good {X : DSt} {L : List Pg} {B : List Int} {O : List (Nat × Int)} {lv : Nat} {root : Int} {l l' : List (Int × Int)} (o : OneT X L B O lv root l) (y : PlY L) (hc : B.length + 65 * O.length ≤ 135) (hL : B.length + 64 * (O.length + 1) + 13 ≤ L.length) {X' : DSt} {L' : List Pg} {p' e : Int} (r : PutR X L (rtsB (B ++ O.map (·.2)) root) [] Q2 (hgt lv root) l' X' L' p' e) : e = 0 := by
  have hh : hgt lv root ≤ 6 := by
    unfold hgt; split
    · omega
    · rename_i h; have := o.lv5 h; omega
  refine r.good ?_ fun q => ?_
  · have := o.free y; omega
  · have := o.cnt q; omega
end Go.Proofs.Ytkhdniccnefdhaa
/- Build: entries put in one behind the other; no condition. -/
namespace Go.Proofs.Ytkhdniccnefdhaa
open Go.RowKit Go.Proofs.U
set_option linter.unusedSimpArgs false
set_option linter.unusedVariables false
/-- .. behind what turned the pool. -/
theorem StT.pool {w w1 w2 : World} {F F' : Nat → Prop} {gs gp : Nat} {S : DSt × List Pg} {L2 : List Pg} {m : Nat} (h : StT w w1 F F' gs gp S m) (f : Fr (onB1 gp) w1 w2) (s : Sto w2 F' gs gp S.1 L2 m) : StT w w2 F F' gs gp (S.1, L2) m :=
  ⟨s, fun k hk => ⟨(h.ft k hk).1, s.ft k hk⟩, h.fr.thenT (f.mono (fun k _ q => Or.inr q)) (fun _ _ q => q)⟩
theorem OneT.start {X : DSt} {L : List Pg} {B : List Int} {O : List (Nat × Int)} (iv : Inv X L (B ++ O.map (·.2))) (ot : OthT X B O) (bl : ∀ b ∈ B, 0 ≤ b ∧ (rdN X b).1.k = 1 ∧ (rdN X b).1.es = []) : OneT X L B O 0 (-1) [] :=
  ⟨by unfold rtsB; rw [if_pos rfl]; exact iv, ot, bl, Or.inl ⟨rfl, rfl⟩, by simp, fun h => absurd rfl h, Or.inl rfl⟩
end Go.Proofs.Ytkhdniccnefdhaa
/- Put with its answers named ahead of the world; no condition. -/
namespace Go.Proofs.Ytkhdniccnefdhaa
open Go.RowKit Go.Proofs.U
set_option linter.unusedSimpArgs false
set_option linter.unusedVariables false
/-- What Put answers, whatever the world. -/
def PutEx (X : DSt) (L : List Pg) (root : Int) (x : Int × Int) (m : Nat) (X' : DSt) (L' : List Pg) (p' e : Int) : Prop := ∀ (F : Nat → Prop) (gs gp : Nat) (w : World), Sto w F gs gp X L m → Calls Try.prog 9 #[trV gs, .int .i64 root, .int .i64 x.1, .int .i64 x.2] w fun r w' => TopIs w w' F gs gp (X', L') p' e (m + 20) r
theorem Put_tree_ex {X : DSt} {L : List Pg} {R : List Int} {T : List Nat} {Q : List Nat → Prop} {m lv : Nat} {p : Int} {l : List (Int × Int)} (hQ : QOk Q) (hQ34 : Q [3, 4]) (hI : InvT X L R T) (t : TreeAt X Q lv p l) (h0 : 0 ≤ p) (hp : 0 < cntT L T p.toNat) (hlv : lv < 8) (hm : m ≤ 80000) (x : Int × Int) (hk : 0 ≤ x.1 ∧ x.1 ≤ 63) (hpg : 0 ≤ x.2 ∧ 0 < cntT L T x.2.toNat) (hU : Up X L.length m) :
    ∃ X' L' p' e, PutR X L R T Q (lv + 1) (putL l x) X' L' p' e ∧ Up X' L'.length (m + 20) ∧ PutEx X L p x m X' L' p' e := by
  have hE := putF_E hI (x := x) hk hpg lv hU t.ok h0 hp (Int.le_refl _) (Int.le_refl _) hk.1 (by show x.1 < 64; omega)
  have hPc := fun (F : Nat → Prop) (gs gp : Nat) W (s : Sto W F gs gp X L m) => put_lv hI hm x hk hpg lv 0 W t.ok h0 hp (Int.le_refl _) (by omega) (Int.le_refl _) (Int.le_refl _) hk.1 (by show x.1 < 64; omega) s
  generalize putF X L lv p x = S at *
  obtain ⟨⟨X1, L1⟩, tops, e⟩ := S
  simp only at hE
  by_cases hl : 1 < tops.length
  · obtain ⟨rfl, hl2, X2, L2, t2, e2, es, hup, h1, hR⟩ := t.put2 hQ hQ34 hE.2 hE.1 hl
    have i := hE.2.ys rfl
    refine ⟨X2, L2, _, e2, hR, hup.mono (by omega), fun F gs gp w h => ?_⟩
    refine (Put_two p x.1 x.2 hk w h ((X1, L1), tops, 0) hl hl2 (fun y hy => by
      have h3 := i.ok.1 y hy
      have h4 := i.pg y hy
      exact ⟨wfSm (by omega) (by omega), wfSm (by omega) (by omega)⟩) (hPc F gs gp) (by omega) _ es h1).mono ?_
    rintro r w' ⟨F', er, s⟩
    exact ⟨F', er, s.mono (by omega)⟩
  · obtain ⟨h1, hR⟩ := t.put1 hQ hE.2 hl
    refine ⟨X1, L1, _, e, hR, hE.1.mono (by omega), fun F gs gp w h => ?_⟩
    refine (Put_one p x.1 x.2 hk w h ((X1, L1), tops, e) (by show tops.length ≤ 1; omega) h1 (hPc F gs gp)).mono ?_
    rintro r w' ⟨F', er, s⟩
    exact ⟨F', er, s.mono (by omega)⟩
theorem Put_empty_ex {X : DSt} {L : List Pg} {R : List Int} {T : List Nat} {Q : List Nat → Prop} {m : Nat} (hI : InvT X L R T) (hm : m ≤ 80000) (x : Int × Int) (hk : 0 ≤ x.1 ∧ x.1 ≤ 63) (hpg : 0 ≤ x.2 ∧ 0 < cntT L T x.2.toNat) (hU : Up X L.length m) :
    ∃ X' L' p' e, PutR X L R T Q 0 [x] X' L' p' e ∧ Up X' L'.length (m + 20) ∧ PutEx X L (-1) x m X' L' p' e := by
  obtain ⟨X', L', tops, e, es, hup, hl, h1, hR⟩ := put_none (Q := Q) hI hU (z := x) hk hpg
  have hlow := hI.low hpg.2
  have hPc := fun (F : Nat → Prop) (gs gp : Nat) W (s : Sto W F gs gp X L m) => put_n1 (by omega) x ⟨wfSm (by omega) (by omega), wfSm (by omega) (by omega)⟩ 0 W s
  rw [es] at hPc
  refine ⟨X', L', _, e, hR, hup.mono (by omega), fun F gs gp w h => ?_⟩
  refine (Put_one (-1) x.1 x.2 hk w h ((X', L'), tops, e) hl h1 (hPc F gs gp)).mono ?_
  rintro r w' ⟨F', er, s⟩
  exact ⟨F', er, s.mono (by omega)⟩
theorem OneT.Put_ex {X : DSt} {L : List Pg} {B : List Int} {O : List (Nat × Int)} {m lv : Nat} {root : Int} {l : List (Int × Int)} (o : OneT X L B O lv root l) (hm : m ≤ 80000) (x : Int × Int) (hk : 0 ≤ x.1 ∧ x.1 ≤ 63) (hb : x.2 ∈ B) (hU : Up X L.length m) :
    ∃ X' L' p' e, PutR X L (rtsB (B ++ O.map (·.2)) root) [] Q2 (hgt lv root) (putL l x) X' L' p' e ∧ Up X' L'.length (m + 20) ∧ PutEx X L root x m X' L' p' e := by
  have hpg := o.iv.toT.root (rtsB_B (root := root) (List.mem_append_left (O.map (·.2)) hb))
  rcases o.rt with ⟨rfl, rfl⟩ | ⟨h0, hp, hlv, t⟩
  · exact Put_empty_ex o.iv.toT hm x hk hpg hU
  · have e : hgt lv root = lv + 1 := by unfold hgt; rw [if_neg (by omega)]
    rw [e]
    exact Put_tree_ex Q2_ok Q2_34 o.iv.toT t h0 hp hlv hm x hk hpg hU
/-- A state of Build. -/
structure BSt where
  X : DSt
  L : List Pg
  lv : Nat
  root : Int
/-- One step of Build. -/
structure BStep (m : Nat) (x : Int × Int) (s s' : BSt) : Prop where
  put : ∃ L' , PutEx s.X s.L s.root x m s'.X L' s'.root 0 ∧ swF s'.X L' s.root s'.root = (s'.L, 0)
  nn : 0 ≤ s'.root
end Go.Proofs.Ytkhdniccnefdhaa
/- A mark, and what is undone, plain; no condition. -/
namespace Go.Proofs.Ytkhdniccnefdhaa
open Go.RowKit Go.Proofs.U
set_option linter.unusedSimpArgs false
set_option linter.unusedVariables false
theorem free_mark (L : List Pg) : plFree (plMark L) = plFree L := by
  unfold plFree plMark
  rw [List.countP_map]
  congr 1
  funext x
  show (markP x).free = x.free
  unfold markP Pg.free
  split
  · rename_i h; rw [h]; simp
  · rfl
theorem OneT.mark {X : DSt} {L : List Pg} {B : List Int} {O : List (Nat × Int)} {lv : Nat} {root : Int} {l : List (Int × Int)} (o : OneT X L B O lv root l) : OneT X (plMark L) B O lv root l := by
  refine ⟨o.iv.mark, o.ot, o.bl, ?_, o.pg, o.ne, o.nn⟩
  have h := o.rt
  unfold RtAt at h ⊢
  rw [cntT_nil, cntL_mark]
  rwa [cntT_nil] at h
theorem TreeAt.ext {X X' : DSt} {L L' : List Pg} {R : List Int} {T : List Nat} (h : InvT X L R T) (hx : Ext X L X' L') {lv : Nat} {p : Int} {l : List (Int × Int)} (t : TreeAt X Q2 lv p l) (h0 : 0 ≤ p) (hp : 0 < cntT L T p.toNat) : TreeAt X' Q2 lv p l := by
  obtain ⟨a1, a2, a3⟩ := okT.ext h hx t.ok h0 hp
  have hf := fitT.ext h hx t.ok h0 hp t.ft
  refine ⟨a1, a2.trans t.ls, ?_, hf⟩
  rcases t.rt with q | q
  · exact Or.inl q
  · refine Or.inr ?_
    have e := (hx.kp p.toNat (h.live hp).1).1
    rw [Int.toNat_of_nonneg h0] at e
    unfold szX esX at q ⊢
    rw [e]
    exact q
/-- What was done on pages that were free is undone. -/
theorem OneT.undo {X X' : DSt} {L L' : List Pg} {B : List Int} {O : List (Nat × Int)} {lv : Nat} {root : Int} {l : List (Int × Int)} (o : OneT X L B O lv root l) (hx : Ext X L X' L') : OneT X' L B O lv root l := by
  have hT := o.iv.toT
  refine ⟨o.iv.write fun q hq => (hx.kp q (hT.live (by rw [cntT_nil]; exact hq)).1).1, o.ot.ext o.iv hx (fun t ht => rtsB_B (List.mem_append_right _ (List.mem_map_of_mem ht))), fun b hb => ?_, ?_, o.pg, o.ne, o.nn⟩
  · obtain ⟨b0, b1, b2⟩ := o.bl b hb
    have hp := (hT.root (rtsB_B (root := root) (List.mem_append_left (O.map (·.2)) hb))).2
    have e := (hx.kp b.toNat (hT.live hp).1).1
    rw [Int.toNat_of_nonneg b0] at e
    rw [e]
    exact ⟨b0, b1, b2⟩
  · rcases o.rt with ⟨h1, h2⟩ | ⟨h0, hp, h8, t⟩
    · exact Or.inl ⟨h1, h2⟩
    · exact Or.inr ⟨h0, hp, h8, t.ext hT hx h0 hp⟩
end Go.Proofs.Ytkhdniccnefdhaa
/- The document's Same of entries (layer 10); no condition. -/
namespace Go.Proofs.Ytkhdniccnefdhaa
open Go.RowKit Go.Proofs.U
set_option linter.unusedSimpArgs false
set_option linter.unusedVariables false
theorem cells_at {w : World} {b o n c : Nat} {l : List (Int × Int)} (h : SlR enC 2 w (.slice (some ⟨b, o, none⟩) n c) l) (k : Nat) (hk : k < l.length) {x : Int × Int} (hx : Hid (l[k] = x)) : ∀ q u, (enC x)[q]? = some u → w.cell? ⟨b, o + k * 2 + q, none⟩ = some u := by
  intro q u hq
  obtain ⟨hall, ao, cap, hv, hcap, hlen, hnone, hsome⟩ := h
  cases hv
  have hq2 : q < 2 := (List.getElem?_eq_some_iff.1 hq).1
  have hfl := flat_at enC 2 l hall k hk q hq2
  rw [hx.out, hq] at hfl
  have := hsome _ rfl _ _ hfl
  rw [Addr.add_lit] at this
  rw [Nat.add_assoc]
  exact this
set_option maxRecDepth 100000 in
set_option maxHeartbeats 4000000 in
theorem same10_any (va vb : Value) (la lb : List (Int × Int)) (w : World) (ha : SlP .i64 .i64 w va la) (hb : SlP .i64 .i64 w vb lb) (hm : la.length ≤ 1000) :
    Calls Try.prog 18 #[va, vb] w fun r w' => r = .returned (.bool (la == lb)) ∧ Fr noB w w' := by
  obtain ⟨a0, c0, hva, hc0⟩ := ha.1.opn
  obtain ⟨a1, c1, hvb, hc1⟩ := hb.1.opn
  by_cases hne : la.length = lb.length
  · by_cases h0 : la.length = 0
    · have e1 : la = [] := List.eq_nil_of_length_eq_zero h0
      have e2 : lb = [] := List.eq_nil_of_length_eq_zero (by omega)
      subst e1; subst e2
      subst hva; subst hvb
      go_enter Try.func18, Try.ntmps18
      go_wp2
      go_loop [13] (fun i => i = .int .i64 0) (fun _ => 0)
      case atStart => rfl
      case round =>
        subst hrel
        go_wp2
        go_ret
        exact ⟨rfl, Fr.refl _ _⟩
    · clear hva hvb hc0 hc1
      obtain ⟨ba, oa, ca, rfl, hca⟩ := SlR.addr ha.1 (by decide) (by omega)
      obtain ⟨bb, ob, cb, rfl, hcb⟩ := SlR.addr hb.1 (by decide) (by omega)
      have hnt : ((la.length : Int) == (lb.length : Int)) = true := by simp; omega
      have hneI : (la.length : Int) = (lb.length : Int) := by omega
      have hneI := show Hid _ from hneI
      have hne' := show Hid _ from hne
      clear hne
      go_enter Try.func18, Try.ntmps18
      go_wp2
      go_loopw [13] (fun i wr => ∃ (k : Nat), k ≤ la.length ∧ i = .int .i64 (k : Int) ∧ Hid (la.take k = lb.take k) ∧ Fr noB w wr) (fun i _ => la.length - (intOf i).toNat)
      case atStart => exact ⟨0, by omega, rfl, rfl, Fr.refl _ _⟩
      case round =>
        obtain ⟨k, hk, rfl, htk, hf⟩ := hrel
        by_cases hlt : k < la.length
        · have hltb : k < lb.length := by rw [← hne'.out]; exact hlt
          have hlt' : (k : Int) < (la.length : Int) := by omega
          have hltb' : (k : Int) < (lb.length : Int) := by omega
          obtain ⟨x, Hx⟩ : ∃ x, Hid (la[k] = x) := ⟨la[k], (rfl : la[k] = la[k])⟩
          obtain ⟨y, Hy⟩ : ∃ y, Hid (lb[k] = y) := ⟨lb[k], (rfl : lb[k] = lb[k])⟩
          go_wp2
          obtain ⟨w0, HW⟩ : ∃ w0, Hid (wr.drew = w0) := ⟨_, rfl⟩
          have f0 : Fr noB wr w0 := by rw [← HW.out]; exact (Fr.refl _ _).drew
          have z0 := f0.size
          have hSA := (ha.1.fr0 hf).fr0 f0
          have hSB := (hb.1.fr0 hf).fr0 f0
          refine wp_region_chain_layT (by kernel_rfl) [] [none, none, none, none, none, none, none, none, none]
            [fun v => v = .slice (some ⟨ba, oa, none⟩) la.length ca, fun v => v = .int .i64 (k : Int), fun v => v = .pointer (some ⟨ba, oa + k * 2, none⟩), fun v => v = enV x, fun v => v = .slice (some ⟨bb, ob, none⟩) lb.length cb, fun v => v = .int .i64 (k : Int), fun v => v = .pointer (some ⟨bb, ob + k * 2, none⟩), fun v => v = enV y, fun v => v = .bool (!(x == y))]
            (JGX w0) (by rw [HW.out]; exact Fr.refl _ _) (by kernel_rfl) (by kernel_rfl) (by decide) ⟨?o0, ?o1, ?o2, ?o3, ?o4, ?o5, ?o6, ?o7, ?o8, trivial⟩ ?oe
          case o0 =>
            intro A W hv hlen hJ hbase hdL hdH
            have e0 : A.eval (.tmp 0) = .slice (some ⟨ba, oa, none⟩) la.length ca := hbase 0 (by kernel_rfl)
            have f0 : A.tmps[0]?.getD undef = .slice (some ⟨ba, oa, none⟩) la.length ca := by simpa [Act.eval] using e0
            exact light_val rfl (v := .slice (some ⟨ba, oa, none⟩) la.length ca) (by simp [execOp, e0, f0]) hJ rfl
          case o1 =>
            intro A W hv hlen hJ hbase hdL hdH
            have e5 : A.eval (.tmp 5) = .int .i64 (k : Int) := hbase 5 (by kernel_rfl)
            have f5 : A.tmps[5]?.getD undef = .int .i64 (k : Int) := by simpa [Act.eval] using e5
            exact light_val rfl (v := .int .i64 (k : Int)) (by simp [execOp, e5, f5]) hJ rfl
          case o2 =>
            intro A W hv hlen hJ hbase hdL hdH
            have e16 : A.eval (.tmp 16) = .slice (some ⟨ba, oa, none⟩) la.length ca := hdL 0 16 (by kernel_rfl) (by kernel_rfl) (by kernel_rfl)
            have f16 : A.tmps[16]?.getD undef = .slice (some ⟨ba, oa, none⟩) la.length ca := by simpa [Act.eval] using e16
            have e17 : A.eval (.tmp 17) = .int .i64 (k : Int) := hdL 1 17 (by kernel_rfl) (by kernel_rfl) (by kernel_rfl)
            have f17 : A.tmps[17]?.getD undef = .int .i64 (k : Int) := by simpa [Act.eval] using e17
            have hr := run_idxS (P := Try.prog) (w := W) (sz := 2) 31 49 uE en_size ba oa la.length ca .i64 k (by exact hlt)
            exact light_val rfl (v := .pointer (some ⟨ba, oa + k * 2, none⟩)) (by simp [execOp, e16, e17, hr, Result.andThen]) hJ rfl
          case o3 =>
            intro A W hv hlen hJ hbase hdL hdH
            have e18 : A.eval (.tmp 18) = .pointer (some ⟨ba, oa + k * 2, none⟩) := hdL 2 18 (by kernel_rfl) (by kernel_rfl) (by kernel_rfl)
            have f18 : A.tmps[18]?.getD undef = .pointer (some ⟨ba, oa + k * 2, none⟩) := by simpa [Act.eval] using e18
            have hr := run_ldE W ba (oa + k * 2) x (cells_at (hSA.fr0 (show Fr noB w0 W from hJ)) k (by exact hlt) Hx)
            exact light_val rfl (v := enV x) (by simp [execOp, e18, hr, Result.andThen]) hJ rfl
          case o4 =>
            intro A W hv hlen hJ hbase hdL hdH
            have e1 : A.eval (.tmp 1) = .slice (some ⟨bb, ob, none⟩) lb.length cb := hbase 1 (by kernel_rfl)
            have f1 : A.tmps[1]?.getD undef = .slice (some ⟨bb, ob, none⟩) lb.length cb := by simpa [Act.eval] using e1
            exact light_val rfl (v := .slice (some ⟨bb, ob, none⟩) lb.length cb) (by simp [execOp, e1, f1]) hJ rfl
          case o5 =>
            intro A W hv hlen hJ hbase hdL hdH
            have e5 : A.eval (.tmp 5) = .int .i64 (k : Int) := hbase 5 (by kernel_rfl)
            have f5 : A.tmps[5]?.getD undef = .int .i64 (k : Int) := by simpa [Act.eval] using e5
            exact light_val rfl (v := .int .i64 (k : Int)) (by simp [execOp, e5, f5]) hJ rfl
          case o6 =>
            intro A W hv hlen hJ hbase hdL hdH
            have e20 : A.eval (.tmp 20) = .slice (some ⟨bb, ob, none⟩) lb.length cb := hdL 4 20 (by kernel_rfl) (by kernel_rfl) (by kernel_rfl)
            have f20 : A.tmps[20]?.getD undef = .slice (some ⟨bb, ob, none⟩) lb.length cb := by simpa [Act.eval] using e20
            have e21 : A.eval (.tmp 21) = .int .i64 (k : Int) := hdL 5 21 (by kernel_rfl) (by kernel_rfl) (by kernel_rfl)
            have f21 : A.tmps[21]?.getD undef = .int .i64 (k : Int) := by simpa [Act.eval] using e21
            have hr := run_idxS (P := Try.prog) (w := W) (sz := 2) 31 49 uE en_size bb ob lb.length cb .i64 k (by exact hltb)
            exact light_val rfl (v := .pointer (some ⟨bb, ob + k * 2, none⟩)) (by simp [execOp, e20, e21, hr, Result.andThen]) hJ rfl
          case o7 =>
            intro A W hv hlen hJ hbase hdL hdH
            have e22 : A.eval (.tmp 22) = .pointer (some ⟨bb, ob + k * 2, none⟩) := hdL 6 22 (by kernel_rfl) (by kernel_rfl) (by kernel_rfl)
            have f22 : A.tmps[22]?.getD undef = .pointer (some ⟨bb, ob + k * 2, none⟩) := by simpa [Act.eval] using e22
            have hr := run_ldE W bb (ob + k * 2) y (cells_at (hSB.fr0 (show Fr noB w0 W from hJ)) k (by exact hltb) Hy)
            exact light_val rfl (v := enV y) (by simp [execOp, e22, hr, Result.andThen]) hJ rfl
          case o8 =>
            intro A W hv hlen hJ hbase hdL hdH
            have e19 : A.eval (.tmp 19) = enV x := hdL 3 19 (by kernel_rfl) (by kernel_rfl) (by kernel_rfl)
            have f19 : A.tmps[19]?.getD undef = enV x := by simpa [Act.eval] using e19
            have e23 : A.eval (.tmp 23) = enV y := hdL 7 23 (by kernel_rfl) (by kernel_rfl) (by kernel_rfl)
            have f23 : A.tmps[23]?.getD undef = enV y := by simpa [Act.eval] using e23
            have hr := run_neE x y W
            have hg : (eqGuard .neq 49 (.tmp 19) (.tmp 23) (enV x) (enV y)).run Try.prog W = .ok () W := run_eqGuard_agg W _ _ _ _ _ _ en_eqg
            exact light_val rfl (v := .bool (!(x == y))) (by simp [execOp, e19, e23, hr, hg, Result.andThen]) hJ rfl
          case oe =>
            intro vs W' hv hlen hJ hL hH
            have x0 : vs 0 = .slice (some ⟨ba, oa, none⟩) la.length ca := hL 0 (by kernel_rfl) (by kernel_rfl)
            have x1 : vs 1 = .int .i64 (k : Int) := hL 1 (by kernel_rfl) (by kernel_rfl)
            have x2 : vs 2 = .pointer (some ⟨ba, oa + k * 2, none⟩) := hL 2 (by kernel_rfl) (by kernel_rfl)
            have x3 : vs 3 = enV x := hL 3 (by kernel_rfl) (by kernel_rfl)
            have x4 : vs 4 = .slice (some ⟨bb, ob, none⟩) lb.length cb := hL 4 (by kernel_rfl) (by kernel_rfl)
            have x5 : vs 5 = .int .i64 (k : Int) := hL 5 (by kernel_rfl) (by kernel_rfl)
            have x6 : vs 6 = .pointer (some ⟨bb, ob + k * 2, none⟩) := hL 6 (by kernel_rfl) (by kernel_rfl)
            have x7 : vs 7 = enV y := hL 7 (by kernel_rfl) (by kernel_rfl)
            have x8 : vs 8 = .bool (!(x == y)) := hL 8 (by kernel_rfl) (by kernel_rfl)
            simp only [layL, Nat.reduceAdd, Act.put, List.setIfInBounds_toArray, List.set_cons_zero, List.set_cons_succ, x0, x1, x2, x3, x4, x5, x6, x7, x8]
            clear x0 x1 x2 x3 x4 x5 x6 x7 x8 hL hH
            have hF : Fr noB w W' := hf.thenN (f0.thenN hJ)
            clear hJ
            by_cases hxy : x = y
            · have hb : (x == y) = true := by rw [beq_iff_eq]; exact hxy
              rw [hb]
              go_wp2
              go_roundw
              case rel => exact ⟨k + 1, by omega, by go_num, take_eq_succ htk hlt hltb (by rw [Hx.out, Hy.out, hxy]), hF⟩
              case measure => simp [intOf]; omega
            · have hb : (x == y) = false := by rw [beq_eq_false_iff_ne]; exact hxy
              rw [hb]
              have hr : (la == lb) = false := by
                rw [beq_eq_false_iff_ne]
                intro h
                subst h
                exact hxy (Hx.out.symm.trans Hy.out)
              go_wp2
              go_ret
              exact ⟨by first | rfl | (rw [hr]; rfl), hF⟩
        · have hke : k = la.length := by omega
          have hr : (la == lb) = true := by
            rw [beq_iff_eq]
            have h1 := htk.out
            rw [List.take_of_length_le (by omega), List.take_of_length_le (by rw [← hne'.out]; omega)] at h1
            exact h1
          have hlt' : ¬ (k : Int) < (la.length : Int) := by omega
          go_wp2
          go_ret
          exact ⟨by first | rfl | (rw [hr]; rfl), hf⟩
  · subst hva; subst hvb
    have hnt : ((la.length : Int) == (lb.length : Int)) = false := by simp; omega
    have hnt' : ¬ (la.length : Int) = (lb.length : Int) := by omega
    have hr : (la == lb) = false := by
      rw [beq_eq_false_iff_ne]
      intro e; exact hne (by rw [e])
    rw [hr]
    go_enter Try.func18, Try.ntmps18
    go_wp2
    go_ret
    exact ⟨rfl, Fr.refl _ _⟩
end Go.Proofs.Ytkhdniccnefdhaa
/- TreeRoom. (Written by tf_gen.py.) -/
namespace Go.Proofs.Ytkhdniccnefdhaa
open Go.RowKit Go.Proofs.U
set_option linter.unusedSimpArgs false
set_option linter.unusedVariables false
theorem hgt_le {lv : Nat} {root : Int} (h : lv < 8) : hgt lv root ≤ 8 := by unfold hgt; split <;> omega
theorem OneT.hgt_le {X : DSt} {L : List Pg} {B : List Int} {O : List (Nat × Int)} {lv : Nat} {root : Int} {l : List (Int × Int)} (o : OneT X L B O lv root l) : hgt lv root ≤ 8 := by
  rcases o.rt with ⟨rfl, _⟩ | ⟨_, _, h, _⟩
  · unfold hgt; rw [if_pos rfl]; omega
  · exact Go.Proofs.Ytkhdniccnefdhaa.hgt_le h
set_option maxRecDepth 100000 in
set_option maxHeartbeats 16000000 in
theorem troom_walk (n : Int) (v : Value) (keys : List Int) (w : World) (hn : (Lit.int .i64 n).wf = true) (hk : SlI .i64 w v keys) :
    Calls Try.prog 4 #[.int .i64 n, v] w fun r w' => r = .returned (.bool true) ∧ Below w.heap.size w w' := by
  obtain ⟨a0, c0, rfl, hc0⟩ := hk.opn
  by_cases cc0 : n < 6
  · have d0 : decide (n < 6) = true := decide_eq_true cc0
    go_enter Try.func4, Try.ntmps4
    go_wp2_with (first
      | (go_at_call 7; go_must (refine (talive_any _).mono ?_; rintro e w0 ⟨rfl, f0⟩; have z0 := f0.size)))
    go_ret
    exact ⟨rfl, f0.below⟩
  · have d0 : decide (n < 6) = false := decide_eq_false cc0
    by_cases cc1 : (60 : Int) < n
    · have d1 : decide ((60 : Int) < n) = true := decide_eq_true cc1
      go_enter Try.func4, Try.ntmps4
      go_wp2_with (first
        | (go_at_call 7; go_must (refine (talive_any _).mono ?_; rintro e w0 ⟨rfl, f0⟩; have z0 := f0.size)))
      go_ret
      exact ⟨rfl, f0.below⟩
    · have d1 : decide ((60 : Int) < n) = false := decide_eq_false cc1
      by_cases cc2 : (70 : Int) < (keys.length : Int)
      · have d2 : decide ((70 : Int) < (keys.length : Int)) = true := decide_eq_true cc2
        go_enter Try.func4, Try.ntmps4
        go_wp2_with (first
          | (go_at_call 7; go_must (refine (talive_any _).mono ?_; rintro e w0 ⟨rfl, f0⟩; have z0 := f0.size)))
        go_ret
        exact ⟨rfl, f0.below⟩
      · have d2 : decide ((70 : Int) < (keys.length : Int)) = false := decide_eq_false cc2
        have hM := fun W => made_T n (by omega) W
        go_enter Try.func4, Try.ntmps4
        go_wp2_with (first
          | (go_at_call 7; go_must (refine (talive_any _).mono ?_; rintro e w0 ⟨rfl, f0⟩; have z0 := f0.size))
          | (go_at_call 8; go_must (refine (hM _).mono ?_; rintro e w1 ⟨gs, gp, F, X, L, pg, rfl, st1, A1, B1⟩; have z1 := A1.fr.size))
          | (with_reducible refine at_wpP ?_; refine wpList_allocG rfl 25 rfl (.agg #[.pointer none]) [.pointer none] tr_zero rfl ?_; intro g2 w2 hg2 b2 f2 s2; have l2 := b2.lt; have z2 := f2.size)
          | (with_reducible refine at_wpP ?_; refine at_st 25 _ _ rfl ?_; go_must (refine wpList_stT rfl _ _ rfl g2 rfl gs rfl (.pointer none) b2 ?_; intro w3 b3 f3; have F3 := Fr.ownX f2 s2 f3; have z3 := f3.size; have k3 := (b3.cell 0 _ rfl).1)))
        have hgp := st1.ltp
        have hFt := st1.ft
        have st3 := st1.fr0 F3
        have hF3 := st3.ft
        have D3 := (f0.thenN A1.fr).thenN F3
        go_loopw [41, 7] (fun i r wr => ∃ (k : Nat) (Fk : Nat → Prop) (Xk : DSt) (Lk : List Pg) (lv : Nat) (root : Int) (l : List (Int × Int)), k ≤ keys.length ∧ i = .int .i64 (k : Int) ∧ r = .int .i64 root ∧ StT w3 wr F Fk gs gp (Xk, Lk) (1 + 20 * k) ∧ OneT Xk Lk [pg] [] lv root l) (fun i _ _ => keys.length - (intOf i).toNat)
        case atStart => exact ⟨0, F, X, L, 0, -1, [], Nat.zero_le _, rfl, rfl, StT.start st3, OneT.start (by simpa using B1.iv) (by intro t ht; simp at ht) (by intro b hb; simp at hb; subst hb; exact ⟨B1.p0, by rw [B1.rd], by rw [B1.rd]⟩)⟩
        case round =>
          obtain ⟨j, Fj, Xj, Lj, lv, root, l, hj, rfl, rfl, T, o⟩ := hrel
          have zj := T.fr.size
          have D := D3.thenT T.fr (fun i hi q => by
            rcases q with q | q
            · have := A1.f _ q; omega
            · have := A1.p; omega)
          by_cases hlt : j < keys.length
          · obtain ⟨x, Hx⟩ : ∃ x, Hid (keys[j] = x) := ⟨keys[j], (rfl : keys[j] = keys[j])⟩
            have hv1 := (hk.fr0 D).1
            have hlt' : (j : Int) < (keys.length : Int) := by omega
            have hnF : ¬ stB F gp g2 := fun q => by
              rcases q with q | q
              · have := hFt _ q; omega
              · omega
            have bj := b3.fr T.fr hnF
            have hFj := T.st.ft
            have hgpj := T.st.ltp
            have hnF2 : ¬ stB Fj gp g2 := fun q => by
              rcases q with q | q
              · rcases (T.ft _ q).1 with q | q
                · have := hFt _ q; omega
                · omega
              · omega
            have hm5 : 1 + 20 * j ≤ 100000 := by omega
            obtain ⟨fr, HF⟩ : ∃ f : Int, Hid (((plFree Lj : Nat) : Int) = f) := ⟨_, rfl⟩
            have oM := o.mark
            have hfM := free_mark Lj
            have hokM := mark_ok o.iv.di.ok
            have hUM : Up Xj (plMark Lj).length (1 + 20 * j) := by rw [mark_len]; exact T.st.up
            obtain ⟨M, HM⟩ : ∃ M, Hid (plMark Lj = M) := ⟨_, rfl⟩
            rw [HM.out] at oM hfM hokM hUM
            have HFM : Hid (((plFree M : Nat) : Int) = fr) := by show _ = _; rw [hfM]; exact HF.out
            have hgl := o.hgt_le
            have hpgw := o.iv.toT.low (o.iv.toT.root (rtsB_B (root := root) (List.mem_append_left _ (show pg ∈ [pg] by simp)))).2
            have hkey := o.rt.up.2
            have hllen := o.len
            have hwf : ∀ x ∈ l, (Lit.int .i64 x.1).wf = true ∧ (Lit.int .i64 x.2).wf = true := fun x hx => by
              have h1 := hkey x hx
              have h2 : x.2 = pg := by simpa using o.pg x hx
              have h3 := B1.p0
              exact ⟨wfSm (by omega) (by omega), wfSm (by omega) (by omega)⟩
            have hLL : Hid ((l == l) = true) := by show _ = _; simp
            by_cases hx0 : 0 ≤ x ∧ x < 64
            · obtain ⟨X7, L7, p', e, R, up, P⟩ := oM.Put_ex (by omega) (x, pg) ⟨hx0.1, by show x ≤ 63; omega⟩ (by simp) hUM
              have hPut := fun W (h : Sto W Fj gs gp Xj M (1 + 20 * j)) => P Fj gs gp W h
              by_cases e0 : e = 0
              · subst e0
                obtain ⟨h0, L8, lv', sw, ln, yg, o8⟩ := oM.put (x := (x, pg)) (by simp) R (by simp)
                go_wp2_with (first
                  | (with_reducible refine at_wpP ?_; refine at_idx 36 _ _ rfl ?_; go_must (refine wpList_idx1 rfl 36 _ _ rfl 3 Try.underlying36 int_size1 (.slice a0 keys.length c0) _ _ rfl hv1 .i64 (j : Int) j rfl rfl hlt ?_; intro pp u hu hcu; obtain rfl := getX hu hlt Hx.out))
                  | (with_reducible refine at_wpP ?_; refine at_ld 25 _ rfl ?_; have q := b7; go_must (refine wpList_ldT rfl _ rfl g2 rfl gs b7 ?_))
                  | (with_reducible refine at_wpP ?_; refine at_ld 25 _ rfl ?_; have q := b6; go_must (refine wpList_ldT rfl _ rfl g2 rfl gs b6 ?_))
                  | (with_reducible refine at_wpP ?_; refine at_ld 25 _ rfl ?_; have q := bj; go_must (refine wpList_ldT rfl _ rfl g2 rfl gs bj ?_))
                  | (go_at_call 10; go_must (refine (List_any o.iv.toT hm5 o.rt _ T.st).mono ?_; rintro e w5 ⟨ua, rfl, oa, f5⟩; have z5 := f5.size; have b5 := bj.fr0 f5; have k5 := (b5.cell 0 _ rfl).1; have s5 := T.st.fr0 f5))
                  | (go_at_call 13; have q := s5; go_must (refine (npool_any _ s5).mono ?_; rintro e w5 ⟨rfl, rfl⟩))
                  | (go_at_call 14; have q := s5; go_must (refine (free_F s5 HF.out).mono ?_; rintro e w5 ⟨rfl, rfl⟩))
                  | (go_at_call 15; have q := s5; go_must (refine (nmark_any _ s5).mono ?_; rw [HM.out]; rintro e w6 ⟨gm, rfl, hgm, pm, s6, f6⟩; have z6 := f6.size; have lgm := pm.lt; have b6 := b5.ne f6 (by omega); have k6 := (b6.cell 0 _ rfl).1))
                  | (go_at_call 9; go_must (refine (hPut _ s6).mono ?_; rintro e1 w7 ⟨F7, rfl, T7⟩; have z7 := T7.fr.size; have b7 := b6.fr T7.fr hnF2; have k7 := (b7.cell 0 _ rfl).1; have pm7 := pm.fr T7.fr (fun q => by rcases q with q | q; (have := hFj _ q; omega); omega)))
                  | (go_at_call 16; go_must (refine (Swap_F (by omega) (by omega) T7.st sw).mono ?_; rintro e w8 ⟨rfl, s8, f8⟩; have z8 := f8.size)))
                go_roundw
                case rel => exact ⟨j + 1, F7, X7, L8, lv', p', _, by omega, by go_num, rfl, (((((T.fr0 f5).pool f6 s6).trans hF3 T7).pool f8 s8).mono (by omega)), o8⟩
                case measure => simp [intOf]; omega
              · have oU := oM.undo R.ext
                have hlM : Hid (M.length = L7.length) := R.ext.ln.symm
                have hm8 : 1 + 20 * j + 20 ≤ 100000 := by omega
                rcases R.er with q | rfl | rfl
                · exact absurd q e0
                · have h71 := R.e71 rfl
                  have d17 : decide ((17 : Int) < fr) = false := decide_eq_false (by have := HFM.out; omega)
                  skip
                  go_upto_region 21 with (first
                    | (with_reducible refine at_wpP ?_; refine at_idx 36 _ _ rfl ?_; go_must (refine wpList_idx1 rfl 36 _ _ rfl 3 Try.underlying36 int_size1 (.slice a0 keys.length c0) _ _ rfl hv1 .i64 (j : Int) j rfl rfl hlt ?_; intro pp u hu hcu; obtain rfl := getX hu hlt Hx.out))
                    | (with_reducible refine at_wpP ?_; refine at_ld 25 _ rfl ?_; have q := b6; go_must (refine wpList_ldT rfl _ rfl g2 rfl gs b6 ?_))
                    | (with_reducible refine at_wpP ?_; refine at_ld 25 _ rfl ?_; have q := bj; go_must (refine wpList_ldT rfl _ rfl g2 rfl gs bj ?_))
                    | (go_at_call 10; go_must (refine (List_any o.iv.toT hm5 o.rt _ T.st).mono ?_; rintro e w5 ⟨ua, rfl, oa, f5⟩; have z5 := f5.size; have b5 := bj.fr0 f5; have k5 := (b5.cell 0 _ rfl).1; have s5 := T.st.fr0 f5))
                    | (go_at_call 13; have q := s5; go_must (refine (npool_any _ s5).mono ?_; rintro e w5 ⟨rfl, rfl⟩))
                    | (go_at_call 14; have q := s5; go_must (refine (free_F s5 HF.out).mono ?_; rintro e w5 ⟨rfl, rfl⟩))
                    | (go_at_call 15; have q := s5; go_must (refine (nmark_any _ s5).mono ?_; rw [HM.out]; rintro e w6 ⟨gm, rfl, hgm, pm, s6, f6⟩; have z6 := f6.size; have lgm := pm.lt; have b6 := b5.ne f6 (by omega); have k6 := (b6.cell 0 _ rfl).1))
                    | (go_at_call 9; go_must (refine (hPut _ s6).mono ?_; rintro e1 w7 ⟨F7, rfl, T7⟩; have z7 := T7.fr.size; have b7 := b6.fr T7.fr hnF2; have k7 := (b7.cell 0 _ rfl).1; have pm7 := pm.fr T7.fr (fun q => by rcases q with q | q; (have := hFj _ q; omega); omega)))
                    | (go_at_call 17; have q := pm7; go_must (refine (nundo_any _ T7.st pm7 hokM (by first | exact hlM.out | rfl)).mono ?_; rintro e w8 ⟨rfl, s8, f8⟩; have z8 := f8.size; have b8 := b7.ne f8 (by omega); have k8 := (b8.cell 0 _ rfl).1)))
                  go_wp2_with (first
                    | (with_reducible refine at_wpP ?_; refine at_ld 25 _ rfl ?_; have q := b8; go_must (refine wpList_ldT rfl _ rfl g2 rfl gs b8 ?_))
                    | (go_at_call 10; have q := s8; go_must (refine (List_any oU.iv.toT hm8 oU.rt _ s8).mono ?_; rintro e w9 ⟨ub, rfl, ob, f9⟩; have z9 := f9.size; have pb := EnO.slp ob hwf; have pa := EnO.slp ((((oa.fr f6 (fun k hk q => by have := (oa.newB k hk).1; unfold onB1 at q; omega)).fr T7.fr (fun k hk q => by have := (oa.newB k hk).1; rcases q with q | q; (have := hFj _ q; omega); omega)).fr f8 (fun k hk q => by have := (oa.newB k hk).1; unfold onB1 at q; omega)).fr0 f9) hwf; have s9 := s8.fr0 f9))
                    | (go_at_call 18; have q := pb; go_must (refine (same10_any _ _ _ _ _ pb pa (by omega)).mono ?_; rw [hLL.out]; rintro e w10 ⟨rfl, f10⟩; have z10 := f10.size; have s10 := s9.fr0 f10; have k10 := ((((b8.fr0 f9).fr0 f10).cell 0 _ rfl).1)))
                    | (go_at_call 13; have q := s10; go_must (refine (npool_any _ s10).mono ?_; rintro e w10 ⟨rfl, rfl⟩))
                    | (go_at_call 14; have q := s10; go_must (refine (free_F s10 HFM.out).mono ?_; rintro e w10 ⟨rfl, rfl⟩)))
                  go_roundw
                  case rel => exact ⟨j + 1, F7, X7, M, lv, root, l, by omega, by go_num, rfl, ((((((T.fr0 f5).pool f6 s6).trans hF3 T7).pool f8 s8).fr0 f9).fr0 f10).mono (by omega), oU⟩
                  case measure => simp [intOf]; omega
                · skip
                  skip
                  go_upto_region 21 with (first
                    | (with_reducible refine at_wpP ?_; refine at_idx 36 _ _ rfl ?_; go_must (refine wpList_idx1 rfl 36 _ _ rfl 3 Try.underlying36 int_size1 (.slice a0 keys.length c0) _ _ rfl hv1 .i64 (j : Int) j rfl rfl hlt ?_; intro pp u hu hcu; obtain rfl := getX hu hlt Hx.out))
                    | (with_reducible refine at_wpP ?_; refine at_ld 25 _ rfl ?_; have q := b6; go_must (refine wpList_ldT rfl _ rfl g2 rfl gs b6 ?_))
                    | (with_reducible refine at_wpP ?_; refine at_ld 25 _ rfl ?_; have q := bj; go_must (refine wpList_ldT rfl _ rfl g2 rfl gs bj ?_))
                    | (go_at_call 10; go_must (refine (List_any o.iv.toT hm5 o.rt _ T.st).mono ?_; rintro e w5 ⟨ua, rfl, oa, f5⟩; have z5 := f5.size; have b5 := bj.fr0 f5; have k5 := (b5.cell 0 _ rfl).1; have s5 := T.st.fr0 f5))
                    | (go_at_call 13; have q := s5; go_must (refine (npool_any _ s5).mono ?_; rintro e w5 ⟨rfl, rfl⟩))
                    | (go_at_call 14; have q := s5; go_must (refine (free_F s5 HF.out).mono ?_; rintro e w5 ⟨rfl, rfl⟩))
                    | (go_at_call 15; have q := s5; go_must (refine (nmark_any _ s5).mono ?_; rw [HM.out]; rintro e w6 ⟨gm, rfl, hgm, pm, s6, f6⟩; have z6 := f6.size; have lgm := pm.lt; have b6 := b5.ne f6 (by omega); have k6 := (b6.cell 0 _ rfl).1))
                    | (go_at_call 9; go_must (refine (hPut _ s6).mono ?_; rintro e1 w7 ⟨F7, rfl, T7⟩; have z7 := T7.fr.size; have b7 := b6.fr T7.fr hnF2; have k7 := (b7.cell 0 _ rfl).1; have pm7 := pm.fr T7.fr (fun q => by rcases q with q | q; (have := hFj _ q; omega); omega)))
                    | (go_at_call 17; have q := pm7; go_must (refine (nundo_any _ T7.st pm7 hokM (by first | exact hlM.out | rfl)).mono ?_; rintro e w8 ⟨rfl, s8, f8⟩; have z8 := f8.size; have b8 := b7.ne f8 (by omega); have k8 := (b8.cell 0 _ rfl).1)))
                  go_wp2_with (first
                    | (with_reducible refine at_wpP ?_; refine at_ld 25 _ rfl ?_; have q := b8; go_must (refine wpList_ldT rfl _ rfl g2 rfl gs b8 ?_))
                    | (go_at_call 10; have q := s8; go_must (refine (List_any oU.iv.toT hm8 oU.rt _ s8).mono ?_; rintro e w9 ⟨ub, rfl, ob, f9⟩; have z9 := f9.size; have pb := EnO.slp ob hwf; have pa := EnO.slp ((((oa.fr f6 (fun k hk q => by have := (oa.newB k hk).1; unfold onB1 at q; omega)).fr T7.fr (fun k hk q => by have := (oa.newB k hk).1; rcases q with q | q; (have := hFj _ q; omega); omega)).fr f8 (fun k hk q => by have := (oa.newB k hk).1; unfold onB1 at q; omega)).fr0 f9) hwf; have s9 := s8.fr0 f9))
                    | (go_at_call 18; have q := pb; go_must (refine (same10_any _ _ _ _ _ pb pa (by omega)).mono ?_; rw [hLL.out]; rintro e w10 ⟨rfl, f10⟩; have z10 := f10.size; have s10 := s9.fr0 f10; have k10 := ((((b8.fr0 f9).fr0 f10).cell 0 _ rfl).1)))
                    | (go_at_call 13; have q := s10; go_must (refine (npool_any _ s10).mono ?_; rintro e w10 ⟨rfl, rfl⟩))
                    | (go_at_call 14; have q := s10; go_must (refine (free_F s10 HFM.out).mono ?_; rintro e w10 ⟨rfl, rfl⟩)))
                  go_roundw
                  case rel => exact ⟨j + 1, F7, X7, M, lv, root, l, by omega, by go_num, rfl, ((((((T.fr0 f5).pool f6 s6).trans hF3 T7).pool f8 s8).fr0 f9).fr0 f10).mono (by omega), oU⟩
                  case measure => simp [intOf]; omega
            · have hPut := fun W (h : Sto W Fj gs gp Xj M (1 + 20 * j)) => Put_no root x pg (by omega) W h
              have oU := oM
              have hlM : Hid (M.length = M.length) := rfl
              have hm8 : 1 + 20 * j ≤ 100000 := by omega
              by_cases p : 0 ≤ x
              · have p0 : decide ((0 : Int) ≤ x) = true := decide_eq_true p
                have p1 : decide (x < (64 : Int)) = false := decide_eq_false (by omega)
                skip
                go_upto_region 21 with (first
                  | (with_reducible refine at_wpP ?_; refine at_idx 36 _ _ rfl ?_; go_must (refine wpList_idx1 rfl 36 _ _ rfl 3 Try.underlying36 int_size1 (.slice a0 keys.length c0) _ _ rfl hv1 .i64 (j : Int) j rfl rfl hlt ?_; intro pp u hu hcu; obtain rfl := getX hu hlt Hx.out))
                  | (with_reducible refine at_wpP ?_; refine at_ld 25 _ rfl ?_; have q := b6; go_must (refine wpList_ldT rfl _ rfl g2 rfl gs b6 ?_))
                  | (with_reducible refine at_wpP ?_; refine at_ld 25 _ rfl ?_; have q := bj; go_must (refine wpList_ldT rfl _ rfl g2 rfl gs bj ?_))
                  | (go_at_call 10; go_must (refine (List_any o.iv.toT hm5 o.rt _ T.st).mono ?_; rintro e w5 ⟨ua, rfl, oa, f5⟩; have z5 := f5.size; have b5 := bj.fr0 f5; have k5 := (b5.cell 0 _ rfl).1; have s5 := T.st.fr0 f5))
                  | (go_at_call 13; have q := s5; go_must (refine (npool_any _ s5).mono ?_; rintro e w5 ⟨rfl, rfl⟩))
                  | (go_at_call 14; have q := s5; go_must (refine (free_F s5 HF.out).mono ?_; rintro e w5 ⟨rfl, rfl⟩))
                  | (go_at_call 15; have q := s5; go_must (refine (nmark_any _ s5).mono ?_; rw [HM.out]; rintro e w6 ⟨gm, rfl, hgm, pm, s6, f6⟩; have z6 := f6.size; have lgm := pm.lt; have b6 := b5.ne f6 (by omega); have k6 := (b6.cell 0 _ rfl).1))
                  | (go_at_call 9; go_must (refine (hPut _ s6).mono ?_; rintro e1 w7 ⟨F7, rfl, T7⟩; have z7 := T7.fr.size; have b7 := b6.fr T7.fr hnF2; have k7 := (b7.cell 0 _ rfl).1; have pm7 := pm.fr T7.fr (fun q => by rcases q with q | q; (have := hFj _ q; omega); omega)))
                  | (go_at_call 17; have q := pm7; go_must (refine (nundo_any _ T7.st pm7 hokM (by first | exact hlM.out | rfl)).mono ?_; rintro e w8 ⟨rfl, s8, f8⟩; have z8 := f8.size; have b8 := b7.ne f8 (by omega); have k8 := (b8.cell 0 _ rfl).1)))
                go_wp2_with (first
                  | (with_reducible refine at_wpP ?_; refine at_ld 25 _ rfl ?_; have q := b8; go_must (refine wpList_ldT rfl _ rfl g2 rfl gs b8 ?_))
                  | (go_at_call 10; have q := s8; go_must (refine (List_any oU.iv.toT hm8 oU.rt _ s8).mono ?_; rintro e w9 ⟨ub, rfl, ob, f9⟩; have z9 := f9.size; have pb := EnO.slp ob hwf; have pa := EnO.slp ((((oa.fr f6 (fun k hk q => by have := (oa.newB k hk).1; unfold onB1 at q; omega)).fr T7.fr (fun k hk q => by have := (oa.newB k hk).1; rcases q with q | q; (have := hFj _ q; omega); omega)).fr f8 (fun k hk q => by have := (oa.newB k hk).1; unfold onB1 at q; omega)).fr0 f9) hwf; have s9 := s8.fr0 f9))
                  | (go_at_call 18; have q := pb; go_must (refine (same10_any _ _ _ _ _ pb pa (by omega)).mono ?_; rw [hLL.out]; rintro e w10 ⟨rfl, f10⟩; have z10 := f10.size; have s10 := s9.fr0 f10; have k10 := ((((b8.fr0 f9).fr0 f10).cell 0 _ rfl).1)))
                  | (go_at_call 13; have q := s10; go_must (refine (npool_any _ s10).mono ?_; rintro e w10 ⟨rfl, rfl⟩))
                  | (go_at_call 14; have q := s10; go_must (refine (free_F s10 HFM.out).mono ?_; rintro e w10 ⟨rfl, rfl⟩)))
                go_roundw
                case rel => exact ⟨j + 1, F7, Xj, M, lv, root, l, by omega, by go_num, rfl, ((((((T.fr0 f5).pool f6 s6).trans hF3 T7).pool f8 s8).fr0 f9).fr0 f10).mono (by omega), oU⟩
                case measure => simp [intOf]; omega
              · have p0 : decide ((0 : Int) ≤ x) = false := decide_eq_false p
                skip
                go_upto_region 21 with (first
                  | (with_reducible refine at_wpP ?_; refine at_idx 36 _ _ rfl ?_; go_must (refine wpList_idx1 rfl 36 _ _ rfl 3 Try.underlying36 int_size1 (.slice a0 keys.length c0) _ _ rfl hv1 .i64 (j : Int) j rfl rfl hlt ?_; intro pp u hu hcu; obtain rfl := getX hu hlt Hx.out))
                  | (with_reducible refine at_wpP ?_; refine at_ld 25 _ rfl ?_; have q := b6; go_must (refine wpList_ldT rfl _ rfl g2 rfl gs b6 ?_))
                  | (with_reducible refine at_wpP ?_; refine at_ld 25 _ rfl ?_; have q := bj; go_must (refine wpList_ldT rfl _ rfl g2 rfl gs bj ?_))
                  | (go_at_call 10; go_must (refine (List_any o.iv.toT hm5 o.rt _ T.st).mono ?_; rintro e w5 ⟨ua, rfl, oa, f5⟩; have z5 := f5.size; have b5 := bj.fr0 f5; have k5 := (b5.cell 0 _ rfl).1; have s5 := T.st.fr0 f5))
                  | (go_at_call 13; have q := s5; go_must (refine (npool_any _ s5).mono ?_; rintro e w5 ⟨rfl, rfl⟩))
                  | (go_at_call 14; have q := s5; go_must (refine (free_F s5 HF.out).mono ?_; rintro e w5 ⟨rfl, rfl⟩))
                  | (go_at_call 15; have q := s5; go_must (refine (nmark_any _ s5).mono ?_; rw [HM.out]; rintro e w6 ⟨gm, rfl, hgm, pm, s6, f6⟩; have z6 := f6.size; have lgm := pm.lt; have b6 := b5.ne f6 (by omega); have k6 := (b6.cell 0 _ rfl).1))
                  | (go_at_call 9; go_must (refine (hPut _ s6).mono ?_; rintro e1 w7 ⟨F7, rfl, T7⟩; have z7 := T7.fr.size; have b7 := b6.fr T7.fr hnF2; have k7 := (b7.cell 0 _ rfl).1; have pm7 := pm.fr T7.fr (fun q => by rcases q with q | q; (have := hFj _ q; omega); omega)))
                  | (go_at_call 17; have q := pm7; go_must (refine (nundo_any _ T7.st pm7 hokM (by first | exact hlM.out | rfl)).mono ?_; rintro e w8 ⟨rfl, s8, f8⟩; have z8 := f8.size; have b8 := b7.ne f8 (by omega); have k8 := (b8.cell 0 _ rfl).1)))
                go_wp2_with (first
                  | (with_reducible refine at_wpP ?_; refine at_ld 25 _ rfl ?_; have q := b8; go_must (refine wpList_ldT rfl _ rfl g2 rfl gs b8 ?_))
                  | (go_at_call 10; have q := s8; go_must (refine (List_any oU.iv.toT hm8 oU.rt _ s8).mono ?_; rintro e w9 ⟨ub, rfl, ob, f9⟩; have z9 := f9.size; have pb := EnO.slp ob hwf; have pa := EnO.slp ((((oa.fr f6 (fun k hk q => by have := (oa.newB k hk).1; unfold onB1 at q; omega)).fr T7.fr (fun k hk q => by have := (oa.newB k hk).1; rcases q with q | q; (have := hFj _ q; omega); omega)).fr f8 (fun k hk q => by have := (oa.newB k hk).1; unfold onB1 at q; omega)).fr0 f9) hwf; have s9 := s8.fr0 f9))
                  | (go_at_call 18; have q := pb; go_must (refine (same10_any _ _ _ _ _ pb pa (by omega)).mono ?_; rw [hLL.out]; rintro e w10 ⟨rfl, f10⟩; have z10 := f10.size; have s10 := s9.fr0 f10; have k10 := ((((b8.fr0 f9).fr0 f10).cell 0 _ rfl).1)))
                  | (go_at_call 13; have q := s10; go_must (refine (npool_any _ s10).mono ?_; rintro e w10 ⟨rfl, rfl⟩))
                  | (go_at_call 14; have q := s10; go_must (refine (free_F s10 HFM.out).mono ?_; rintro e w10 ⟨rfl, rfl⟩)))
                go_roundw
                case rel => exact ⟨j + 1, F7, Xj, M, lv, root, l, by omega, by go_num, rfl, ((((((T.fr0 f5).pool f6 s6).trans hF3 T7).pool f8 s8).fr0 f9).fr0 f10).mono (by omega), oU⟩
                case measure => simp [intOf]; omega
          · obtain rfl : j = keys.length := by omega
            go_wp2
            go_ret
            exact ⟨rfl, D.below⟩
end Go.Proofs.Ytkhdniccnefdhaa
