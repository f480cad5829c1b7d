/- Texts JX, JY, JZ, TA, TB, TC, JW of the proof of TreeOrders, one behind the other. -/
import Derived.Test.YtkhdniccnefdhaaBundleTreeOrders1
import Derived.Test.YtkhdniccnefdhaaBundleTreeOrders2
import Derived.Test.YtkhdniccnefdhaaBundleTreeOrders3
import Derived.Test.YtkhdniccnefdhaaBundleTreeOrders4
import Derived.Test.YtkhdniccnefdhaaBundleTreeOrders5
import Derived.Test.YtkhdniccnefdhaaBundleTreeOrders6
import Derived.Test.YtkhdniccnefdhaaBundleTreeOrders7
import Derived.Test.YtkhdniccnefdhaaBundleTreeOrders8
import Derived.Test.YtkhdniccnefdhaaBundleTreeOrders9
import Derived.Test.YtkhdniccnefdhaaBundleTreeOrders10
import Derived.Test.YtkhdniccnefdhaaBundleTreeOrders11
import Derived.Test.YtkhdniccnefdhaaBundleTreeOrders12
import Derived.Test.YtkhdniccnefdhaaBundleTreeOrders13
import Derived.Test.YtkhdniccnefdhaaBundleTreeOrders14
import Derived.Test.YtkhdniccnefdhaaBundleTreeOrders15
import Derived.Test.YtkhdniccnefdhaaBundleTreeOrders16
import Derived.Test.YtkhdniccnefdhaaBundleTreeOrders17
import Derived.Test.YtkhdniccnefdhaaBundleTreeOrders18
import Derived.Test.YtkhdniccnefdhaaBundleTreeOrders19
import Derived.Test.YtkhdniccnefdhaaBundleTreeOrders20
/- A tree over a store with blocks and other trees, plain; no condition. -/
namespace Go.Proofs.Ytkhdniccnefdhaa
open Go.RowKit Go.Proofs.U
set_option linter.unusedSimpArgs false
set_option linter.unusedVariables false
/-- The roots: the blocks, and the tree's if there is one. -/
def rtsB (B : List Int) (root : Int) : List Int := if root = -1 then B else B ++ [root]
/-- What other trees are. -/
def OthT (X : DSt) (B : List Int) (O : List (Nat × Int)) : Prop := ∀ t ∈ O, 0 ≤ t.2 ∧ TreeAt X Q2 t.1 t.2 (lsT X t.1 t.2) ∧ (∀ z ∈ lsT X t.1 t.2, z.2 ∈ B) ∧ lsT X t.1 t.2 ≠ []
/-- One tree over a store: B are the pages of blocks, O are other trees. -/
structure OneT (X : DSt) (L : List Pg) (B : List Int) (O : List (Nat × Int)) (lv : Nat) (root : Int) (l : List (Int × Int)) : Prop where
  iv : Inv X L (rtsB (B ++ O.map (·.2)) root)
  ot : OthT X B O
  bl : ∀ b ∈ B, 0 ≤ b ∧ (rdN X b).1.k = 1 ∧ (rdN X b).1.es = []
  rt : RtAt X L [] Q2 lv root l
  pg : ∀ z ∈ l, z.2 ∈ B
  ne : ¬ root = -1 → l ≠ []
  nn : root = -1 ∨ 0 ≤ root
theorem rtsB_B {B : List Int} {root b : Int} (h : b ∈ B) : b ∈ rtsB B root := by
  unfold rtsB; split
  · exact h
  · exact List.mem_append_left _ h
def oneTs (O : List (Nat × Int)) (lv : Nat) (root : Int) : List (Nat × Int) := if root = -1 then O else O ++ [(lv, root)]
theorem OneT.tree {X : DSt} {L : List Pg} {B : List Int} {O : List (Nat × Int)} {lv : Nat} {root : Int} {l : List (Int × Int)} (o : OneT X L B O lv root l) (hr : ¬ root = -1) : 0 ≤ root ∧ lv < 8 ∧ TreeAt X Q2 lv root l := by
  rcases o.rt with ⟨q, _⟩ | ⟨h0, _, hl, t⟩
  · exact absurd q hr
  · exact ⟨h0, hl, t⟩
theorem oneTs_mem {O : List (Nat × Int)} {lv : Nat} {root : Int} {t : Nat × Int} (h : t ∈ oneTs O lv root) : t ∈ O ∨ (¬ root = -1 ∧ t = (lv, root)) := by
  unfold oneTs at h
  split at h
  · exact Or.inl h
  · rename_i e
    rcases List.mem_append.1 h with q | q
    · exact Or.inl q
    · simp at q; exact Or.inr ⟨e, q⟩
theorem OneT.fam {X : DSt} {L : List Pg} {B : List Int} {O : List (Nat × Int)} {lv : Nat} {root : Int} {l : List (Int × Int)} (o : OneT X L B O lv root l) : Fam X (rtsB (B ++ O.map (·.2)) root) Q2 B (oneTs O lv root) := by
  refine ⟨o.bl, fun t ht => ?_, fun r hr => ?_⟩
  · rcases oneTs_mem ht with h | ⟨h, rfl⟩
    · exact ⟨(o.ot t h).1, (o.ot t h).2.1, (o.ot t h).2.2.1⟩
    · obtain ⟨h0, _, t⟩ := o.tree h
      have e : lsT X lv root = l := t.ls
      exact ⟨h0, by show TreeAt X Q2 lv root (lsT X lv root); rw [e]; exact t, by show ∀ z ∈ lsT X lv root, z.2 ∈ B; rw [e]; exact o.pg⟩
  · have key : ∀ r ∈ B ++ O.map (·.2), r ∈ B ∨ ∃ t ∈ O, t.2 = r := by
      intro r hr
      rcases List.mem_append.1 hr with q | q
      · exact Or.inl q
      · obtain ⟨t, ht, e⟩ := List.mem_map.1 q
        exact Or.inr ⟨t, ht, e⟩
    unfold rtsB at hr
    unfold oneTs
    split at hr
    · rename_i h
      rw [if_pos h]
      exact key r hr
    · rename_i h
      rw [if_neg h]
      rcases List.mem_append.1 hr with q | q
      · rcases key r q with q | ⟨t, ht, e⟩
        · exact Or.inl q
        · exact Or.inr ⟨t, List.mem_append_left _ ht, e⟩
      · simp at q; exact Or.inr ⟨(lv, root), by simp, by simp [q]⟩
theorem OneT.len {X : DSt} {L : List Pg} {B : List Int} {O : List (Nat × Int)} {lv : Nat} {root : Int} {l : List (Int × Int)} (o : OneT X L B O lv root l) : l.length ≤ 64 := o.rt.len
theorem TreeAt.occ {X : DSt} {lv : Nat} {root : Int} {l : List (Int × Int)} (t : TreeAt X Q2 lv root l) (hn : l ≠ []) : (occT X lv root).length ≤ l.length := by
  have hp := List.length_pos_iff.2 hn
  cases lv with
  | zero => simp [occT]; omega
  | succ lv =>
    have h2 : 2 ≤ szX X root := by rcases t.rt with q | q; · omega
                                   · exact q
    have := occ_len (Q := Q2) (fun _ q => q) t.ok t.ft h2
    rw [t.ls] at this
    omega
theorem TreeAt.len {X : DSt} {lv : Nat} {root : Int} {l : List (Int × Int)} (t : TreeAt X Q2 lv root l) : l.length ≤ 64 := by
  rw [← t.ls]
  have := KeysUp.len (lsT_up t.ok) (a := 0) (b := 63) (by decide) (fun z hz => by have := lsT_rng t.ok z hz; omega)
  omega
theorem OneT.all {X : DSt} {L : List Pg} {B : List Int} {O : List (Nat × Int)} {lv : Nat} {root : Int} {l : List (Int × Int)} (o : OneT X L B O lv root l) : ∀ t ∈ oneTs O lv root, (occT X t.1 t.2).length ≤ (lsT X t.1 t.2).length ∧ (lsT X t.1 t.2).length ≤ 64 := by
  intro t ht
  rcases oneTs_mem ht with h | ⟨h, rfl⟩
  · exact ⟨(o.ot t h).2.1.occ (o.ot t h).2.2.2, (o.ot t h).2.1.len⟩
  · obtain ⟨_, _, t⟩ := o.tree h
    show (occT X lv root).length ≤ (lsT X lv root).length ∧ (lsT X lv root).length ≤ 64
    rw [t.ls]
    exact ⟨t.occ (o.ne h), o.len⟩
theorem sum_64 {α : Type} {f : α → Nat} (l : List α) (h : ∀ x ∈ l, f x ≤ 64) : (l.map f).sum ≤ 64 * l.length := by
  induction l with
  | nil => simp
  | cons x l ih =>
    have := ih fun y hy => h y (by simp [hy])
    have := h x (by simp)
    simp only [List.map_cons, List.sum_cons, List.length_cons]
    omega
theorem len_flat {α β : Type} (g : α → List β) (l : List α) : (l.flatMap g).length = (l.map fun x => (g x).length).sum := by
  induction l with
  | nil => rfl
  | cons x l ih => rw [List.flatMap_cons, List.length_append, ih, List.map_cons, List.sum_cons]
theorem oneTs_len (O : List (Nat × Int)) (lv : Nat) (root : Int) : (oneTs O lv root).length ≤ O.length + 1 := by
  unfold oneTs; split <;> simp
/-- How often a page is held. -/
theorem OneT.cnt {X : DSt} {L : List Pg} {B : List Int} {O : List (Nat × Int)} {lv : Nat} {root : Int} {l : List (Int × Int)} (o : OneT X L B O lv root l) (q : Nat) : cntL L q ≤ B.length + 65 * (O.length + 1) := by
  have h := o.fam.cnt o.iv (fun t ht => (o.all t ht).1) q
  have h1 : (rtsB (B ++ O.map (·.2)) root).count (q : Int) ≤ B.length + O.length + 1 := by
    refine Nat.le_trans (List.count_le_length) ?_
    unfold rtsB; split <;> simp <;> omega
  have h2 := sum_64 (f := fun t => (lsT X t.1 t.2).length) (oneTs O lv root) fun t ht => (o.all t ht).2
  have h3 := oneTs_len O lv root
  omega
/-- How many are free. -/
theorem OneT.free {X : DSt} {L : List Pg} {B : List Int} {O : List (Nat × Int)} {lv : Nat} {root : Int} {l : List (Int × Int)} (o : OneT X L B O lv root l) (y : PlY L) : L.length ≤ plFree L + (B.length + 64 * (O.length + 1)) := by
  have h := o.fam.used o.iv y
  have h2 := sum_64 (f := fun t => (occT X t.1 t.2).length) (oneTs O lv root) fun t ht => by have := o.all t ht; omega
  have h3 := oneTs_len O lv root
  have h1 : (famP X B (oneTs O lv root)).length ≤ B.length + 64 * (O.length + 1) := by
    unfold famP
    rw [List.length_append, len_flat]
    omega
  omega
theorem OneT.lv5 {X : DSt} {L : List Pg} {B : List Int} {O : List (Nat × Int)} {lv : Nat} {root : Int} {l : List (Int × Int)} (o : OneT X L B O lv root l) (hr : ¬ root = -1) : lv ≤ 5 := by
  obtain ⟨_, _, t⟩ := o.tree hr
  cases lv with
  | zero => omega
  | succ lv =>
    have h2 : 2 ≤ szX X root := by rcases t.rt with q | q; · omega
                                   · exact q
    have h := pow_len (Q := Q2) (fun _ q => q) t.ok t.ft h2
    rw [t.ls] at h
    have := o.len
    by_cases hl : lv + 1 ≤ 5
    · exact hl
    · have : 2 ^ 7 ≤ 2 ^ (lv + 1 + 1) := Nat.pow_le_pow_right (by decide) (by omega)
      omega
/-- Its height. -/
def hgt (lv : Nat) (root : Int) : Nat := if root = -1 then 0 else lv + 1
theorem putL_ne (l : List (Int × Int)) (x : Int × Int) : putL l x ≠ [] := by
  cases l with
  | nil => simp [putL]
  | cons y l => unfold putL; split <;> simp
theorem OthT.ext {X X' : DSt} {L L' : List Pg} {R : List Int} {B : List Int} {O : List (Nat × Int)} (h : Inv X L R) (hx : Ext X L X' L') (hr : ∀ t ∈ O, t.2 ∈ R) (o : OthT X B O) : OthT X' B O := by
  intro t ht
  obtain ⟨h0, k, hb, hn⟩ := o t ht
  have hp := (h.toT.root (hr t ht)).2
  obtain ⟨a1, a2, a3⟩ := okT.ext h.toT hx k.ok h0 hp
  have hf := fitT.ext h.toT hx k.ok h0 hp k.ft
  rw [a2]
  refine ⟨h0, ⟨a1, a2, ?_, hf⟩, hb, hn⟩
  rcases k.rt with q | q
  · exact Or.inl q
  · refine Or.inr ?_
    have e := (hx.kp t.2.toNat (h.toT.live hp).1).1
    have e2 : ((t.2.toNat : Nat) : Int) = t.2 := by omega
    rw [e2] at e
    unfold szX esX at q ⊢
    rw [e]
    exact q
/-- A key is put, the tree is swapped for the new one. -/
theorem OneT.put {X : DSt} {L : List Pg} {B : List Int} {O : List (Nat × Int)} {lv : Nat} {root : Int} {l : List (Int × Int)} (o : OneT X L B O lv root l) {x : Int × Int} (hx : x.2 ∈ B) {X' : DSt} {L' : List Pg} {p' : Int} (r : PutR X L (rtsB (B ++ O.map (·.2)) root) [] Q2 (hgt lv root) (putL l x) X' L' p' 0) (hc : B.length + 65 * O.length ≤ 135) :
    0 ≤ p' ∧ ∃ L2 lv', swF X' L' root p' = (L2, 0) ∧ L2.length = L.length ∧ (PlY L → PlY L2) ∧ OneT X' L2 B O lv' p' (putL l x) := by
  obtain ⟨lv', hlv, iv, t⟩ := r.ys rfl
  have h0 := r.p0 rfl
  have hh : hgt lv root ≤ 6 := by
    unfold hgt; split
    · omega
    · rename_i h; have := o.lv5 h; omega
  have hcc : cntL L' p'.toNat < 255 := by
    have := r.ct rfl p'.toNat
    have := o.cnt p'.toNat
    omega
  have hs : ∃ L2, swF X' L' root p' = (L2, 0) ∧ Inv X' L2 ((B ++ O.map (·.2)) ++ [p']) ∧ L2.length = L'.length ∧ (PlY L' → PlY L2) := by
    unfold rtsB at iv
    split at iv
    · rename_i e
      subst e
      exact swap_first iv h0 hcc
    · rename_i e
      exact swap_in iv h0 e hcc
  obtain ⟨L2, sw, iv2, ln, yg⟩ := hs
  have hp1 : ¬ p' = -1 := by omega
  have hR : rtsB (B ++ O.map (·.2)) p' = (B ++ O.map (·.2)) ++ [p'] := by unfold rtsB; rw [if_neg hp1]
  have hl := iv2.toT.root (r := p') (by simp)
  have hup := o.rt.up.1
  have hot : OthT X' B O := OthT.ext o.iv r.ext (fun t ht => rtsB_B (List.mem_append_right _ (List.mem_map_of_mem ht))) o.ot
  refine ⟨h0, L2, lv', sw, ln.trans r.ext.ln, fun y => yg (r.ext.yg y), ⟨by rw [hR]; exact iv2, hot, fun b hb => ?_, Or.inr ⟨h0, hl.2, by omega, t⟩, fun z hz => ?_, fun _ => putL_ne l x, Or.inr h0⟩⟩
  · obtain ⟨b0, bk, be⟩ := o.bl b hb
    have hb2 := o.iv.toT.root (rtsB_B (root := root) (List.mem_append_left _ hb))
    have hk := (r.ext.kp b.toNat (o.iv.toT.live hb2.2).1).1
    have e : ((b.toNat : Nat) : Int) = b := by omega
    rw [e] at hk
    rw [hk]
    exact ⟨b0, bk, be⟩
  · rcases (mem_putL hup).1 hz with rfl | ⟨q, _⟩
    · exact hx
    · exact o.pg z q
/-- With room, a key is put. -/
theorem OneT.good {X : DSt} {L : List Pg} {B : List Int} {O : List (Nat × Int)} {lv : Nat} {root : Int} {l l' : List (Int × Int)} (o : OneT X L B O lv root l) (y : PlY L) (hc : B.length + 65 * O.length ≤ 135) (hL : B.length + 64 * (O.length + 1) + 13 ≤ L.length) {X' : DSt} {L' : List Pg} {p' e : Int} (r : PutR X L (rtsB (B ++ O.map (·.2)) root) [] Q2 (hgt lv root) l' X' L' p' e) : e = 0 := by
  have hh : hgt lv root ≤ 6 := by
    unfold hgt; split
    · omega
    · rename_i h; have := o.lv5 h; omega
  refine r.good ?_ fun q => ?_
  · have := o.free y; omega
  · have := o.cnt q; omega
end Go.Proofs.Ytkhdniccnefdhaa
/- Build: entries put in one behind the other; no condition. -/
namespace Go.Proofs.Ytkhdniccnefdhaa
open Go.RowKit Go.Proofs.U
set_option linter.unusedSimpArgs false
set_option linter.unusedVariables false
/-- Put, of a tree or of None. -/
theorem OneT.Put_any {F : Nat → Prop} {gs gp : Nat} {X : DSt} {L : List Pg} {B : List Int} {O : List (Nat × Int)} {m lv : Nat} {root : Int} {l : List (Int × Int)} (o : OneT X L B O lv root l) (hm : m ≤ 80000) (x : Int × Int) (hk : 0 ≤ x.1 ∧ x.1 ≤ 63) (hb : x.2 ∈ B) (w : World) (h : Sto w F gs gp X L m) :
    Calls Try.prog 9 #[trV gs, .int .i64 root, .int .i64 x.1, .int .i64 x.2] w fun r w' => ∃ X' L' p' e, TopIs w w' F gs gp (X', L') p' e (m + 20) r ∧ PutR X L (rtsB (B ++ O.map (·.2)) root) [] Q2 (hgt lv root) (putL l x) X' L' p' e := by
  have hpg := o.iv.toT.root (rtsB_B (root := root) (List.mem_append_left (O.map (·.2)) hb))
  rcases o.rt with ⟨rfl, rfl⟩ | ⟨h0, hp, hlv, t⟩
  · exact Put_empty o.iv.toT hm x.1 x.2 hk hpg w h
  · have e : hgt lv root = lv + 1 := by unfold hgt; rw [if_neg (by omega)]
    rw [e]
    exact Put_tree Q2_ok Q2_34 o.iv.toT t h0 hp hlv hm x.1 x.2 hk hpg w h
/-- .. behind what turned the pool. -/
theorem StT.pool {w w1 w2 : World} {F F' : Nat → Prop} {gs gp : Nat} {S : DSt × List Pg} {L2 : List Pg} {m : Nat} (h : StT w w1 F F' gs gp S m) (f : Fr (onB1 gp) w1 w2) (s : Sto w2 F' gs gp S.1 L2 m) : StT w w2 F F' gs gp (S.1, L2) m :=
  ⟨s, fun k hk => ⟨(h.ft k hk).1, s.ft k hk⟩, h.fr.thenT (f.mono (fun k _ q => Or.inr q)) (fun _ _ q => q)⟩
/-- What Build hands. -/
def BuildIs (w w' : World) (F : Nat → Prop) (gs gp : Nat) (L : List Pg) (B : List Int) (O : List (Nat × Int)) (es : List (Int × Int)) (m : Nat) (r : Ending) : Prop := ∃ F' X' L' lv root, r = .returned (.tuple #[.int .i64 root, .int .i64 0]) ∧ StT w w' F F' gs gp (X', L') m ∧ OneT X' L' B O lv root (es.foldl putL []) ∧ PlY L' ∧ L'.length = L.length
theorem OneT.start {X : DSt} {L : List Pg} {B : List Int} {O : List (Nat × Int)} (iv : Inv X L (B ++ O.map (·.2))) (ot : OthT X B O) (bl : ∀ b ∈ B, 0 ≤ b ∧ (rdN X b).1.k = 1 ∧ (rdN X b).1.es = []) : OneT X L B O 0 (-1) [] :=
  ⟨by unfold rtsB; rw [if_pos rfl]; exact iv, ot, bl, Or.inl ⟨rfl, rfl⟩, by simp, fun h => absurd rfl h, Or.inl rfl⟩
set_option maxRecDepth 100000 in
set_option maxHeartbeats 4000000 in
theorem Build_any {F : Nat → Prop} {gs gp : Nat} {X : DSt} {L : List Pg} {B : List Int} {O : List (Nat × Int)} {m : Nat} (es : List (Int × Int)) (v : Value) (w : World) (h : Sto w F gs gp X L m) (o : OneT X L B O 0 (-1) []) (y : PlY L) (hc : B.length + 65 * O.length ≤ 135) (hL : B.length + 64 * (O.length + 1) + 13 ≤ L.length) (hm : m ≤ 10000) (he : es.length ≤ 100) (hes : ∀ x ∈ es, (0 ≤ x.1 ∧ x.1 ≤ 63) ∧ x.2 ∈ B)
    (hS : SlR enC 2 w v es) (hvF : ∀ x, v.ownBlock = some x → ¬ F x ∧ x ≠ gp) :
    Calls Try.prog 21 #[trV gs, v] w fun r w' => BuildIs w w' F gs gp L B O es (m + 20 * es.length) r := by
  obtain ⟨a0, c0, rfl, hc0⟩ := hS.opn
  have hgp := h.ltp
  have hgs := h.lts
  have hFt := h.ft
  have hes' := show Hid _ from hes
  clear hes
  go_enter Try.func21, Try.ntmps21
  go_wp2_with (first
    | (with_reducible refine at_wpP ?_; refine wpList_boxG rfl 25 _ rfl (trV gs) [ptr gs] rfl rfl ?_; intro g1 w1 hg1 b1 f1 s1; have l1 := b1.lt; have z1 := f1.size))
  have H1 := h.fr0 f1
  have hS1 := hS.fr0 f1
  go_loopw [14, 6] (fun i r wr => ∃ (k : Nat) (Fk : Nat → Prop) (Xk : DSt) (Lk : List Pg) (lv : Nat) (root : Int), k ≤ es.length ∧ i = .int .i64 (k : Int) ∧ r = .int .i64 root ∧ StT w1 wr F Fk gs gp (Xk, Lk) (m + 20 * k) ∧ OneT Xk Lk B O lv root ((es.take k).foldl putL []) ∧ PlY Lk ∧ Lk.length = L.length) (fun i _ _ => es.length - (intOf i).toNat)
  case atStart => exact ⟨0, F, X, L, 0, -1, Nat.zero_le _, rfl, rfl, StT.start H1, o, y, rfl⟩
  case round =>
    obtain ⟨j, Fk, Xk, Lk, lv, root, hj, rfl, rfl, T, oj, yj, hlj⟩ := hrel
    have hnF : ∀ x, w.heap.size ≤ x → ¬ stB F gp x := fun x hx q => by
      rcases q with q | q
      · have := hFt _ q; omega
      · omega
    have bj := b1.fr T.fr (hnF _ s1)
    by_cases hlt : j < es.length
    · obtain ⟨x, Hx⟩ : ∃ x, Hid (es[j] = x) := ⟨es[j], (rfl : es[j] = es[j])⟩
      have hx := hes'.out x (by rw [← Hx.out]; exact List.getElem_mem _)
      have hn : (es.take (j + 1)).foldl putL [] = putL ((es.take j).foldl putL []) x := by
        rw [List.take_succ_eq_append_getElem hlt, List.foldl_append, Hx.out]; rfl
      generalize (es.take j).foldl putL [] = l at *
      have hn := show Hid _ from hn
      have hSj := hS1.fr T.fr (fun k hk q => by
        have := hvF k hk
        rcases q with q | q
        · exact this.1 q
        · exact this.2 q)
      have zj := T.fr.size
      have hFk := T.st.ft
      have hgk := T.st.ltp
      have hgsk := T.st.lts
      have hPut := fun W (f : Fr noB _ W) => oj.Put_any (by omega) x hx.1 hx.2 W (T.st.fr0 f)
      have hnFk : ¬ stB Fk gp g1 := fun q => by
        rcases q with q | q
        · rcases (T.ft _ q).1 with q | q
          · have := hFt _ q; omega
          · omega
        · omega
      have hlt' : (j : Int) < (es.length : Int) := by omega
      go_upto_region 6 with (first
        | (with_reducible refine at_wpP ?_; refine at_idx 31 _ _ rfl ?_; go_must (refine wpList_idxR rfl 31 _ _ rfl 49 Try.underlying31 2 en_size _ _ _ rfl hSj (by decide) _ _ j rfl rfl hlt ?_; rw [Hx.out]; intro ba oa hba hca))
        | (with_reducible refine at_wpP ?_; refine at_ld 49 _ rfl ?_; have q := hca; refine wpList_ldE rfl _ rfl ba oa rfl x hca ?_)
        | (with_reducible refine at_wpP ?_; refine wpList_allocE rfl rfl ?_; intro gl w5 hgl b5 f5 sl; have l5 := b5.lt; have z5 := f5.size)
        | (with_reducible refine at_wpP ?_; refine at_st 49 _ _ rfl ?_; go_must (refine wpList_stE rfl _ _ rfl gl rfl (0, 0) x b5 rfl ?_; intro w6 B6 f6; have F6 := Fr.ownX f5 sl f6; have z6 := f6.size; obtain ⟨k0, k1⟩ := B6.all; have b6 := bj.fr0 F6))
        | (with_reducible refine at_wpP ?_; refine at_ld 25 _ rfl ?_; go_must (refine wpList_ldT rfl _ rfl g1 rfl gs b6 ?_))
        | (go_at_call 9; go_must (refine (hPut _ F6).mono ?_; rintro e1 w7 ⟨X2, L2, p2, e2, ⟨F2, he1, T7⟩, R7⟩; subst he1)))
      obtain rfl := oj.good yj hc (by omega) R7
      obtain ⟨h0, L3, lv3, sw, ln3, y3, o3⟩ := oj.put hx.2 R7 hc
      have z7 := T7.fr.size
      have b7 := b6.fr T7.fr hnFk
      have hSw := Swap_F (by omega) (by omega) T7.st sw
      rw [← hn.out] at o3
      go_wp2_with (first
        | (with_reducible refine at_wpP ?_; refine at_ld 25 _ rfl ?_; go_must (refine wpList_ldT rfl _ rfl g1 rfl gs b7 ?_))
        | (go_at_call 16; go_must (refine hSw.mono ?_; rintro e1 w8 ⟨rfl, s8, f8⟩; have z8 := f8.size)))
      go_roundw
      case rel => exact ⟨j + 1, F2, X2, L3, lv3, p2, by omega, by go_num, rfl, ((((T.fr0 F6).trans H1.ft T7).pool f8 s8).mono (by omega)), o3, y3 yj, ln3.trans hlj⟩
      case measure => simp [intOf]; omega
    · obtain rfl : j = es.length := by omega
      rw [List.take_length] at oj
      go_wp2
      go_ret2
      exact ⟨Fk, Xk, Lk, lv, root, rfl, T.pre f1, oj, yj, hlj⟩
end Go.Proofs.Ytkhdniccnefdhaa
/- The same entries in whichever order, plain; no condition. -/
namespace Go.Proofs.Ytkhdniccnefdhaa
open Go.RowKit Go.Proofs.U
set_option linter.unusedSimpArgs false
set_option linter.unusedVariables false
theorem fold_up : ∀ (l : List (Int × Int)) {z : List (Int × Int)}, KeysUp z → KeysUp (l.foldl putL z)
  | [], _, h => h
  | x :: l, _, h => fold_up l (putL_up h)
theorem fold_perm {pg : Int} {a b : List (Int × Int)} (h : a.Perm b) : (∀ x ∈ a, x.2 = pg) → ∀ {z : List (Int × Int)}, KeysUp z → a.foldl putL z = b.foldl putL z := by
  induction h with
  | nil => intro _ z _; rfl
  | cons x _ ih => intro hp z hz; exact ih (fun y hy => hp y (by simp [hy])) (putL_up hz)
  | swap x y l =>
    intro hp z hz
    have hx := hp x (by simp)
    have hy := hp y (by simp)
    have e : putL (putL z y) x = putL (putL z x) y := by
      by_cases hk : y.1 = x.1
      · have : y = x := by
          obtain ⟨y1, y2⟩ := y
          obtain ⟨x1, x2⟩ := x
          simp at hk hx hy
          subst hk; subst hx; subst hy; rfl
        rw [this]
      · exact putL_comm hz hk
    simp only [List.foldl_cons, e]
  | trans h1 _ i1 i2 => intro hp z hz; rw [i1 hp hz]; exact i2 (fun y hy => hp y (h1.mem_iff.2 hy)) hz
theorem fold_turn {pg : Int} (l : List (Int × Int)) (n : Nat) (hp : ∀ x ∈ l, x.2 = pg) : (l.drop n ++ l.take n).foldl putL [] = l.foldl putL [] := by
  refine fold_perm (pg := pg) ?_ (fun x hx => hp x ?_) List.Pairwise.nil
  · have := (List.perm_append_comm (l₁ := l.drop n) (l₂ := l.take n))
    rwa [List.take_append_drop] at this
  · rcases List.mem_append.1 hx with q | q
    · exact List.mem_of_mem_drop q
    · exact List.mem_of_mem_take q
end Go.Proofs.Ytkhdniccnefdhaa
/- TreeOrders; no condition. (Under way: region 15 is open.) -/
namespace Go.Proofs.Ytkhdniccnefdhaa
open Go.RowKit Go.Proofs.U
set_option linter.unusedSimpArgs false
set_option linter.unusedVariables false
/-- The entries that keys are, all with one page. -/
def keyL (pg : Int) (l : List Int) : List (Int × Int) := (l.filter fun k => decide (0 ≤ k) && decide (k < 64)).map fun k => (k, pg)
theorem keyL_snoc_in {pg : Int} (l : List Int) {x : Int} (h : 0 ≤ x ∧ x < 64) : keyL pg (l ++ [x]) = keyL pg l ++ [(x, pg)] := by
  unfold keyL
  rw [List.filter_append, List.map_append]
  simp [h.1, h.2]
theorem keyL_snoc_out {pg : Int} (l : List Int) {x : Int} (h : ¬ (0 ≤ x ∧ x < 64)) : keyL pg (l ++ [x]) = keyL pg l := by
  unfold keyL
  rw [List.filter_append, List.map_append]
  have : ([x].filter fun k => decide (0 ≤ k) && decide (k < 64)) = [] := by
    rw [List.filter_eq_nil_iff]
    intro y hy
    simp at hy
    subst hy
    simp
    omega
  rw [this]; simp
theorem keyL_len (pg : Int) (l : List Int) : (keyL pg l).length ≤ l.length := by
  unfold keyL; rw [List.length_map]; exact List.length_filter_le _ _
theorem keyL_in {pg : Int} {l : List Int} {x : Int × Int} (h : x ∈ keyL pg l) : (0 ≤ x.1 ∧ x.1 ≤ 63) ∧ x.2 = pg := by
  unfold keyL at h
  obtain ⟨k, hk, rfl⟩ := List.mem_map.1 h
  have := (List.mem_filter.1 hk).2
  simp at this
  exact ⟨⟨this.1, by show k ≤ 63; omega⟩, rfl⟩
end Go.Proofs.Ytkhdniccnefdhaa
/- Put with its answers named ahead of the world; no condition. -/
namespace Go.Proofs.Ytkhdniccnefdhaa
open Go.RowKit Go.Proofs.U
set_option linter.unusedSimpArgs false
set_option linter.unusedVariables false
/-- What Put answers, whatever the world. -/
def PutEx (X : DSt) (L : List Pg) (root : Int) (x : Int × Int) (m : Nat) (X' : DSt) (L' : List Pg) (p' e : Int) : Prop := ∀ (F : Nat → Prop) (gs gp : Nat) (w : World), Sto w F gs gp X L m → Calls Try.prog 9 #[trV gs, .int .i64 root, .int .i64 x.1, .int .i64 x.2] w fun r w' => TopIs w w' F gs gp (X', L') p' e (m + 20) r
theorem Put_tree_ex {X : DSt} {L : List Pg} {R : List Int} {T : List Nat} {Q : List Nat → Prop} {m lv : Nat} {p : Int} {l : List (Int × Int)} (hQ : QOk Q) (hQ34 : Q [3, 4]) (hI : InvT X L R T) (t : TreeAt X Q lv p l) (h0 : 0 ≤ p) (hp : 0 < cntT L T p.toNat) (hlv : lv < 8) (hm : m ≤ 80000) (x : Int × Int) (hk : 0 ≤ x.1 ∧ x.1 ≤ 63) (hpg : 0 ≤ x.2 ∧ 0 < cntT L T x.2.toNat) (hU : Up X L.length m) :
    ∃ X' L' p' e, PutR X L R T Q (lv + 1) (putL l x) X' L' p' e ∧ Up X' L'.length (m + 20) ∧ PutEx X L p x m X' L' p' e := by
  have hE := putF_E hI (x := x) hk hpg lv hU t.ok h0 hp (Int.le_refl _) (Int.le_refl _) hk.1 (by show x.1 < 64; omega)
  have hPc := fun (F : Nat → Prop) (gs gp : Nat) W (s : Sto W F gs gp X L m) => put_lv hI hm x hk hpg lv 0 W t.ok h0 hp (Int.le_refl _) (by omega) (Int.le_refl _) (Int.le_refl _) hk.1 (by show x.1 < 64; omega) s
  generalize putF X L lv p x = S at *
  obtain ⟨⟨X1, L1⟩, tops, e⟩ := S
  simp only at hE
  by_cases hl : 1 < tops.length
  · obtain ⟨rfl, hl2, X2, L2, t2, e2, es, hup, h1, hR⟩ := t.put2 hQ hQ34 hE.2 hE.1 hl
    have i := hE.2.ys rfl
    refine ⟨X2, L2, _, e2, hR, hup.mono (by omega), fun F gs gp w h => ?_⟩
    refine (Put_two p x.1 x.2 hk w h ((X1, L1), tops, 0) hl hl2 (fun y hy => by
      have h3 := i.ok.1 y hy
      have h4 := i.pg y hy
      exact ⟨wfSm (by omega) (by omega), wfSm (by omega) (by omega)⟩) (hPc F gs gp) (by omega) _ es h1).mono ?_
    rintro r w' ⟨F', er, s⟩
    exact ⟨F', er, s.mono (by omega)⟩
  · obtain ⟨h1, hR⟩ := t.put1 hQ hE.2 hl
    refine ⟨X1, L1, _, e, hR, hE.1.mono (by omega), fun F gs gp w h => ?_⟩
    refine (Put_one p x.1 x.2 hk w h ((X1, L1), tops, e) (by show tops.length ≤ 1; omega) h1 (hPc F gs gp)).mono ?_
    rintro r w' ⟨F', er, s⟩
    exact ⟨F', er, s.mono (by omega)⟩
theorem Put_empty_ex {X : DSt} {L : List Pg} {R : List Int} {T : List Nat} {Q : List Nat → Prop} {m : Nat} (hI : InvT X L R T) (hm : m ≤ 80000) (x : Int × Int) (hk : 0 ≤ x.1 ∧ x.1 ≤ 63) (hpg : 0 ≤ x.2 ∧ 0 < cntT L T x.2.toNat) (hU : Up X L.length m) :
    ∃ X' L' p' e, PutR X L R T Q 0 [x] X' L' p' e ∧ Up X' L'.length (m + 20) ∧ PutEx X L (-1) x m X' L' p' e := by
  obtain ⟨X', L', tops, e, es, hup, hl, h1, hR⟩ := put_none (Q := Q) hI hU (z := x) hk hpg
  have hlow := hI.low hpg.2
  have hPc := fun (F : Nat → Prop) (gs gp : Nat) W (s : Sto W F gs gp X L m) => put_n1 (by omega) x ⟨wfSm (by omega) (by omega), wfSm (by omega) (by omega)⟩ 0 W s
  rw [es] at hPc
  refine ⟨X', L', _, e, hR, hup.mono (by omega), fun F gs gp w h => ?_⟩
  refine (Put_one (-1) x.1 x.2 hk w h ((X', L'), tops, e) hl h1 (hPc F gs gp)).mono ?_
  rintro r w' ⟨F', er, s⟩
  exact ⟨F', er, s.mono (by omega)⟩
theorem OneT.Put_ex {X : DSt} {L : List Pg} {B : List Int} {O : List (Nat × Int)} {m lv : Nat} {root : Int} {l : List (Int × Int)} (o : OneT X L B O lv root l) (hm : m ≤ 80000) (x : Int × Int) (hk : 0 ≤ x.1 ∧ x.1 ≤ 63) (hb : x.2 ∈ B) (hU : Up X L.length m) :
    ∃ X' L' p' e, PutR X L (rtsB (B ++ O.map (·.2)) root) [] Q2 (hgt lv root) (putL l x) X' L' p' e ∧ Up X' L'.length (m + 20) ∧ PutEx X L root x m X' L' p' e := by
  have hpg := o.iv.toT.root (rtsB_B (root := root) (List.mem_append_left (O.map (·.2)) hb))
  rcases o.rt with ⟨rfl, rfl⟩ | ⟨h0, hp, hlv, t⟩
  · exact Put_empty_ex o.iv.toT hm x hk hpg hU
  · have e : hgt lv root = lv + 1 := by unfold hgt; rw [if_neg (by omega)]
    rw [e]
    exact Put_tree_ex Q2_ok Q2_34 o.iv.toT t h0 hp hlv hm x hk hpg hU
/-- A state of Build. -/
structure BSt where
  X : DSt
  L : List Pg
  lv : Nat
  root : Int
/-- One step of Build. -/
structure BStep (m : Nat) (x : Int × Int) (s s' : BSt) : Prop where
  put : ∃ L' , PutEx s.X s.L s.root x m s'.X L' s'.root 0 ∧ swF s'.X L' s.root s'.root = (s'.L, 0)
  nn : 0 ≤ s'.root
theorem OneT.step {s : BSt} {B : List Int} {O : List (Nat × Int)} {m : Nat} {l : List (Int × Int)} (o : OneT s.X s.L B O s.lv s.root l) (y : PlY s.L) (hm : m ≤ 80000) (x : Int × Int) (hk : 0 ≤ x.1 ∧ x.1 ≤ 63) (hb : x.2 ∈ B) (hU : Up s.X s.L.length m) (hc : B.length + 65 * O.length ≤ 135) (hL : B.length + 64 * (O.length + 1) + 13 ≤ s.L.length) :
    ∃ s', BStep m x s s' ∧ OneT s'.X s'.L B O s'.lv s'.root (putL l x) ∧ PlY s'.L ∧ s'.L.length = s.L.length ∧ Up s'.X s'.L.length (m + 20) ∧ ∀ t ∈ O, lsT s'.X t.1 t.2 = lsT s.X t.1 t.2 := by
  obtain ⟨X', L', p', e, R, up, P⟩ := o.Put_ex hm x hk hb hU
  obtain rfl := o.good y hc hL R
  obtain ⟨h0, L2, lv', sw, ln, yg, o'⟩ := o.put hb R hc
  refine ⟨⟨X', L2, lv', p'⟩, ⟨⟨L', P, sw⟩, h0⟩, o', yg y, ln, ?_, fun t ht => (okT.ext o.iv.toT R.ext (o.ot t ht).2.1.ok (o.ot t ht).1 (o.iv.toT.root (rtsB_B (root := s.root) (List.mem_append_right B (List.mem_map_of_mem ht)))).2).2.1⟩
  have e : L2.length = L'.length := ln.trans R.ext.ln.symm
  show Up X' L2.length (m + 20)
  rw [e]
  exact up
/-- All of Build's states. -/
theorem OneT.steps {s0 : BSt} {B : List Int} {O : List (Nat × Int)} {m : Nat} (es : List (Int × Int)) (o : OneT s0.X s0.L B O s0.lv s0.root []) (y : PlY s0.L) (hm : m ≤ 10000) (he : es.length ≤ 100) (hes : ∀ x ∈ es, (0 ≤ x.1 ∧ x.1 ≤ 63) ∧ x.2 ∈ B) (hU : Up s0.X s0.L.length m) (hc : B.length + 65 * O.length ≤ 135) (hL : B.length + 64 * (O.length + 1) + 13 ≤ s0.L.length) :
    ∃ s : Nat → BSt, s 0 = s0 ∧ (∀ (k : Nat) (hk : k < es.length), BStep (m + 20 * k) es[k] (s k) (s (k + 1))) ∧ ∀ k, k ≤ es.length → OneT (s k).X (s k).L B O (s k).lv (s k).root ((es.take k).foldl putL []) ∧ PlY (s k).L ∧ (s k).L.length = s0.L.length ∧ Up (s k).X (s k).L.length (m + 20 * k) ∧ ∀ t ∈ O, lsT (s k).X t.1 t.2 = lsT s0.X t.1 t.2 := by
  have key : ∀ n, n ≤ es.length → ∃ s : Nat → BSt, s 0 = s0 ∧ (∀ (k : Nat) (hk : k < es.length), k < n → BStep (m + 20 * k) es[k] (s k) (s (k + 1))) ∧ ∀ k, k ≤ n → OneT (s k).X (s k).L B O (s k).lv (s k).root ((es.take k).foldl putL []) ∧ PlY (s k).L ∧ (s k).L.length = s0.L.length ∧ Up (s k).X (s k).L.length (m + 20 * k) ∧ ∀ t ∈ O, lsT (s k).X t.1 t.2 = lsT s0.X t.1 t.2 := by
    intro n
    induction n with
    | zero =>
      intro _
      refine ⟨fun _ => s0, rfl, fun k _ hk => absurd hk (by omega), fun k hk => ?_⟩
      obtain rfl : k = 0 := by omega
      exact ⟨o, y, rfl, hU, fun _ _ => rfl⟩
    | succ n ih =>
      intro hn
      obtain ⟨s, h0, h1, h2⟩ := ih (by omega)
      obtain ⟨on, yn, ln, un, en⟩ := h2 n (Nat.le_refl _)
      have hx := hes es[n] (List.getElem_mem _)
      obtain ⟨s', b, o', y', l', u', e'⟩ := on.step yn (by omega) es[n] hx.1 hx.2 un hc (by omega)
      refine ⟨fun k => if k = n + 1 then s' else s k, by simp [h0], fun k hk hkn => ?_, fun k hk => ?_⟩
      · by_cases e : k = n
        · subst e; simpa using b
        · have := h1 k hk (by omega)
          show BStep (m + 20 * k) es[k] (if k = n + 1 then s' else s k) (if k + 1 = n + 1 then s' else s (k + 1))
          rw [if_neg (by omega), if_neg (by omega)]
          exact this
      · by_cases e : k = n + 1
        · subst e
          simp only [if_pos]
          rw [List.take_succ_eq_append_getElem (by omega), List.foldl_append]
          exact ⟨o', y', l'.trans ln, by rw [show m + 20 * (n + 1) = m + 20 * n + 20 by omega]; exact u', fun t ht => (e' t ht).trans (en t ht)⟩
        · have h3 := h2 k (by omega)
          simp only [if_neg e]
          exact h3
  obtain ⟨s, h0, h1, h2⟩ := key es.length (Nat.le_refl _)
  exact ⟨s, h0, fun k hk => h1 k hk hk, h2⟩
end Go.Proofs.Ytkhdniccnefdhaa
/- Build with its answers named ahead of the world; no condition. -/
namespace Go.Proofs.Ytkhdniccnefdhaa
open Go.RowKit Go.Proofs.U
set_option linter.unusedSimpArgs false
set_option linter.unusedVariables false
set_option maxRecDepth 100000 in
set_option maxHeartbeats 4000000 in
theorem Build_steps {F : Nat → Prop} {gs gp : Nat} {m : Nat} (s : Nat → BSt) (es : List (Int × Int)) (h0 : (s 0).root = -1) (h1 : ∀ (k : Nat) (hk : k < es.length), BStep (m + 20 * k) es[k] (s k) (s (k + 1))) (hm : m ≤ 10000) (he : es.length ≤ 100) (v : Value) (w : World) (h : Sto w F gs gp (s 0).X (s 0).L m) (hS : SlR enC 2 w v es) (hvF : ∀ x, v.ownBlock = some x → ¬ F x ∧ x ≠ gp) :
    Calls Try.prog 21 #[trV gs, v] w fun r w' => ∃ F', r = .returned (.tuple #[.int .i64 (s es.length).root, .int .i64 0]) ∧ StT w w' F F' gs gp ((s es.length).X, (s es.length).L) (m + 20 * es.length) := by
  obtain ⟨a0, c0, rfl, hc0⟩ := hS.opn
  have hgp := h.ltp
  have hgs := h.lts
  have hFt := h.ft
  have h1' := show Hid _ from h1
  have h0' := show Hid _ from h0
  clear h1 h0
  go_enter Try.func21, Try.ntmps21
  go_wp2_with (first
    | (with_reducible refine at_wpP ?_; refine wpList_boxG rfl 25 _ rfl (trV gs) [ptr gs] rfl rfl ?_; intro g1 w1 hg1 b1 f1 s1; have l1 := b1.lt; have z1 := f1.size))
  have H1 := h.fr0 f1
  have hS1 := hS.fr0 f1
  go_loopw [14, 6] (fun i r wr => ∃ (k : Nat) (Fk : Nat → Prop), k ≤ es.length ∧ i = .int .i64 (k : Int) ∧ r = .int .i64 (s k).root ∧ StT w1 wr F Fk gs gp ((s k).X, (s k).L) (m + 20 * k)) (fun i _ _ => es.length - (intOf i).toNat)
  case atStart => exact ⟨0, F, Nat.zero_le _, rfl, by rw [h0'.out], StT.start H1⟩
  case round =>
    obtain ⟨j, Fk, hj, rfl, rfl, T⟩ := hrel
    have hnF : ∀ x, w.heap.size ≤ x → ¬ stB F gp x := fun x hx q => by
      rcases q with q | q
      · have := hFt _ q; omega
      · omega
    have bj := b1.fr T.fr (hnF _ s1)
    by_cases hlt : j < es.length
    · have st := h1'.out j hlt
      obtain ⟨x, Hx⟩ : ∃ x, Hid (es[j] = x) := ⟨es[j], (rfl : es[j] = es[j])⟩
      rw [Hx.out] at st
      have hSj := hS1.fr T.fr (fun k hk q => by
        have := hvF k hk
        rcases q with q | q
        · exact this.1 q
        · exact this.2 q)
      have zj := T.fr.size
      have hFk := T.st.ft
      have hgk := T.st.ltp
      have hgsk := T.st.lts
      generalize s j = sj at *
      generalize hs' : s (j + 1) = s' at *
      have hs' := show Hid _ from hs'
      obtain ⟨⟨L1, hPut, sw⟩, hnn⟩ := st
      have hP := fun W (f : Fr noB _ W) => hPut Fk gs gp W (T.st.fr0 f)
      have hnFk : ¬ stB Fk gp g1 := fun q => by
        rcases q with q | q
        · rcases (T.ft _ q).1 with q | q
          · have := hFt _ q; omega
          · omega
        · omega
      have hlt' : (j : Int) < (es.length : Int) := by omega
      go_upto_region 6 with (first
        | (with_reducible refine at_wpP ?_; refine at_idx 31 _ _ rfl ?_; go_must (refine wpList_idxR rfl 31 _ _ rfl 49 Try.underlying31 2 en_size _ _ _ rfl hSj (by decide) _ _ j rfl rfl hlt ?_; rw [Hx.out]; intro ba oa hba hca))
        | (with_reducible refine at_wpP ?_; refine at_ld 49 _ rfl ?_; have q := hca; refine wpList_ldE rfl _ rfl ba oa rfl x hca ?_)
        | (with_reducible refine at_wpP ?_; refine wpList_allocE rfl rfl ?_; intro gl w5 hgl b5 f5 sl; have l5 := b5.lt; have z5 := f5.size)
        | (with_reducible refine at_wpP ?_; refine at_st 49 _ _ rfl ?_; go_must (refine wpList_stE rfl _ _ rfl gl rfl (0, 0) x b5 rfl ?_; intro w6 B6 f6; have F6 := Fr.ownX f5 sl f6; have z6 := f6.size; obtain ⟨k0, k1⟩ := B6.all; have b6 := bj.fr0 F6))
        | (with_reducible refine at_wpP ?_; refine at_ld 25 _ rfl ?_; go_must (refine wpList_ldT rfl _ rfl g1 rfl gs b6 ?_))
        | (go_at_call 9; go_must (refine (hP _ F6).mono ?_; rintro e1 w7 ⟨F2, he1, T7⟩; subst he1)))
      have z7 := T7.fr.size
      have b7 := b6.fr T7.fr hnFk
      have hSw := Swap_F (by omega) (by omega) T7.st sw
      go_wp2_with (first
        | (with_reducible refine at_wpP ?_; refine at_ld 25 _ rfl ?_; go_must (refine wpList_ldT rfl _ rfl g1 rfl gs b7 ?_))
        | (go_at_call 16; go_must (refine hSw.mono ?_; rintro e1 w8 ⟨rfl, s8, f8⟩; have z8 := f8.size)))
      go_roundw
      case rel => exact ⟨j + 1, F2, by omega, by go_num, by rw [hs'.out], by rw [hs'.out]; exact ((((T.fr0 F6).trans H1.ft T7).pool f8 s8).mono (by omega))⟩
      case measure => simp [intOf]; omega
    · obtain rfl : j = es.length := by omega
      go_wp2
      go_ret2
      exact ⟨Fk, rfl, T.pre f1⟩
end Go.Proofs.Ytkhdniccnefdhaa
/- The document's Same of entries (layer 10); no condition. -/
namespace Go.Proofs.Ytkhdniccnefdhaa
open Go.RowKit Go.Proofs.U
set_option linter.unusedSimpArgs false
set_option linter.unusedVariables false
theorem cells_at {w : World} {b o n c : Nat} {l : List (Int × Int)} (h : SlR enC 2 w (.slice (some ⟨b, o, none⟩) n c) l) (k : Nat) (hk : k < l.length) {x : Int × Int} (hx : Hid (l[k] = x)) : ∀ q u, (enC x)[q]? = some u → w.cell? ⟨b, o + k * 2 + q, none⟩ = some u := by
  intro q u hq
  obtain ⟨hall, ao, cap, hv, hcap, hlen, hnone, hsome⟩ := h
  cases hv
  have hq2 : q < 2 := (List.getElem?_eq_some_iff.1 hq).1
  have hfl := flat_at enC 2 l hall k hk q hq2
  rw [hx.out, hq] at hfl
  have := hsome _ rfl _ _ hfl
  rw [Addr.add_lit] at this
  rw [Nat.add_assoc]
  exact this
set_option maxRecDepth 100000 in
set_option maxHeartbeats 4000000 in
theorem same10_any (va vb : Value) (la lb : List (Int × Int)) (w : World) (ha : SlP .i64 .i64 w va la) (hb : SlP .i64 .i64 w vb lb) (hm : la.length ≤ 1000) :
    Calls Try.prog 18 #[va, vb] w fun r w' => r = .returned (.bool (la == lb)) ∧ Fr noB w w' := by
  obtain ⟨a0, c0, hva, hc0⟩ := ha.1.opn
  obtain ⟨a1, c1, hvb, hc1⟩ := hb.1.opn
  by_cases hne : la.length = lb.length
  · by_cases h0 : la.length = 0
    · have e1 : la = [] := List.eq_nil_of_length_eq_zero h0
      have e2 : lb = [] := List.eq_nil_of_length_eq_zero (by omega)
      subst e1; subst e2
      subst hva; subst hvb
      go_enter Try.func18, Try.ntmps18
      go_wp2
      go_loop [13] (fun i => i = .int .i64 0) (fun _ => 0)
      case atStart => rfl
      case round =>
        subst hrel
        go_wp2
        go_ret
        exact ⟨rfl, Fr.refl _ _⟩
    · clear hva hvb hc0 hc1
      obtain ⟨ba, oa, ca, rfl, hca⟩ := SlR.addr ha.1 (by decide) (by omega)
      obtain ⟨bb, ob, cb, rfl, hcb⟩ := SlR.addr hb.1 (by decide) (by omega)
      have hnt : ((la.length : Int) == (lb.length : Int)) = true := by simp; omega
      have hneI : (la.length : Int) = (lb.length : Int) := by omega
      have hneI := show Hid _ from hneI
      have hne' := show Hid _ from hne
      clear hne
      go_enter Try.func18, Try.ntmps18
      go_wp2
      go_loopw [13] (fun i wr => ∃ (k : Nat), k ≤ la.length ∧ i = .int .i64 (k : Int) ∧ Hid (la.take k = lb.take k) ∧ Fr noB w wr) (fun i _ => la.length - (intOf i).toNat)
      case atStart => exact ⟨0, by omega, rfl, rfl, Fr.refl _ _⟩
      case round =>
        obtain ⟨k, hk, rfl, htk, hf⟩ := hrel
        by_cases hlt : k < la.length
        · have hltb : k < lb.length := by rw [← hne'.out]; exact hlt
          have hlt' : (k : Int) < (la.length : Int) := by omega
          have hltb' : (k : Int) < (lb.length : Int) := by omega
          obtain ⟨x, Hx⟩ : ∃ x, Hid (la[k] = x) := ⟨la[k], (rfl : la[k] = la[k])⟩
          obtain ⟨y, Hy⟩ : ∃ y, Hid (lb[k] = y) := ⟨lb[k], (rfl : lb[k] = lb[k])⟩
          go_wp2
          obtain ⟨w0, HW⟩ : ∃ w0, Hid (wr.drew = w0) := ⟨_, rfl⟩
          have f0 : Fr noB wr w0 := by rw [← HW.out]; exact (Fr.refl _ _).drew
          have z0 := f0.size
          have hSA := (ha.1.fr0 hf).fr0 f0
          have hSB := (hb.1.fr0 hf).fr0 f0
          refine wp_region_chain_layT (by kernel_rfl) [] [none, none, none, none, none, none, none, none, none]
            [fun v => v = .slice (some ⟨ba, oa, none⟩) la.length ca, fun v => v = .int .i64 (k : Int), fun v => v = .pointer (some ⟨ba, oa + k * 2, none⟩), fun v => v = enV x, fun v => v = .slice (some ⟨bb, ob, none⟩) lb.length cb, fun v => v = .int .i64 (k : Int), fun v => v = .pointer (some ⟨bb, ob + k * 2, none⟩), fun v => v = enV y, fun v => v = .bool (!(x == y))]
            (JGX w0) (by rw [HW.out]; exact Fr.refl _ _) (by kernel_rfl) (by kernel_rfl) (by decide) ⟨?o0, ?o1, ?o2, ?o3, ?o4, ?o5, ?o6, ?o7, ?o8, trivial⟩ ?oe
          case o0 =>
            intro A W hv hlen hJ hbase hdL hdH
            have e0 : A.eval (.tmp 0) = .slice (some ⟨ba, oa, none⟩) la.length ca := hbase 0 (by kernel_rfl)
            have f0 : A.tmps[0]?.getD undef = .slice (some ⟨ba, oa, none⟩) la.length ca := by simpa [Act.eval] using e0
            exact light_val rfl (v := .slice (some ⟨ba, oa, none⟩) la.length ca) (by simp [execOp, e0, f0]) hJ rfl
          case o1 =>
            intro A W hv hlen hJ hbase hdL hdH
            have e5 : A.eval (.tmp 5) = .int .i64 (k : Int) := hbase 5 (by kernel_rfl)
            have f5 : A.tmps[5]?.getD undef = .int .i64 (k : Int) := by simpa [Act.eval] using e5
            exact light_val rfl (v := .int .i64 (k : Int)) (by simp [execOp, e5, f5]) hJ rfl
          case o2 =>
            intro A W hv hlen hJ hbase hdL hdH
            have e16 : A.eval (.tmp 16) = .slice (some ⟨ba, oa, none⟩) la.length ca := hdL 0 16 (by kernel_rfl) (by kernel_rfl) (by kernel_rfl)
            have f16 : A.tmps[16]?.getD undef = .slice (some ⟨ba, oa, none⟩) la.length ca := by simpa [Act.eval] using e16
            have e17 : A.eval (.tmp 17) = .int .i64 (k : Int) := hdL 1 17 (by kernel_rfl) (by kernel_rfl) (by kernel_rfl)
            have f17 : A.tmps[17]?.getD undef = .int .i64 (k : Int) := by simpa [Act.eval] using e17
            have hr := run_idxS (P := Try.prog) (w := W) (sz := 2) 31 49 uE en_size ba oa la.length ca .i64 k (by exact hlt)
            exact light_val rfl (v := .pointer (some ⟨ba, oa + k * 2, none⟩)) (by simp [execOp, e16, e17, hr, Result.andThen]) hJ rfl
          case o3 =>
            intro A W hv hlen hJ hbase hdL hdH
            have e18 : A.eval (.tmp 18) = .pointer (some ⟨ba, oa + k * 2, none⟩) := hdL 2 18 (by kernel_rfl) (by kernel_rfl) (by kernel_rfl)
            have f18 : A.tmps[18]?.getD undef = .pointer (some ⟨ba, oa + k * 2, none⟩) := by simpa [Act.eval] using e18
            have hr := run_ldE W ba (oa + k * 2) x (cells_at (hSA.fr0 (show Fr noB w0 W from hJ)) k (by exact hlt) Hx)
            exact light_val rfl (v := enV x) (by simp [execOp, e18, hr, Result.andThen]) hJ rfl
          case o4 =>
            intro A W hv hlen hJ hbase hdL hdH
            have e1 : A.eval (.tmp 1) = .slice (some ⟨bb, ob, none⟩) lb.length cb := hbase 1 (by kernel_rfl)
            have f1 : A.tmps[1]?.getD undef = .slice (some ⟨bb, ob, none⟩) lb.length cb := by simpa [Act.eval] using e1
            exact light_val rfl (v := .slice (some ⟨bb, ob, none⟩) lb.length cb) (by simp [execOp, e1, f1]) hJ rfl
          case o5 =>
            intro A W hv hlen hJ hbase hdL hdH
            have e5 : A.eval (.tmp 5) = .int .i64 (k : Int) := hbase 5 (by kernel_rfl)
            have f5 : A.tmps[5]?.getD undef = .int .i64 (k : Int) := by simpa [Act.eval] using e5
            exact light_val rfl (v := .int .i64 (k : Int)) (by simp [execOp, e5, f5]) hJ rfl
          case o6 =>
            intro A W hv hlen hJ hbase hdL hdH
            have e20 : A.eval (.tmp 20) = .slice (some ⟨bb, ob, none⟩) lb.length cb := hdL 4 20 (by kernel_rfl) (by kernel_rfl) (by kernel_rfl)
            have f20 : A.tmps[20]?.getD undef = .slice (some ⟨bb, ob, none⟩) lb.length cb := by simpa [Act.eval] using e20
            have e21 : A.eval (.tmp 21) = .int .i64 (k : Int) := hdL 5 21 (by kernel_rfl) (by kernel_rfl) (by kernel_rfl)
            have f21 : A.tmps[21]?.getD undef = .int .i64 (k : Int) := by simpa [Act.eval] using e21
            have hr := run_idxS (P := Try.prog) (w := W) (sz := 2) 31 49 uE en_size bb ob lb.length cb .i64 k (by exact hltb)
            exact light_val rfl (v := .pointer (some ⟨bb, ob + k * 2, none⟩)) (by simp [execOp, e20, e21, hr, Result.andThen]) hJ rfl
          case o7 =>
            intro A W hv hlen hJ hbase hdL hdH
            have e22 : A.eval (.tmp 22) = .pointer (some ⟨bb, ob + k * 2, none⟩) := hdL 6 22 (by kernel_rfl) (by kernel_rfl) (by kernel_rfl)
            have f22 : A.tmps[22]?.getD undef = .pointer (some ⟨bb, ob + k * 2, none⟩) := by simpa [Act.eval] using e22
            have hr := run_ldE W bb (ob + k * 2) y (cells_at (hSB.fr0 (show Fr noB w0 W from hJ)) k (by exact hltb) Hy)
            exact light_val rfl (v := enV y) (by simp [execOp, e22, hr, Result.andThen]) hJ rfl
          case o8 =>
            intro A W hv hlen hJ hbase hdL hdH
            have e19 : A.eval (.tmp 19) = enV x := hdL 3 19 (by kernel_rfl) (by kernel_rfl) (by kernel_rfl)
            have f19 : A.tmps[19]?.getD undef = enV x := by simpa [Act.eval] using e19
            have e23 : A.eval (.tmp 23) = enV y := hdL 7 23 (by kernel_rfl) (by kernel_rfl) (by kernel_rfl)
            have f23 : A.tmps[23]?.getD undef = enV y := by simpa [Act.eval] using e23
            have hr := run_neE x y W
            have hg : (eqGuard .neq 49 (.tmp 19) (.tmp 23) (enV x) (enV y)).run Try.prog W = .ok () W := run_eqGuard_agg W _ _ _ _ _ _ en_eqg
            exact light_val rfl (v := .bool (!(x == y))) (by simp [execOp, e19, e23, hr, hg, Result.andThen]) hJ rfl
          case oe =>
            intro vs W' hv hlen hJ hL hH
            have x0 : vs 0 = .slice (some ⟨ba, oa, none⟩) la.length ca := hL 0 (by kernel_rfl) (by kernel_rfl)
            have x1 : vs 1 = .int .i64 (k : Int) := hL 1 (by kernel_rfl) (by kernel_rfl)
            have x2 : vs 2 = .pointer (some ⟨ba, oa + k * 2, none⟩) := hL 2 (by kernel_rfl) (by kernel_rfl)
            have x3 : vs 3 = enV x := hL 3 (by kernel_rfl) (by kernel_rfl)
            have x4 : vs 4 = .slice (some ⟨bb, ob, none⟩) lb.length cb := hL 4 (by kernel_rfl) (by kernel_rfl)
            have x5 : vs 5 = .int .i64 (k : Int) := hL 5 (by kernel_rfl) (by kernel_rfl)
            have x6 : vs 6 = .pointer (some ⟨bb, ob + k * 2, none⟩) := hL 6 (by kernel_rfl) (by kernel_rfl)
            have x7 : vs 7 = enV y := hL 7 (by kernel_rfl) (by kernel_rfl)
            have x8 : vs 8 = .bool (!(x == y)) := hL 8 (by kernel_rfl) (by kernel_rfl)
            simp only [layL, Nat.reduceAdd, Act.put, List.setIfInBounds_toArray, List.set_cons_zero, List.set_cons_succ, x0, x1, x2, x3, x4, x5, x6, x7, x8]
            clear x0 x1 x2 x3 x4 x5 x6 x7 x8 hL hH
            have hF : Fr noB w W' := hf.thenN (f0.thenN hJ)
            clear hJ
            by_cases hxy : x = y
            · have hb : (x == y) = true := by rw [beq_iff_eq]; exact hxy
              rw [hb]
              go_wp2
              go_roundw
              case rel => exact ⟨k + 1, by omega, by go_num, take_eq_succ htk hlt hltb (by rw [Hx.out, Hy.out, hxy]), hF⟩
              case measure => simp [intOf]; omega
            · have hb : (x == y) = false := by rw [beq_eq_false_iff_ne]; exact hxy
              rw [hb]
              have hr : (la == lb) = false := by
                rw [beq_eq_false_iff_ne]
                intro h
                subst h
                exact hxy (Hx.out.symm.trans Hy.out)
              go_wp2
              go_ret
              exact ⟨by first | rfl | (rw [hr]; rfl), hF⟩
        · have hke : k = la.length := by omega
          have hr : (la == lb) = true := by
            rw [beq_iff_eq]
            have h1 := htk.out
            rw [List.take_of_length_le (by omega), List.take_of_length_le (by rw [← hne'.out]; omega)] at h1
            exact h1
          have hlt' : ¬ (k : Int) < (la.length : Int) := by omega
          go_wp2
          go_ret
          exact ⟨by first | rfl | (rw [hr]; rfl), hf⟩
  · subst hva; subst hvb
    have hnt : ((la.length : Int) == (lb.length : Int)) = false := by simp; omega
    have hnt' : ¬ (la.length : Int) = (lb.length : Int) := by omega
    have hr : (la == lb) = false := by
      rw [beq_eq_false_iff_ne]
      intro e; exact hne (by rw [e])
    rw [hr]
    go_enter Try.func18, Try.ntmps18
    go_wp2
    go_ret
    exact ⟨rfl, Fr.refl _ _⟩
end Go.Proofs.Ytkhdniccnefdhaa
