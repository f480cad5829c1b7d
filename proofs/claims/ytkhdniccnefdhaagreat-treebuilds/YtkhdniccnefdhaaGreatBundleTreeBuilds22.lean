/- Texts JX, JY, TB, TE, JW, TH1, TH0 of the proof of TreeBuilds, one behind the other. -/
import Derived.Test.YtkhdniccnefdhaaGreatBundleTreeBuilds1
import Derived.Test.YtkhdniccnefdhaaGreatBundleTreeBuilds2
import Derived.Test.YtkhdniccnefdhaaGreatBundleTreeBuilds3
import Derived.Test.YtkhdniccnefdhaaGreatBundleTreeBuilds4
import Derived.Test.YtkhdniccnefdhaaGreatBundleTreeBuilds5
import Derived.Test.YtkhdniccnefdhaaGreatBundleTreeBuilds6
import Derived.Test.YtkhdniccnefdhaaGreatBundleTreeBuilds7
import Derived.Test.YtkhdniccnefdhaaGreatBundleTreeBuilds8
import Derived.Test.YtkhdniccnefdhaaGreatBundleTreeBuilds9
import Derived.Test.YtkhdniccnefdhaaGreatBundleTreeBuilds10
import Derived.Test.YtkhdniccnefdhaaGreatBundleTreeBuilds11
import Derived.Test.YtkhdniccnefdhaaGreatBundleTreeBuilds12
import Derived.Test.YtkhdniccnefdhaaGreatBundleTreeBuilds13
import Derived.Test.YtkhdniccnefdhaaGreatBundleTreeBuilds14
import Derived.Test.YtkhdniccnefdhaaGreatBundleTreeBuilds15
import Derived.Test.YtkhdniccnefdhaaGreatBundleTreeBuilds16
import Derived.Test.YtkhdniccnefdhaaGreatBundleTreeBuilds17
import Derived.Test.YtkhdniccnefdhaaGreatBundleTreeBuilds18
import Derived.Test.YtkhdniccnefdhaaGreatBundleTreeBuilds19
import Derived.Test.YtkhdniccnefdhaaGreatBundleTreeBuilds20
import Derived.Test.YtkhdniccnefdhaaGreatBundleTreeBuilds21
/- A tree over a store with blocks and other trees, plain; no condition. -/
namespace Go.Proofs.YtkhdniccnefdhaaGreat
open Go.RowKit Go.Proofs.U
set_option linter.unusedSimpArgs false
set_option linter.unusedVariables false
/-- The roots: the blocks, and the tree's if there is one. -/
def rtsB (B : List Int) (root : Int) : List Int := if root = -1 then B else B ++ [root]
/-- What other trees are. -/
def OthT (X : DSt) (B : List Int) (O : List (Nat × Int)) : Prop := ∀ t ∈ O, 0 ≤ t.2 ∧ TreeAt X Q2 t.1 t.2 (lsT X t.1 t.2) ∧ (∀ z ∈ lsT X t.1 t.2, z.2 ∈ B) ∧ lsT X t.1 t.2 ≠ []
/-- One tree over a store: B are the pages of blocks, O are other trees. -/
structure OneT (X : DSt) (L : List Pg) (B : List Int) (O : List (Nat × Int)) (lv : Nat) (root : Int) (l : List (Int × Int)) : Prop where
  iv : Inv X L (rtsB (B ++ O.map (·.2)) root)
  ot : OthT X B O
  bl : ∀ b ∈ B, 0 ≤ b ∧ (rdN X b).1.k = 1 ∧ (rdN X b).1.es = []
  rt : RtAt X L [] Q2 lv root l
  pg : ∀ z ∈ l, z.2 ∈ B
  ne : ¬ root = -1 → l ≠ []
  nn : root = -1 ∨ 0 ≤ root
theorem rtsB_B {B : List Int} {root b : Int} (h : b ∈ B) : b ∈ rtsB B root := by
  unfold rtsB; split
  · exact h
  · exact List.mem_append_left _ h
def oneTs (O : List (Nat × Int)) (lv : Nat) (root : Int) : List (Nat × Int) := if root = -1 then O else O ++ [(lv, root)]
theorem OneT.tree {X : DSt} {L : List Pg} {B : List Int} {O : List (Nat × Int)} {lv : Nat} {root : Int} {l : List (Int × Int)} (o : OneT X L B O lv root l) (hr : ¬ root = -1) : 0 ≤ root ∧ lv < 8 ∧ TreeAt X Q2 lv root l := by
  rcases o.rt with ⟨q, _⟩ | ⟨h0, _, hl, t⟩
  · exact absurd q hr
  · exact ⟨h0, hl, t⟩
theorem oneTs_mem {O : List (Nat × Int)} {lv : Nat} {root : Int} {t : Nat × Int} (h : t ∈ oneTs O lv root) : t ∈ O ∨ (¬ root = -1 ∧ t = (lv, root)) := by
  unfold oneTs at h
  split at h
  · exact Or.inl h
  · rename_i e
    rcases List.mem_append.1 h with q | q
    · exact Or.inl q
    · simp at q; exact Or.inr ⟨e, q⟩
theorem OneT.fam {X : DSt} {L : List Pg} {B : List Int} {O : List (Nat × Int)} {lv : Nat} {root : Int} {l : List (Int × Int)} (o : OneT X L B O lv root l) : Fam X (rtsB (B ++ O.map (·.2)) root) Q2 B (oneTs O lv root) := by
  refine ⟨o.bl, fun t ht => ?_, fun r hr => ?_⟩
  · rcases oneTs_mem ht with h | ⟨h, rfl⟩
    · exact ⟨(o.ot t h).1, (o.ot t h).2.1, (o.ot t h).2.2.1⟩
    · obtain ⟨h0, _, t⟩ := o.tree h
      have e : lsT X lv root = l := t.ls
      exact ⟨h0, by show TreeAt X Q2 lv root (lsT X lv root); rw [e]; exact t, by show ∀ z ∈ lsT X lv root, z.2 ∈ B; rw [e]; exact o.pg⟩
  · have key : ∀ r ∈ B ++ O.map (·.2), r ∈ B ∨ ∃ t ∈ O, t.2 = r := by
      intro r hr
      rcases List.mem_append.1 hr with q | q
      · exact Or.inl q
      · obtain ⟨t, ht, e⟩ := List.mem_map.1 q
        exact Or.inr ⟨t, ht, e⟩
    unfold rtsB at hr
    unfold oneTs
    split at hr
    · rename_i h
      rw [if_pos h]
      exact key r hr
    · rename_i h
      rw [if_neg h]
      rcases List.mem_append.1 hr with q | q
      · rcases key r q with q | ⟨t, ht, e⟩
        · exact Or.inl q
        · exact Or.inr ⟨t, List.mem_append_left _ ht, e⟩
      · simp at q; exact Or.inr ⟨(lv, root), by simp, by simp [q]⟩
theorem OneT.len {X : DSt} {L : List Pg} {B : List Int} {O : List (Nat × Int)} {lv : Nat} {root : Int} {l : List (Int × Int)} (o : OneT X L B O lv root l) : l.length ≤ 64 := o.rt.len
theorem TreeAt.occ {X : DSt} {lv : Nat} {root : Int} {l : List (Int × Int)} (t : TreeAt X Q2 lv root l) (hn : l ≠ []) : (occT X lv root).length ≤ l.length := by
  have hp := List.length_pos_iff.2 hn
  cases lv with
  | zero => simp [occT]; omega
  | succ lv =>
    have h2 : 2 ≤ szX X root := by rcases t.rt with q | q; · omega
                                   · exact q
    have := occ_len (Q := Q2) (fun _ q => q) t.ok t.ft h2
    rw [t.ls] at this
    omega
theorem TreeAt.len {X : DSt} {lv : Nat} {root : Int} {l : List (Int × Int)} (t : TreeAt X Q2 lv root l) : l.length ≤ 64 := by
  rw [← t.ls]
  have := KeysUp.len (lsT_up t.ok) (a := 0) (b := 63) (by decide) (fun z hz => by have := lsT_rng t.ok z hz; omega)
  omega
theorem OneT.all {X : DSt} {L : List Pg} {B : List Int} {O : List (Nat × Int)} {lv : Nat} {root : Int} {l : List (Int × Int)} (o : OneT X L B O lv root l) : ∀ t ∈ oneTs O lv root, (occT X t.1 t.2).length ≤ (lsT X t.1 t.2).length ∧ (lsT X t.1 t.2).length ≤ 64 := by
  intro t ht
  rcases oneTs_mem ht with h | ⟨h, rfl⟩
  · exact ⟨(o.ot t h).2.1.occ (o.ot t h).2.2.2, (o.ot t h).2.1.len⟩
  · obtain ⟨_, _, t⟩ := o.tree h
    show (occT X lv root).length ≤ (lsT X lv root).length ∧ (lsT X lv root).length ≤ 64
    rw [t.ls]
    exact ⟨t.occ (o.ne h), o.len⟩
theorem sum_64 {α : Type} {f : α → Nat} (l : List α) (h : ∀ x ∈ l, f x ≤ 64) : (l.map f).sum ≤ 64 * l.length := by
  induction l with
  | nil => simp
  | cons x l ih =>
    have := ih fun y hy => h y (by simp [hy])
    have := h x (by simp)
    simp only [List.map_cons, List.sum_cons, List.length_cons]
    omega
theorem len_flat {α β : Type} (g : α → List β) (l : List α) : (l.flatMap g).length = (l.map fun x => (g x).length).sum := by
  induction l with
  | nil => rfl
  | cons x l ih => rw [List.flatMap_cons, List.length_append, ih, List.map_cons, List.sum_cons]
theorem oneTs_len (O : List (Nat × Int)) (lv : Nat) (root : Int) : (oneTs O lv root).length ≤ O.length + 1 := by
  unfold oneTs; split <;> simp
/-- How often a page is held. -/
theorem OneT.cnt {X : DSt} {L : List Pg} {B : List Int} {O : List (Nat × Int)} {lv : Nat} {root : Int} {l : List (Int × Int)} (o : OneT X L B O lv root l) (q : Nat) : cntL L q ≤ B.length + 65 * (O.length + 1) := by
  have h := o.fam.cnt o.iv (fun t ht => (o.all t ht).1) q
  have h1 : (rtsB (B ++ O.map (·.2)) root).count (q : Int) ≤ B.length + O.length + 1 := by
    refine Nat.le_trans (List.count_le_length) ?_
    unfold rtsB; split <;> simp <;> omega
  have h2 := sum_64 (f := fun t => (lsT X t.1 t.2).length) (oneTs O lv root) fun t ht => (o.all t ht).2
  have h3 := oneTs_len O lv root
  omega
/-- How many are free. -/
theorem OneT.free {X : DSt} {L : List Pg} {B : List Int} {O : List (Nat × Int)} {lv : Nat} {root : Int} {l : List (Int × Int)} (o : OneT X L B O lv root l) (y : PlY L) : L.length ≤ plFree L + (B.length + 64 * (O.length + 1)) := by
  have h := o.fam.used o.iv y
  have h2 := sum_64 (f := fun t => (occT X t.1 t.2).length) (oneTs O lv root) fun t ht => by have := o.all t ht; omega
  have h3 := oneTs_len O lv root
  have h1 : (famP X B (oneTs O lv root)).length ≤ B.length + 64 * (O.length + 1) := by
    unfold famP
    rw [List.length_append, len_flat]
    omega
  omega
theorem OneT.lv5 {X : DSt} {L : List Pg} {B : List Int} {O : List (Nat × Int)} {lv : Nat} {root : Int} {l : List (Int × Int)} (o : OneT X L B O lv root l) (hr : ¬ root = -1) : lv ≤ 5 := by
  obtain ⟨_, _, t⟩ := o.tree hr
  cases lv with
  | zero => omega
  | succ lv =>
    have h2 : 2 ≤ szX X root := by rcases t.rt with q | q; · omega
                                   · exact q
    have h := pow_len (Q := Q2) (fun _ q => q) t.ok t.ft h2
    rw [t.ls] at h
    have := o.len
    by_cases hl : lv + 1 ≤ 5
    · exact hl
    · have : 2 ^ 7 ≤ 2 ^ (lv + 1 + 1) := Nat.pow_le_pow_right (by decide) (by omega)
      omega
/-- Its height. -/
def hgt (lv : Nat) (root : Int) : Nat := if root = -1 then 0 else lv + 1
theorem putL_ne (l : List (Int × Int)) (x : Int × Int) : putL l x ≠ [] := by
  cases l with
  | nil => simp [putL]
  | cons y l => unfold putL; split <;> simp
theorem OthT.ext {X X' : DSt} {L L' : List Pg} {R : List Int} {B : List Int} {O : List (Nat × Int)} (h : Inv X L R) (hx : Ext X L X' L') (hr : ∀ t ∈ O, t.2 ∈ R) (o : OthT X B O) : OthT X' B O := by
  intro t ht
  obtain ⟨h0, k, hb, hn⟩ := o t ht
  have hp := (h.toT.root (hr t ht)).2
  obtain ⟨a1, a2, a3⟩ := okT.ext h.toT hx k.ok h0 hp
  have hf := fitT.ext h.toT hx k.ok h0 hp k.ft
  rw [a2]
  refine ⟨h0, ⟨a1, a2, ?_, hf⟩, hb, hn⟩
  rcases k.rt with q | q
  · exact Or.inl q
  · refine Or.inr ?_
    have e := (hx.kp t.2.toNat (h.toT.live hp).1).1
    have e2 : ((t.2.toNat : Nat) : Int) = t.2 := by omega
    rw [e2] at e
    unfold szX esX at q ⊢
    rw [e]
    exact q
/-- A key is put, the tree is swapped for the new one. -/
theorem OneT.put {X : DSt} {L : List Pg} {B : List Int} {O : List (Nat × Int)} {lv : Nat} {root : Int} {l : List (Int × Int)} (o : OneT X L B O lv root l) {x : Int × Int} (hx : x.2 ∈ B) {X' : DSt} {L' : List Pg} {p' : Int} (r : PutR X L (rtsB (B ++ O.map (·.2)) root) [] Q2 (hgt lv root) (putL l x) X' L' p' 0) (hc : B.length + 65 * O.length ≤ 135) :
    0 ≤ p' ∧ ∃ L2 lv', swF X' L' root p' = (L2, 0) ∧ L2.length = L.length ∧ (PlY L → PlY L2) ∧ OneT X' L2 B O lv' p' (putL l x) := by
  obtain ⟨lv', hlv, iv, t⟩ := r.ys rfl
  have h0 := r.p0 rfl
  have hh : hgt lv root ≤ 6 := by
    unfold hgt; split
    · omega
    · rename_i h; have := o.lv5 h; omega
  have hcc : cntL L' p'.toNat < 255 := by
    have := r.ct rfl p'.toNat
    have := o.cnt p'.toNat
    omega
  have hs : ∃ L2, swF X' L' root p' = (L2, 0) ∧ Inv X' L2 ((B ++ O.map (·.2)) ++ [p']) ∧ L2.length = L'.length ∧ (PlY L' → PlY L2) := by
    unfold rtsB at iv
    split at iv
    · rename_i e
      subst e
      exact swap_first iv h0 hcc
    · rename_i e
      exact swap_in iv h0 e hcc
  obtain ⟨L2, sw, iv2, ln, yg⟩ := hs
  have hp1 : ¬ p' = -1 := by omega
  have hR : rtsB (B ++ O.map (·.2)) p' = (B ++ O.map (·.2)) ++ [p'] := by unfold rtsB; rw [if_neg hp1]
  have hl := iv2.toT.root (r := p') (by simp)
  have hup := o.rt.up.1
  have hot : OthT X' B O := OthT.ext o.iv r.ext (fun t ht => rtsB_B (List.mem_append_right _ (List.mem_map_of_mem ht))) o.ot
  refine ⟨h0, L2, lv', sw, ln.trans r.ext.ln, fun y => yg (r.ext.yg y), ⟨by rw [hR]; exact iv2, hot, fun b hb => ?_, Or.inr ⟨h0, hl.2, by omega, t⟩, fun z hz => ?_, fun _ => putL_ne l x, Or.inr h0⟩⟩
  · obtain ⟨b0, bk, be⟩ := o.bl b hb
    have hb2 := o.iv.toT.root (rtsB_B (root := root) (List.mem_append_left _ hb))
    have hk := (r.ext.kp b.toNat (o.iv.toT.live hb2.2).1).1
    have e : ((b.toNat : Nat) : Int) = b := by omega
    rw [e] at hk
    rw [hk]
    exact ⟨b0, bk, be⟩
  · rcases (mem_putL hup).1 hz with rfl | ⟨q, _⟩
    · exact hx
    · exact o.pg z q
/-- With room, a key is put. -/
theorem OneT.good {X : DSt} {L : List Pg} {B : List Int} {O : List (Nat × Int)} {lv : Nat} {root : Int} {l l' : List (Int × Int)} (o : OneT X L B O lv root l) (y : PlY L) (hc : B.length + 65 * O.length ≤ 135) (hL : B.length + 64 * (O.length + 1) + 13 ≤ L.length) {X' : DSt} {L' : List Pg} {p' e : Int} (r : PutR X L (rtsB (B ++ O.map (·.2)) root) [] Q2 (hgt lv root) l' X' L' p' e) : e = 0 := by
  have hh : hgt lv root ≤ 6 := by
    unfold hgt; split
    · omega
    · rename_i h; have := o.lv5 h; omega
  refine r.good ?_ fun q => ?_
  · have := o.free y; omega
  · have := o.cnt q; omega
end Go.Proofs.YtkhdniccnefdhaaGreat
/- Build: entries put in one behind the other; no condition. -/
namespace Go.Proofs.YtkhdniccnefdhaaGreat
open Go.RowKit Go.Proofs.U
set_option linter.unusedSimpArgs false
set_option linter.unusedVariables false
/-- Put, of a tree or of None. -/
theorem OneT.Put_any {F : Nat → Prop} {gs gp : Nat} {X : DSt} {L : List Pg} {B : List Int} {O : List (Nat × Int)} {m lv : Nat} {root : Int} {l : List (Int × Int)} (o : OneT X L B O lv root l) (hm : m ≤ 80000) (x : Int × Int) (hk : 0 ≤ x.1 ∧ x.1 ≤ 63) (hb : x.2 ∈ B) (w : World) (h : Sto w F gs gp X L m) :
    Calls Tryz.prog 9 #[trV gs, .int .i64 root, .int .i64 x.1, .int .i64 x.2] w fun r w' => ∃ X' L' p' e, TopIs w w' F gs gp (X', L') p' e (m + 20) r ∧ PutR X L (rtsB (B ++ O.map (·.2)) root) [] Q2 (hgt lv root) (putL l x) X' L' p' e := by
  have hpg := o.iv.toT.root (rtsB_B (root := root) (List.mem_append_left (O.map (·.2)) hb))
  rcases o.rt with ⟨rfl, rfl⟩ | ⟨h0, hp, hlv, t⟩
  · exact Put_empty o.iv.toT hm x.1 x.2 hk hpg w h
  · have e : hgt lv root = lv + 1 := by unfold hgt; rw [if_neg (by omega)]
    rw [e]
    exact Put_tree Q2_ok Q2_34 o.iv.toT t h0 hp hlv hm x.1 x.2 hk hpg w h
/-- .. behind what turned the pool. -/
theorem StT.pool {w w1 w2 : World} {F F' : Nat → Prop} {gs gp : Nat} {S : DSt × List Pg} {L2 : List Pg} {m : Nat} (h : StT w w1 F F' gs gp S m) (f : Fr (onB1 gp) w1 w2) (s : Sto w2 F' gs gp S.1 L2 m) : StT w w2 F F' gs gp (S.1, L2) m :=
  ⟨s, fun k hk => ⟨(h.ft k hk).1, s.ft k hk⟩, h.fr.thenT (f.mono (fun k _ q => Or.inr q)) (fun _ _ q => q)⟩
/-- What Build hands. -/
def BuildIs (w w' : World) (F : Nat → Prop) (gs gp : Nat) (L : List Pg) (B : List Int) (O : List (Nat × Int)) (es : List (Int × Int)) (m : Nat) (r : Ending) : Prop := ∃ F' X' L' lv root, r = .returned (.tuple #[.int .i64 root, .int .i64 0]) ∧ StT w w' F F' gs gp (X', L') m ∧ OneT X' L' B O lv root (es.foldl putL []) ∧ PlY L' ∧ L'.length = L.length
theorem OneT.start {X : DSt} {L : List Pg} {B : List Int} {O : List (Nat × Int)} (iv : Inv X L (B ++ O.map (·.2))) (ot : OthT X B O) (bl : ∀ b ∈ B, 0 ≤ b ∧ (rdN X b).1.k = 1 ∧ (rdN X b).1.es = []) : OneT X L B O 0 (-1) [] :=
  ⟨by unfold rtsB; rw [if_pos rfl]; exact iv, ot, bl, Or.inl ⟨rfl, rfl⟩, by simp, fun h => absurd rfl h, Or.inl rfl⟩
set_option maxRecDepth 100000 in
set_option maxHeartbeats 4000000 in
theorem Build_any {F : Nat → Prop} {gs gp : Nat} {X : DSt} {L : List Pg} {B : List Int} {O : List (Nat × Int)} {m : Nat} (es : List (Int × Int)) (v : Value) (w : World) (h : Sto w F gs gp X L m) (o : OneT X L B O 0 (-1) []) (y : PlY L) (hc : B.length + 65 * O.length ≤ 135) (hL : B.length + 64 * (O.length + 1) + 13 ≤ L.length) (hm : m ≤ 10000) (he : es.length ≤ 100) (hes : ∀ x ∈ es, (0 ≤ x.1 ∧ x.1 ≤ 63) ∧ x.2 ∈ B)
    (hS : SlR enC 2 w v es) (hvF : ∀ x, v.ownBlock = some x → ¬ F x ∧ x ≠ gp) :
    Calls Tryz.prog 17 #[trV gs, v] w fun r w' => BuildIs w w' F gs gp L B O es (m + 20 * es.length) r := by
  obtain ⟨a0, c0, rfl, hc0⟩ := hS.opn
  have hgp := h.ltp
  have hgs := h.lts
  have hFt := h.ft
  have hes' := show Hid _ from hes
  clear hes
  go_enter Tryz.func17, Tryz.ntmps17
  go_wp2_with (first
    | (with_reducible refine at_wpP ?_; refine wpList_boxG rfl 26 _ rfl (trV gs) [ptr gs] rfl rfl ?_; intro g1 w1 hg1 b1 f1 s1; have l1 := b1.lt; have z1 := f1.size))
  have H1 := h.fr0 f1
  have hS1 := hS.fr0 f1
  go_loopw [14, 6] (fun i r wr => ∃ (k : Nat) (Fk : Nat → Prop) (Xk : DSt) (Lk : List Pg) (lv : Nat) (root : Int), k ≤ es.length ∧ i = .int .i64 (k : Int) ∧ r = .int .i64 root ∧ StT w1 wr F Fk gs gp (Xk, Lk) (m + 20 * k) ∧ OneT Xk Lk B O lv root ((es.take k).foldl putL []) ∧ PlY Lk ∧ Lk.length = L.length) (fun i _ _ => es.length - (intOf i).toNat)
  case atStart => exact ⟨0, F, X, L, 0, -1, Nat.zero_le _, rfl, rfl, StT.start H1, o, y, rfl⟩
  case round =>
    obtain ⟨j, Fk, Xk, Lk, lv, root, hj, rfl, rfl, T, oj, yj, hlj⟩ := hrel
    have hnF : ∀ x, w.heap.size ≤ x → ¬ stB F gp x := fun x hx q => by
      rcases q with q | q
      · have := hFt _ q; omega
      · omega
    have bj := b1.fr T.fr (hnF _ s1)
    by_cases hlt : j < es.length
    · obtain ⟨x, Hx⟩ : ∃ x, Hid (es[j] = x) := ⟨es[j], (rfl : es[j] = es[j])⟩
      have hx := hes'.out x (by rw [← Hx.out]; exact List.getElem_mem _)
      have hn : (es.take (j + 1)).foldl putL [] = putL ((es.take j).foldl putL []) x := by
        rw [List.take_succ_eq_append_getElem hlt, List.foldl_append, Hx.out]; rfl
      generalize (es.take j).foldl putL [] = l at *
      have hn := show Hid _ from hn
      have hSj := hS1.fr T.fr (fun k hk q => by
        have := hvF k hk
        rcases q with q | q
        · exact this.1 q
        · exact this.2 q)
      have zj := T.fr.size
      have hFk := T.st.ft
      have hgk := T.st.ltp
      have hgsk := T.st.lts
      have hPut := fun W (f : Fr noB _ W) => oj.Put_any (by omega) x hx.1 hx.2 W (T.st.fr0 f)
      have hnFk : ¬ stB Fk gp g1 := fun q => by
        rcases q with q | q
        · rcases (T.ft _ q).1 with q | q
          · have := hFt _ q; omega
          · omega
        · omega
      have hlt' : (j : Int) < (es.length : Int) := by omega
      go_upto_region 6 with (first
        | (with_reducible refine at_wpP ?_; refine at_idx 22 _ _ rfl ?_; go_must (refine wpList_idxR rfl 22 _ _ rfl 33 Tryz.underlying22 2 en_size _ _ _ rfl hSj (by decide) _ _ j rfl rfl hlt ?_; rw [Hx.out]; intro ba oa hba hca))
        | (with_reducible refine at_wpP ?_; refine at_ld 33 _ rfl ?_; have q := hca; refine wpList_ldE rfl _ rfl ba oa rfl x hca ?_)
        | (with_reducible refine at_wpP ?_; refine wpList_allocE rfl rfl ?_; intro gl w5 hgl b5 f5 sl; have l5 := b5.lt; have z5 := f5.size)
        | (with_reducible refine at_wpP ?_; refine at_st 33 _ _ rfl ?_; go_must (refine wpList_stE rfl _ _ rfl gl rfl (0, 0) x b5 rfl ?_; intro w6 B6 f6; have F6 := Fr.ownX f5 sl f6; have z6 := f6.size; obtain ⟨k0, k1⟩ := B6.all; have b6 := bj.fr0 F6))
        | (with_reducible refine at_wpP ?_; refine at_ld 26 _ rfl ?_; go_must (refine wpList_ldT rfl _ rfl g1 rfl gs b6 ?_))
        | (go_at_call 9; go_must (refine (hPut _ F6).mono ?_; rintro e1 w7 ⟨X2, L2, p2, e2, ⟨F2, he1, T7⟩, R7⟩; subst he1)))
      obtain rfl := oj.good yj hc (by omega) R7
      obtain ⟨h0, L3, lv3, sw, ln3, y3, o3⟩ := oj.put hx.2 R7 hc
      have z7 := T7.fr.size
      have b7 := b6.fr T7.fr hnFk
      have hSw := Swap_F (by omega) (by omega) T7.st sw
      rw [← hn.out] at o3
      go_wp2_with (first
        | (with_reducible refine at_wpP ?_; refine at_ld 26 _ rfl ?_; go_must (refine wpList_ldT rfl _ rfl g1 rfl gs b7 ?_))
        | (go_at_call 12; go_must (refine hSw.mono ?_; rintro e1 w8 ⟨rfl, s8, f8⟩; have z8 := f8.size)))
      go_roundw
      case rel => exact ⟨j + 1, F2, X2, L3, lv3, p2, by omega, by go_num, rfl, ((((T.fr0 F6).trans H1.ft T7).pool f8 s8).mono (by omega)), o3, y3 yj, ln3.trans hlj⟩
      case measure => simp [intOf]; omega
    · obtain rfl : j = es.length := by omega
      rw [List.take_length] at oj
      go_wp2
      go_ret2
      exact ⟨Fk, Xk, Lk, lv, root, rfl, T.pre f1, oj, yj, hlj⟩
end Go.Proofs.YtkhdniccnefdhaaGreat
/- Put with its answers named ahead of the world; no condition. -/
namespace Go.Proofs.YtkhdniccnefdhaaGreat
open Go.RowKit Go.Proofs.U
set_option linter.unusedSimpArgs false
set_option linter.unusedVariables false
/-- What Put answers, whatever the world. -/
def PutEx (X : DSt) (L : List Pg) (root : Int) (x : Int × Int) (m : Nat) (X' : DSt) (L' : List Pg) (p' e : Int) : Prop := ∀ (F : Nat → Prop) (gs gp : Nat) (w : World), Sto w F gs gp X L m → Calls Tryz.prog 9 #[trV gs, .int .i64 root, .int .i64 x.1, .int .i64 x.2] w fun r w' => TopIs w w' F gs gp (X', L') p' e (m + 20) r
/-- A state of Build. -/
structure BSt where
  X : DSt
  L : List Pg
  lv : Nat
  root : Int
/-- One step of Build. -/
structure BStep (m : Nat) (x : Int × Int) (s s' : BSt) : Prop where
  put : ∃ L' , PutEx s.X s.L s.root x m s'.X L' s'.root 0 ∧ swF s'.X L' s.root s'.root = (s'.L, 0)
  nn : 0 ≤ s'.root
end Go.Proofs.YtkhdniccnefdhaaGreat
/- A mark, and what is undone, plain; no condition. -/
namespace Go.Proofs.YtkhdniccnefdhaaGreat
open Go.RowKit Go.Proofs.U
set_option linter.unusedSimpArgs false
set_option linter.unusedVariables false
theorem OneT.mark {X : DSt} {L : List Pg} {B : List Int} {O : List (Nat × Int)} {lv : Nat} {root : Int} {l : List (Int × Int)} (o : OneT X L B O lv root l) : OneT X (plMark L) B O lv root l := by
  refine ⟨o.iv.mark, o.ot, o.bl, ?_, o.pg, o.ne, o.nn⟩
  have h := o.rt
  unfold RtAt at h ⊢
  rw [cntT_nil, cntL_mark]
  rwa [cntT_nil] at h
theorem TreeAt.ext {X X' : DSt} {L L' : List Pg} {R : List Int} {T : List Nat} (h : InvT X L R T) (hx : Ext X L X' L') {lv : Nat} {p : Int} {l : List (Int × Int)} (t : TreeAt X Q2 lv p l) (h0 : 0 ≤ p) (hp : 0 < cntT L T p.toNat) : TreeAt X' Q2 lv p l := by
  obtain ⟨a1, a2, a3⟩ := okT.ext h hx t.ok h0 hp
  have hf := fitT.ext h hx t.ok h0 hp t.ft
  refine ⟨a1, a2.trans t.ls, ?_, hf⟩
  rcases t.rt with q | q
  · exact Or.inl q
  · refine Or.inr ?_
    have e := (hx.kp p.toNat (h.live hp).1).1
    rw [Int.toNat_of_nonneg h0] at e
    unfold szX esX at q ⊢
    rw [e]
    exact q
end Go.Proofs.YtkhdniccnefdhaaGreat
/- The document's Same of entries (layer 10); no condition. -/
namespace Go.Proofs.YtkhdniccnefdhaaGreat
open Go.RowKit Go.Proofs.U
set_option linter.unusedSimpArgs false
set_option linter.unusedVariables false
theorem cells_at {w : World} {b o n c : Nat} {l : List (Int × Int)} (h : SlR enC 2 w (.slice (some ⟨b, o, none⟩) n c) l) (k : Nat) (hk : k < l.length) {x : Int × Int} (hx : Hid (l[k] = x)) : ∀ q u, (enC x)[q]? = some u → w.cell? ⟨b, o + k * 2 + q, none⟩ = some u := by
  intro q u hq
  obtain ⟨hall, ao, cap, hv, hcap, hlen, hnone, hsome⟩ := h
  cases hv
  have hq2 : q < 2 := (List.getElem?_eq_some_iff.1 hq).1
  have hfl := flat_at enC 2 l hall k hk q hq2
  rw [hx.out, hq] at hfl
  have := hsome _ rfl _ _ hfl
  rw [Addr.add_lit] at this
  rw [Nat.add_assoc]
  exact this
set_option maxRecDepth 100000 in
set_option maxHeartbeats 4000000 in
theorem same10_any (va vb : Value) (la lb : List (Int × Int)) (w : World) (ha : SlP .i64 .i64 w va la) (hb : SlP .i64 .i64 w vb lb) (hm : la.length ≤ 1000) :
    Calls Tryz.prog 11 #[va, vb] w fun r w' => r = .returned (.bool (la == lb)) ∧ Fr noB w w' := by
  obtain ⟨a0, c0, hva, hc0⟩ := ha.1.opn
  obtain ⟨a1, c1, hvb, hc1⟩ := hb.1.opn
  by_cases hne : la.length = lb.length
  · by_cases h0 : la.length = 0
    · have e1 : la = [] := List.eq_nil_of_length_eq_zero h0
      have e2 : lb = [] := List.eq_nil_of_length_eq_zero (by omega)
      subst e1; subst e2
      subst hva; subst hvb
      go_enter Tryz.func11, Tryz.ntmps11
      go_wp2
      go_loop [13] (fun i => i = .int .i64 0) (fun _ => 0)
      case atStart => rfl
      case round =>
        subst hrel
        go_wp2
        go_ret
        exact ⟨rfl, Fr.refl _ _⟩
    · clear hva hvb hc0 hc1
      obtain ⟨ba, oa, ca, rfl, hca⟩ := SlR.addr ha.1 (by decide) (by omega)
      obtain ⟨bb, ob, cb, rfl, hcb⟩ := SlR.addr hb.1 (by decide) (by omega)
      have hnt : ((la.length : Int) == (lb.length : Int)) = true := by simp; omega
      have hneI : (la.length : Int) = (lb.length : Int) := by omega
      have hneI := show Hid _ from hneI
      have hne' := show Hid _ from hne
      clear hne
      go_enter Tryz.func11, Tryz.ntmps11
      go_wp2
      go_loopw [13] (fun i wr => ∃ (k : Nat), k ≤ la.length ∧ i = .int .i64 (k : Int) ∧ Hid (la.take k = lb.take k) ∧ Fr noB w wr) (fun i _ => la.length - (intOf i).toNat)
      case atStart => exact ⟨0, by omega, rfl, rfl, Fr.refl _ _⟩
      case round =>
        obtain ⟨k, hk, rfl, htk, hf⟩ := hrel
        by_cases hlt : k < la.length
        · have hltb : k < lb.length := by rw [← hne'.out]; exact hlt
          have hlt' : (k : Int) < (la.length : Int) := by omega
          have hltb' : (k : Int) < (lb.length : Int) := by omega
          obtain ⟨x, Hx⟩ : ∃ x, Hid (la[k] = x) := ⟨la[k], (rfl : la[k] = la[k])⟩
          obtain ⟨y, Hy⟩ : ∃ y, Hid (lb[k] = y) := ⟨lb[k], (rfl : lb[k] = lb[k])⟩
          go_wp2
          obtain ⟨w0, HW⟩ : ∃ w0, Hid (wr.drew = w0) := ⟨_, rfl⟩
          have f0 : Fr noB wr w0 := by rw [← HW.out]; exact (Fr.refl _ _).drew
          have z0 := f0.size
          have hSA := (ha.1.fr0 hf).fr0 f0
          have hSB := (hb.1.fr0 hf).fr0 f0
          refine wp_region_chain_layT (by kernel_rfl) [] [none, none, none, none, none, none, none, none, none]
            [fun v => v = .slice (some ⟨ba, oa, none⟩) la.length ca, fun v => v = .int .i64 (k : Int), fun v => v = .pointer (some ⟨ba, oa + k * 2, none⟩), fun v => v = enV x, fun v => v = .slice (some ⟨bb, ob, none⟩) lb.length cb, fun v => v = .int .i64 (k : Int), fun v => v = .pointer (some ⟨bb, ob + k * 2, none⟩), fun v => v = enV y, fun v => v = .bool (!(x == y))]
            (JGX w0) (by rw [HW.out]; exact Fr.refl _ _) (by kernel_rfl) (by kernel_rfl) (by decide) ⟨?o0, ?o1, ?o2, ?o3, ?o4, ?o5, ?o6, ?o7, ?o8, trivial⟩ ?oe
          case o0 =>
            intro A W hv hlen hJ hbase hdL hdH
            have e0 : A.eval (.tmp 0) = .slice (some ⟨ba, oa, none⟩) la.length ca := hbase 0 (by kernel_rfl)
            have f0 : A.tmps[0]?.getD undef = .slice (some ⟨ba, oa, none⟩) la.length ca := by simpa [Act.eval] using e0
            exact light_val rfl (v := .slice (some ⟨ba, oa, none⟩) la.length ca) (by simp [execOp, e0, f0]) hJ rfl
          case o1 =>
            intro A W hv hlen hJ hbase hdL hdH
            have e5 : A.eval (.tmp 5) = .int .i64 (k : Int) := hbase 5 (by kernel_rfl)
            have f5 : A.tmps[5]?.getD undef = .int .i64 (k : Int) := by simpa [Act.eval] using e5
            exact light_val rfl (v := .int .i64 (k : Int)) (by simp [execOp, e5, f5]) hJ rfl
          case o2 =>
            intro A W hv hlen hJ hbase hdL hdH
            have e16 : A.eval (.tmp 16) = .slice (some ⟨ba, oa, none⟩) la.length ca := hdL 0 16 (by kernel_rfl) (by kernel_rfl) (by kernel_rfl)
            have f16 : A.tmps[16]?.getD undef = .slice (some ⟨ba, oa, none⟩) la.length ca := by simpa [Act.eval] using e16
            have e17 : A.eval (.tmp 17) = .int .i64 (k : Int) := hdL 1 17 (by kernel_rfl) (by kernel_rfl) (by kernel_rfl)
            have f17 : A.tmps[17]?.getD undef = .int .i64 (k : Int) := by simpa [Act.eval] using e17
            have hr := run_idxS (P := Tryz.prog) (w := W) (sz := 2) 22 33 uE en_size ba oa la.length ca .i64 k (by exact hlt)
            exact light_val rfl (v := .pointer (some ⟨ba, oa + k * 2, none⟩)) (by simp [execOp, e16, e17, hr, Result.andThen]) hJ rfl
          case o3 =>
            intro A W hv hlen hJ hbase hdL hdH
            have e18 : A.eval (.tmp 18) = .pointer (some ⟨ba, oa + k * 2, none⟩) := hdL 2 18 (by kernel_rfl) (by kernel_rfl) (by kernel_rfl)
            have f18 : A.tmps[18]?.getD undef = .pointer (some ⟨ba, oa + k * 2, none⟩) := by simpa [Act.eval] using e18
            have hr := run_ldE W ba (oa + k * 2) x (cells_at (hSA.fr0 (show Fr noB w0 W from hJ)) k (by exact hlt) Hx)
            exact light_val rfl (v := enV x) (by simp [execOp, e18, hr, Result.andThen]) hJ rfl
          case o4 =>
            intro A W hv hlen hJ hbase hdL hdH
            have e1 : A.eval (.tmp 1) = .slice (some ⟨bb, ob, none⟩) lb.length cb := hbase 1 (by kernel_rfl)
            have f1 : A.tmps[1]?.getD undef = .slice (some ⟨bb, ob, none⟩) lb.length cb := by simpa [Act.eval] using e1
            exact light_val rfl (v := .slice (some ⟨bb, ob, none⟩) lb.length cb) (by simp [execOp, e1, f1]) hJ rfl
          case o5 =>
            intro A W hv hlen hJ hbase hdL hdH
            have e5 : A.eval (.tmp 5) = .int .i64 (k : Int) := hbase 5 (by kernel_rfl)
            have f5 : A.tmps[5]?.getD undef = .int .i64 (k : Int) := by simpa [Act.eval] using e5
            exact light_val rfl (v := .int .i64 (k : Int)) (by simp [execOp, e5, f5]) hJ rfl
          case o6 =>
            intro A W hv hlen hJ hbase hdL hdH
            have e20 : A.eval (.tmp 20) = .slice (some ⟨bb, ob, none⟩) lb.length cb := hdL 4 20 (by kernel_rfl) (by kernel_rfl) (by kernel_rfl)
            have f20 : A.tmps[20]?.getD undef = .slice (some ⟨bb, ob, none⟩) lb.length cb := by simpa [Act.eval] using e20
            have e21 : A.eval (.tmp 21) = .int .i64 (k : Int) := hdL 5 21 (by kernel_rfl) (by kernel_rfl) (by kernel_rfl)
            have f21 : A.tmps[21]?.getD undef = .int .i64 (k : Int) := by simpa [Act.eval] using e21
            have hr := run_idxS (P := Tryz.prog) (w := W) (sz := 2) 22 33 uE en_size bb ob lb.length cb .i64 k (by exact hltb)
            exact light_val rfl (v := .pointer (some ⟨bb, ob + k * 2, none⟩)) (by simp [execOp, e20, e21, hr, Result.andThen]) hJ rfl
          case o7 =>
            intro A W hv hlen hJ hbase hdL hdH
            have e22 : A.eval (.tmp 22) = .pointer (some ⟨bb, ob + k * 2, none⟩) := hdL 6 22 (by kernel_rfl) (by kernel_rfl) (by kernel_rfl)
            have f22 : A.tmps[22]?.getD undef = .pointer (some ⟨bb, ob + k * 2, none⟩) := by simpa [Act.eval] using e22
            have hr := run_ldE W bb (ob + k * 2) y (cells_at (hSB.fr0 (show Fr noB w0 W from hJ)) k (by exact hltb) Hy)
            exact light_val rfl (v := enV y) (by simp [execOp, e22, hr, Result.andThen]) hJ rfl
          case o8 =>
            intro A W hv hlen hJ hbase hdL hdH
            have e19 : A.eval (.tmp 19) = enV x := hdL 3 19 (by kernel_rfl) (by kernel_rfl) (by kernel_rfl)
            have f19 : A.tmps[19]?.getD undef = enV x := by simpa [Act.eval] using e19
            have e23 : A.eval (.tmp 23) = enV y := hdL 7 23 (by kernel_rfl) (by kernel_rfl) (by kernel_rfl)
            have f23 : A.tmps[23]?.getD undef = enV y := by simpa [Act.eval] using e23
            have hr := run_neE x y W
            have hg : (eqGuard .neq 33 (.tmp 19) (.tmp 23) (enV x) (enV y)).run Tryz.prog W = .ok () W := run_eqGuard_agg W _ _ _ _ _ _ en_eqg
            exact light_val rfl (v := .bool (!(x == y))) (by simp [execOp, e19, e23, hr, hg, Result.andThen]) hJ rfl
          case oe =>
            intro vs W' hv hlen hJ hL hH
            have x0 : vs 0 = .slice (some ⟨ba, oa, none⟩) la.length ca := hL 0 (by kernel_rfl) (by kernel_rfl)
            have x1 : vs 1 = .int .i64 (k : Int) := hL 1 (by kernel_rfl) (by kernel_rfl)
            have x2 : vs 2 = .pointer (some ⟨ba, oa + k * 2, none⟩) := hL 2 (by kernel_rfl) (by kernel_rfl)
            have x3 : vs 3 = enV x := hL 3 (by kernel_rfl) (by kernel_rfl)
            have x4 : vs 4 = .slice (some ⟨bb, ob, none⟩) lb.length cb := hL 4 (by kernel_rfl) (by kernel_rfl)
            have x5 : vs 5 = .int .i64 (k : Int) := hL 5 (by kernel_rfl) (by kernel_rfl)
            have x6 : vs 6 = .pointer (some ⟨bb, ob + k * 2, none⟩) := hL 6 (by kernel_rfl) (by kernel_rfl)
            have x7 : vs 7 = enV y := hL 7 (by kernel_rfl) (by kernel_rfl)
            have x8 : vs 8 = .bool (!(x == y)) := hL 8 (by kernel_rfl) (by kernel_rfl)
            simp only [layL, Nat.reduceAdd, Act.put, List.setIfInBounds_toArray, List.set_cons_zero, List.set_cons_succ, x0, x1, x2, x3, x4, x5, x6, x7, x8]
            clear x0 x1 x2 x3 x4 x5 x6 x7 x8 hL hH
            have hF : Fr noB w W' := hf.thenN (f0.thenN hJ)
            clear hJ
            by_cases hxy : x = y
            · have hb : (x == y) = true := by rw [beq_iff_eq]; exact hxy
              rw [hb]
              go_wp2
              go_roundw
              case rel => exact ⟨k + 1, by omega, by go_num, take_eq_succ htk hlt hltb (by rw [Hx.out, Hy.out, hxy]), hF⟩
              case measure => simp [intOf]; omega
            · have hb : (x == y) = false := by rw [beq_eq_false_iff_ne]; exact hxy
              rw [hb]
              have hr : (la == lb) = false := by
                rw [beq_eq_false_iff_ne]
                intro h
                subst h
                exact hxy (Hx.out.symm.trans Hy.out)
              go_wp2
              go_ret
              exact ⟨by first | rfl | (rw [hr]; rfl), hF⟩
        · have hke : k = la.length := by omega
          have hr : (la == lb) = true := by
            rw [beq_iff_eq]
            have h1 := htk.out
            rw [List.take_of_length_le (by omega), List.take_of_length_le (by rw [← hne'.out]; omega)] at h1
            exact h1
          have hlt' : ¬ (k : Int) < (la.length : Int) := by omega
          go_wp2
          go_ret
          exact ⟨by first | rfl | (rw [hr]; rfl), hf⟩
  · subst hva; subst hvb
    have hnt : ((la.length : Int) == (lb.length : Int)) = false := by simp; omega
    have hnt' : ¬ (la.length : Int) = (lb.length : Int) := by omega
    have hr : (la == lb) = false := by
      rw [beq_eq_false_iff_ne]
      intro e; exact hne (by rw [e])
    rw [hr]
    go_enter Tryz.func11, Tryz.ntmps11
    go_wp2
    go_ret
    exact ⟨rfl, Fr.refl _ _⟩
end Go.Proofs.YtkhdniccnefdhaaGreat
/- The document's Put and Find; no condition. (Written by th1_gen.py.) -/
namespace Go.Proofs.YtkhdniccnefdhaaGreat
open Go.RowKit Go.Proofs.U
set_option linter.unusedSimpArgs false
set_option linter.unusedVariables false
/-- What is still to come. -/
def tailR (d : Bool) (r : List (Int × Int)) (x : Int × Int) : List (Int × Int) := if d then r.filter (fun z => !(z.1 == x.1)) else putL r x
theorem tailR_t1 {r : List (Int × Int)} {x y : Int × Int} (h : y.1 = x.1) : tailR true (y :: r) x = tailR true r x := by
  unfold tailR; simp [h]
theorem tailR_t0 {r : List (Int × Int)} {x y : Int × Int} (h : ¬ y.1 = x.1) : tailR true (y :: r) x = y :: tailR true r x := by
  unfold tailR; simp [h]
theorem tailR_f1 {r : List (Int × Int)} {x y : Int × Int} (h : y.1 = x.1) : tailR false (y :: r) x = x :: tailR true r x := by
  unfold tailR; simp [putL, h]
theorem tailR_f0 {r : List (Int × Int)} {x y : Int × Int} (h0 : x.1 ≤ y.1) (h : ¬ y.1 = x.1) : tailR false (y :: r) x = x :: y :: tailR true r x := by
  unfold tailR; simp [putL, h0, h]
theorem tailR_fl {r : List (Int × Int)} {x y : Int × Int} (h0 : ¬ x.1 ≤ y.1) : tailR false (y :: r) x = y :: tailR false r x := by
  unfold tailR; simp [putL, h0]
theorem bx_cells {w : World} {g : Nat} {x : Int × Int} (b : BxV w g 33 (enC x)) : ∀ q u, (enC x)[q]? = some u → w.cell? ⟨g, 0 + q, none⟩ = some u := fun q u h => by rw [Nat.zero_add]; exact (b.cell q u h).1
set_option maxRecDepth 100000 in
set_option maxHeartbeats 16000000 in
theorem refPut_no (v : Value) (x : Int × Int) (w : World) (hx : x.1 < 0 ∨ 63 < x.1) :
    Calls Tryz.prog 10 #[v, enV x] w fun r w' => r = .returned (.tuple #[v, .int .i64 101]) ∧ Fr noB w w' := by
  by_cases h0 : x.1 < 0
  · have d0 : decide (x.1 < (0 : Int)) = true := decide_eq_true h0
    go_enter Tryz.func10, Tryz.ntmps10
    go_wp2_with (first
      | (with_reducible refine at_wpP ?_; refine wpList_boxG rfl 33 _ rfl (enV x) (enC x) rfl rfl ?_; intro g1 w1 hg1 b1 f1 s1; have q1 := (b1.cell 0 _ rfl).1))
    go_ret2
    exact ⟨rfl, f1⟩
  · have d0 : decide (x.1 < (0 : Int)) = false := decide_eq_false h0
    have d1 : decide ((63 : Int) < x.1) = true := decide_eq_true (by omega)
    go_enter Tryz.func10, Tryz.ntmps10
    go_wp2_with (first
      | (with_reducible refine at_wpP ?_; refine wpList_boxG rfl 33 _ rfl (enV x) (enC x) rfl rfl ?_; intro g1 w1 hg1 b1 f1 s1; have q1 := (b1.cell 0 _ rfl).1))
    go_ret2
    exact ⟨rfl, f1⟩
set_option maxRecDepth 100000 in
set_option maxHeartbeats 16000000 in
theorem refPut_any (v : Value) (la : List (Int × Int)) (x : Int × Int) (w : World) (hv : SlR enC 2 w v la) (hx : 0 ≤ x.1 ∧ x.1 ≤ 63) (hl : la.length ≤ 1000) :
    Calls Tryz.prog 10 #[v, enV x] w fun r w' => ∃ u, r = .returned (.tuple #[u, .int .i64 0]) ∧ EnO w' w.heap.size u (putL la x) ∧ Fr noB w w' := by
  obtain ⟨a0, c0, rfl, hc0⟩ := hv.opn
  have d0 : decide (x.1 < (0 : Int)) = false := decide_eq_false (by omega)
  have d1 : decide ((63 : Int) < x.1) = false := decide_eq_false (by omega)
  go_enter Tryz.func10, Tryz.ntmps10
  go_wp2_with (first
    | (with_reducible refine at_wpP ?_; refine wpList_boxG rfl 33 _ rfl (enV x) (enC x) rfl rfl ?_; intro g1 w1 hg1 b1 f1 s1; have q1 := (b1.cell 0 _ rfl).1; have z1 := f1.size; have l1 := b1.lt)
    | (with_reducible refine at_wpP ?_; refine wpList_mk0 enC 2 rfl 22 rfl 33 Tryz.underlying22 en_size ?_; intro g4 w4 o4 f4 s4 t4; have z4 := f4.size))
  go_loopw [22, 6, 7] (fun i v d wr => ∃ (k : Nat) (o : List (Int × Int)) (dn : Bool), k ≤ la.length ∧ i = .int .i64 (k : Int) ∧ OwnR enC 2 33 wr w1.heap.size v o ∧ d = .bool dn ∧ Hid (o ++ tailR dn (la.drop k) x = putL la x) ∧ o.length ≤ 2 * k ∧ Fr noB w1 wr) (fun i _ _ _ => la.length - (intOf i).toNat)
  case atStart => exact ⟨0, [], false, Nat.zero_le _, rfl, o4, rfl, rfl, by simp, f4⟩
  case round =>
    obtain ⟨j, o, dn, hj, rfl, ho, rfl, he, hol, hf⟩ := hrel
    have hSj := (hv.fr0 f1).fr0 hf
    have zf := hf.size
    have cr := b1.fr0 hf
    have kr := (cr.cell 0 _ rfl).1
    have hnb := ho.newB
    obtain ⟨ao, co, rfl⟩ := ho.opn
    by_cases hlt : j < la.length
    · obtain ⟨y, Hy⟩ : ∃ y, Hid (la[j] = y) := ⟨la[j], (rfl : la[j] = la[j])⟩
      have hlt' : (j : Int) < (la.length : Int) := by omega
      have hdr : la.drop j = y :: la.drop (j + 1) := by rw [List.drop_eq_getElem_cons hlt, Hy.out]
      rw [hdr] at he
      clear hdr
      by_cases e : y.1 = x.1
      · cases dn with
        | true =>
          have de : (y.1 == x.1) = true := by simpa using e
          have hn := show Hid _ from (by have := he.out; rwa [tailR_t1 e] at this : o ++ tailR true (la.drop (j + 1)) x = putL la x)
          clear he
          go_wp2_with (first
            | (with_reducible refine at_wpP ?_; refine at_idx 22 _ _ rfl ?_; go_must (refine wpList_idxR rfl 22 _ _ rfl 33 Tryz.underlying22 2 en_size _ _ _ rfl hSj (by decide) _ _ j rfl rfl hlt ?_; rw [Hy.out]; intro ba oa hba hca))
            | (with_reducible refine at_wpP ?_; refine at_ld 33 _ rfl ?_; have q := hca; go_must (refine wpList_ldE rfl _ rfl ba oa rfl y hca ?_))
            | (with_reducible refine at_wpP ?_; refine wpList_allocE rfl rfl ?_; intro gl w5 hgl b5 f5 sl; have l5 := b5.lt; have z5 := f5.size)
            | (with_reducible refine at_wpP ?_; refine at_st 33 _ _ rfl ?_; go_must (refine wpList_stE rfl _ _ rfl gl rfl (0, 0) y b5 rfl ?_; intro w6 B6 f6; have F6 := Fr.ownX f5 sl f6; have z6 := f6.size; obtain ⟨k0, k1⟩ := B6.all; have c6 := b1.fr0 (hf.thenN F6); have q6 := (c6.cell 0 _ rfl).1; have o6 := ho.fr0 F6)))
          go_roundw
          case rel => exact ⟨j + 1, o, true, by omega, by go_num, o6, rfl, hn, by omega, hf.thenN F6⟩
          case measure => simp [intOf]; omega
        | false =>
          have de : (y.1 == x.1) = true := by simpa using e
          have dl : decide (x.1 ≤ y.1) = true := decide_eq_true (by omega)
          have hn := show Hid _ from (by have := he.out; rwa [tailR_f1 e] at this : o ++ (x :: tailR true (la.drop (j + 1)) x) = putL la x)
          clear he
          go_wp2_with (first
            | (with_reducible refine at_wpP ?_; refine at_ld 33 _ rfl ?_; have q := c6; go_must (refine wpList_ldE rfl _ rfl g1 0 rfl x (bx_cells c6) ?_))
            | (with_reducible refine at_wpP ?_; refine wpList_mkC rfl 22 _ rfl uE _ en_info2 (by decide) (by decide) x (enV x) rfl rfl rfl ?_; intro g7 w7 b7 f7 s7; have z7 := f7.size)
            | (at_builtin; have q := b7; go_must (refine wpList_appL rfl _ _ 22 rfl _ 16 uE en_info rfl (by decide) (.slice ao o.length co) rfl (o6.fr0 f7) g7 rfl x rfl _ b7 (en_one _) ?hq1 ?hq2 ?hq3 ?_; rotate_left 3; intro u8 w8 o8 f8 p8; have z8 := f8.size; have c8 := (c6.fr0 f7).fr f8 (fun q => by have := (hnb _ q).1; omega); have q8 := (c8.cell 0 _ rfl).1; have B8 := (B6.fr0 f7).fr f8 (fun q => by have := (hnb _ q).2; omega); obtain ⟨k08, k18⟩ := EnB.all B8))
            | (with_reducible refine at_wpP ?_; refine at_idx 22 _ _ rfl ?_; go_must (refine wpList_idxR rfl 22 _ _ rfl 33 Tryz.underlying22 2 en_size _ _ _ rfl hSj (by decide) _ _ j rfl rfl hlt ?_; rw [Hy.out]; intro ba oa hba hca))
            | (with_reducible refine at_wpP ?_; refine at_ld 33 _ rfl ?_; have q := hca; go_must (refine wpList_ldE rfl _ rfl ba oa rfl y hca ?_))
            | (with_reducible refine at_wpP ?_; refine wpList_allocE rfl rfl ?_; intro gl w5 hgl b5 f5 sl; have l5 := b5.lt; have z5 := f5.size)
            | (with_reducible refine at_wpP ?_; refine at_st 33 _ _ rfl ?_; go_must (refine wpList_stE rfl _ _ rfl gl rfl (0, 0) y b5 rfl ?_; intro w6 B6 f6; have F6 := Fr.ownX f5 sl f6; have z6 := f6.size; obtain ⟨k0, k1⟩ := B6.all; have c6 := b1.fr0 (hf.thenN F6); have q6 := (c6.cell 0 _ rfl).1; have o6 := ho.fr0 F6)))
          case hq1 => unfold maxLen; omega
          case hq2 => omega
          case hq3 => omega
          go_roundw
          case rel => exact ⟨j + 1, _, true, by omega, by go_num, o8, rfl, (by show _ = _; rw [List.append_assoc]; exact hn.out), by simp; omega, ((hf.thenN F6).thenN f7).thenT f8 (fun k hk e => by have := (hnb k e).1; omega)⟩
          case measure => simp [intOf]; omega
      · cases dn with
        | true =>
          have de : (y.1 == x.1) = false := by simpa using e
          have hn := show Hid _ from (by have := he.out; rwa [tailR_t0 e] at this : o ++ (y :: tailR true (la.drop (j + 1)) x) = putL la x)
          clear he
          go_wp2_with (first
            | (with_reducible refine at_wpP ?_; refine at_ld 33 _ rfl ?_; have q := B6; go_must (refine wpList_ldE rfl _ rfl gl 0 rfl y (bx_cells B6) ?_))
            | (with_reducible refine at_wpP ?_; refine wpList_mkC rfl 22 _ rfl uE _ en_info2 (by decide) (by decide) y (enV y) rfl rfl rfl ?_; intro g7 w7 b7 f7 s7; have z7 := f7.size)
            | (at_builtin; have q := b7; go_must (refine wpList_appL rfl _ _ 22 rfl _ 16 uE en_info rfl (by decide) (.slice ao o.length co) rfl (o6.fr0 f7) g7 rfl y rfl _ b7 (en_one _) ?hq1 ?hq2 ?hq3 ?_; rotate_left 3; intro u8 w8 o8 f8 p8; have z8 := f8.size))
            | (with_reducible refine at_wpP ?_; refine at_idx 22 _ _ rfl ?_; go_must (refine wpList_idxR rfl 22 _ _ rfl 33 Tryz.underlying22 2 en_size _ _ _ rfl hSj (by decide) _ _ j rfl rfl hlt ?_; rw [Hy.out]; intro ba oa hba hca))
            | (with_reducible refine at_wpP ?_; refine at_ld 33 _ rfl ?_; have q := hca; go_must (refine wpList_ldE rfl _ rfl ba oa rfl y hca ?_))
            | (with_reducible refine at_wpP ?_; refine wpList_allocE rfl rfl ?_; intro gl w5 hgl b5 f5 sl; have l5 := b5.lt; have z5 := f5.size)
            | (with_reducible refine at_wpP ?_; refine at_st 33 _ _ rfl ?_; go_must (refine wpList_stE rfl _ _ rfl gl rfl (0, 0) y b5 rfl ?_; intro w6 B6 f6; have F6 := Fr.ownX f5 sl f6; have z6 := f6.size; obtain ⟨k0, k1⟩ := B6.all; have c6 := b1.fr0 (hf.thenN F6); have q6 := (c6.cell 0 _ rfl).1; have o6 := ho.fr0 F6)))
          case hq1 => unfold maxLen; omega
          case hq2 => omega
          case hq3 => omega
          go_roundw
          case rel => exact ⟨j + 1, _, true, by omega, by go_num, o8, rfl, (by show _ = _; rw [List.append_assoc]; exact hn.out), by simp; omega, ((hf.thenN F6).thenN f7).thenT f8 (fun k hk e => by have := (hnb k e).1; omega)⟩
          case measure => simp [intOf]; omega
        | false =>
          by_cases hle : x.1 ≤ y.1
          · skip
            have de : (y.1 == x.1) = false := by simpa using e
            have dl : decide (x.1 ≤ y.1) = true := decide_eq_true (by omega)
            have hn := show Hid _ from (by have := he.out; rwa [tailR_f0 hle e] at this : o ++ (x :: y :: tailR true (la.drop (j + 1)) x) = putL la x)
            clear he
            go_upto_region 11 with (first
              | (with_reducible refine at_wpP ?_; refine at_ld 33 _ rfl ?_; have q := c6; go_must (refine wpList_ldE rfl _ rfl g1 0 rfl x (bx_cells c6) ?_))
              | (with_reducible refine at_wpP ?_; refine wpList_mkC rfl 22 _ rfl uE _ en_info2 (by decide) (by decide) x (enV x) rfl rfl rfl ?_; intro g7 w7 b7 f7 s7; have z7 := f7.size)
              | (at_builtin; have q := b7; go_must (refine wpList_appL rfl _ _ 22 rfl _ 16 uE en_info rfl (by decide) (.slice ao o.length co) rfl (o6.fr0 f7) g7 rfl x rfl _ b7 (en_one _) ?hq1 ?hq2 ?hq3 ?_; rotate_left 3; intro u8 w8 o8 f8 p8; have z8 := f8.size; have c8 := (c6.fr0 f7).fr f8 (fun q => by have := (hnb _ q).1; omega); have q8 := (c8.cell 0 _ rfl).1; have B8 := (B6.fr0 f7).fr f8 (fun q => by have := (hnb _ q).2; omega); obtain ⟨k08, k18⟩ := EnB.all B8))
              | (with_reducible refine at_wpP ?_; refine at_idx 22 _ _ rfl ?_; go_must (refine wpList_idxR rfl 22 _ _ rfl 33 Tryz.underlying22 2 en_size _ _ _ rfl hSj (by decide) _ _ j rfl rfl hlt ?_; rw [Hy.out]; intro ba oa hba hca))
              | (with_reducible refine at_wpP ?_; refine at_ld 33 _ rfl ?_; have q := hca; go_must (refine wpList_ldE rfl _ rfl ba oa rfl y hca ?_))
              | (with_reducible refine at_wpP ?_; refine wpList_allocE rfl rfl ?_; intro gl w5 hgl b5 f5 sl; have l5 := b5.lt; have z5 := f5.size)
              | (with_reducible refine at_wpP ?_; refine at_st 33 _ _ rfl ?_; go_must (refine wpList_stE rfl _ _ rfl gl rfl (0, 0) y b5 rfl ?_; intro w6 B6 f6; have F6 := Fr.ownX f5 sl f6; have z6 := f6.size; obtain ⟨k0, k1⟩ := B6.all; have c6 := b1.fr0 (hf.thenN F6); have q6 := (c6.cell 0 _ rfl).1; have o6 := ho.fr0 F6)))
            case hq1 => unfold maxLen; omega
            case hq2 => omega
            case hq3 => omega
            have hnb8 := o8.newB
            have hl8 : (o ++ [x]).length = o.length + 1 := by simp
            obtain ⟨o', HO⟩ : ∃ o', Hid (o ++ [x] = o') := ⟨_, rfl⟩
            rw [HO.out] at o8 hl8
            obtain ⟨a8, c8', hu8⟩ := o8.opn
            subst hu8
            go_wp2_with (first
              | (with_reducible refine at_wpP ?_; refine at_ld 33 _ rfl ?_; have q := B8; go_must (refine wpList_ldE rfl _ rfl gl 0 rfl y (bx_cells B8) ?_))
              | (with_reducible refine at_wpP ?_; refine wpList_mkC rfl 22 _ rfl uE _ en_info2 (by decide) (by decide) y (enV y) rfl rfl rfl ?_; intro g9 w9 b9 f9 s9; have z9 := f9.size)
              | (at_builtin; have q := b9; go_must (refine wpList_appL rfl _ _ 22 rfl _ 16 uE en_info rfl (by decide) (.slice a8 o'.length c8') rfl (o8.fr0 f9) g9 rfl y rfl _ b9 (en_one _) ?hq1 ?hq2 ?hq3 ?_; rotate_left 3; intro u10 w10 o10 f10 p10; have z10 := f10.size)))
            case hq1 => unfold maxLen; omega
            case hq2 => omega
            case hq3 => omega
            go_roundw
            case rel => exact ⟨j + 1, _, true, by omega, by go_num, o10, rfl, (by show _ = _; rw [← HO.out, List.append_assoc, List.append_assoc]; exact hn.out), by simp; omega, ((((hf.thenN F6).thenN f7).thenT f8 (fun k hk e => by have := (hnb k e).1; omega)).thenN f9).thenT f10 (fun k hk e => by have := (hnb8 k e).1; omega)⟩
            case measure => simp [intOf]; omega
          · skip
            have de : (y.1 == x.1) = false := by simpa using e
            have dl : decide (x.1 ≤ y.1) = false := decide_eq_false (by omega)
            have hn := show Hid _ from (by have := he.out; rwa [tailR_fl hle] at this : o ++ (y :: tailR false (la.drop (j + 1)) x) = putL la x)
            clear he
            go_wp2_with (first
              | (with_reducible refine at_wpP ?_; refine at_ld 33 _ rfl ?_; have q := B6; go_must (refine wpList_ldE rfl _ rfl gl 0 rfl y (bx_cells B6) ?_))
              | (with_reducible refine at_wpP ?_; refine wpList_mkC rfl 22 _ rfl uE _ en_info2 (by decide) (by decide) y (enV y) rfl rfl rfl ?_; intro g7 w7 b7 f7 s7; have z7 := f7.size)
              | (at_builtin; have q := b7; go_must (refine wpList_appL rfl _ _ 22 rfl _ 16 uE en_info rfl (by decide) (.slice ao o.length co) rfl (o6.fr0 f7) g7 rfl y rfl _ b7 (en_one _) ?hq1 ?hq2 ?hq3 ?_; rotate_left 3; intro u8 w8 o8 f8 p8; have z8 := f8.size))
              | (with_reducible refine at_wpP ?_; refine at_idx 22 _ _ rfl ?_; go_must (refine wpList_idxR rfl 22 _ _ rfl 33 Tryz.underlying22 2 en_size _ _ _ rfl hSj (by decide) _ _ j rfl rfl hlt ?_; rw [Hy.out]; intro ba oa hba hca))
              | (with_reducible refine at_wpP ?_; refine at_ld 33 _ rfl ?_; have q := hca; go_must (refine wpList_ldE rfl _ rfl ba oa rfl y hca ?_))
              | (with_reducible refine at_wpP ?_; refine wpList_allocE rfl rfl ?_; intro gl w5 hgl b5 f5 sl; have l5 := b5.lt; have z5 := f5.size)
              | (with_reducible refine at_wpP ?_; refine at_st 33 _ _ rfl ?_; go_must (refine wpList_stE rfl _ _ rfl gl rfl (0, 0) y b5 rfl ?_; intro w6 B6 f6; have F6 := Fr.ownX f5 sl f6; have z6 := f6.size; obtain ⟨k0, k1⟩ := B6.all; have c6 := b1.fr0 (hf.thenN F6); have q6 := (c6.cell 0 _ rfl).1; have o6 := ho.fr0 F6)))
            case hq1 => unfold maxLen; omega
            case hq2 => omega
            case hq3 => omega
            go_roundw
            case rel => exact ⟨j + 1, _, false, by omega, by go_num, o8, rfl, (by show _ = _; rw [List.append_assoc]; exact hn.out), by simp; omega, ((hf.thenN F6).thenN f7).thenT f8 (fun k hk e => by have := (hnb k e).1; omega)⟩
            case measure => simp [intOf]; omega
    · obtain rfl : j = la.length := by omega
      rw [List.drop_length] at he
      cases dn with
      | true =>
        have he : o = putL la x := by have := he.out; simpa [tailR] using this
        subst he
        go_wp2
        go_ret2
        exact ⟨_, rfl, ho.rebase (by omega), f1.thenN hf⟩
      | false =>
        have he := show Hid _ from (by have := he.out; simpa [tailR, putL] using this : o ++ [x] = putL la x)
        go_wp2_with (first
          | (with_reducible refine at_wpP ?_; refine at_ld 33 _ rfl ?_; have q := cr; go_must (refine wpList_ldE rfl _ rfl g1 0 rfl x (bx_cells cr) ?_))
          | (with_reducible refine at_wpP ?_; refine wpList_mkC rfl 22 _ rfl uE _ en_info2 (by decide) (by decide) x (enV x) rfl rfl rfl ?_; intro g7 w7 b7 f7 s7; have z7 := f7.size)
          | (at_builtin; have q := b7; go_must (refine wpList_appL rfl _ _ 22 rfl _ 16 uE en_info rfl (by decide) (.slice ao o.length co) rfl (ho.fr0 f7) g7 rfl x rfl _ b7 (en_one _) ?hq1 ?hq2 ?hq3 ?_; rotate_left 3; intro u8 w8 o8 f8 p8; have z8 := f8.size)))
        case hq1 => unfold maxLen; omega
        case hq2 => omega
        case hq3 => omega
        go_ret2
        exact ⟨_, rfl, by rw [← he.out]; exact o8.rebase (by omega), ((f1.thenN hf).thenN f7).thenT f8 (fun k hk e => by have := (hnb k e).1; omega)⟩
end Go.Proofs.YtkhdniccnefdhaaGreat
/- Pages of blocks, and that just so many pages are used as are reached, plain; no condition. -/
namespace Go.Proofs.YtkhdniccnefdhaaGreat
open Go.RowKit Go.Proofs.U
set_option linter.unusedSimpArgs false
set_option linter.unusedVariables false
/-- A store that holds pages of blocks alone, each once. -/
structure Bks (X : DSt) (L : List Pg) (B : List Int) (N : Nat) : Prop where
  iv : Inv X L B
  yg : PlY L
  bl : ∀ b ∈ B, 0 ≤ b ∧ (rdN X b).1.k = 1 ∧ (rdN X b).1.es = []
  nd : B.Nodup
  fr : plFree L + B.length = N
  ln : L.length = N
  ct : ∀ q, cntL L q ≤ B.length
theorem Bks.base {X : DSt} {L : List Pg} {pg : Int} {N : Nat} (b : Base1 X L pg N) : Bks X L [pg] N :=
  ⟨b.iv, b.yg, by intro x hx; simp at hx; subst hx; exact ⟨b.p0, by rw [b.rd], by rw [b.rd]⟩, by simp, b.fr, b.ln, fun q => by simpa using b.ct q⟩
theorem Bks.blk {X : DSt} {L : List Pg} {B : List Int} {N m : Nat} {b : List Int} (h : Bks X L B N) (hU : Up X L.length m) (hb : b.length = 16) (hby : Byt b) (hN : B.length < N) (hB : B.length ≤ 100) : ∃ X' L1 p L2, BlkIs X L B b X' L1 p L2 m ∧ Bks X' L2 (B ++ [p]) N := by
  have hf := h.fr
  obtain ⟨X', L1, p, L2, k⟩ := h.iv.block hU hb hby (by omega) (fun q => by have := h.ct q; omega)
  have hlive : ∀ x ∈ B, (plAt L x.toNat).free = false ∧ rdN X' x = rdN X x := fun x hx => by
    have hr := h.iv.toT.root hx
    refine ⟨(h.iv.toT.live hr.2).1, ?_⟩
    have := k.kp x.toNat (by have := hr.2; rwa [cntT_nil] at this)
    rwa [Int.toNat_of_nonneg hr.1] at this
  refine ⟨X', L1, p, L2, k, k.iv, k.yg h.yg, fun x hx => ?_, ?_, ?_, k.ln.trans h.ln, fun q => ?_⟩
  · rcases List.mem_append.1 hx with q | q
    · rw [(hlive x q).2]; exact h.bl x q
    · obtain rfl := List.mem_singleton.1 q
      rw [k.rd]; exact ⟨k.p0, rfl, rfl⟩
  · refine List.nodup_append.2 ⟨h.nd, by simp, fun a ha c hc => ?_⟩
    obtain rfl := List.mem_singleton.1 hc
    intro e
    subst e
    have := (hlive a ha).1
    rw [k.pf] at this
    cases this
  · rw [List.length_append, List.length_singleton]
    have := k.fr
    omega
  · rw [k.ct q, List.length_append, List.length_singleton]
    have := h.ct q
    split <;> omega
theorem Bks.one {X : DSt} {L : List Pg} {B : List Int} {N : Nat} (h : Bks X L B N) : OneT X L B [] 0 (-1) [] := OneT.start (by simpa using h.iv) (by intro t ht; simp at ht) h.bl
theorem tidy_yg {L : List Pg} (y : PlY L) : plTidy L = L := by
  unfold plTidy
  conv => rhs; rw [← List.map_id L]
  refine List.map_congr_left fun x hx => ?_
  obtain ⟨i, hi, rfl⟩ := List.mem_iff_getElem.1 hx
  have := y i
  rw [plAt_get L i hi] at this
  unfold tidyP
  rw [if_neg (by rcases this with q | q <;> omega)]
  rfl
/-- A tree's nodes are seen where the root is. -/
theorem occ_seen {X : DSt} {T : Int → Bool} (hT : ∀ x, T x = true → ∀ y ∈ kids (rdN X x).1, T y = true) : ∀ {lv : Nat} {p lo hi : Int}, okT X lv p lo hi → T p = true → ∀ q ∈ occT X lv p, T q = true
  | 0, p, lo, hi, _, hp, q, hq => by simp [occT] at hq; subst hq; exact hp
  | lv + 1, p, lo, hi, h, hp, q, hq => by
    unfold occT at hq
    rcases List.mem_cons.1 hq with rfl | hq
    · exact hp
    · obtain ⟨y, hy, hq⟩ := List.mem_flatMap.1 hq
      obtain ⟨b, hb⟩ := h.child y hy
      exact occ_seen hT hb (hT p hp y.2 (List.mem_map_of_mem hy)) q hq
theorem OneT.reach {X : DSt} {L : List Pg} {B : List Int} {lv : Nat} {root : Int} {l : List (Int × Int)} (o : OneT X L B [] lv root l) : ∃ S, reachF (getF X L) [root] = (S, 0) ∧ (∀ x, S x = true → 0 ≤ x ∧ 0 < cntL L x.toNat) ∧ (¬ root = -1 → ∀ q ∈ occT X lv root, S q = true) := by
  by_cases hr : root = -1
  · subst hr
    exact ⟨fun _ => false, rfl, fun x hx => (by cases hx), fun h => absurd rfl h⟩
  · obtain ⟨r0, _, t⟩ := o.tree hr
    have hp := (o.iv.toT.root (r := root) (by unfold rtsB; rw [if_neg hr]; simp)).2
    rw [cntT_nil] at hp
    have hf : ∀ S p, nS S < 241 → 0 ≤ p → 0 < cntL L p.toNat → (rootF (getF X L) S p).2 = 0 ∧ PostS X L S (rootF (getF X L) S p).1 ∧ (rootF (getF X L) S p).1 p = true := by
      intro S p hn h0 hc
      have e : rootF (getF X L) S p = seeF (getF X L) 241 S p := by unfold rootF; rw [if_neg (by omega)]
      rw [e]
      exact see_good o.iv.di 241 S p hn h0 hc
    obtain ⟨k1, k2, k3⟩ := each_see hf [root] (fun _ => false) (nS_lt _) (fun p h => by obtain rfl := List.mem_singleton.1 h; exact ⟨r0, hp⟩)
    refine ⟨(reachF (getF X L) [root]).1, by unfold reachF; rw [← k1], fun x hx => ?_, fun _ => ?_⟩
    · rcases k2.2 x hx with q | q
      · cases q
      · exact ⟨q.1, q.2.1⟩
    · refine occ_seen (fun x hx => ?_) t.ok (k3 root (by simp))
      rcases k2.2 x hx with q | q
      · cases q
      · exact q.2.2
def inL (X : DSt) (l : List Int) : List Int := l.filter fun p => !((rdN X p).1.k == 1)
theorem used_live {X : DSt} {L : List Pg} {R : List Int} (h : Inv X L R) (y : PlY L) : plFree L + (U.live L.length (cntL L)).length = L.length := by
  have key : ∀ n, n ≤ L.length → (L.take n).countP Pg.free + ((List.range n).filter fun q => decide (0 < cntL L q)).length = n := by
    intro n
    induction n with
    | zero => intro _; rfl
    | succ n ih =>
      intro hn
      have := ih (by omega)
      rw [List.take_succ_eq_append_getElem (by omega), List.countP_append, List.range_succ, List.filter_append, List.length_append]
      have hx : [L[n]].countP Pg.free + ([n].filter fun q => decide (0 < cntL L q)).length = 1 := by
        have hp : plAt L n = L[n] := plAt_get L n (by omega)
        rcases y n with hy | ⟨hs, hc⟩
        · have hf : (plAt L n).frsh = true := by unfold Pg.frsh; rw [hy]; rfl
          have hc := h.di.nf n hf
          have h1 : 0 < cntL L n := (cnt_pos n).2 hc
          have h2 : L[n].free = false := by rw [← hp]; unfold Pg.free; rw [hy]; simp
          simp [List.filter, List.countP_cons, h1, h2]
        · have h1 : L[n].free = true := by rw [← hp]; unfold Pg.free; rw [hs, hc]; rfl
          have h2 : ¬ 0 < cntL L n := fun q => by have := (cnt_pos n).1 q; omega
          simp [List.filter, List.countP_cons, h1, h2]
      omega
  have := key L.length (Nat.le_refl _)
  rw [List.take_length] at this
  exact this
theorem OneT.exactL {X : DSt} {L : List Pg} {B : List Int} {lv : Nat} {root : Int} {l : List (Int × Int)} (o : OneT X L B [] lv root l) (y : PlY L) (hn : B.Nodup) {S : Int → Bool} (h1 : ∀ x, S x = true → 0 ≤ x ∧ 0 < cntL L x.toNat) (h2 : ¬ root = -1 → ∀ q ∈ occT X lv root, S q = true) {l' : List Int} (hl : SeenL S l') :
    plFree L + ((inL X l').length + B.length) = L.length := by
  have hu := used_live o.iv y
  have hf := o.fam
  have hin : ∀ x ∈ inL X l', 0 ≤ x ∧ 0 < cntL L x.toNat ∧ ¬ (rdN X x).1.k = 1 := fun x hx => by
    obtain ⟨a, b⟩ := List.mem_filter.1 hx
    have := h1 x ((hl.mem x).1 a)
    exact ⟨this.1, this.2, by simpa using b⟩
  have hroot : ∀ b ∈ B, 0 ≤ b ∧ 0 < cntL L b.toNat := fun b hb => by
    have := o.iv.toT.root (rtsB_B (root := root) (List.mem_append_left (([] : List (Nat × Int)).map (·.2)) hb))
    rwa [cntT_nil] at this
  have hlt : ∀ q : Nat, 0 < cntL L q → q < L.length := fun q hq => (o.iv.toT.live (by rwa [cntT_nil])).2.1
  have hle : (U.live L.length (cntL L)).length ≤ (B ++ inL X l').length := by
    have := len_sub (W := (B ++ inL X l').map Int.toNat) (live_nodup L.length (cntL L)) fun r hr => by
      have hc := (mem_live.1 hr).2
      have hm := hf.live o.iv hc
      refine List.mem_map.2 ⟨(r : Int), ?_, by simp⟩
      unfold famP at hm
      rcases List.mem_append.1 hm with q | q
      · exact List.mem_append_left _ q
      · obtain ⟨t, ht, hq⟩ := List.mem_flatMap.1 q
        rcases oneTs_mem ht with h | ⟨hne, rfl⟩
        · cases h
        · obtain ⟨_, _, t⟩ := o.tree hne
          refine List.mem_append_right _ (List.mem_filter.2 ⟨(hl.mem _).2 (h2 hne _ hq), ?_⟩)
          have := occ_kd t.ok _ hq
          simpa using this
    rwa [List.length_map] at this
  have hge : (B ++ inL X l').length ≤ (U.live L.length (cntL L)).length := by
    have hnd : ((B ++ inL X l').map Int.toNat).Nodup := by
      have h3 : (B ++ inL X l').Nodup := List.nodup_append.2 ⟨hn, hl.nd.filter _, fun a ha c hc e => by
        subst e
        exact (hin a hc).2.2 (o.bl a ha).2.1⟩
      refine List.pairwise_map.2 (List.Pairwise.imp_of_mem (fun {a b} ha hb hab => ?_) h3)
      have pa : 0 ≤ a := by
        rcases List.mem_append.1 ha with q | q
        · exact (hroot a q).1
        · exact (hin a q).1
      have pb : 0 ≤ b := by
        rcases List.mem_append.1 hb with q | q
        · exact (hroot b q).1
        · exact (hin b q).1
      omega
    have := len_sub (W := U.live L.length (cntL L)) hnd fun r hr => by
      obtain ⟨x, hx, rfl⟩ := List.mem_map.1 hr
      have hc : 0 < cntL L x.toNat := by
        rcases List.mem_append.1 hx with q | q
        · exact (hroot x q).2
        · exact (hin x q).2.1
      exact mem_live.2 ⟨hlt _ hc, hc⟩
    rwa [List.length_map] at this
  rw [List.length_append] at hle hge
  omega
end Go.Proofs.YtkhdniccnefdhaaGreat
