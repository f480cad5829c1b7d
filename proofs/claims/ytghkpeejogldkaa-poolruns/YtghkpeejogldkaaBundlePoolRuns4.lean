/- Texts K1, K2, K3, K4, K5, K6, K7, K8, K9, K10, K11, Z0, A1, A2, A3, A4, A5, A6, A7, B8, B3, B7 of the proof of PoolRuns, one behind the other. -/
import Derived.Maps.OwnSet
import Derived.Maps.Range
import Derived.Lib.SlBuf
import Derived.Laws.IdiomCopy
import Derived.Maps.AppendAt
import Derived.RangeFuncNested
import Derived.RangeFuncBound
import Derived.RangeFuncCalls
import Derived.RangeFuncLeaves
import Derived.RangeFuncBox
import Derived.Shelf.Abstract
import Derived.Shelf.RegionOpen
import Derived.OwnWalkIn
import Derived.TacticsInMore
import Derived.LoopNIn
import Derived.LoopIn
import Derived.Stop.BytesEq
import Derived.Test.YtghkpeejogldkaaRows
import Derived.Deep.QuietTactic
import Derived.Deep.RegionWith
import Derived.BigRegion
import Derived.Test.YtghkpeejogldkaaBundlePoolRuns1
import Derived.Test.YtghkpeejogldkaaBundlePoolRuns2
import Derived.Test.YtghkpeejogldkaaBundlePoolRuns3
/- The program's disk: what it is in memory; has, Len, Down, Cut, act. -/
namespace Go.Proofs.Ytghkpeejogldkaa
open Go.RowKit Go.Proofs.U Go.Maps
set_option linter.unusedSimpArgs false
set_option linter.unusedVariables false

/-- What a disk holds. -/
structure DSt where
  pages : List (List Int)
  bad : Int → Bool
  pend : List (Int × List Int)
  down : Bool
  left : Int

abbrev pdL (v1 : Value) (m : Nat) (v3 : Value) (d : Bool) (l : Int) : List Value := [v1, .map (some m), v3, .bool d, .int .i64 l]
def badK (bad : Int → Bool) : Lit → Bool
  | .int .i64 x => bad x
  | _ => false
/-- Block m is a map whose keys are those that are bad. -/
def MapI (w : World) (m : Nat) (bad : Int → Bool) : Prop := ∃ (n : Nat) (D : DataW Unit), w.ownsMap Try.prog 3 unitElem m n D ∧ ∀ kl, Maps.has D kl = badK bad kl
theorem MapI.lt {w : World} {m : Nat} {bad : Int → Bool} (h : MapI w m bad) : m < w.heap.size := by
  obtain ⟨n, D, h, _⟩ := h; exact h.lt
theorem MapI.fr {S : Nat → Prop} {w w' : World} {m : Nat} {bad : Int → Bool} (h : MapI w m bad) (f : Fr S w w') (hs : ¬ S m) : MapI w' m bad := by
  have hl := h.lt
  obtain ⟨n, D, ⟨es, clock, hb, h1, h2, h3⟩, h4⟩ := h
  exact ⟨n, D, ⟨es, clock, (f.block m hl hs).trans hb, h1, h2, h3⟩, h4⟩
theorem MapI.notCells {w : World} {m : Nat} {bad : Int → Bool} (h : MapI w m bad) {cs : Array Value} {t : TypeId} {o : Nat × Nat} : w.heap[m]? ≠ some (.cells cs t o) := by
  obtain ⟨n, D, ⟨es, clock, hb, h1, h2, h3⟩, h4⟩ := h
  rw [hb]; simp
theorem keyI : Keyed Try.prog 3 := int_keyed Try.underlying3

theorem ints_length : ∀ (n : Nat) (l : List Int), l.Pairwise (· ≠ ·) → (∀ x ∈ l, 0 ≤ x ∧ x < (n : Int)) → l.length ≤ n
  | 0, l, _, h => by
    cases l with
    | nil => simp
    | cons x l => have := h x (by simp); omega
  | n + 1, l, hp, h => by
    have h1 : (l.filter (fun x => x != (n : Int))).length ≤ n := by
      refine ints_length n _ (hp.sublist List.filter_sublist) ?_
      intro x hx
      have h2 := List.mem_filter.1 hx
      have h3 := h x h2.1
      have h4 : x ≠ (n : Int) := by simpa using h2.2
      omega
    have h2 : l.length ≤ (l.filter (fun x => x != (n : Int))).length + 1 := by
      clear h1 h
      induction l with
      | nil => simp
      | cons x l ih =>
        have hp' := List.pairwise_cons.1 hp
        by_cases hx : x = (n : Int)
        · subst hx
          have : l.filter (fun x => x != (n : Int)) = l := by
            rw [List.filter_eq_self]
            intro y hy
            have := hp'.1 y hy
            simpa using fun e => this e.symm
          simp [this]
        · have := ih hp'.2
          simp [List.filter_cons, hx]; omega
    omega

/-- As many keys as can be. -/
theorem MapI.tight {w : World} {m : Nat} {bad : Int → Bool} {N : Nat} (h : MapI w m bad) (hb : ∀ x, bad x = true → 0 ≤ x ∧ x < (N : Int)) :
    ∃ (D : DataW Unit), w.ownsMap Try.prog 3 unitElem m N D ∧ ∀ kl, Maps.has D kl = badK bad kl := by
  obtain ⟨n, D, ho, hh⟩ := h
  have hent := ho.entries keyI
  obtain ⟨es, clock, hm, hF, hn, hD⟩ := ho
  have hlen : es.size ≤ N := by
    obtain ⟨ds, hds, hpw, hkey⟩ := hent
    have e1 : ds.length = es.size := by
      have : DataW.map ds = .map ((es.toList.map (WideElems.rg Try.prog 3 unitElem)).foldr DataW.insert []) := by rw [← hds, ← hD]
      injection this with this
      rw [this, length_read]
    rw [← e1]
    have hk : ∀ p ∈ ds, ∃ x, p.1 = .int .i64 x ∧ 0 ≤ x ∧ x < (N : Int) := by
      intro p hp
      have h1 : Maps.has D p.1 = true := by
        rw [hds, has_eq, List.any_eq_true]
        exact ⟨p, hp, WideAt.sameKey_self (hkey p hp)⟩
      rw [hh] at h1
      unfold badK at h1
      split at h1
      · rename_i x hx; exact ⟨x, hx, hb x h1⟩
      · simp at h1
    have h2 := ints_length N (ds.map fun p => match p.1 with | .int .i64 x => x | _ => 0) ?_ ?_
    · simpa using h2
    · rw [List.pairwise_map]
      refine hpw.imp_of_mem ?_
      intro p q hp hq hne
      obtain ⟨x, hx, _⟩ := hk p hp
      obtain ⟨y, hy, _⟩ := hk q hq
      rw [hx, hy]
      intro e
      simp only at e
      exact hne (by rw [hx, hy, e])
    · intro z hz
      obtain ⟨p, hp, rfl⟩ := List.mem_map.1 hz
      obtain ⟨x, hx, hr⟩ := hk p hp
      rw [hx]; exact hr
  exact ⟨D, ⟨es, clock, hm, hF, hlen, hD⟩, hh⟩

section
variable {w w' : World} {F S : Nat → Prop} {g m : Nat} {X : DSt} {v1 v3 : Value}
theorem OwnR.blk {α : Type} {ec : α → List Value} {sz : Nat} {e : TypeId} {base : Nat} {v : Value} {l : List α} (h : OwnR ec sz e w base v l) : ∀ q, v.ownBlock = some q → ∃ cs, w.heap[q]? = some (.cells cs e (0, 0)) := by
  intro q hq
  rcases h.2.2 with ⟨rfl, _⟩ | ⟨g, cap, cur, rfl, _, h2, _⟩
  · simp [Value.ownBlock] at hq
  · simp [Value.ownBlock] at hq
    subst hq; exact ⟨cur, h2⟩
theorem onB1_F (h : F g) (f : Fr (onB1 g) w w') : Fr F w w' := f.mono (fun k _ q => by unfold onB1 at q; exact q ▸ h)
end
theorem _root_.Go.Proofs.U.BxV.five {w : World} {g : Nat} {t : TypeId} {x0 x1 x2 x3 x4 : Value} (h : BxV w g t [x0, x1, x2, x3, x4]) :
    (w.cell? ⟨g, 0, none⟩ = some x0 ∧ w.cell? ⟨g, 1, none⟩ = some x1 ∧ w.cell? ⟨g, 2, none⟩ = some x2 ∧ w.cell? ⟨g, 3, none⟩ = some x3 ∧ w.cell? ⟨g, 4, none⟩ = some x4) :=
  ⟨(h.cell 0 _ rfl).1, (h.cell 1 _ rfl).1, (h.cell 2 _ rfl).1, (h.cell 3 _ rfl).1, (h.cell 4 _ rfl).1⟩

abbrev ptr (g : Nat) : Value := .pointer (some ⟨g, 0, none⟩)

/-- What an act does: left, down, error. -/
def actP (l : Int) (d : Bool) : Int × Bool × Int := if d || l == 0 then (l, true, 42) else (if l > 0 then l - 1 else l, d, 0)
def DSt.act (X : DSt) : DSt := { X with left := (actP X.left X.down).1, down := (actP X.left X.down).2.1 }
def DSt.actE (X : DSt) : Int := (actP X.left X.down).2.2

end Go.Proofs.Ytghkpeejogldkaa
/- The program's disk: New, Stable, Spoil, Pending. -/
namespace Go.Proofs.U
open Go.RowKit
set_option linter.unusedSimpArgs false
set_option linter.unusedVariables false
theorem madeCells_flat {α : Type} (ec : α → List Value) (sz : Nat) (x : α) (cs : Array Value) (hc : cs.toList = ec x) (hs : (ec x).length = sz) (hz : 0 < sz) (n : Nat) : (madeCells cs (n * sz)).toList = (List.replicate n x).flatMap ec := by
  have hsz : cs.size = sz := by rw [← hs, ← hc, Array.length_toList]
  have h1 : ∀ m, (madeCells cs m).toList = (List.range m).map (fun i => cs[i % sz]!) := by
    intro m; simp [madeCells, hsz]
  rw [h1]
  induction n with
  | zero => simp
  | succ n ih =>
    rw [List.replicate_succ', List.flatMap_append, ← ih, Nat.succ_mul, List.range_add, List.map_append]
    congr 1
    simp only [List.flatMap_cons, List.flatMap_nil, List.append_nil, List.map_map]
    rw [← hc]
    apply List.ext_getElem
    · simp [hsz]
    · intro i h2 h3
      have h4 : i < sz := by simpa using h2
      simp
      rw [Nat.mod_eq_of_lt h4, getElem!_pos cs i (by omega)]
section
variable {α : Type} {P : Program} {w : World} {ops : Array Oper} {rest : List Oper} {o : Oper} {a : Act} {Q : Exit → Act → World → Prop}
/-- make([]T, n): n elements x, x the zero value. -/
theorem wpList_makeR (ec : α → List Value) (sz : Nat) (hg : o.guard = none) (l c : Operand) (t : TypeId) (hop : o.op = Op.makeSlice t l c)
    (base : Nat) (e : TypeId) (z : Value) (bytes : Nat) (h1 : P.underlying t = some (.slice e)) (hinfo : (P.info? e).map (fun i => (i.zero, i.size, i.bytes)) = some (some z, sz, bytes)) (x : α) (hx : z.cells.toList = ec x) (hs : (ec x).length = sz) (hz : 0 < sz)
    (kl kc : IntKind) (L C : Int) (n : Nat) (hl : a.eval l = .int kl L) (hc : a.eval c = .int kc C) (hL : L = (n : Int)) (hC : C = (n : Int)) (b2 : bytes * n ≤ 281474976710656) (b3 : n ≤ maxLen) (b4 : base ≤ w.heap.size)
    (hK : ∀ g w', OwnR ec sz e w' base (.slice (some ⟨g, 0, none⟩) n n) (List.replicate n x) → Fr noB w w' → w.heap.size ≤ g → g < w'.heap.size → wpList P ops Q rest (a.put o.dst (.slice (some ⟨g, 0, none⟩) n n)) w') :
    wpList P ops Q (o :: rest) a w := by
  obtain ⟨i0, hi, hz0, hz1, hz2⟩ := info_parts hinfo
  refine wpList_make_full w hg l c t hop base e i0 z sz h1 hi hz0 hz1 kl kc L C n hl hc hL hC (by rw [hz2]; exact b2) b3 b4 ?_
  intro w' ho hgr
  have ho' : w'.ownsRow base e sz (.slice (some ⟨w.heap.size, 0, none⟩) n n) (List.replicate n x).length ((List.replicate n x).flatMap ec) := by
    rw [← madeCells_flat ec sz x z.cells hx hs hz n, List.length_replicate]; exact ho
  have hlt := (World.ownsRow.lt ho' w.heap.size rfl).2
  refine hK w.heap.size w' ⟨?_, ho'⟩ (Fr.of_grown hgr) (Nat.le_refl _) hlt
  intro y hy
  rw [List.eq_of_mem_replicate hy]; exact hs
/-- make([]T, 0, n). -/
theorem wpList_make0R (ec : α → List Value) (sz : Nat) (hg : o.guard = none) (l c : Operand) (t : TypeId) (hop : o.op = Op.makeSlice t l c)
    (base : Nat) (e : TypeId) (z : Value) (bytes : Nat) (h1 : P.underlying t = some (.slice e)) (hinfo : (P.info? e).map (fun i => (i.zero, i.size, i.bytes)) = some (some z, sz, bytes))
    (kl kc : IntKind) (C : Int) (n : Nat) (hl : a.eval l = .int kl 0) (hc : a.eval c = .int kc C) (hC : C = (n : Int)) (b2 : bytes * n ≤ 281474976710656) (b3 : n ≤ maxLen) (b4 : base ≤ w.heap.size)
    (hK : ∀ g w', OwnR ec sz e w' base (.slice (some ⟨g, 0, none⟩) 0 n) ([] : List α) → Fr noB w w' → w.heap.size ≤ g → g < w'.heap.size → wpList P ops Q rest (a.put o.dst (.slice (some ⟨g, 0, none⟩) 0 n)) w') :
    wpList P ops Q (o :: rest) a w := by
  obtain ⟨i0, hi, hz0, hz1, hz2⟩ := info_parts hinfo
  refine wpList_make_own w hg l c t hop base e i0 z sz h1 hi hz0 hz1 kl kc C n hl hc hC (by rw [hz2]; exact b2) b3 b4 ?_
  intro w' ho hgr
  exact hK w.heap.size w' ⟨by simp, ho⟩ (Fr.of_grown hgr) (Nat.le_refl _) (World.ownsRow.lt ho w.heap.size rfl).2
end
end Go.Proofs.U
namespace Go.Proofs.Ytghkpeejogldkaa
open Go.RowKit Go.Proofs.U Go.Maps
set_option linter.unusedSimpArgs false
set_option linter.unusedVariables false

def newD (n : Int) : DSt := ⟨List.replicate (newN n) zeroP, fun _ => false, [], false, -1⟩

/-- Stable's answer. -/
def stabR (X : DSt) (i : Int) : List Int × Int := if inR X.pages.length i then (X.pages.getD i.toNat [], 0) else (zeroP, 41)

end Go.Proofs.Ytghkpeejogldkaa
/- The program's disk: Spoil, Pending. -/
namespace Go.Proofs.Ytghkpeejogldkaa
open Go.RowKit Go.Proofs.U Go.Maps
set_option linter.unusedSimpArgs false
set_option linter.unusedVariables false

def DSt.spoil (X : DSt) (i : Int) (b : Bool) : DSt := if inR X.pages.length i then { X with bad := fun x => if x == i then b else X.bad x } else X
theorem badK_put (bad : Int → Bool) (i : Int) (b : Bool) (kl : Lit) (h : kl ≠ .int .i64 i) : badK (fun x => if x == i then b else bad x) kl = badK bad kl := by
  unfold badK
  split
  · rename_i x
    have : x ≠ i := fun e => h (by rw [e])
    simp [this]
  · rfl

abbrev en64 (z : Int) : List Value := [Value.int .i64 z]
theorem info_int : (Try.prog.info? 3).map (fun i => (i.zero, i.size, i.bytes)) = some (some (.int .i64 0), 1, 8) := by kernel_rfl
theorem info_int2 : (Try.prog.info? 3).map (fun i => (i.zero, i.size)) = some (some (.int .i64 0), 1) := by kernel_rfl
end Go.Proofs.Ytghkpeejogldkaa
/- A part of an element of an own row written by copy; pages mixed by sectors. -/
namespace Go.Proofs.U
open Go.RowKit
set_option linter.unusedSimpArgs false
set_option linter.unusedVariables false
theorem putAt_mid (A B C ds : List Value) (off : Nat) (h : off + ds.length ≤ B.length) : putAt (A ++ (B ++ C)) (A.length + off) ds = A ++ (putAt B off ds ++ C) := by
  unfold putAt
  rw [List.take_append, List.take_of_length_le (by omega), Nat.add_sub_cancel_left, List.take_append_of_le_length (by omega)]
  rw [Nat.add_assoc, List.drop_append, List.drop_eq_nil_of_le (by omega), Nat.add_sub_cancel_left, List.nil_append, List.drop_append_of_le_length (by omega)]
  simp
theorem putAt_whole (A B C D : List Value) (h : D.length = B.length) : putAt (A ++ (B ++ C)) A.length D = A ++ (D ++ C) := by
  have := putAt_mid A B C D 0 (by omega)
  rw [Nat.add_zero, putAt_all _ _ h] at this
  exact this
theorem putAt_len (B ds : List Value) (off : Nat) (h : off + ds.length ≤ B.length) : (putAt B off ds).length = B.length := by
  unfold putAt; simp; omega
section
variable {α : Type} {ec : α → List Value} {sz : Nat} {e : TypeId} {w : World} {base : Nat} {l : List α}
theorem OwnR.putMid {g n cap : Nat} (hO : OwnR ec sz e w base (.slice (some ⟨g, 0, Option.none⟩) n cap) l) (j : Nat) (hj : j < l.length) (off : Nat) (ds : List Value) (b : α) (hb : ec b = putAt (ec l[j]) off ds) (hd : off + ds.length ≤ sz) :
    OwnR ec sz e (w.setCells g (j * sz + off) ds) base (.slice (some ⟨g, 0, Option.none⟩) n cap) (l.set j b) ∧ (∀ i, i < ds.length → (w.cell? ⟨g, j * sz + off + i, Option.none⟩).isSome = true ∧ w.frozen? ⟨g, j * sz + off + i, Option.none⟩ = false) := by
  have hrg := OwnR.rangeK hO j hj
  have hlj : (ec l[j]).length = sz := hO.1 _ (by simp)
  obtain ⟨g', cap', cur, hv, h1, hB, h3, h4, h5⟩ := hO.bx (by omega)
  cases hv
  have hle : j * sz + sz ≤ cur.length := by
    have : (j + 1) * sz ≤ l.length * sz := Nat.mul_le_mul_right _ (by omega)
    rw [Nat.add_mul, Nat.one_mul] at this; omega
  have hseg : (cur.drop (j * sz)).take sz = ec l[j] := by
    apply List.ext_getElem
    · simp [hlj]; omega
    · intro i h6 h7
      have h8 := hrg i (ec l[j])[i] (List.getElem?_eq_getElem h7)
      have h9 := (hB.cell (j * sz + i) cur[j * sz + i] (List.getElem?_eq_getElem (by omega))).1
      rw [h9] at h8
      simpa using h8
  have hcur : cur = cur.take (j * sz) ++ (ec l[j] ++ cur.drop (j * sz + sz)) := by
    rw [← hseg, ← List.drop_drop, List.take_append_drop, List.take_append_drop]
  have hbl : (ec b).length = sz := by rw [hb, putAt_len _ _ _ (by omega), hlj]
  have htl : (cur.take (j * sz)).length = j * sz := by simp; omega
  have heq : putAt cur (j * sz + off) ds = putAt cur (j * sz) (ec b) := by
    have e1 := putAt_mid (cur.take (j * sz)) (ec l[j]) (cur.drop (j * sz + sz)) ds off (by omega)
    have e2 := putAt_whole (cur.take (j * sz)) (ec l[j]) (cur.drop (j * sz + sz)) (ec b) (by omega)
    rw [← hcur, htl] at e1 e2
    rw [e1, e2, hb]
  refine ⟨?_, ?_⟩
  · have hB' := setCells_bx ds (j * sz + off) w cur hB (by omega)
    rw [heq] at hB'
    refine h5 _ _ _ hB' ?_ (by simp) ?_ (flat_put l hO.1 j hj b hbl cur h3 h4)
    · rw [← heq, putAt_len _ _ _ (by omega)]
    · intro z hz
      rcases List.mem_or_eq_of_mem_set hz with hz | rfl
      · exact hO.1 z hz
      · exact hbl
  · intro i hi
    have := hB.cell (j * sz + off + i) cur[j * sz + off + i] (List.getElem?_eq_getElem (by omega))
    exact ⟨by rw [this.1]; rfl, this.2⟩
end
end Go.Proofs.U
namespace Go.Proofs.Ytghkpeejogldkaa
open Go.RowKit Go.Proofs.U Go.Maps
set_option linter.unusedSimpArgs false
set_option linter.unusedVariables false

/-- The first s sectors, as far as they stay, in the place of the old ones. -/
def mixS (old new : List Int) (st : Nat → Bool) (s : Nat) : List Int := (List.range 256).map fun i => if i / 32 < s && st (i / 32) then new.getD i 0 else old.getD i 0
theorem mixS_len (old new : List Int) (st : Nat → Bool) (s : Nat) : (mixS old new st s).length = 256 := by simp [mixS]
theorem mixS_zero (old new : List Int) (st : Nat → Bool) (h : old.length = 256) : mixS old new st 0 = old := by
  apply List.ext_getElem
  · simp [mixS, h]
  · intro i h1 h2
    simp [mixS, List.getD, h2]
theorem mixS_no (old new : List Int) (st : Nat → Bool) (s : Nat) (h : st s = false) : mixS old new st (s + 1) = mixS old new st s := by
  unfold mixS
  apply List.map_congr_left
  intro i _
  by_cases h1 : i / 32 = s
  · rw [h1, h]; simp
  · have : (decide (i / 32 < s + 1)) = decide (i / 32 < s) := by
      rw [decide_eq_decide]; omega
    rw [this]
theorem mixS_yes (old new : List Int) (st : Nat → Bool) (s : Nat) (hs : s < 8) (hn : new.length = 256) (h : st s = true) :
    pgv (mixS old new st (s + 1)) = putAt (pgv (mixS old new st s)) (s * 32) (pgv ((new.drop (s * 32)).take 32)) := by
  have hl : ((new.drop (s * 32)).take 32).length = 32 := by simp; omega
  have key : mixS old new st (s + 1) = (mixS old new st s).take (s * 32) ++ ((new.drop (s * 32)).take 32 ++ (mixS old new st s).drop (s * 32 + 32)) := by
    apply List.ext_getElem
    · simp [mixS]; omega
    · intro i h1 h2
      have hi : i < 256 := by simpa [mixS] using h1
      by_cases c1 : i < s * 32
      · rw [List.getElem_append_left (by simp [mixS]; omega)]
        have d1 : i / 32 < s := by omega
        simp [mixS, d1, show i / 32 < s + 1 by omega]
      · by_cases c2 : i < s * 32 + 32
        · rw [List.getElem_append_right (by simp [mixS]; omega), List.getElem_append_left (by simp [mixS]; omega)]
          have d1 : i / 32 = s := by omega
          have d2 : s * 32 + (i - min (s * 32) 256) = i := by omega
          simp [mixS, d1, h, List.getD, d2, show i < new.length by omega]
        · rw [List.getElem_append_right (by simp [mixS]; omega), List.getElem_append_right (by simp [mixS]; omega)]
          have d1 : ¬ i / 32 < s + 1 := by omega
          have d2 : s * 32 + 32 + (i - min (s * 32) 256 - min 32 (new.length - s * 32)) = i := by omega
          simp [mixS, d1, d2, show ¬ i / 32 < s by omega]
  rw [key]
  simp [putAt, pgv, hl, List.map_take, List.map_drop]
  omega

/-- The writes one by one. -/
def setS1 (pend : List (Int × List Int)) (stay : Nat → Nat → Bool) (ps : List (List Int)) (j : Nat) : List (List Int) :=
  ps.set (pend.getD j (0, [])).1.toNat (mixS (ps.getD (pend.getD j (0, [])).1.toNat []) (pend.getD j (0, [])).2 (stay j) 8)
def setS (pages : List (List Int)) (pend : List (Int × List Int)) (stay : Nat → Nat → Bool) (k : Nat) : List (List Int) := (List.range k).foldl (setS1 pend stay) pages
theorem setS_succ (pages : List (List Int)) (pend : List (Int × List Int)) (stay : Nat → Nat → Bool) (k : Nat) : setS pages pend stay (k + 1) = setS1 pend stay (setS pages pend stay k) k := by
  unfold setS; rw [List.range_succ, List.foldl_append]; rfl
theorem setS_len (pages : List (List Int)) (pend : List (Int × List Int)) (stay : Nat → Nat → Bool) (k : Nat) : (setS pages pend stay k).length = pages.length := by
  induction k with
  | zero => rfl
  | succ k ih => rw [setS_succ]; unfold setS1; simp [ih]
def DSt.settle (X : DSt) (stay : Nat → Nat → Bool) : DSt := { X with pages := setS X.pages X.pend stay X.pend.length, pend := [] }
end Go.Proofs.Ytghkpeejogldkaa
/- The program's disk: settle, for both of its closures. (Written by settle_gen.py.) -/
namespace Go.Proofs.Ytghkpeejogldkaa
open Go.RowKit Go.Proofs.U Go.Maps
set_option linter.unusedSimpArgs false
set_option linter.unusedVariables false
def JC (w0 : World) (b off : Nat) (ds : List Value) : List Value → World → Prop
  | [], W => W = w0
  | [_], W => W = w0.setCells b off ds
  | _, _ => False
end Go.Proofs.Ytghkpeejogldkaa
/- The program's disk: Sync, Crash, Write. -/
namespace Go.Proofs.Ytghkpeejogldkaa
open Go.RowKit Go.Proofs.U Go.Maps
set_option linter.unusedSimpArgs false
set_option linter.unusedVariables false

set_option maxRecDepth 100000 in
theorem and1_fin : ∀ x : Fin 256, bits .and .u8 ((x.val : Nat) : Int) 1 = ((x.val : Nat) : Int) % 2 := by decide
theorem and1 (x : Int) (h0 : 0 ≤ x) (h1 : x < 256) : bits .and .u8 x 1 = x % 2 := by
  obtain ⟨n, rfl⟩ := Int.eq_ofNat_of_zero_le h0
  exact and1_fin ⟨n, by omega⟩
def stayK (keep : List Int) (k s : Nat) : Bool := decide (k < keep.length) && (keep.getD k 0 / 2 ^ s % 2 == 1)

/-- The box of the variable that the closure holds. -/
def DSt.crash (X : DSt) (keep : List Int) : DSt := { X with pages := setS X.pages X.pend (stayK keep) X.pend.length, pend := [], down := false, left := -1 }
def DSt.sync (X : DSt) : DSt := if X.actE = 0 then X.act.settle (fun _ _ => true) else X.act
def orNew (F : Nat → Prop) (w : World) : Nat → Prop := fun k => F k ∨ w.heap.size ≤ k

theorem size_bytes : (Try.prog.info? 60).map (·.size) = some 1 := by kernel_rfl
end Go.Proofs.Ytghkpeejogldkaa
/- The program's disk: Write. (Written by k7_gen.py.) -/
namespace Go.Proofs.U
open Go.RowKit
set_option linter.unusedSimpArgs false
set_option linter.unusedVariables false
section
variable {α : Type} {ec : α → List Value} {sz : Nat} {e : TypeId} {w : World} {base : Nat} {l : List α} {P : Program} {o : Oper} {a : Act} {Q : Exit → Act → World → Prop} {K : Act → World → Prop}
theorem run_mk1 (t : TypeId) (ht : P.underlying t = some (.slice e)) (z : Value) (hinfo : (P.info? e).map (fun i => (i.zero, i.size)) = some (some z, sz)) (hsz : 0 < sz) (hbig : sz ≤ 16777216)
    (x : α) (V : Value) (hV : V.cells = (ec x).toArray) (hx : (ec x).length = sz) (w : World) :
    (Instr.buildSlice t 1 #[(0, V)]).run P w = .ok (.slice (some ⟨w.heap.size, 0, none⟩) 1 1) (w.alloc (.cells (ec x).toArray e)) := by
  obtain ⟨ii, hinf, hq⟩ := Option.map_eq_some_iff.1 hinfo
  simp only [Prod.mk.injEq] at hq
  have hfill : ∀ X : Array Value, X.size = sz → Instr.fill (fun i => some (i * sz, sz)) X [(0, V)] = some (ec x).toArray := by
    intro X hX
    have h1 := fill_put (fun i => some (i * sz, sz)) X.toList 0 0 sz V (ec x) hV (by simp) hx (by rw [Array.length_toList, hX]; omega) []
    have e1 : X.toList.toArray = X := by simp
    rw [e1] at h1
    rw [h1, putAt_all _ _ (by rw [hx, ← hX]; exact Array.length_toList.symm)]
    rfl
  have hne : ¬ sz = 0 := by omega
  have hnb : ¬ 16777216 < sz := by omega
  have hf := hfill ((Array.range sz).map (fun k => z.cells[k % z.cells.size]!)) (by simp)
  unfold Instr.buildSlice
  simp [run_underlying ht, sizeOf, typeInfo, zeroValue, hinf, hq.1, hq.2, hne, hnb, hf, Sem.run_bind, Result.andThen]
  simp [go_sem]
theorem cells_new (w : World) (cs : List Value) (t : TypeId) : ∀ j u, cs[j]? = some u → (w.alloc (.cells cs.toArray t)).cell? ((⟨w.heap.size, 0, none⟩ : Addr).add j) = some u := by
  intro j u hj
  rw [Addr.plain, Nat.zero_add, World.cell?_alloc_new]
  simpa using hj
/-- append(s, x) of one element that lies in a block of its own: where the new row lies is told. -/
theorem wp_appR1 (s x : Operand) (t : TypeId) (ho : o.op = .call { callee := .builtin .append, args := #[s, x], argTypes := #[t, t] })
    (z : Value) (bytes : Nat) (ht : P.underlying t = some (.slice e)) (hinfo : (P.info? e).map (fun i => (i.zero, i.size, i.bytes)) = some (some z, sz, bytes)) (hzs : z.cells.size = sz) (hsz : 0 < sz)
    (v : Value) (hs : a.eval s = v) (hO : OwnR ec sz e w base v l) (g : Nat) (hx : a.eval x = .slice (some ⟨g, 0, none⟩) 1 1) (y : α) (hy : (ec y).length = sz) (hc : ∀ j u, (ec y)[j]? = some u → w.cell? ((⟨g, 0, none⟩ : Addr).add j) = some u) (h1 : ∀ u ∈ ec y, u.oneCell' = true)
    (h63 : l.length + 1 ≤ maxLen) (hbytes : (l.length + 1) * bytes ≤ 140737488355328) (hbase : base ≤ w.heap.size)
    (h : ∀ v' w', OwnR ec sz e w' base v' (l ++ [y]) → w.grownBy w' v.ownBlock → (v'.ownBlock = v.ownBlock ∨ v'.ownBlock = some w.heap.size) → K (a.put o.dst v') w') : o.wp P a w K Q := by
  obtain ⟨i0, hi, hz0, hz1, hz2⟩ := info_parts hinfo
  obtain ⟨v', w', hr, h2, h3, _, h5⟩ := run_append_own_at (P := P) w base t o.type e i0 z sz bytes ht hi hz0 hz1 hz2 hzs hsz v l.length (l.flatMap ec) hO.2 ⟨g, 0, none⟩ 1 1 (ec y) (by rw [hy]; omega) hc h1 h63 hbytes hbase
  unfold Oper.wp execOp
  simp only [ho, resolve, invoke, builtin, Sem.run_bind, Sem.run_pure, Result.andThen_ok, List.map_toArray, List.map_cons, List.map_nil, hs, hx, hr]
  refine h v' w' ⟨?_, ?_⟩ h3 h5
  · intro u hu
    rcases List.mem_append.1 hu with hu | hu
    · exact hO.1 u hu
    · simp at hu; subst hu; exact hy
  · simpa using h2
theorem run_st1 {w : World} {g off : Nat} (t : TypeId) (hi : (P.info? t).map (·.size) = some 1) (v : Value) (hv : v.oneCell' = true) (t' : TypeId) (cs : List Value) (hA : BxV w g t' cs) (hl : off < cs.length) :
    (Instr.storeAt t (.pointer (some ⟨g, off, none⟩)) v).run P w = .ok () (w.setCell ⟨g, off, none⟩ v) := by
  obtain ⟨i, hii, hs⟩ := Option.map_eq_some_iff.1 hi
  have hc := hA.cell off cs[off] (List.getElem?_eq_getElem hl)
  cases v with
  | agg cs => simp [Value.oneCell'] at hv
  | _ =>
    have hrs := run_store P w ⟨g, off, none⟩ _ .plain hv
    first
      | (simp [Instr.storeAt, Instr.sureAddr, storeVar, sizeOf, typeInfo, hii, hs, Value.cells, go_sem, hc.1, hc.2]; done)
      | (simp [Instr.storeAt, Instr.sureAddr, storeVar, sizeOf, typeInfo, hii, hs, Value.cells, go_sem, hc.1, hc.2, hrs]; done)
      | (simp [Instr.storeAt, Instr.sureAddr, storeVar, sizeOf, typeInfo, hii, hs, Value.cells, go_sem]; rw [hrs]; simp [hc.1, hc.2])
end
end Go.Proofs.U
namespace Go.Proofs.Ytghkpeejogldkaa
open Go.RowKit Go.Proofs.U Go.Maps
set_option linter.unusedSimpArgs false
set_option linter.unusedVariables false
def DSt.write (X : DSt) (i : Int) (p : List Int) : DSt := if inR X.pages.length i then (if X.actE = 0 then { X.act with pend := X.pend ++ [(i, p)] } else X.act) else X
def DSt.writeE (X : DSt) (i : Int) : Int := if inR X.pages.length i then X.actE else 41

end Go.Proofs.Ytghkpeejogldkaa
/- slices.Backward over the pending writes. -/
namespace Go.Proofs.U
open Go.RowKit
set_option linter.unusedSimpArgs false
set_option linter.unusedVariables false
section
variable {F : Fence} {nF : Nat} {P : Program} {w : World} {ops : Array Oper} {rest : List Oper} {o : Oper} {a : Act} {Q : Exit → Act → World → Prop}
theorem at_wpI {l : List Oper} (h : wpListIn F nF P ops Q l a w) : wpListIn F nF P ops Q l a w := h
theorem at_ldI (t : TypeId) (x : Operand) (_ho : o.op = .load t x) (h : wpListIn F nF P ops Q (o :: rest) a w) : wpListIn F nF P ops Q (o :: rest) a w := h
theorem at_stI (t : TypeId) (x y : Operand) (_ho : o.op = .store t x y) (h : wpListIn F nF P ops Q (o :: rest) a w) : wpListIn F nF P ops Q (o :: rest) a w := h
theorem wpListIn_ld (hgd : o.guard = none) (t : TypeId) (x : Operand) (ho : o.op = .load t x) (p u : Value) (hx : a.eval x = p) (hr : (Instr.loadAt t p).run P w = .ok u w)
    (h : wpListIn F nF P ops Q rest (a.put o.dst u) w) : wpListIn F nF P ops Q (o :: rest) a w := by
  refine wpListIn_plain hgd fun K' hK' => ?_
  unfold Oper.wpIn
  refine ⟨by simp [Oper.about, ho], ?_⟩
  rw [Oper.semAt_plain F _ _ (by rw [ho]; intro c hc'; cases hc')]
  simp only [execOp, ho, hx]
  simp [hr, Result.andThen]
  exact hK' _ _ h
theorem wpListIn_st (hgd : o.guard = none) (t : TypeId) (x y : Operand) (ho : o.op = .store t x y) (p u : Value) (hx : a.eval x = p) (hy : a.eval y = u) (w' : World) (hr : (Instr.storeAt t p u).run P w = .ok () w')
    (h : wpListIn F nF P ops Q rest (a.put o.dst undef) w') : wpListIn F nF P ops Q (o :: rest) a w := by
  refine wpListIn_plain hgd fun K' hK' => ?_
  unfold Oper.wpIn
  refine ⟨by simp [Oper.about, ho], ?_⟩
  rw [Oper.semAt_plain F _ _ (by rw [ho]; intro c hc'; cases hc')]
  simp only [execOp, ho, hx, hy]
  simp [hr, Result.andThen]
  exact hK' _ _ h
theorem at_alI (t : TypeId) (_ho : o.op = .alloc t) (h : wpListIn F nF P ops Q (o :: rest) a w) : wpListIn F nF P ops Q (o :: rest) a w := h
theorem wpListIn_storeV (hgd : o.guard = none) (t : TypeId) (x y : Operand) (ho : o.op = .store t x y) (g off : Nat) (hx : a.eval x = .pointer (some ⟨g, off, none⟩)) (ds : List Value) (hy : a.eval y = .agg ds.toArray) (t' : TypeId) (cs : List Value) (hA : BxV w g t' cs)
    (hi : (P.info? t).map (·.size) = some ds.length) (hl : off + ds.length ≤ cs.length) (h1 : ∀ v ∈ ds, v.oneCell' = true)
    (h : ∀ w', BxV w' g t' (putAt cs off ds) → Fr (onB1 g) w w' → wpListIn F nF P ops Q rest (a.put o.dst undef) w') : wpListIn F nF P ops Q (o :: rest) a w := by
  have hr := run_storeAt_mid (P := P) w g off t ds.toArray (by simpa using hA.thereR off ds.length hl) (by simpa using hi) (all_oneCell_toArray h1)
  refine wpListIn_st hgd t x y ho _ _ hx hy _ hr (h _ ?_ ?_)
  · exact setCells_bx ds off w cs hA hl
  · exact setCells_fr1 w g _ off
theorem wpListIn_store1 (hgd : o.guard = none) (t : TypeId) (x y : Operand) (ho : o.op = .store t x y) (g off : Nat) (hx : a.eval x = .pointer (some ⟨g, off, none⟩)) (v : Value) (hy : a.eval y = v) (hv : v.oneCell' = true) (t' : TypeId) (cs : List Value) (hA : BxV w g t' cs)
    (hi : (P.info? t).map (·.size) = some 1) (hl : off < cs.length)
    (h : ∀ w', BxV w' g t' (cs.set off v) → Fr (onB1 g) w w' → wpListIn F nF P ops Q rest (a.put o.dst undef) w') : wpListIn F nF P ops Q (o :: rest) a w := by
  refine wpListIn_st hgd t x y ho _ _ hx hy _ (run_st1 (P := P) (off := off) t hi v hv t' cs hA hl) (h _ (hA.set off v) (Fr.setCell (S := onB1 g) (Fr.refl _ _) _ _ (fun _ => rfl)))
theorem keepsFrom_of_fr {B : Nat} {S : Nat → Prop} {W W' : World} (f : Fr S W W') (hS : ∀ k o, S k → W.heap[k]? = some o → o.isCells = true) : KeepsFrom B W W' :=
  ⟨f.size, fun k o _ hk ho => (f.block k (Array.getElem?_eq_some_iff.1 hk).1 (fun q => by have := hS k o q hk; rw [ho] at this; cases this)).trans hk⟩
theorem below_of_fr {B : Nat} {W W' : World} (f : Fr noB W W') (hB : B ≤ W.heap.size) : Below B W W' := ⟨f.os, f.tape, f.output, f.size, fun k hk => f.block k (Nat.lt_of_lt_of_le hk hB) (fun q => q)⟩
theorem wpListIn_allocV (hgd : o.guard = none) (t : TypeId) (ho : o.op = .alloc t) (zs : List Value) (hz : (P.info? t).map (·.zero) = some (some (.agg zs.toArray)))
    (h : ∀ g w', g = w.heap.size → w' = w.alloc (.cells zs.toArray t) → BxV w' g t zs → Fr noB w w' → wpListIn F nF P ops Q rest (a.put o.dst (.pointer (some ⟨g, 0, none⟩))) w') : wpListIn F nF P ops Q (o :: rest) a w := by
  refine wpListIn_plain hgd fun K' hK' => ?_
  unfold Oper.wpIn
  refine ⟨by simp [Oper.about, ho], ?_⟩
  rw [Oper.semAt_plain F _ _ (by rw [ho]; intro c hc'; cases hc')]
  obtain ⟨i, hi, hzz⟩ := Option.map_eq_some_iff.1 hz
  simp only [execOp, ho]
  simp [Instr.alloc, zeroValue, typeInfo, hi, hzz, go_sem, Value.cells]
  refine hK' _ _ (h w.heap.size _ rfl rfl ?_ ((Fr.refl _ _).alloc _))
  show (w.heap.push _)[w.heap.size]? = _
  rw [Array.getElem?_push, if_pos rfl]
end
end Go.Proofs.U
namespace Go.Proofs.Ytghkpeejogldkaa
open Go.RowKit Go.Shelf Go.Proofs.U
attribute [local go_sem] Oper.semAt_some
set_option linter.unusedSimpArgs false
set_option linter.unusedVariables false

/-- A write of a page. -/
abbrev Wr := { x : Int × List Int // x.2.length = 256 }
theorem wr_list : ∀ pend : List (Int × List Int), (∀ x ∈ pend, x.2.length = 256) → ∃ zs : List Wr, zs.map (·.1) = pend
  | [], _ => ⟨[], rfl⟩
  | x :: l, h => by
    obtain ⟨zs, hz⟩ := wr_list l (fun y hy => h y (by simp [hy]))
    exact ⟨⟨x, h x (by simp)⟩ :: zs, by simp [hz]⟩
def wr0 : Wr := ⟨(0, zeroP), zeroP_len⟩
def bkW (zs : List Wr) (j : Nat) : Int × Wr := (((zs.length : Int) - 1 - j), zs[zs.length - 1 - j]?.getD wr0)
def uptoL {α : Type} (f : Nat → α) (k : Nat) : List α := (List.range k).map f
theorem uptoL_succ {α : Type} (f : Nat → α) (k : Nat) : uptoL f (k + 1) = uptoL f k ++ [f k] := by simp [uptoL, List.range_succ]
theorem uptoL_length {α : Type} (f : Nat → α) (k : Nat) : (uptoL f k).length = k := by simp [uptoL]
abbrev encX (x : Int × Wr) : Array Value := #[.int .i64 x.1, .agg (encW x.2.1).toArray]

end Go.Proofs.Ytghkpeejogldkaa
/- The program's disk: Read. (Written by k9_gen.py.) -/
namespace Go.Proofs.U
open Go.RowKit
set_option linter.unusedSimpArgs false
set_option linter.unusedVariables false
section
variable {P : Program} {w : World} {ops : Array Oper} {rest : List Oper} {o : Oper} {a : Act} {Q : Exit → Act → World → Prop}
theorem wpList_boxG (hgd : Region.wanted o (yielded ops a.tmps) = true) (t : TypeId) (x : Operand) (ho : o.op = .box t x) (v : Value) (cs : List Value) (hx : a.eval x = v) (hc : v.cells = cs.toArray)
    (h : ∀ g w', Hid (g = w.heap.size) → BxV w' g t cs → Fr noB w w' → w.heap.size ≤ g → wpList P ops Q rest (a.put o.dst (.pointer (some ⟨g, 0, none⟩))) w') : wpList P ops Q (o :: rest) a w := by
  refine wpList_wanted hgd fun K hK => ?_
  have hrun : (execOp a.eval o).run P w = .ok (.value (.pointer (some ⟨w.heap.size, 0, none⟩))) (w.alloc (.cells cs.toArray t)) := by
    simp only [execOp, ho, hx]
    simp [go_sem]
    exact congrArg (fun x => w.alloc (Obj.cells x t)) hc
  unfold Oper.wp
  rw [hrun]
  refine hK _ _ (h w.heap.size _ rfl ?_ ((Fr.refl _ _).alloc _) (Nat.le_refl _))
  show (w.heap.push _)[w.heap.size]? = _
  rw [Array.getElem?_push, if_pos rfl]
theorem wpList_allocG (hgd : Region.wanted o (yielded ops a.tmps) = true) (t : TypeId) (ho : o.op = .alloc t) (z : Value) (zs : List Value) (hz : (P.info? t).map (·.zero) = some (some z)) (hc : z.cells = zs.toArray)
    (h : ∀ g w', Hid (g = w.heap.size) → BxV w' g t zs → Fr noB w w' → w.heap.size ≤ g → wpList P ops Q rest (a.put o.dst (.pointer (some ⟨g, 0, none⟩))) w') : wpList P ops Q (o :: rest) a w := by
  refine wpList_wanted hgd fun K hK => ?_
  obtain ⟨i, hi, hz'⟩ := Option.map_eq_some_iff.1 hz
  unfold Oper.wp
  have hrun : (execOp a.eval o).run P w = .ok (.value (.pointer (some ⟨w.heap.size, 0, none⟩))) (w.alloc (.cells zs.toArray t)) := by
    simp [execOp, ho, go_sem, zeroValue, typeInfo, hi, hz']
    exact congrArg (fun x => w.alloc (Obj.cells x t)) hc
  rw [hrun]
  refine hK _ _ (h w.heap.size _ rfl ?_ ((Fr.refl _ _).alloc _) (Nat.le_refl _))
  show (w.heap.push _)[w.heap.size]? = _
  rw [Array.getElem?_push, if_pos rfl]
end
end Go.Proofs.U
namespace Go.Proofs.Ytghkpeejogldkaa
open Go.RowKit Go.Shelf Go.Proofs.U Go.Maps
attribute [local go_sem] Oper.semAt_some
set_option linter.unusedSimpArgs false
set_option linter.unusedVariables false

theorem results_two {fn : Func} {p u : Tmp} {ty ty' : TypeId} (h : fn.results = #[.cell p ty, .cell u ty']) (tmps : Array Value) (P : Program) (w : World) :
    (results fn tmps).run P w =
      ((asAddr (tmps.getD p undef)).run P w).andThen fun a w₁ => ((loadVar ty a).run P w₁).andThen fun v w₂ => ((asAddr (tmps.getD u undef)).run P w₂).andThen fun a' w₃ => ((loadVar ty' a').run P w₃).andThen fun v' w₄ => .ok (.tuple #[v, v']) w₄ := by
  simp only [results, h]
  simp [Sem.run_bind, Result.andThen]
theorem errno_zero : (Try.prog.info? 24).map (·.zero) = some (some (.int .i64 0)) := by kernel_rfl
theorem errno_size : (Try.prog.info? 24).map (·.size) = some 1 := by kernel_rfl
def readP (X : DSt) (i : Int) : List Int × Int := if inR X.pages.length i then (if X.bad i then (zeroP, 43) else (lastW X.pend i (X.pages.getD i.toNat []), 0)) else (zeroP, 41)
theorem ownFrom_frN {β : Type} {S : Nat → Prop} {w₀ : World} {B : Nat} (hB : w₀.heap.size ≤ B) : OwnFrom B (fun (_ : β) W => Fr S w₀ W) :=
  fun _ _ _ _ hs hg hr => hs.grown hg (fun k e hk => by have := (hr k e).1; omega)
/-- Between two rounds of Read. -/
def RI (i : Int) (W0 : World) (pre : List (Int × Wr)) (W : World) : Prop := (∀ x ∈ pre, (x.2.1.1 == i) = false) ∧ Fr noB W0 W
theorem RI_own (i : Int) (W0 : World) : OwnFrom W0.heap.size (RI i W0) := fun s W W' row hs hg hr => ⟨hs.1, ownFrom_frN (β := Unit) (Nat.le_refl _) () W W' row hs.2 hg hr⟩
theorem zip2 (a b : Tmp) (t : Array Value) (u v : Value) : (#[a, b].zip #[u, v]).foldl (fun t (x : Tmp × Value) => match x with | (p, v) => t.setIfInBounds p v) t = (t.setIfInBounds a u).setIfInBounds b v := by simp
theorem read_hit (pend : List (Int × List Int)) (i : Int) (p : List Int) (zs : List Wr) (hzs : zs.map (·.1) = pend) {pre pre' : List (Int × Wr)} {x : Int × Wr} (hSp : ∃ k, k ≤ zs.length ∧ pre = uptoL (bkW zs) k) (hpre : pre = pre' ++ [x]) (hno : ∀ y ∈ pre', (y.2.1.1 == i) = false) (hhit : (x.2.1.1 == i) = true) :
    lastW pend i p = x.2.1.2 := by
  obtain ⟨k, hk, rfl⟩ := hSp
  have hlen : k = pre'.length + 1 := by have := congrArg List.length hpre; rw [uptoL_length] at this; simpa using this
  subst hlen
  rw [uptoL_succ] at hpre
  obtain ⟨hp1, hp2⟩ := List.append_inj hpre (by rw [uptoL_length])
  have hx : bkW zs pre'.length = x := by simpa using hp2
  obtain ⟨j, Hj⟩ : ∃ j, zs.length - 1 - pre'.length = j := ⟨_, rfl⟩
  have hj : j < zs.length := by omega
  have hxz : x.2 = zs[j] := by rw [← hx]; unfold bkW; simp only; rw [Hj]; simp [hj]
  have hpj : ∀ (q : Nat) (hq : q < pend.length), pend[q] = (zs[q]'(by rw [← hzs] at hq; simpa using hq)).1 := by
    intro q hq; subst hzs; simp
  have hjl : j < pend.length := by rw [← hzs]; simpa using hj
  have := lastW_hit i p pend j hjl (by rw [hpj j hjl, ← hxz]; exact hhit) (fun q hq hjq => by
    rw [hpj q hq]
    have hqz : q < zs.length := by rw [← hzs] at hq; simpa using hq
    have hmem : bkW zs (zs.length - 1 - q) ∈ pre' := by
      rw [← hp1]; unfold uptoL
      exact List.mem_map.2 ⟨zs.length - 1 - q, by simp; omega, rfl⟩
    have := hno _ hmem
    unfold bkW at this
    rw [show zs.length - 1 - (zs.length - 1 - q) = q by omega] at this
    simpa [hqz] using this)
  rw [this, hpj j hjl, ← hxz]
theorem read_miss (pend : List (Int × List Int)) (i : Int) (p : List Int) (zs : List Wr) (hzs : zs.map (·.1) = pend) (hno : ∀ y ∈ uptoL (bkW zs) zs.length, (y.2.1.1 == i) = false) : lastW pend i p = p := by
  refine lastW_none i p pend (fun x hx => ?_)
  subst hzs
  obtain ⟨z, hz, rfl⟩ := List.mem_map.1 hx
  obtain ⟨q, hq, rfl⟩ := List.mem_iff_getElem.1 hz
  have hmem : bkW zs (zs.length - 1 - q) ∈ uptoL (bkW zs) zs.length := by
    unfold uptoL
    exact List.mem_map.2 ⟨zs.length - 1 - q, by simp; omega, rfl⟩
  have := hno _ hmem
  unfold bkW at this
  rw [show zs.length - 1 - (zs.length - 1 - q) = q by omega] at this
  simpa [hq] using this
end Go.Proofs.Ytghkpeejogldkaa
/- The program's disk: Read in one form; the example that the statements ask first. -/
namespace Go.Proofs.Ytghkpeejogldkaa
open Go.RowKit Go.Proofs.U
set_option linter.unusedSimpArgs false
set_option linter.unusedVariables false

theorem slI_of_slR {w : World} {v : Value} {l : List Int} (h : SlR en8 1 w v l) (hw : ∀ n ∈ l, (Lit.int .u8 n).wf = true) : SlI .u8 w v l := by
  refine ⟨?_, hw⟩
  have := h.2
  rwa [flat_en8] at this
def pgA : List Int := mixS zeroP (List.replicate 256 1) (stayK [3] 0) 8
def X1A : DSt := (newD 3).write 2 (List.replicate 256 1)
theorem alive_read : readP (X1A.crash [3]) 2 = (pgA, 0) := by kernel_rfl

end Go.Proofs.Ytghkpeejogldkaa
/- Pages compared; a disk of ten pages. -/
namespace Go.Proofs.U
open Go.RowKit
section
variable {P : Program} {ops : Array Oper} {Q : Exit → Act → World → Prop} {a : Act} {w : World} {o : Oper} {fs : List (Value → Prop)} {J : List Value → World → Prop} {k : Nat} {hv : List Value}
theorem unwanted_of {j d : Nat} {b : Bool} (hg : o.guard = some (j, b)) (hd : dstAt ops j = some d) (h : a.eval (.tmp d) = .bool (!b)) : Region.wanted o (yielded ops a.tmps) = false := by
  have h1 : a.tmps[d]? = some (.bool (!b)) := by
    have h2 : a.tmps.getD d undef = .bool (!b) := h
    rw [Array.getD_eq_getD_getElem?] at h2
    cases hq : a.tmps[d]? with
    | none => rw [hq] at h2; simp [undef] at h2
    | some v => rw [hq] at h2; simp at h2; rw [h2]
  unfold dstAt at hd
  cases b <;> simp [Region.wanted, hg, yielded, hd, h1]
theorem light_no (hw : Region.wanted o (yielded ops a.tmps) = false) (hF : factL fs k undef) :
    if Region.wanted o (yielded ops a.tmps) = true then o.wp P a w (fun a' w' => ∃ v, a' = a.put o.dst v ∧ J hv w' ∧ factL fs k v) Q else factL fs k undef := by
  rw [hw]; simpa using hF
end
end Go.Proofs.U
namespace Go.Proofs.Ytghkpeejogldkaa
open Go.RowKit Go.Proofs.U
set_option linter.unusedSimpArgs false
set_option linter.unusedVariables false

theorem all_range_eqI : ∀ (xs ys : List Int), xs.length = ys.length → ((List.range xs.length).all fun i => xs.getD i 0 == ys.getD i 0) = (xs == ys)
  | [], [], _ => rfl
  | x :: xs, y :: ys, h => by
    have ih := all_range_eqI xs ys (by simpa using h)
    rw [List.length_cons, List.range_succ_eq_map, List.all_cons, List.all_map]
    simp only [List.getD_cons_zero, Function.comp_def, List.getD_cons_succ, ih]
    simp [List.cons_beq_cons]
  | [], _ :: _, h => by simp at h
  | _ :: _, [], h => by simp at h

theorem mixS_all (old new : List Int) (h : new.length = 256) : mixS old new (fun _ => true) 8 = new := by
  apply List.ext_getElem
  · rw [mixS_len, h]
  · intro i h1 h2
    have : i / 32 < 8 := by omega
    simp [mixS, this, List.getD, h2]
end Go.Proofs.Ytghkpeejogldkaa
/- Small facts that the texts of several layers share. -/
namespace Go.Proofs.Ytghkpeejogldkaa
open Go.RowKit Go.Proofs.U
theorem Hid.mk {p : Prop} (h : p) : Hid p := h
theorem info5 : (Try.prog.info? 5).map (fun i => (i.zero, i.size, i.bytes)) = some (some (.int .u8 0), 1, 1) := by kernel_rfl
theorem size5 : (Try.prog.info? 5).map (·.size) = some 1 := by kernel_rfl
theorem getu (k : IntKind) (l : List Int) (j : Nat) (u : Value) (h : (l.map (Value.int k))[j]? = some u) : u = .int k (l.getD j 0) := by
  simp at h; obtain ⟨x, hx, rfl⟩ := h; simp [List.getD, hx]
theorem u8_bd {x : Int} (h : (Lit.int .u8 x).wf = true) : 0 ≤ x ∧ x < 256 := by
  simp [Lit.wf, IntKind.min, IntKind.max, IntKind.signed, IntKind.bits] at h; omega
end Go.Proofs.Ytghkpeejogldkaa
/- Contracts of isWidth and allFit of package ends, for every list of at most 10^12 numbers. -/
namespace Go.Proofs.Ytghkpeejogldkaa
open Go.RowKit Go.Proofs.U

def isW (n : Int) : Bool := n == 1 || n == 2 || n == 4 || n == 8

def lim (width : Int) : Int := if width = 1 then 256 else if width = 2 then 65536 else if width = 4 then 4294967296 else 18446744073709551616
def fits (width x : Int) : Bool := decide (x < lim width)

theorem u64_bd {x : Int} (h : (Lit.int .u64 x).wf = true) : 0 ≤ x ∧ x < 18446744073709551616 := by
  simp [Lit.wf, IntKind.min, IntKind.max, IntKind.signed, IntKind.bits] at h; omega

theorem all_take_succ (f : Int → Bool) (l : List Int) (k : Nat) (h : k < l.length) : (l.take (k+1)).all f = ((l.take k).all f && f l[k]) := by
  rw [List.take_succ_eq_append_getElem h, List.all_append]; simp

theorem all_of_bad (f : Int → Bool) (l : List Int) (k : Nat) (h : k < l.length) (hf : f l[k] = false) : l.all f = false := by
  rw [List.all_eq_false]; exact ⟨l[k], by simp, by simp [hf]⟩

theorem fits_yes {d x : Int} {width : Int} (_h0 : 0 ≤ x) (hl : lim width = d) (hd : 0 < d) (h : (x / d != 0) = false) : fits width x = true := by
  have h1 : x / d = 0 := by simpa using h
  simp [fits, hl]
  rcases Int.lt_or_le x d with h3 | h3
  · exact h3
  · have := (Int.le_ediv_iff_mul_le hd (a := 1) (b := x)).2 (by omega); omega
theorem fits_no {d x : Int} {width : Int} (h0 : 0 ≤ x) (hl : lim width = d) (h : (x / d != 0) = true) : fits width x = false := by
  have h1 : x / d ≠ 0 := by simpa using h
  simp [fits, hl]
  rcases Int.lt_or_le x d with h3 | h3
  · exact absurd (Int.ediv_eq_zero_of_lt h0 h3) h1
  · exact h3

theorem fits_8 {x : Int} (h : x < 18446744073709551616) : fits 8 x = true := by
  simp [fits, lim, h]
end Go.Proofs.Ytghkpeejogldkaa
/- Contract of ends.Put where it answers bytes, for lists of at most 10^12 numbers. -/
namespace Go.Proofs.Ytghkpeejogldkaa
open Go.RowKit Go.Proofs.U


def leB : Nat → Int → List Int
  | 0, _ => []
  | n + 1, x => x % 256 :: leB n (x / 256)
def putB (width : Nat) (l : List Int) : List Int := l.flatMap (leB width)

theorem leB_snoc (q : Nat) (x : Int) (_h : 0 ≤ x) : leB (q + 1) x = leB q x ++ [x / 256 ^ q % 256] := by
  induction q generalizing x with
  | zero => simp [leB]
  | succ q ih =>
    rw [leB, ih (x / 256) (by omega)]
    simp only [leB, List.cons_append]
    rw [Int.ediv_ediv_of_nonneg (by decide), Int.pow_succ, Int.mul_comm]
theorem leB_length (q : Nat) (x : Int) : (leB q x).length = q := by
  induction q generalizing x with
  | zero => rfl
  | succ q ih => simp [leB, ih]
theorem putB_length (W : Nat) (l : List Int) : (putB W l).length = l.length * W := by
  induction l with
  | nil => simp [putB]
  | cons x l ih => simp only [putB, List.flatMap_cons, List.length_append, leB_length, List.length_cons] at *; rw [ih, Nat.add_mul]; omega
theorem putB_take (W : Nat) (l : List Int) (k : Nat) (h : k < l.length) : putB W (l.take (k + 1)) = putB W (l.take k) ++ leB W l[k] := by
  unfold putB; rw [List.take_succ_eq_append_getElem h, List.flatMap_append]; simp
theorem div_step (x : Int) (q : Nat) : x / 256 ^ q / 256 = x / 256 ^ (q + 1) := by
  rw [Int.ediv_ediv_of_nonneg (Int.le_of_lt (Int.pow_pos (by decide))), Int.pow_succ]
theorem div_bd (x : Int) (q : Nat) (h : 0 ≤ x ∧ x < 18446744073709551616) : 0 ≤ x / 256 ^ q ∧ x / 256 ^ q < 18446744073709551616 := by
  have hp : (0 : Int) < 256 ^ q := Int.pow_pos (by decide)
  have h1 := Int.ediv_nonneg h.1 (Int.le_of_lt hp)
  have h2 := Int.ediv_le_self (256 ^ q) h.1
  omega

end Go.Proofs.Ytghkpeejogldkaa
/- Contracts of ends.Put where it answers ErrWide, of copied, New, Left, Failed and Ended. -/
namespace Go.Proofs.Ytghkpeejogldkaa
open Go.RowKit Go.Proofs.U

/-- A reader at v: its bytes l, t of them taken, whether it failed. -/
def Rd (w : World) (b : Nat) (vb : Value) (l : List Int) (t : Nat) (f : Bool) : Prop :=
  w.cell? ⟨b, 0, none⟩ = some vb ∧ w.cell? ⟨b, 1, none⟩ = some (.int .i64 t) ∧ w.cell? ⟨b, 2, none⟩ = some (.bool f) ∧ (∀ i, w.frozen? ⟨b, i, none⟩ = false) ∧ SlI .u8 w vb l ∧ (∀ k, vb.ownBlock = some k → k ≠ b ∧ k < w.heap.size) ∧ t ≤ l.length ∧ l.length ≤ 1000000000000

theorem Rd.fr {S : Nat → Prop} {w w' : World} {b : Nat} {vb : Value} {l : List Int} {t : Nat} {f : Bool} (h : Rd w b vb l t f) (hf : Fr S w w') (hb : ¬ S b) (hs : ∀ k, vb.ownBlock = some k → ¬ S k) : Rd w' b vb l t f := by
  obtain ⟨h0, h1, h2, h3, h4, h5, h6, h7⟩ := h
  exact ⟨hf.cell h0 hb, hf.cell h1 hb, hf.cell h2 hb, fun i => (World.frozen?_of_block (w := w) (hf.block b (World.block_lt_of_cell? w _ h0) hb)).trans (h3 i), h4.fr hf hs, fun k hk => ⟨(h5 k hk).1, Nat.lt_of_lt_of_le (h5 k hk).2 hf.size⟩, h6, h7⟩
theorem Rd.fr0 {w w' : World} {b : Nat} {vb : Value} {l : List Int} {t : Nat} {f : Bool} (h : Rd w b vb l t f) (hf : Fr noB w w') : Rd w' b vb l t f := h.fr hf (fun q => q) (fun _ _ q => q)

end Go.Proofs.Ytghkpeejogldkaa
/- Contract of (*Reader).Take: where it fails and where it takes. -/
namespace Go.Proofs.Ytghkpeejogldkaa
open Go.RowKit Go.Proofs.U

theorem Rd.nf {w : World} {b : Nat} {vb : Value} {l : List Int} {t : Nat} {f : Bool} (h : Rd w b vb l t f) (i : Nat) : w.frozen? ⟨b, i, none⟩ = false := by
  obtain ⟨h0, h1, h2, h3, _⟩ := h; exact h3 i
/-- The reader's own block. -/
def onB (b : Nat) : Nat → Prop := fun k => k = b

theorem Rd.setF {w : World} {b : Nat} {vb : Value} {l : List Int} {t : Nat} {f : Bool} (h : Rd w b vb l t f) (f' : Bool) : Rd (w.setCell ⟨b, 2, none⟩ (.bool f')) b vb l t f' := by
  obtain ⟨h0, h1, h2, h3, h4, h5, h6, h7⟩ := h
  refine ⟨?_, ?_, ?_, fun i => ?_, h4.fr (S := onB b) ((Fr.refl _ _).setCell _ _ (fun _ => rfl)) (fun k hk q => (h5 k hk).1 q), fun k hk => ⟨(h5 k hk).1, by simpa [World.setCell] using (h5 k hk).2⟩, h6, h7⟩
  · refine (World.cell?_setCell_other (a := ⟨b, 2, none⟩) w _ _ (by simp)).trans ?_; exact h0
  · refine (World.cell?_setCell_other (a := ⟨b, 2, none⟩) w _ _ (by simp)).trans ?_; exact h1
  · exact World.cell?_setCell_same' _ _ _ (by rw [h2]; rfl)
  · rw [World.frozen?_setCell]; exact h3 i

theorem take_end {b : Nat} {vb : Value} {l L : List Int} {t n : Nat} {w w1 w2 : World} {v : Value} (hr : Rd w b vb l t false) (hn : n ≤ l.length - t) (hs : w.heap.size ≤ w1.heap.size) (hf : Fr noB w w2) (ho : OwnI .u8 5 w2 w1.heap.size v L) :
    ∃ v', Ending.returned v = .returned v' ∧ OwnI .u8 5 (w2.setCell ⟨b, 1, none⟩ (.int .i64 ((t : Int) + (n : Int)))) w.heap.size v' L ∧ Rd (w2.setCell ⟨b, 1, none⟩ (.int .i64 ((t : Int) + (n : Int)))) b vb l (t + n) false ∧ Fr (onB b) w (w2.setCell ⟨b, 1, none⟩ (.int .i64 ((t : Int) + (n : Int)))) := by
  have hbl : b < w.heap.size := by obtain ⟨h0, _⟩ := hr; exact World.block_lt_of_cell? w _ h0
  have hr2 := hr.fr0 hf
  obtain ⟨h0, h1, h2, h3, h4, h5, h6, h7⟩ := hr2
  refine ⟨v, rfl, (ho.fr (S := onB b) ((Fr.refl _ _).setCell ⟨b, 1, none⟩ _ (fun _ => rfl)) (fun k hk q => ?_)).rebase hs, ⟨?_, ?_, ?_, fun i => ?_, h4.fr (S := onB b) ((Fr.refl _ _).setCell ⟨b, 1, none⟩ _ (fun _ => rfl)) (fun k hk q => (h5 k hk).1 q), fun k hk => ⟨(h5 k hk).1, by simpa [World.setCell] using (h5 k hk).2⟩, by omega, h7⟩, (hf.mono (fun _ _ q => q.elim)).setCell ⟨b, 1, none⟩ _ (fun _ => rfl)⟩
  · have := (ho.newB k hk).1
    unfold onB at q; omega
  · refine (World.cell?_setCell_other (a := ⟨b, 1, none⟩) w2 _ _ (by simp)).trans ?_; exact h0
  · rw [World.cell?_setCell_same' _ _ _ (by rw [h1]; rfl)]; simp
  · refine (World.cell?_setCell_other (a := ⟨b, 1, none⟩) w2 _ _ (by simp)).trans ?_; exact h2
  · rw [World.frozen?_setCell]; exact h3 i

end Go.Proofs.Ytghkpeejogldkaa
/- Contract of slices.Backward over bytes, and of Take in one form. -/
namespace Go.Proofs.Ytghkpeejogldkaa
open Go.RowKit Go.Shelf Go.Proofs.U
attribute [local go_sem] Oper.semAt_some

def upto {α : Type} (f : Nat → α) (k : Nat) : List α := (List.range k).map f
theorem upto_succ {α : Type} (f : Nat → α) (k : Nat) : upto f (k + 1) = upto f k ++ [f k] := by simp [upto, List.range_succ]
theorem upto_length {α : Type} (f : Nat → α) (k : Nat) : (upto f k).length = k := by simp [upto]

/-- Below n₀ all blocks but B are as they were. -/
def KB (n₀ B : Nat) (W W' : World) : Prop := ∀ k, k < n₀ → k ≠ B → W'.heap[k]? = W.heap[k]?
theorem KB.refl (n₀ B : Nat) (W : World) : KB n₀ B W W := fun _ _ _ => rfl
theorem KB.t {n₀ B : Nat} {X Y Z : World} (h : KB n₀ B X Y) (k : KB n₀ B Y Z) : KB n₀ B X Z := fun i hi hb => (k i hi hb).trans (h i hi hb)
theorem KB.b {n₀ B : Nat} {w : World} (hn : n₀ ≤ w.heap.size) (W : World) (l : Nat) (o o' : Obj) (hl : w.heap.size ≤ l) (_h : W.heap[l]? = some o) (_ : o.isCells = false) (_ : o.isWalk = false) : KB n₀ B W (W.putObj l o') := fun k hk _ =>
  (grownBy_putObj' W l o').block k (by have := (Array.getElem?_eq_some_iff.1 _h).1; omega) (fun e => by cases e; omega)
theorem KB.cell {n₀ B : Nat} {W W' : World} (h : KB n₀ B W W') {p : Addr} (hp : p.block < n₀) (hb : p.block ≠ B) : W'.cell? p = W.cell? p := World.cell?_of_block (w := W) (h p.block hp hb)

def back (zs : List Int) (j : Nat) : Int × Int := (((zs.length : Int) - 1 - j), zs[zs.length - 1 - j]?.getD 0)

/-- What Take answers and leaves: the bytes, how many were taken, whether it failed. -/
def tkOk (l : List Int) (t : Nat) (f : Bool) (n : Int) : Bool := !f && decide (0 ≤ n) && decide (n ≤ ((l.length - t : Nat) : Int))
def tkL (l : List Int) (t : Nat) (f : Bool) (n : Int) : List Int := if tkOk l t f n then (l.drop t).take n.toNat else []
def tkT (l : List Int) (t : Nat) (f : Bool) (n : Int) : Nat := if tkOk l t f n then t + n.toNat else t
def tkF (l : List Int) (t : Nat) (f : Bool) (n : Int) : Bool := !tkOk l t f n

end Go.Proofs.Ytghkpeejogldkaa
/- Contract of (*Reader).Num: a number is taken from its last byte on. -/
namespace Go.Proofs.Ytghkpeejogldkaa
open Go.RowKit Go.Shelf Go.Proofs.U
attribute [local go_sem] Oper.semAt_some

def leNum : List Int → Int
  | [] => 0
  | x :: xs => x + 256 * leNum xs

theorem ownFrom_fr {β : Type} {S : Nat → Prop} {w₀ : World} {B : Nat} (hB : w₀.heap.size ≤ B) : OwnFrom B (fun (_ : β) W => Fr S w₀ W) :=
  fun _ _ _ _ hs hg hr => hs.grown hg (fun k e hk => by have := (hr k e).1; omega)

def step8 (n c : Int) : Int := bits BinOp.or IntKind.u64 (IntKind.u64.wrap (n * 256)) (IntKind.u64.wrap c)
def foldS (ys : List (Int × Int)) : Int := ys.foldl (fun n x => step8 n x.2) 0
theorem foldS_snoc (ys : List (Int × Int)) (x : Int × Int) : foldS (ys ++ [x]) = step8 (foldS ys) x.2 := by simp [foldS]

theorem wrap_u64_id (x : Int) (h0 : 0 ≤ x) (h : x < 18446744073709551616) : IntKind.u64.wrap x = x := by
  simp [IntKind.wrap, IntKind.bits, IntKind.signed]; omega
theorem step8_eq (n c : Int) (h0 : 0 ≤ n) (h1 : n < 72057594037927936) (h2 : 0 ≤ c) (h3 : c < 256) : step8 n c = c + 256 * n := by
  unfold step8
  rw [wrap_u64_id _ (by omega) (by omega), wrap_u64_id c h2 (by omega), u64_or _ _ (by omega) (by omega) h2 (by omega)]
  obtain ⟨m, rfl⟩ := Int.eq_ofNat_of_zero_le h0
  obtain ⟨d, rfl⟩ := Int.eq_ofNat_of_zero_le h2
  have e1 : ((m : Int) * 256).toNat = m <<< 8 := by rw [Nat.shiftLeft_eq]; omega
  rw [e1, Int.toNat_natCast, ← Nat.shiftLeft_add_eq_or_of_lt (by omega), Nat.shiftLeft_eq]
  simp; omega
theorem back_snd (zs : List Int) : (upto (back zs) zs.length).map (·.2) = zs.reverse := by
  apply List.ext_getElem
  · simp [upto]
  · intro i h1 h2
    have : i < zs.length := by simpa using h2
    simp [upto, back]
    rw [List.getElem?_eq_getElem (by omega)]; rfl
theorem leNum_bd (zs : List Int) (h : ∀ x ∈ zs, 0 ≤ x ∧ x < 256) : 0 ≤ leNum zs ∧ leNum zs < 256 ^ zs.length := by
  induction zs with
  | nil => simp [leNum]
  | cons x zs ih =>
    have := ih (fun y hy => h y (by simp [hy]))
    have hx := h x (by simp)
    simp only [leNum, List.length_cons, Int.pow_succ]
    omega
theorem fold_leNum (zs : List Int) (h : ∀ x ∈ zs, 0 ≤ x ∧ x < 256) (hl : zs.length ≤ 8) : zs.foldr (fun x n => step8 n x) 0 = leNum zs := by
  induction zs with
  | nil => rfl
  | cons x zs ih =>
    have hz : ∀ y ∈ zs, 0 ≤ y ∧ y < 256 := fun y hy => h y (by simp [hy])
    simp only [List.length_cons] at hl
    have hb := leNum_bd zs hz
    have hx := h x (by simp)
    have hp : (256 : Int) ^ zs.length ≤ 256 ^ 7 := by
      have h7 : zs.length = 0 ∨ zs.length = 1 ∨ zs.length = 2 ∨ zs.length = 3 ∨ zs.length = 4 ∨ zs.length = 5 ∨ zs.length = 6 ∨ zs.length = 7 := by omega
      rcases h7 with e | e | e | e | e | e | e | e <;> rw [e] <;> decide
    rw [List.foldr_cons, ih hz (by omega), step8_eq _ _ hb.1 (by omega) hx.1 hx.2]
    rfl
theorem foldS_all (zs : List Int) (h : ∀ x ∈ zs, 0 ≤ x ∧ x < 256) (hl : zs.length ≤ 8) : foldS (upto (back zs) zs.length) = leNum zs := by
  have : foldS (upto (back zs) zs.length) = ((upto (back zs) zs.length).map (·.2)).foldl step8 0 := by simp [foldS, List.foldl_map]
  rw [this, back_snd, List.foldl_reverse, fold_leNum zs h hl]

end Go.Proofs.Ytghkpeejogldkaa
/- Contract of endsAlive: it answers true. -/
namespace Go.Proofs.Ytghkpeejogldkaa
open Go.RowKit Go.Proofs.U

def nmV (l : List Int) (t : Nat) (f : Bool) (width : Int) : Int := if isW width then leNum (tkL l t f width) else 0
def nmT (l : List Int) (t : Nat) (f : Bool) (width : Int) : Nat := if isW width then tkT l t f width else t
def nmF (l : List Int) (t : Nat) (f : Bool) (width : Int) : Bool := if isW width then tkF l t f width else true
theorem Sl1 (w : World) (t : TypeId) (k : IntKind) (n : Int) (h : (Lit.int k n).wf = true) : SlI k (w.alloc (.cells #[.int k n] t)) (.slice (some ⟨w.heap.size, 0, none⟩) 1 1) [n] := ⟨by simpa using Sl_one w t (.int k n), by simpa using h⟩

theorem str21 : ((strOfNums [2, 1]).toList == [2, 1]) = true := by decide +kernel
theorem put258 : ([] : List Int) ++ putB (2 : Int).toNat [258] = [2, 1] := by decide

end Go.Proofs.Ytghkpeejogldkaa
/- The walk of EndsHalves: it answers true for every uint64. -/
namespace Go.Proofs.Ytghkpeejogldkaa
open Go.RowKit Go.Proofs.U

theorem leB_wf (q : Nat) (x : Int) : ∀ n ∈ leB q x, (Lit.int .u8 n).wf = true := by
  induction q generalizing x with
  | zero => simp [leB]
  | succ q ih =>
    intro n hn
    simp only [leB, List.mem_cons] at hn
    rcases hn with rfl | hn
    · simp [Lit.wf, IntKind.min, IntKind.max, IntKind.signed, IntKind.bits]; omega
    · exact ih _ n hn
theorem putB_wf (q : Nat) (l : List Int) : ∀ n ∈ putB q l, (Lit.int .u8 n).wf = true := by
  intro n hn; simp only [putB, List.mem_flatMap] at hn; obtain ⟨x, _, h⟩ := hn; exact leB_wf q x n h
theorem wf_app {k : IntKind} {a b : List Int} (ha : ∀ n ∈ a, (Lit.int k n).wf = true) (hb : ∀ n ∈ b, (Lit.int k n).wf = true) : ∀ n ∈ a ++ b, (Lit.int k n).wf = true := by
  intro n hn; rcases List.mem_append.1 hn with h | h
  · exact ha n h
  · exact hb n h

theorem put84 (n : Int) : ([] : List Int) ++ putB (4 : Int).toNat [n % 4294967296, n / 4294967296] = leB 8 n := by
  have e : (4 : Int).toNat = 4 := rfl
  simp only [e, List.nil_append, putB, List.flatMap_cons, List.flatMap_nil, leB, List.cons_append, List.append_nil, List.cons.injEq]
  refine ⟨by omega, by omega, by omega, by omega, by omega, by omega, by omega, by omega, trivial⟩
theorem put21 (n : Int) : ([] : List Int) ++ putB (1 : Int).toNat [n % 256, n / 256 % 256] = leB 2 (n % 65536) := by
  have e : (1 : Int).toNat = 1 := rfl
  simp only [e, List.nil_append, putB, List.flatMap_cons, List.flatMap_nil, leB, List.cons_append, List.append_nil, List.cons.injEq]
  refine ⟨by omega, by omega, trivial⟩

theorem u64_wf {x : Int} (h0 : 0 ≤ x) (h1 : x < 18446744073709551616) : (Lit.int .u64 x).wf = true := by
  simp [Lit.wf, IntKind.min, IntKind.max, IntKind.signed, IntKind.bits]; omega

theorem Sl2 (w : World) (t : TypeId) (k : IntKind) (x y : Int) (hx : (Lit.int k x).wf = true) (hy : (Lit.int k y).wf = true) : SlI k (w.alloc (.cells #[.int k x, .int k y] t)) (.slice (some ⟨w.heap.size, 0, none⟩) 2 2) [x, y] := by
  refine ⟨⟨_, _, rfl, Nat.le_refl _, by simp, (fun h => by cases h), fun z hz => ?_⟩, by simp [hx, hy]⟩
  cases hz
  intro j u hj
  rw [Addr.plain]
  match j, hj with
  | 0, hj => simp at hj; subst hj; simp
  | 1, hj => simp at hj; subst hj; simp
  | j + 2, hj => simp at hj

end Go.Proofs.Ytghkpeejogldkaa
/- The walk of EndsNames: it answers true. -/
namespace Go.Proofs.Ytghkpeejogldkaa
open Go.RowKit Go.Proofs.U

end Go.Proofs.Ytghkpeejogldkaa
/- The walk of EndsJoin: it answers true for every width and every two lists of numbers. -/
namespace Go.Proofs.Ytghkpeejogldkaa
open Go.RowKit Go.Proofs.U

end Go.Proofs.Ytghkpeejogldkaa
