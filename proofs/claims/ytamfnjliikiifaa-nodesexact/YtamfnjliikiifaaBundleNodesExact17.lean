/- Texts V12, B5a, C3, C4, V13, CV, V14, D6, D3a, D5, CM2, D4, V16 of the proof of NodesExact, one behind the other. -/
import Derived.Lib.SlBytesConst
import Derived.Test.YtamfnjliikiifaaRows
import Derived.Test.YtamfnjliikiifaaBundleNodesExact1
import Derived.Test.YtamfnjliikiifaaBundleNodesExact2
import Derived.Test.YtamfnjliikiifaaBundleNodesExact3
import Derived.Test.YtamfnjliikiifaaBundleNodesExact4
import Derived.Test.YtamfnjliikiifaaBundleNodesExact5
import Derived.Test.YtamfnjliikiifaaBundleNodesExact6
import Derived.Test.YtamfnjliikiifaaBundleNodesExact7
import Derived.Test.YtamfnjliikiifaaBundleNodesExact8
import Derived.Test.YtamfnjliikiifaaBundleNodesExact9
import Derived.Test.YtamfnjliikiifaaBundleNodesExact10
import Derived.Test.YtamfnjliikiifaaBundleNodesExact11
import Derived.Test.YtamfnjliikiifaaBundleNodesExact12
import Derived.Test.YtamfnjliikiifaaBundleNodesExact13
import Derived.Test.YtamfnjliikiifaaBundleNodesExact14
import Derived.Test.YtamfnjliikiifaaBundleNodesExact15
import Derived.Test.YtamfnjliikiifaaBundleNodesExact16
/- A disk of two pages, plain: what a Write makes of it, cut off or not; what is read behind a crash. -/
namespace Go.Proofs.Ytamfnjliikiifaa
open Go.RowKit Go.Proofs.U
set_option linter.unusedSimpArgs false
set_option linter.unusedVariables false

/-- Both slots, nothing pending, nothing bad. -/
structure Two (X : DSt) (p q : List Int) : Prop where
  pages : X.pages = [p, q]
  pend : X.pend = []
  bad : ∀ i, X.bad i = false
  lp : p.length = 256
  lq : q.length = 256
  bp : Byt p
  bq : Byt q
section
variable {X : DSt} {p q : List Int}
theorem Two.read0 (h : Two X p q) : readP X 0 = (p, 0) := by
  unfold readP
  rw [h.pages, h.pend, h.bad]
  rfl
theorem Two.read1 (h : Two X p q) : readP X 1 = (q, 0) := by
  unfold readP
  rw [h.pages, h.pend, h.bad]
  rfl
theorem Two.re (h : Two X p q) : rdE X = 0 := by unfold rdE; rw [h.read0, h.read1]; rfl
theorem Two.nw (h : Two X p q) : nwst X = newest p q := by unfold nwst; rw [h.read0, h.read1]
theorem Two.tpp (h : Two X p q) : tp X = top p q := by unfold tp; rw [h.read0, h.read1]
theorem Two.byt (h : Two X p q) : X.byt := by
  refine ⟨?_, by rw [h.pend]; simp⟩
  rw [h.pages]
  intro r hr
  simp at hr
  rcases hr with rfl | rfl
  · exact h.bp
  · exact h.bq
theorem Two.rd (h : Two X p q) : rRead X = ((newest p q).2, (newest p q).1, if (newest p q).1 = 0 then 51 else 0) := by
  unfold rRead
  rw [h.re, h.nw, if_pos rfl]
  by_cases h0 : (newest p q).1 = 0
  · have := newest_zero h0 h.bp h.bq
    rw [this]; rfl
  · rw [if_neg h0, if_neg h0]
theorem Two.nx (h : Two X p q) (ht : top p q ≤ 18446744073709551612) : rNext X = (nextG X, 0) := by
  unfold rNext
  rw [h.re, h.tpp, if_pos rfl, if_neg (by omega)]
theorem Two.nxG (h : Two X p q) : top p q < nextG X ∧ nextG X ≤ top p q + 2 ∧ ((newest p q).1 ≠ 0 → nextG X % 2 ≠ (newest p q).1 % 2) ∧ ((newest p q).1 = 0 → nextG X = top p q + 1) ∧ ((top p q + 1) % 2 ≠ (newest p q).1 % 2 → nextG X = top p q + 1) := by
  unfold nextG
  rw [h.tpp, h.nw]
  split <;> omega
end

/-- The page r in the slot of generation G. -/
def putS0 (G : Int) (r p : List Int) : List Int := if G % 2 = 0 then r else p
def putS1 (G : Int) (r q : List Int) : List Int := if G % 2 = 0 then q else r
theorem newest_new {p q : List Int} (hp : Byt p) (hq : Byt q) {G : Int} (hG : top p q < G) (hGb : G < 18446744073709551616) (c : List Int) (hc : c.length ≤ 186) : newest (putS0 G (rootP G c) p) (putS1 G (rootP G c) q) = (G, c) := by
  have ht := top_nn p q
  have hr := rootOf_root G ⟨by omega, hGb⟩ c hc
  have gp : (rootOf p).1 ≤ top p q := by
    by_cases h : (rootOf p).1 = 0
    · omega
    · rw [← rootOf_gen hp h 0 (by decide)]; exact top_p p q 0 (by decide)
  have gq : (rootOf q).1 ≤ top p q := by
    by_cases h : (rootOf q).1 = 0
    · omega
    · rw [← rootOf_gen hq h 0 (by decide)]; exact top_q p q 0 (by decide)
  unfold putS0 putS1 newest
  by_cases h : G % 2 = 0
  · simp only [if_pos h, hr]
    have h1 : G % 2 = 0 ∧ 0 < G := ⟨h, by omega⟩
    have h2 : ¬ ((rootOf q).1 % 2 = 1 ∧ G < (rootOf q).1) := by omega
    simp only [if_pos h1, if_neg h2]
  · simp only [if_neg h, hr]
    rw [if_pos]
    refine ⟨by omega, ?_⟩
    split
    · omega
    · simp only; omega
theorem newest_torn {p q : List Int} (hp : Byt p) (hq : Byt q) {G : Int} (par : (newest p q).1 ≠ 0 → G % 2 ≠ (newest p q).1 % 2) {r : List Int} (hr : (rootOf r).1 = 0) : newest (putS0 G r p) (putS1 G r q) = newest p q := by
  have gp := (rootOf_bd hp).1
  have gq := (rootOf_bd hq).1
  unfold putS0 putS1
  by_cases h : G % 2 = 0
  · simp only [if_pos h]
    have e1 : newest r q = if (rootOf q).1 % 2 = 1 ∧ 0 < (rootOf q).1 then rootOf q else (0, []) := by
      unfold newest; simp [hr]
    rw [e1]
    by_cases h0 : (newest p q).1 = 0
    · rw [newest_zero h0 hp hq, if_neg]
      rintro ⟨h2, h3⟩
      unfold newest at h0
      simp only at h0
      split at h0
      · split at h0 <;> omega
      · rename_i c1
        rw [if_pos ⟨h2, h3⟩] at h0; omega
    · have h1 := par h0
      have h2 := newest_odd h0 (by omega)
      rw [h2] at h0 h1 ⊢
      rw [if_pos ⟨by omega, by omega⟩]
  · simp only [if_neg h]
    have e1 : newest p r = if (rootOf p).1 % 2 = 0 ∧ 0 < (rootOf p).1 then rootOf p else (0, []) := by
      unfold newest; simp [hr]
    rw [e1]
    by_cases h0 : (newest p q).1 = 0
    · rw [newest_zero h0 hp hq, if_neg]
      rintro h2
      unfold newest at h0
      simp only [if_pos h2] at h0
      split at h0 <;> omega
    · have h1 := par h0
      have h2 := newest_even h0 (by omega)
      rw [h2] at h0 h1 ⊢
      rw [if_pos ⟨by omega, by omega⟩]
/-- Of a torn page all sectors are kept, or none, or it is no root. -/
theorem mix_cases (old new : List Int) (st : Nat → Bool) (ho : old.length = 256) (hn : new.length = 256) (bo : Byt old) (bn : Byt new) {G : Int} (hG : ∀ s, s < 8 → genAt new s = G) (hO : ∀ s, s < 8 → genAt old s < G) :
    mixS old new st 8 = new ∨ mixS old new st 8 = old ∨ (rootOf (mixS old new st 8)).1 = 0 := by
  by_cases h1 : ∀ s, s < 8 → st s = true
  · exact Or.inl (mixS_full _ _ _ hn h1)
  · by_cases h2 : ∀ s, s < 8 → st s = false
    · exact Or.inr (Or.inl (mixS_old _ _ _ ho h2))
    · obtain ⟨t, ht, ht2⟩ : ∃ t, t < 8 ∧ st t = false := by
        apply Decidable.byContradiction; intro h
        exact h1 fun s hs => by
          cases hh : st s with
          | true => rfl
          | false => exact absurd ⟨s, hs, hh⟩ h
      obtain ⟨s, hs, hs2⟩ : ∃ s, s < 8 ∧ st s = true := by
        apply Decidable.byContradiction; intro h
        exact h2 fun s hs => by
          cases hh : st s with
          | false => rfl
          | true => exact absurd ⟨s, hs, hh⟩ h
      refine Or.inr (Or.inr (rootOf_unlike (mixS_byt bo bn st) hs ht ?_))
      rw [genAt_mix _ _ _ ho hn s hs, genAt_mix _ _ _ ho hn t ht, hs2, ht2]
      simp only [if_true, Bool.false_eq_true, if_false]
      have := hG s hs
      have := hO t ht
      omega
theorem top_put {p q : List Int} {G B : Int} {r : List Int} (h0 : 0 ≤ B) (hB : top p q ≤ B) (hr : ∀ s, s < 8 → genAt r s ≤ B) : top (putS0 G r p) (putS1 G r q) ≤ B := by
  refine top_up h0 (fun s hs => ?_) (fun s hs => ?_)
  · unfold putS0; split
    · exact hr s hs
    · have := top_p p q s hs; omega
  · unfold putS1; split
    · have := top_q p q s hs; omega
    · exact hr s hs

section
variable {X : DSt} {p q : List Int}
theorem Two.crash (h : Two X p q) (keep : List Int) : Two (X.crash keep) p q := by
  have e : (X.crash keep).pages = X.pages := by
    show setS X.pages X.pend (stayK keep) X.pend.length = X.pages
    rw [h.pend]; rfl
  exact ⟨by rw [e, h.pages], rfl, h.bad, h.lp, h.lq, h.bp, h.bq⟩
theorem setS_one (p q : List Int) (G : Int) (r : List Int) (st : Nat → Nat → Bool) : setS [p, q] [(G % 2, r)] st 1 = [putS0 G (mixS p r (st 0) 8) p, putS1 G (mixS q r (st 0) 8) q] := by
  unfold setS putS0 putS1
  have : G % 2 = 0 ∨ G % 2 = 1 := by omega
  rcases this with h | h
  · rw [h]; rfl
  · rw [h]; rfl
theorem inR_slot (G : Int) : inR 2 (G % 2) = true := by unfold inR; simp; omega
/-- A Write that is cut off ahead of its page. -/
theorem Two.cut0 (h : Two X p q) (ht : top p q ≤ 18446744073709551612) (hd : X.down = false) (hl : X.left = 0) (c : List Int) (hc : c.length ≤ 186) : rWrite X c = ({ X with left := 0, down := true }, 0, 42) := by
  unfold rWrite
  rw [if_neg (by omega), h.nx ht]
  have e1 : X.actE = 42 := by unfold DSt.actE actP; rw [hl]; simp
  have e2 : X.act = { X with left := 0, down := true } := by unfold DSt.act actP; rw [hl]; simp
  have e3 : X.writeE (nextG X % 2) = 42 := by unfold DSt.writeE; rw [h.pages]; show (if inR 2 _ = true then _ else _) = _; rw [inR_slot, e1]; rfl
  have e4 : ∀ r, X.write (nextG X % 2) r = X.act := by
    intro r; unfold DSt.write; rw [h.pages]; show (if inR 2 _ = true then _ else _) = _; rw [inR_slot, e1]; rfl
  simp only [e3, e4, e2]
  rfl
/-- A Write that goes on behind its page: cut off, or not. -/
theorem Two.goes (h : Two X p q) (ht : top p q ≤ 18446744073709551612) (hd : X.down = false) (hl : X.left ≠ 0) (c : List Int) (hc : c.length ≤ 186) :
    rWrite X c = if X.left = 1 then ({ X with left := 0, down := true, pend := [(nextG X % 2, rootP (nextG X) c)] }, 0, 42)
      else ({ X with left := (if 0 < X.left then X.left - 2 else X.left), pages := [putS0 (nextG X) (rootP (nextG X) c) p, putS1 (nextG X) (rootP (nextG X) c) q] }, nextG X, 0) := by
  have hR := rootP_len (nextG X) c
  have hnx := h.nx ht
  obtain ⟨pages, bad, pend, down, left⟩ := X
  obtain rfl : pages = [p, q] := h.pages
  obtain rfl : pend = [] := h.pend
  obtain rfl : down = false := hd
  have hl : left ≠ 0 := hl
  unfold rWrite
  rw [if_neg (by omega), hnx]
  dsimp only
  generalize nextG _ = G at *
  generalize rootP G c = R at *
  have a1 : actP left false = (if 0 < left then left - 1 else left, false, 0) := by
    unfold actP
    rw [if_neg (by simpa using hl)]
  have e3 : (⟨[p, q], bad, [], false, left⟩ : DSt).writeE (G % 2) = 0 := by
    show (if inR 2 _ = true then (actP left false).2.2 else _) = _
    rw [inR_slot, a1]; rfl
  have e4 : (⟨[p, q], bad, [], false, left⟩ : DSt).write (G % 2) R = ⟨[p, q], bad, [(G % 2, R)], false, if 0 < left then left - 1 else left⟩ := by
    show (if inR 2 _ = true then (if (actP left false).2.2 = 0 then DSt.mk [p, q] bad ([] ++ [(G % 2, R)]) (actP left false).2.1 (actP left false).1 else _) else _) = _
    rw [inR_slot, a1]; rfl
  simp only [e3, e4]
  by_cases h1 : left = 1
  · subst h1
    have e5 : (⟨[p, q], bad, [(G % 2, R)], false, if (0 : Int) < 1 then 1 - 1 else 1⟩ : DSt).actE = 42 := rfl
    simp only [e5]
    rfl
  · rw [if_neg h1]
    have hz : (if 0 < left then left - 1 else left) ≠ 0 := by split <;> omega
    have e7 : (if 0 < left then left - 2 else left) = (if 0 < (if 0 < left then left - 1 else left) then (if 0 < left then left - 1 else left) - 1 else (if 0 < left then left - 1 else left)) := by
      by_cases h2 : 0 < left
      · rw [if_pos h2, if_pos h2, if_pos (by omega)]; omega
      · rw [if_neg h2, if_neg h2, if_neg (by omega)]
    rw [e7]
    generalize (if 0 < left then left - 1 else left) = L at *
    have a2 : actP L false = (if 0 < L then L - 1 else L, false, 0) := by
      unfold actP
      rw [if_neg (by simpa using hz)]
    have e5 : (⟨[p, q], bad, [(G % 2, R)], false, L⟩ : DSt).actE = 0 := by show (actP L false).2.2 = 0; rw [a2]
    have e6 : setS [p, q] [(G % 2, R)] (fun _ _ => true) 1 = [putS0 G R p, putS1 G R q] := by
      rw [setS_one, mixS_all _ _ hR, mixS_all _ _ hR]
    have e8 : (⟨[p, q], bad, [(G % 2, R)], false, L⟩ : DSt).sync = ⟨[putS0 G R p, putS1 G R q], bad, [], false, if 0 < L then L - 1 else L⟩ := by
      unfold DSt.sync
      rw [e5]
      show DSt.mk (setS [p, q] [(G % 2, R)] (fun _ _ => true) 1) bad [] (actP L false).2.1 (actP L false).1 = _
      rw [e6, a2]
    simp only [e5, e8]
    rfl
end
end Go.Proofs.Ytamfnjliikiifaa
/- Rows of the call's own making: one element read, one stored; no condition. -/
namespace Go.Proofs.U
open Go.RowKit

theorem OwnI.some {k : IntKind} {e : TypeId} {w : World} {base : Nat} {v : Value} {l : List Int} (h : OwnI k e w base v l) (hl : 0 < l.length) :
    ∃ g cap cur, v = .slice (Option.some ⟨g, 0, none⟩) l.length cap ∧ base ≤ g ∧ w.heap[g]? = Option.some (.cells cur e (0, 0)) ∧ l.length ≤ cap ∧ cap ≤ maxLen ∧ cur.size = cap ∧ cur.toList.take l.length = l.map (Value.int k) := by
  rcases h.2 with ⟨_, hn⟩ | ⟨g, cap, cur, hv, h1, h2, h3, h4, h5, h6⟩
  · omega
  · exact ⟨g, cap, cur, hv, h1, h2, h3, h4, by simpa using h5, by simpa using h6⟩

/-- Its cells, one by one. -/
theorem OwnI.cellK {k : IntKind} {e : TypeId} {w : World} {base g n cap : Nat} {l : List Int} (h : OwnI k e w base (.slice (Option.some ⟨g, 0, none⟩) n cap) l) (j : Nat) (hj : j < l.length) :
    w.cell? ⟨g, j, none⟩ = Option.some (.int k (l.getD j 0)) ∧ w.frozen? ⟨g, j, none⟩ = false := by
  obtain ⟨g', cap', cur, hv, h1, h2, h3, h4, h5, h6⟩ := h.some (by omega)
  cases hv
  have hc : cur[j]? = Option.some (.int k (l.getD j 0)) := by
    have h7 : (cur.toList.take l.length)[j]? = Option.some (.int k (l.getD j 0)) := by rw [h6]; simp [List.getD, hj]
    rw [List.getElem?_take, if_pos hj] at h7
    simpa using h7
  simp [World.cell?, World.frozen?, h2, hc]

/-- One element stored. -/
theorem OwnI.setK {k : IntKind} {e : TypeId} {w : World} {base g n cap : Nat} {l : List Int} (h : OwnI k e w base (.slice (Option.some ⟨g, 0, none⟩) n cap) l) (j : Nat) (hj : j < l.length) (y : Int) :
    OwnI k e (w.setCell ⟨g, j, none⟩ (.int k y)) base (.slice (Option.some ⟨g, 0, none⟩) n cap) (l.set j y) := by
  obtain ⟨g', cap', cur, hv, h1, h2, h3, h4, h5, h6⟩ := h.some (by omega)
  cases hv
  have hlt : g < w.heap.size := (Array.getElem?_eq_some_iff.1 h2).1
  have hv2 : w.heap[g] = .cells cur e (0, 0) := (Array.getElem?_eq_some_iff.1 h2).2
  refine ⟨by simp, Or.inr ⟨g, cap, cur.setIfInBounds j (.int k y), by simp, h1, ?_, by simpa using h3, h4, by simpa using h5, ?_⟩⟩
  · simp [World.setCell, Array.getElem?_modify, h2]
  · simp only [List.length_set, Nat.mul_one, Array.toList_setIfInBounds, List.map_set]
    rw [List.take_set, h6]
end Go.Proofs.U
/- Contracts of Open and Turn of package crc, and of crcAlive. -/
namespace Go.Proofs.Ytamfnjliikiifaa
open Go.RowKit Go.Proofs.U

def okI (l : List Int) : Bool := decide (4 ≤ l.length) && decide (sealI (l.take (l.length - 4)) = l)
def opnI (l : List Int) : List Int := if okI l then l.take (l.length - 4) else []

end Go.Proofs.Ytamfnjliikiifaa
/- Contracts of Turn of package crc, and of crcAlive. -/
namespace Go.Proofs.Ytamfnjliikiifaa
open Go.RowKit Go.Proofs.U

def xI (a b : Int) : Int := ((a.toNat ^^^ b.toNat : Nat) : Int)
def turnI (l : List Int) (at' m : Int) : List Int := if 0 ≤ at' ∧ at' < (l.length : Int) then l.set at'.toNat (xI (l.getD at'.toNat 0) m) else l
theorem xI_bd {a b : Int} (ha : 0 ≤ a ∧ a < 256) (hb : 0 ≤ b ∧ b < 256) : 0 ≤ xI a b ∧ xI a b < 256 := by
  have : a.toNat ^^^ b.toNat < 2 ^ 8 := Nat.xor_lt_two_pow (by omega) (by omega)
  unfold xI; omega
theorem turnI_wf (l : List Int) (at' m : Int) (hl : ∀ n ∈ l, (Lit.int .u8 n).wf = true) (hm : 0 ≤ m ∧ m < 256) : ∀ n ∈ turnI l at' m, (Lit.int .u8 n).wf = true := by
  unfold turnI
  split
  · rename_i h
    intro n hn
    rcases List.mem_or_eq_of_mem_set hn with h1 | h1
    · exact hl n h1
    · subst h1
      have hj : at'.toNat < l.length := by omega
      have hd : l.getD at'.toNat 0 = l[at'.toNat] := by simp [List.getD, hj]
      have := xI_bd (u8_bd (hl l[at'.toNat] (by simp))) hm
      rw [hd]; exact wf_byte this.1 this.2
  · exact hl
theorem turnI_length (l : List Int) (at' m : Int) : (turnI l at' m).length = l.length := by unfold turnI; split <;> simp
theorem made_ints (n : Nat) : (madeCells (Value.int IntKind.u8 0).cells (n * 1)).toList = (List.replicate n 0).map (Value.int .u8) := by
  rw [Nat.mul_one]; show (madeCells #[Value.int IntKind.u8 0] n).toList = _; rw [toList_madeCells_one, List.map_replicate]

theorem cpy_all (l : List Int) : (l.map (Value.int .u8)).take l.length ++ ((madeCells (Value.int IntKind.u8 0).cells (l.length * 1)).toList).drop l.length = l.map (Value.int .u8) := by
  rw [made_ints, List.take_of_length_le (by simp), List.drop_of_length_le (by simp), List.append_nil]

theorem sum9 : crcI [49, 50, 51, 52, 53, 54, 55, 56, 57] = 58124007 := by decide +kernel
theorem seal0 : sealI [] = [255, 255, 255, 255] := by decide +kernel
theorem str255 : ((strOfNums [255, 255, 255, 255]).toList == [255, 255, 255, 255]) = true := by decide +kernel

theorem SlB3 (w : World) (t : TypeId) (v1 v2 v3 : Value) (l1 l2 l3 : List Int) (b : Nat) (hb : w.heap.size = b) (h1 : SlI .u8 w v1 l1) (h2 : SlI .u8 w v2 l2) (h3 : SlI .u8 w v3 l3) : SlB (w.alloc (.cells #[v1, v2, v3] t)) (.slice (some ⟨b, 0, none⟩) 3 3) [l1, l2, l3] := by
  refine ⟨[v1, v2, v3], Sl_made w t #[v1, v2, v3] 3 b rfl hb, fun j hj u hu => ?_⟩
  have hf : Fr noB w (w.alloc (.cells #[v1, v2, v3] t)) := (Fr.refl _ _).alloc _
  have hj' : j = 0 ∨ j = 1 ∨ j = 2 := by simp at hj; omega
  rcases hj' with rfl | rfl | rfl <;> simp at hu <;> subst hu
  · exact h1.fr0 hf
  · exact h2.fr0 hf
  · exact h3.fr0 hf
theorem SlI_made (w : World) (t : TypeId) (l : List Int) (cs : Array Value) (n b : Nat) (hn : cs.size = n) (hb : w.heap.size = b) (hc : cs.toList = l.map (Value.int .u8)) (hl : ∀ n ∈ l, (Lit.int .u8 n).wf = true) : SlI .u8 (w.alloc (.cells cs t)) (.slice (some ⟨b, 0, none⟩) n n) l := by
  have hnl : n = l.length := by rw [← hn, ← Array.length_toList, hc]; simp
  subst hnl
  refine ⟨?_, hl⟩
  rw [← hc]; exact Sl_made w t cs _ b hn hb

theorem SlI_marked (w : World) (t : TypeId) (l : List Int) (cs : Array Value) (n b : Nat) (fz : Nat × Nat) (hn : cs.size = n) (hb : w.heap.size = b) (hc : cs.toList = l.map (Value.int .u8)) (hl : ∀ n ∈ l, (Lit.int .u8 n).wf = true) : SlI .u8 (w.alloc (.cells cs t fz)) (.slice (some ⟨b, 0, none⟩) n n) l := by
  subst hb
  have hnl : n = l.length := by rw [← hn, ← Array.length_toList, hc]; simp
  subst hnl
  refine ⟨?_, hl⟩
  rw [← hc]
  refine ⟨_, _, rfl, Nat.le_refl _, by simp [hn], (fun h => by cases h), fun x hx => ?_⟩
  cases hx
  intro j u hj
  rw [Addr.plain, Nat.zero_add]
  have h1 : cs[j]? = some u := by simpa using hj
  have h2 : (w.alloc (.cells cs t fz)).heap[w.heap.size]? = some (.cells cs t fz) := by
    show (w.heap.push _)[w.heap.size]? = _
    simp
  unfold World.cell?
  rw [h2]
  exact h1

section
variable {w0 : World} {ops : Array Oper} {rest : List Oper} {o : Oper} {a : Act} {Q : Exit → Act → World → Prop}
/-- []byte of a constant. -/
theorem wpList_const (hgd : Region.wanted o (yielded ops a.tmps) = true) (x : Operand) (ho : o.op = .convert 92 92 x) (w : World) (cs : Array Value) (n b : Nat) (l : List Int) (hx : a.eval x = .slice (some ⟨b, 0, none⟩) n n) (hn : cs.size = n) (hb : w.heap.size = b)
    (hc : cs.toList = l.map (Value.int .u8)) (hl : ∀ n ∈ l, (Lit.int .u8 n).wf = true) (hw0 : w0 = w.alloc (.cells cs 5))
    (h : ∀ w', Fr noB w w' → SlI .u8 w' (.slice (some ⟨b, 0, none⟩) n n) l → wpList Try.prog ops Q rest (a.put o.dst (.slice (some ⟨b, 0, none⟩) n n)) w') : wpList Try.prog ops Q (o :: rest) a w0 := by
  subst hw0 hb
  refine wpList_wanted hgd fun K hK => ?_
  have hrun := Go.Lib.run_convert_bytes_const (P := Try.prog) w 92 5 cs n n Try.underlying92 Try.underlying5
  unfold Oper.wp
  simp [execOp, ho, hx, hrun, Result.andThen]
  exact hK _ _ (h _ ((Fr.refl _ _).alloc _) (SlI_marked w _ l cs n _ _ hn rfl hc hl))
end

end Go.Proofs.Ytamfnjliikiifaa
/- The example that layer 5's statements ask first; RootNames. -/
namespace Go.Proofs.Ytamfnjliikiifaa
open Go.RowKit Go.Proofs.U
set_option linter.unusedSimpArgs false
set_option linter.unusedVariables false
theorem newD_byt (n : Int) : (newD n).byt := by
  refine ⟨?_, by intro x hx; simp [newD] at hx⟩
  intro p hp
  have : p = zeroP := List.eq_of_mem_replicate hp
  rw [this]; exact zeroP_byt
def XA : DSt := (rWrite (newD 4) [97, 98]).1
theorem aliveW : (rWrite (newD 4) [97, 98]).2 = (1, 0) := by kernel_rfl
theorem aliveR : rRead XA = ([97, 98], 1, 0) := by kernel_rfl
theorem aliveN : XA.pend.length = 0 := by kernel_rfl
theorem write_byt {X : DSt} (h : X.byt) (i : Int) {p : List Int} (hp : Byt p) : (X.write i p).byt := by
  unfold DSt.write
  split
  · split
    · refine ⟨h.1, ?_⟩
      intro x hx
      have hx : x ∈ X.pend ++ [(i, p)] := hx
      rcases List.mem_append.1 hx with hx | hx
      · exact h.2 x hx
      · simp at hx; subst hx; exact hp
    · exact h
  · exact h
theorem getD_byt {L : List (List Int)} (h : ∀ p ∈ L, Byt p) (i : Nat) : Byt (L.getD i []) := by
  by_cases hj : i < L.length
  · have : L.getD i [] = L[i] := by simp [List.getD, hj]
    rw [this]; exact h _ (by simp)
  · have : L.getD i [] = [] := by simp [List.getD, hj]
    rw [this]; intro n hn; simp at hn
theorem setS_byt {pages : List (List Int)} {pend : List (Int × List Int)} (h1 : ∀ p ∈ pages, Byt p) (h2 : ∀ x ∈ pend, Byt x.2) (st : Nat → Nat → Bool) (k : Nat) : ∀ p ∈ setS pages pend st k, Byt p := by
  have nb : Byt [] := by intro n hn; simp at hn
  induction k with
  | zero => exact h1
  | succ k ih =>
    rw [setS_succ]
    unfold setS1
    intro p hp
    rcases List.mem_or_eq_of_mem_set hp with hp | rfl
    · exact ih p hp
    · refine mixS_byt ?_ ?_ _
      · exact getD_byt ih _
      · by_cases hj : k < pend.length
        · have : pend.getD k (0, []) = pend[k] := by simp [List.getD, hj]
          rw [this]; exact h2 _ (by simp)
        · have : pend.getD k (0, []) = (0, []) := by simp [List.getD, hj]
          rw [this]; exact nb
theorem act_byt {X : DSt} (h : X.byt) : X.act.byt := h
theorem sync_byt {X : DSt} (h : X.byt) : X.sync.byt := by
  unfold DSt.sync
  split
  · exact ⟨setS_byt h.1 h.2 _ _, by intro x hx; simp [DSt.settle] at hx⟩
  · exact h
theorem crash_byt {X : DSt} (h : X.byt) (keep : List Int) : (X.crash keep).byt := ⟨setS_byt h.1 h.2 _ _, by intro x hx; simp [DSt.crash] at hx⟩
theorem rWrite_byt {X : DSt} (h : X.byt) {c : List Int} (hc : Byt c) : (rWrite X c).1.byt := by
  unfold rWrite
  split
  · exact h
  · split
    · exact h
    · have h1 : (X.write ((rNext X).1 % 2) (rootP (rNext X).1 c)).byt := write_byt h _ (rootP_byt _ hc)
      dsimp only
      split
      · exact h1
      · split
        · exact sync_byt h1
        · exact sync_byt h1
theorem str97 : ((strOfNums [97, 98]).toList == [97, 98]) = true := by decide +kernel

theorem nmR : rRead (newD 4) = ([], 0, 51) := by kernel_rfl
theorem nmW : rWrite (newD 4) (List.replicate 187 0) = (newD 4, 0, 51) := by kernel_rfl
theorem nmR1 : rRead (newD 1) = ([], 0, 41) := by kernel_rfl
theorem nmX : rNext (newD 4) = (1, 0) := by kernel_rfl

end Go.Proofs.Ytamfnjliikiifaa
/- How bytes become a string. -/
namespace Go.Proofs.Ytamfnjliikiifaa
open Go.RowKit Go.Proofs.U

theorem conv_run {w : World} {v : Value} {l : List Int} (hS : SlI .u8 w v l) : (convert 92 9 v).run Try.prog w = .ok (.string (strOfNums l)) w := by
  obtain ⟨⟨ao, cap, rfl, hcap, hlen, hnone, hsome⟩, hwf⟩ := hS
  cases ao with
  | none =>
    obtain rfl := hnone rfl
    obtain rfl : l = [] := List.eq_nil_of_length_eq_zero (by omega)
    rw [run_convert_bytes_nil (P := Try.prog) w 92 5 Try.underlying92 Try.underlying5 _ _ 9 Try.underlying9]; rfl
  | some ad =>
    have hcell := hsome _ rfl
    by_cases hl0 : l.length = 0
    · obtain rfl : l = [] := List.eq_nil_of_length_eq_zero hl0
      have hl : (loadCells ad 0).run Try.prog w = .ok #[] w := by simpa using run_loadCells_list (P := Try.prog) w ad [] (by simp)
      rw [run_convert_bytes_string w 92 9 5 _ _ cap Try.underlying92 Try.underlying5 Try.underlying9]
      exact run_bytesToString w ad 0 cap [] hl
    obtain ⟨b, off, sp⟩ := ad
    have hsp : sp = none := by
      have := hcell 0 _ (List.getElem?_eq_getElem (by simp; omega))
      simpa [Addr.add] using World.cell?_spot this
    subst hsp
    refine run_convert_bytes_arg (P := Try.prog) w 92 5 Try.underlying92 Try.underlying5 b off l.length cap l rfl ?_ 9 Try.underlying9
    intro i hi
    have := hcell i (.int .u8 (l.getD i 0)) (by simp [List.getD, hi])
    have hadd : (⟨b, off, none⟩ : Addr).add i = ⟨b, off + i, none⟩ := by unfold Addr.add; split <;> simp_all
    rwa [hadd] at this
end Go.Proofs.Ytamfnjliikiifaa
/- RootTurns. -/
namespace Go.Proofs.Ytamfnjliikiifaa
open Go.RowKit Go.Proofs.U
set_option linter.unusedSimpArgs false
set_option linter.unusedVariables false
theorem putS_two {X : DSt} {p q : List Int} (h : Two X p q) (G : Int) {r : List Int} (hr : r.length = 256) (br : Byt r) (Y : DSt) (hp : Y.pages = [putS0 G r p, putS1 G r q]) (hq : Y.pend = []) (hb : Y.bad = X.bad) : Two Y (putS0 G r p) (putS1 G r q) := by
  refine ⟨hp, hq, by rw [hb]; exact h.bad, ?_, ?_, ?_, ?_⟩
  · unfold putS0; split; exact hr; exact h.lp
  · unfold putS1; split; exact h.lq; exact hr
  · unfold putS0; split; exact br; exact h.bp
  · unfold putS1; split; exact h.bq; exact br
theorem turn_ok {X : DSt} {p q : List Int} (h : Two X p q) (hd : X.down = false) (hl : X.left = -1) {last : Int} (h1 : (newest p q).1 = last) (h2 : top p q = last) (hb : last ≤ 1000) (c : List Int) (hc : c.length ≤ 186) (bc : Byt c) :
    rNext X = (last + 1, 0) ∧ ∃ Y p' q', rWrite X c = (Y, last + 1, 0) ∧ Two Y p' q' ∧ Y.down = false ∧ Y.left = -1 ∧ (newest p' q').1 = last + 1 ∧ top p' q' = last + 1 ∧ rRead Y = (c, last + 1, 0) := by
  have h0 := top_nn p q
  have hG : nextG X = last + 1 := by
    have := h.nxG.2.2.2.2
    rw [h1, h2] at this
    exact this (by omega)
  have hx := h.nx (by omega)
  rw [hG] at hx
  refine ⟨hx, ?_⟩
  have hw := h.goes (by omega) hd (by omega) c hc
  rw [hG, hl] at hw
  simp only [show ¬ ((-1 : Int) = 1) by decide, if_false, show ¬ ((0 : Int) < -1) by decide] at hw
  have hR := rootP_len (last + 1) c
  have bR := rootP_byt (last + 1) bc
  have hT := putS_two h (last + 1) hR bR _ (rfl : ({ X with left := -1, pages := [putS0 (last + 1) (rootP (last + 1) c) p, putS1 (last + 1) (rootP (last + 1) c) q] } : DSt).pages = _) h.pend rfl
  have hN := newest_new h.bp h.bq (G := last + 1) (by omega) (by omega) c hc
  refine ⟨_, _, _, hw, hT, hd, rfl, by rw [hN], ?_, ?_⟩
  · apply Int.le_antisymm
    · refine top_put (by omega) (by omega) (fun s hs => ?_)
      rw [genAt_root _ ⟨by omega, by omega⟩ _ s hs]; exact Int.le_refl _
    · have := newest_top hT.bp hT.bq
      rw [hN] at this; exact this
  · rw [hT.rd, hN]
    simp only
    rw [if_neg (by omega)]
theorem two_new : Two (newD 2) zeroP zeroP := ⟨rfl, rfl, fun _ => rfl, zeroP_len, zeroP_len, zeroP_byt, zeroP_byt⟩
theorem new_newest : newest zeroP zeroP = (0, []) := by kernel_rfl
theorem new_top : top zeroP zeroP = 0 := by kernel_rfl
theorem write_long {X : DSt} {c : List Int} (h : 186 < c.length) : rWrite X c = (X, 0, 51) := by unfold rWrite; rw [if_pos h]
theorem str_refl (l : List Int) : ((strOfNums l).toList == (strOfNums l).toList) = true := by simp

end Go.Proofs.Ytamfnjliikiifaa
/- The walk of CrcTwice: it answers true for all bytes. -/
namespace Go.Proofs.Ytamfnjliikiifaa
open Go.RowKit Go.Proofs.U
set_option linter.unusedSimpArgs false
set_option linter.unusedVariables false

theorem seal_take (l : List Int) : (sealI l).take ((sealI l).length - 4) = l := by
  rw [sealI_length, sealI, Nat.add_sub_cancel, List.take_append, Nat.sub_self, List.take_zero, List.append_nil, List.take_length]
theorem ok_seal (l : List Int) : okI (sealI l) = true := by
  unfold okI; rw [seal_take, sealI_length]; simp
theorem opn_seal (l : List Int) : opnI (sealI l) = l := by
  unfold opnI; rw [ok_seal, if_pos rfl, seal_take]
theorem opn_len (l : List Int) : (opnI l).length ≤ l.length := by
  unfold opnI; split <;> simp

end Go.Proofs.Ytamfnjliikiifaa
/- How bytes become a string; what is turned twice. -/
namespace Go.Proofs.Ytamfnjliikiifaa
open Go.RowKit Go.Proofs.U

theorem xI_twice {a m : Int} (ha : 0 ≤ a) : xI (xI a m) m = a := by
  unfold xI
  rw [Int.toNat_natCast, Nat.xor_assoc, Nat.xor_self, Nat.xor_zero]; omega
theorem turn_twice (l : List Int) (at' m : Int) (hl : ∀ n ∈ l, (Lit.int .u8 n).wf = true) : turnI (turnI l at' m) at' m = l := by
  by_cases h : 0 ≤ at' ∧ at' < (l.length : Int)
  · have hj : at'.toNat < l.length := by omega
    have e1 : turnI l at' m = l.set at'.toNat (xI (l.getD at'.toNat 0) m) := by unfold turnI; rw [if_pos h]
    have hd : l.getD at'.toNat 0 = l[at'.toNat] := by simp [List.getD, hj]
    rw [e1, turnI, if_pos (by simpa using h), List.set_set]
    have e2 : (l.set at'.toNat (xI (l.getD at'.toNat 0) m)).getD at'.toNat 0 = xI (l.getD at'.toNat 0) m := by simp [List.getD, hj]
    rw [e2, hd, xI_twice (u8_bd (hl _ (by simp))).1]
    simp
  · have e1 : turnI l at' m = l := by unfold turnI; rw [if_neg h]
    rw [e1, e1]
end Go.Proofs.Ytamfnjliikiifaa
/- The walk of CrcJoin: it answers true for any three byte lists. -/
namespace Go.Proofs.Ytamfnjliikiifaa
open Go.RowKit Go.Proofs.U
set_option linter.unusedSimpArgs false
set_option linter.unusedVariables false

def mix (a b c : List Int) : List Int := List.zipWith xI (List.zipWith xI a b) c
theorem mix_length (a b c : List Int) : (mix a b c).length = min (min a.length b.length) c.length := by simp [mix]
theorem mixL_get (a b c : List Int) (k : Nat) (h : k < (mix a b c).length) (h1 : k < a.length) (h2 : k < b.length) (h3 : k < c.length) : (mix a b c)[k] = xI (xI a[k] b[k]) c[k] := by
  simp [mix]

/-- the parts so far, zeros behind them. -/
def part (M : List Int) (k : Nat) : List Int := M.take k ++ List.replicate (M.length - k) 0
theorem part_length (M : List Int) (k : Nat) (h : k ≤ M.length) : (part M k).length = M.length := by simp [part]; omega
theorem part_set (M : List Int) (k : Nat) (h : k < M.length) : (part M k).set k M[k] = part M (k + 1) := by
  unfold part
  rw [List.set_append_right _ _ (by simp; omega)]
  have e1 : k - (M.take k).length = 0 := by simp; omega
  have e2 : M.length - k = (M.length - (k + 1)) + 1 := by omega
  rw [e1, e2, List.replicate_succ, List.set_cons_zero, List.take_succ_eq_append_getElem h, List.append_assoc]
  rfl
theorem part_end (M : List Int) : part M M.length = M := by simp [part]
theorem part_zero (M : List Int) : part M 0 = List.replicate M.length 0 := by simp [part]

theorem ofI_xor (a b : Int) (ha : 0 ≤ a ∧ a < 256) (hb : 0 ≤ b ∧ b < 256) : BitVec.ofInt 8 (xI a b) = BitVec.ofInt 8 a ^^^ BitVec.ofInt 8 b := by
  obtain ⟨A, rfl⟩ := Int.eq_ofNat_of_zero_le ha.1
  obtain ⟨B, rfl⟩ := Int.eq_ofNat_of_zero_le hb.1
  unfold xI
  simp only [Int.toNat_natCast, BitVec.ofInt_natCast]
  apply BitVec.eq_of_toNat_eq
  have hx : A ^^^ B < 2 ^ 8 := Nat.xor_lt_two_pow (by omega) (by omega)
  rw [BitVec.toNat_xor, BitVec.toNat_ofNat, BitVec.toNat_ofNat, BitVec.toNat_ofNat, Nat.mod_eq_of_lt hx, Nat.mod_eq_of_lt (by omega), Nat.mod_eq_of_lt (by omega)]
theorem zip_bits (a b : List Int) (ha : ∀ n ∈ a, (Lit.int .u8 n).wf = true) (hb : ∀ n ∈ b, (Lit.int .u8 n).wf = true) :
    (List.zipWith xI a b).map (BitVec.ofInt 8) = List.zipWith (· ^^^ ·) (a.map (BitVec.ofInt 8)) (b.map (BitVec.ofInt 8)) := by
  induction a generalizing b with
  | nil => simp
  | cons x a ih =>
    cases b with
    | nil => simp
    | cons y b =>
      simp only [List.zipWith_cons_cons, List.map_cons]
      rw [ofI_xor x y (u8_bd (ha x (by simp))) (u8_bd (hb y (by simp))), ih b (fun n hn => ha n (by simp [hn])) (fun n hn => hb n (by simp [hn]))]
theorem zip_wf (a b : List Int) (ha : ∀ n ∈ a, (Lit.int .u8 n).wf = true) (hb : ∀ n ∈ b, (Lit.int .u8 n).wf = true) : ∀ n ∈ List.zipWith xI a b, (Lit.int .u8 n).wf = true := by
  induction a generalizing b with
  | nil => simp
  | cons x a ih =>
    cases b with
    | nil => simp
    | cons y b =>
      intro n hn
      simp only [List.zipWith_cons_cons, List.mem_cons] at hn
      rcases hn with rfl | hn
      · have := xI_bd (u8_bd (ha x (by simp))) (u8_bd (hb y (by simp))); exact wf_byte this.1 this.2
      · exact ih b (fun n hn => ha n (by simp [hn])) (fun n hn => hb n (by simp [hn])) n hn
/-- sums of three texts of one length, mixed. -/
theorem crc_mix (a b c : List Int) (h1 : a.length = b.length) (h2 : a.length = c.length) (ha : ∀ n ∈ a, (Lit.int .u8 n).wf = true) (hb : ∀ n ∈ b, (Lit.int .u8 n).wf = true) (hc : ∀ n ∈ c, (Lit.int .u8 n).wf = true) :
    crcI (mix a b c) = bits .xor .u32 (bits .xor .u32 (crcI a) (crcI b)) (crcI c) := by
  unfold crcI
  rw [bx32 _ _ _ _ rfl rfl, bx32 _ _ _ _ rfl rfl]
  congr 2
  unfold mix
  rw [zip_bits _ _ (zip_wf a b ha hb) hc, zip_bits _ _ ha hb]
  have e : ones32 = (ones32 ^^^ ones32) ^^^ ones32 := by decide
  conv => lhs; rw [e]
  rw [crcF_xor _ _ _ _ (by simp [← h1, h2]), crcF_xor _ _ _ _ (by simp [h1])]
theorem mix_take (a b c : List Int) (n : Nat) (hn : n = min (min a.length b.length) c.length) : mix (a.take n) (b.take n) (c.take n) = mix a b c := by
  unfold mix
  rw [← List.take_zipWith, ← List.take_zipWith, List.take_of_length_le]
  simp; omega
theorem cell_of {k : IntKind} {w : World} {b off n cap : Nat} {l : List Int} (h : SlI k w (.slice (some ⟨b, off, none⟩) n cap) l) (j : Nat) (hj : j < l.length) : w.cell? ⟨b, off + j, none⟩ = some (.int k l[j]) := by
  obtain ⟨⟨a0, cap0, hv, _, _, _, hsome⟩, _⟩ := h
  cases hv
  have := hsome _ rfl j (.int k l[j]) (by simp [hj])
  rwa [Addr.plain] at this
theorem some_of {k : IntKind} {w : World} {a : Option Addr} {n cap : Nat} {l : List Int} (h : SlI k w (.slice a n cap) l) (hl : 0 < l.length) : ∃ b off, a = some ⟨b, off, none⟩ := by
  obtain ⟨⟨a0, cap0, hv, hcap, hlen, hnone, hsome⟩, _⟩ := h
  cases hv
  cases a with
  | none => have := hnone rfl; omega
  | some ad =>
    have hc0 := hsome ad rfl 0 _ (List.getElem?_eq_getElem (by simpa using hl))
    obtain ⟨b, off, sp⟩ := ad
    have hsp : sp = none := by simpa [Addr.add] using World.cell?_spot hc0
    subst hsp; exact ⟨b, off, rfl⟩
end Go.Proofs.Ytamfnjliikiifaa
/- What a seal is by its sum, and what is found by it; no condition but what each states. -/
namespace Go.Proofs.U

def cat4 (a b c d : BitVec 8) : BitVec 32 := byt a ^^^ (b.setWidth 32 <<< 16) ^^^ (c.setWidth 32 <<< 8) ^^^ d.setWidth 32
theorem st8 : ∀ b : BitVec 8, stpN 8 (b.setWidth 32 <<< 16) = byt b := by decide +kernel
theorem st16 : ∀ b : BitVec 8, stpN 8 (b.setWidth 32 <<< 8) = b.setWidth 32 <<< 16 := by decide +kernel
theorem st24 : ∀ b : BitVec 8, stpN 8 (b.setWidth 32) = b.setWidth 32 <<< 8 := by decide +kernel
theorem stpN32 (x : BitVec 32) : stpN 32 x = stpN 8 (stpN 8 (stpN 8 (stpN 8 x))) := by
  show stpN (8 + (8 + (8 + 8))) x = _
  rw [stpN_add, stpN_add, stpN_add]
theorem crc4 (s : BitVec 32) (a b c d : BitVec 8) : crcF s [a, b, c, d] = stpN 32 (s ^^^ cat4 a b c d) := by
  have e : s ^^^ cat4 a b c d = ((s ^^^ byt a) ^^^ (b.setWidth 32 <<< 16)) ^^^ (c.setWidth 32 <<< 8) ^^^ d.setWidth 32 := by
    unfold cat4; simp only [BitVec.xor_assoc]
  rw [e, stpN32]
  simp only [stpN_xor, st24, st16, st8]
  simp only [crcF, List.foldl_cons, List.foldl_nil, wb, stpN_xor]
theorem byte_hi (s : BitVec 32) (i : Nat) (h : i < 32) : (cat4 ((s >>> 24).setWidth 8) ((s >>> 16).setWidth 8) ((s >>> 8).setWidth 8) (s.setWidth 8)).getLsbD i = s.getLsbD i := by
  unfold cat4 byt
  simp only [BitVec.getLsbD_xor, BitVec.getLsbD_shiftLeft, BitVec.getLsbD_setWidth, BitVec.getLsbD_ushiftRight]
  by_cases h1 : i < 8
  · have q1 : i < 16 := by omega
    have q2 : i < 24 := by omega
    simp [h1, h, q1, q2]
  by_cases h2 : i < 16
  · have : 8 + (i - 8) = i := by omega
    have q2 : i < 24 := by omega
    have q3 : i - 8 < 8 := by omega
    have q4 : i - 8 < 32 := by omega
    simp [h1, h2, h, this, q2, q3, q4]
  by_cases h3 : i < 24
  · have : 16 + (i - 16) = i := by omega
    have q3 : i - 16 < 8 := by omega
    have q4 : i - 16 < 32 := by omega
    have q5 : ¬ i - 8 < 8 := by omega
    simp [h1, h2, h3, h, this, q3, q4, q5]
  · have : 24 + (i - 24) = i := by omega
    have q3 : i - 24 < 8 := by omega
    have q4 : i - 24 < 32 := by omega
    have q5 : ¬ i - 8 < 8 := by omega
    have q6 : ¬ i - 16 < 8 := by omega
    simp [h1, h2, h3, h, this, q3, q4, q5, q6]
theorem cat_be (s : BitVec 32) : cat4 ((s >>> 24).setWidth 8) ((s >>> 16).setWidth 8) ((s >>> 8).setWidth 8) (s.setWidth 8) = s :=
  BitVec.eq_of_getLsbD_eq fun i h => byte_hi s i h
theorem cat_bit (a b c d : BitVec 8) (i : Nat) : (cat4 a b c d).getLsbD i = (if i < 8 then d.getLsbD i else if i < 16 then c.getLsbD (i - 8) else if i < 24 then b.getLsbD (i - 16) else if i < 32 then a.getLsbD (i - 24) else false) := by
  unfold cat4 byt
  simp only [BitVec.getLsbD_xor, BitVec.getLsbD_shiftLeft, BitVec.getLsbD_setWidth]
  have hd : 8 ≤ i → d.getLsbD i = false := fun h => BitVec.getLsbD_of_ge _ _ h
  have hc : 16 ≤ i → c.getLsbD (i - 8) = false := fun h => BitVec.getLsbD_of_ge _ _ (by omega)
  have hb : 24 ≤ i → b.getLsbD (i - 16) = false := fun h => BitVec.getLsbD_of_ge _ _ (by omega)
  by_cases h1 : i < 8
  · have q1 : i < 16 := by omega
    have q2 : i < 24 := by omega
    have q3 : i < 32 := by omega
    simp [h1, q1, q2, q3]
  rw [hd (by omega)]
  by_cases h2 : i < 16
  · have q2 : i < 24 := by omega
    have q3 : i < 32 := by omega
    have q4 : i - 8 < 32 := by omega
    simp [h1, h2, q2, q3, q4]
  rw [hc (by omega)]
  by_cases h3 : i < 24
  · have q3 : i < 32 := by omega
    have q4 : i - 16 < 32 := by omega
    simp [h1, h2, h3, q3, q4]
  rw [hb (by omega)]
  by_cases h4 : i < 32
  · have q4 : i - 24 < 32 := by omega
    simp [h1, h2, h3, h4, q4]
  · simp [h1, h2, h3, h4]
theorem be_cat (a b c d : BitVec 8) : be4 (cat4 a b c d) = [a, b, c, d] := by
  have ea : ((cat4 a b c d) >>> 24).setWidth 8 = a := BitVec.eq_of_getLsbD_eq fun i h => by
    rw [BitVec.getLsbD_setWidth, BitVec.getLsbD_ushiftRight, cat_bit, if_neg (by omega), if_neg (by omega), if_neg (by omega), if_pos (by omega), show 24 + i - 24 = i by omega]; simp [h]
  have eb : ((cat4 a b c d) >>> 16).setWidth 8 = b := BitVec.eq_of_getLsbD_eq fun i h => by
    rw [BitVec.getLsbD_setWidth, BitVec.getLsbD_ushiftRight, cat_bit, if_neg (by omega), if_neg (by omega), if_pos (by omega), show 16 + i - 16 = i by omega]; simp [h]
  have ec : ((cat4 a b c d) >>> 8).setWidth 8 = c := BitVec.eq_of_getLsbD_eq fun i h => by
    rw [BitVec.getLsbD_setWidth, BitVec.getLsbD_ushiftRight, cat_bit, if_neg (by omega), if_pos (by omega), show 8 + i - 8 = i by omega]; simp [h]
  have ed : (cat4 a b c d).setWidth 8 = d := BitVec.eq_of_getLsbD_eq fun i h => by
    rw [BitVec.getLsbD_setWidth, cat_bit, if_pos h]; simp [h]
  unfold be4; rw [ea, eb, ec, ed]

/-- four bytes are a sum's just if the sum of all is nought. -/
theorem seal_iff (s : BitVec 32) (a b c d : BitVec 8) : crcF s [a, b, c, d] = 0#32 ↔ be4 s = [a, b, c, d] := by
  rw [crc4]
  constructor
  · intro h
    have h1 := stpN_inj0 32 _ h
    have h2 : s = cat4 a b c d := by
      have := congrArg (· ^^^ cat4 a b c d) h1
      simpa [BitVec.xor_assoc] using this
    rw [h2, be_cat]
  · intro h
    have h2 : s = cat4 a b c d := by
      have h3 := cat_be s
      unfold be4 at h
      simp only [List.cons.injEq, and_true] at h
      rw [h.1, h.2.1, h.2.2.1, h.2.2.2] at h3
      exact h3.symm
    rw [h2, BitVec.xor_self, stpN_zero]

theorem crcF_drift (s d : BitVec 32) (q : List (BitVec 8)) : crcF (s ^^^ d) q = crcF s q ^^^ stpN (8 * q.length) d := by
  induction q generalizing s d with
  | nil => rfl
  | cons x q ih =>
    have e : wb (s ^^^ d) x = wb s x ^^^ stpN 8 d := by
      have := wb_xor s d x 0#8
      rw [BitVec.xor_zero, wb_zero] at this; exact this
    show crcF (wb (s ^^^ d) x) q = crcF (wb s x) q ^^^ _
    rw [e, ih, ← stpN_add]
    congr 2
    simp; omega
theorem two_xor (s : BitVec 32) (c0 c1 m0 m1 : BitVec 8) : crcF s [c0 ^^^ m0, c1 ^^^ m1] = crcF s [c0, c1] ^^^ wb (wb 0#32 m0) m1 := by
  show wb (wb s (c0 ^^^ m0)) (c1 ^^^ m1) = wb (wb s c0) c1 ^^^ _
  have e : wb s (c0 ^^^ m0) = wb s c0 ^^^ wb 0#32 m0 := by
    have := wb_xor s 0#32 c0 m0
    rwa [BitVec.xor_zero] at this
  rw [e, wb_xor]
theorem byt_zero (m : BitVec 8) (h : byt m = 0#32) : m = 0#8 := by
  have := be_cat m 0#8 0#8 0#8
  unfold cat4 at this
  rw [h] at this
  have h2 := List.cons.inj this
  rw [← h2.1]; decide
theorem two_zero (m0 m1 : BitVec 8) : wb (wb 0#32 m0) m1 = 0#32 ↔ m0 = 0#8 ∧ m1 = 0#8 := by
  constructor
  · intro h
    unfold wb at h
    have h1 := stpN_inj0 8 _ h
    rw [BitVec.zero_xor, ← st8 m1, ← stpN_xor] at h1
    have h2 := stpN_inj0 8 _ h1
    have h3 : cat4 m0 m1 0#8 0#8 = 0#32 := by unfold cat4; rw [h2]; decide
    have h4 := be_cat m0 m1 0#8 0#8
    rw [h3] at h4
    have h5 : be4 0#32 = [0#8, 0#8, 0#8, 0#8] := by decide
    rw [h5] at h4
    simp only [List.cons.injEq, and_true] at h4
    exact ⟨h4.1.symm, h4.2.symm⟩
  · rintro ⟨rfl, rfl⟩; decide
/-- of two neighbours that are mixed the sum tells just if they are other ones. -/
theorem found_iff (p q : List (BitVec 8)) (c0 c1 m0 m1 : BitVec 8) (h : crcF ones32 (p ++ [c0, c1] ++ q) = 0#32) :
    crcF ones32 (p ++ [c0 ^^^ m0, c1 ^^^ m1] ++ q) = 0#32 ↔ m0 = 0#8 ∧ m1 = 0#8 := by
  rw [crcF_append, crcF_append] at h ⊢
  rw [two_xor, crcF_drift, h, BitVec.zero_xor]
  constructor
  · intro h2; exact (two_zero m0 m1).1 (stpN_inj0 _ _ h2)
  · intro h2; rw [(two_zero m0 m1).2 h2, stpN_zero]
end Go.Proofs.U
/- What Open finds, in the bytes' own terms. -/
namespace Go.Proofs.Ytamfnjliikiifaa
open Go.RowKit Go.Proofs.U
set_option linter.unusedSimpArgs false
set_option linter.unusedVariables false

def BL (l : List Int) : List (BitVec 8) := l.map (BitVec.ofInt 8)
theorem BL_append (a b : List Int) : BL (a ++ b) = BL a ++ BL b := by simp [BL]
theorem be4_BL (s : BitVec 32) : BL (be4I (s.toNat : Int)) = be4 s := by
  have h := s.isLt
  have e (x : Int) (k : Nat) (hx : x % 256 = ((s.toNat / 2 ^ k : Nat) : Int) % 256) : BitVec.ofInt 8 x = (s >>> k).setWidth 8 := by
    apply BitVec.eq_of_toNat_eq
    rw [BitVec.toNat_ofInt, BitVec.toNat_setWidth, BitVec.toNat_ushiftRight, Nat.shiftRight_eq_div_pow]
    generalize s.toNat / 2 ^ k = y at *
    omega
  have e0 : BitVec.ofInt 8 ((s.toNat : Int) % 256) = s.setWidth 8 := by
    apply BitVec.eq_of_toNat_eq
    rw [BitVec.toNat_ofInt, BitVec.toNat_setWidth]
    omega
  simp only [BL, be4I, List.map_cons, List.map_nil, be4]
  rw [e _ 24 (by omega), e _ 16 (by omega), e _ 8 (by omega), e0]
theorem BL_inj (a b : List Int) (ha : ∀ n ∈ a, (Lit.int .u8 n).wf = true) (hb : ∀ n ∈ b, (Lit.int .u8 n).wf = true) (h : BL a = BL b) : a = b := by
  have key : ∀ (l : List Int), (∀ n ∈ l, (Lit.int .u8 n).wf = true) → (BL l).map (fun u => (u.toNat : Int)) = l := by
    intro l hl
    unfold BL
    rw [List.map_map]
    conv => rhs; rw [← List.map_id l]
    apply List.map_congr_left
    intro n hn
    have := u8_bd (hl n hn)
    exact ofI8 n this.1 this.2
  rw [← key a ha, ← key b hb, h]
theorem ok_iff (l : List Int) (hw : ∀ n ∈ l, (Lit.int .u8 n).wf = true) (h4 : 4 ≤ l.length) : okI l = decide (crcF ones32 (BL l) = 0#32) := by
  have hsplit := (List.take_append_drop (l.length - 4) l).symm
  have hpw : ∀ n ∈ l.take (l.length - 4), (Lit.int .u8 n).wf = true := fun n hn => hw n (List.mem_of_mem_take hn)
  have htw : ∀ n ∈ l.drop (l.length - 4), (Lit.int .u8 n).wf = true := fun n hn => hw n (List.mem_of_mem_drop hn)
  have htl : (l.drop (l.length - 4)).length = 4 := by simp; omega
  unfold okI
  simp only [h4, decide_true, Bool.true_and]
  generalize l.take (l.length - 4) = p at *
  generalize l.drop (l.length - 4) = t at *
  subst hsplit
  have e1 : sealI p = p ++ t ↔ be4I (crcI p) = t := by unfold sealI; exact ⟨fun h => List.append_cancel_left h, fun h => by rw [h]⟩
  have e2 : be4I (crcI p) = t ↔ be4 (crcF ones32 (BL p)) = BL t := by
    rw [← be4_BL]
    constructor
    · intro h; rw [← h]; rfl
    · intro h; exact BL_inj _ _ (be4I_wf _ (crcI_bd p).1 (crcI_bd p).2) htw h
  have e3 : crcF ones32 (BL (p ++ t)) = 0#32 ↔ be4 (crcF ones32 (BL p)) = BL t := by
    rw [BL_append, crcF_append]
    have : (BL t).length = 4 := by simp [BL, htl]
    match ht : BL t, this with
    | [a, b, c, d], _ => exact seal_iff _ a b c d
  rw [decide_eq_decide, e1, e2, e3]

/-- two neighbours mixed. -/
theorem turn2 (x : List Int) (k : Nat) (m0 m1 : Int) (h : k + 1 < x.length) :
    turnI (turnI x (k : Int) m0) ((k : Int) + 1) m1 = x.take k ++ [xI (x.getD k 0) m0, xI (x.getD (k + 1) 0) m1] ++ x.drop (k + 2) := by
  have e1 : turnI x (k : Int) m0 = x.set k (xI (x.getD k 0) m0) := by unfold turnI; rw [if_pos (by omega), Int.toNat_natCast]
  have e2 : turnI (x.set k (xI (x.getD k 0) m0)) ((k : Int) + 1) m1 = (x.set k (xI (x.getD k 0) m0)).set (k + 1) (xI (x.getD (k + 1) 0) m1) := by
    unfold turnI
    rw [if_pos (by simp; omega), show ((k : Int) + 1).toNat = k + 1 by omega]
    congr 2
    simp [List.getD, List.getElem?_set]
  rw [e1, e2]
  apply List.ext_getElem
  · simp; omega
  · intro i h1 h2
    simp only [List.getElem_set, List.append_assoc, List.getElem_append, List.length_take, List.getElem_take, List.length_cons, List.length_nil, List.getElem_drop, List.cons_append, List.nil_append, List.getElem_cons]
    simp at h1
    have hm : min k x.length = k := by omega
    simp only [hm]
    by_cases c1 : k + 1 = i
    · subst c1
      simp
      intro hh; omega
    · by_cases c2 : k = i
      · subst c2; simp
      · simp only [c1, c2, if_false]
        by_cases c3 : i < k
        · simp [c3]
        · simp only [c3, dite_false]
          have c4 : ¬ i - k = 0 := by omega
          have c5 : ¬ i - k - 1 = 0 := by omega
          simp only [c4, c5, dite_false]
          congr 1; omega
theorem split2 (x : List Int) (k : Nat) (h : k + 1 < x.length) : x = x.take k ++ [x.getD k 0, x.getD (k + 1) 0] ++ x.drop (k + 2) := by
  have h0 : k < x.length := by omega
  have a0 : x.getD k 0 = x[k] := by simp [List.getD, h0]
  have a1 : x.getD (k + 1) 0 = x[k + 1] := by simp [List.getD, h]
  rw [a0, a1]
  conv => lhs; rw [← List.take_append_drop k x, List.drop_eq_getElem_cons h0, List.drop_eq_getElem_cons h]
  simp

theorem finds (l : List Int) (hw : ∀ n ∈ l, (Lit.int .u8 n).wf = true) (k : Nat) (hk : k < l.length + 3) (m0 m1 : Int) (h0 : 0 ≤ m0 ∧ m0 < 256) (h1 : 0 ≤ m1 ∧ m1 < 256) :
    okI (turnI (turnI (sealI l) (k : Int) m0) ((k : Int) + 1) m1) = decide (m0 = 0 ∧ m1 = 0) := by
  have hX := sealI_length l
  have hXw := sealI_wf l hw
  have hok := ok_seal l
  generalize sealI l = x at *
  have hlt : k + 1 < x.length := by omega
  rw [ok_iff _ (turnI_wf _ _ _ (turnI_wf _ _ _ hXw h0) h1) (by rw [turnI_length, turnI_length]; omega), turn2 x k m0 m1 hlt, decide_eq_decide]
  rw [ok_iff _ hXw (by omega)] at hok
  have hz : crcF ones32 (BL x) = 0#32 := by simpa using hok
  have hs := split2 x k hlt
  rw [hs, BL_append, BL_append] at hz
  have g0 : x.getD k 0 = x[k] := by simp [List.getD, show k < x.length by omega]
  have g1 : x.getD (k + 1) 0 = x[k + 1] := by simp [List.getD, hlt]
  have c0 := u8_bd (hXw x[k] (by simp))
  have c1 := u8_bd (hXw x[k + 1] (by simp))
  rw [g0, g1] at hz ⊢
  rw [BL_append, BL_append]
  simp only [BL, List.map_cons, List.map_nil] at hz ⊢
  rw [ofI_xor _ _ c0 h0, ofI_xor _ _ c1 h1]
  rw [found_iff _ _ _ _ _ _ hz]
  have key (m : Int) (hm : 0 ≤ m ∧ m < 256) : BitVec.ofInt 8 m = 0#8 ↔ m = 0 := by
    constructor
    · intro h
      have := ofI8 m hm.1 hm.2
      rw [h] at this
      simpa using this.symm
    · rintro rfl; rfl
  rw [key m0 h0, key m1 h1]
end Go.Proofs.Ytamfnjliikiifaa
/- A root of which one byte is turned is none, plain. -/
namespace Go.Proofs.Ytamfnjliikiifaa
open Go.RowKit Go.Proofs.U
set_option linter.unusedSimpArgs false
set_option linter.unusedVariables false
theorem BL_zeros (n : Nat) : BL (List.replicate n 0) = List.replicate n 0#8 := by unfold BL; rw [List.map_replicate]; rfl
theorem crc_st {c : List Int} (hc : c.length ≤ 186) (hb : Byt c) : crcF ones32 (BL (st192 c)) = 0#32 := by
  rw [st192_eq c hc, BL_append, crcF_append, BL_zeros]
  have h1 : crcF ones32 (BL (strm c)) = 0#32 := by
    have h2 := ok_iff (strm c) (strm_byt hb) (by rw [strm_len]; omega)
    have h3 : okI (strm c) = true := ok_seal _
    rw [h3] at h2
    simpa using h2.symm
  rw [h1, crcF_zeros, stpN_zero]
theorem ofI_inj {x y : Int} (hx : 0 ≤ x ∧ x < 256) (hy : 0 ≤ y ∧ y < 256) (h : BitVec.ofInt 8 x = BitVec.ofInt 8 y) : x = y := by
  have := congrArg (fun b : BitVec 8 => (b.toNat : Int)) h
  simp only [ofI8 x hx.1 hx.2, ofI8 y hy.1 hy.2] at this
  exact this
/-- One byte turned: the sum tells. -/
theorem crc_one (X : List Int) (j : Nat) (hj : j < X.length) (y : Int) (hX : Byt X) (hy : 0 ≤ y ∧ y < 256) (h1 : crcF ones32 (BL X) = 0#32) (h2 : crcF ones32 (BL (X.set j y)) = 0#32) : X.getD j 0 = y := by
  have hx : X.getD j 0 = X[j] := by simp [List.getD, hj]
  have e1 : X = X.take j ++ (X[j] :: X.drop (j + 1)) := by
    rw [← List.drop_eq_getElem_cons hj, List.take_append_drop]
  have e2 : X.set j y = X.take j ++ (y :: X.drop (j + 1)) := by
    conv => lhs; rw [e1]
    rw [List.set_append_right _ _ (by rw [List.length_take]; omega), show j - (X.take j).length = 0 by simp; omega, List.set_cons_zero]
  have b1 : BL X = BL (X.take j) ++ (BitVec.ofInt 8 X[j] :: BL (X.drop (j + 1))) := by
    conv => lhs; rw [e1]
    rw [BL_append]; rfl
  rw [e2, BL_append] at h2
  rw [b1] at h1
  rw [crcF_append] at h1 h2
  generalize crcF ones32 (BL (X.take j)) = s at h1 h2
  have h1 : crcF (wb s (BitVec.ofInt 8 X[j])) (BL (X.drop (j + 1))) = 0#32 := h1
  have h2 : crcF (wb s (BitVec.ofInt 8 y)) (BL (X.drop (j + 1))) = 0#32 := h2
  have e3 : wb s (BitVec.ofInt 8 y) = wb s (BitVec.ofInt 8 X[j]) ^^^ wb 0#32 (BitVec.ofInt 8 X[j] ^^^ BitVec.ofInt 8 y) := by
    rw [← wb_xor, BitVec.xor_zero, ← BitVec.xor_assoc, BitVec.xor_self, BitVec.zero_xor]
  rw [e3, crcF_drift, h1, BitVec.zero_xor] at h2
  have h3 := stpN_inj0 _ _ h2
  unfold wb at h3
  have h4 := stpN_inj0 _ _ h3
  rw [BitVec.zero_xor] at h4
  have h5 := byt_zero _ h4
  have h6 : BitVec.ofInt 8 X[j] = BitVec.ofInt 8 y := by
    have := congrArg (· ^^^ BitVec.ofInt 8 y) h5
    simpa [BitVec.xor_assoc] using this
  rw [hx]
  exact ofI_inj (u8_bd (hX _ (by simp))) hy h6
/-- A page of which one byte is mixed with another one. -/
def turn1 (p : List Int) (i : Nat) (m : Int) : List Int := p.set i (xI (p.getD i 0) m)
theorem turn1_len (p : List Int) (i : Nat) (m : Int) : (turn1 p i m).length = p.length := by simp [turn1]
theorem turn1_at (p : List Int) (i : Nat) (m : Int) (j : Nat) (hi : i < p.length) : (turn1 p i m).getD j 0 = if j = i then xI (p.getD i 0) m else p.getD j 0 := by
  unfold turn1
  simp only [List.getD]
  rw [List.getElem?_set]
  by_cases h : i = j
  · subst h; simp [hi]
  · rw [if_neg h, if_neg (fun e => h e.symm)]
theorem turn1_byt {p : List Int} (h : Byt p) (i : Nat) {m : Int} (hm : 0 ≤ m ∧ m < 256) : Byt (turn1 p i m) := by
  unfold turn1
  intro n hn
  rcases List.mem_or_eq_of_mem_set hn with hn | rfl
  · exact h n hn
  · have := xI_bd (h.at i) hm
    exact wf_byte this.1 this.2
theorem xI_ne {a m : Int} (ha : 0 ≤ a ∧ a < 256) (hm : 0 < m ∧ m < 256) : xI a m ≠ a := by
  intro h
  have h1 := xI_twice (a := a) (m := m) ha.1
  rw [h] at h1
  unfold xI at h
  have h2 : (a.toNat ^^^ m.toNat) = a.toNat := by omega
  have h3 : m.toNat = 0 := by
    have := congrArg (a.toNat ^^^ ·) h2
    simpa [← Nat.xor_assoc] using this
  omega
theorem spoilt (g : Int) (c : List Int) (hc : c.length ≤ 186) (hb : Byt c) (i : Nat) (hi : i < 256) {m : Int} (hm : 0 < m ∧ m < 256) : (rootOf (turn1 (rootP g c) i m)).1 = 0 := by
  have bR := rootP_byt g hb
  have lR := rootP_len g c
  have hne := xI_ne (bR.at i) hm
  have bT := turn1_byt bR i (m := m) (by omega)
  have hat := fun j => turn1_at (rootP g c) i m j (by rw [lR]; exact hi)
  apply Decidable.byContradiction
  intro h0
  have hS := rootOf_some h0
  have hBd := rootOf_bd bT
  have hcl : (rootOf (turn1 (rootP g c) i m)).2.length ≤ 186 := by
    unfold rootOf
    split
    · simp
    · rename_i h1
      split
      · rw [contOf_len bT (by omega)]; omega
      · simp
  have hcb := rootOf_byt bT
  generalize (rootOf (turn1 (rootP g c) i m)).1 = g' at *
  generalize (rootOf (turn1 (rootP g c) i m)).2 = c' at *
  by_cases h8 : i % 32 < 8
  · -- the same place of another sector
    obtain ⟨j, hj, hji, hj8⟩ : ∃ j, j < 256 ∧ j ≠ i ∧ j % 32 = i % 32 := by
      by_cases h : i < 32
      · exact ⟨i + 32, by omega, by omega, by omega⟩
      · exact ⟨i - 32, by omega, by omega, by omega⟩
    have e1 := hat i
    have e2 := hat j
    rw [if_pos rfl] at e1
    rw [if_neg hji] at e2
    rw [hS, rootP_get _ _ _ hi, if_pos h8] at e1
    rw [hS, rootP_get _ _ _ hj, hj8, if_pos h8, rootP_get _ _ _ hj, hj8, if_pos h8] at e2
    rw [e2] at e1
    have e3 := rootP_get g c i hi
    rw [if_pos h8] at e3
    rw [← e3] at e1
    exact hne e1.symm
  · have hk : i / 32 * 24 + (i % 32 - 8) < 192 := by omega
    have es : strmOf (turn1 (rootP g c) i m) = (strmOf (rootP g c)).set (i / 32 * 24 + (i % 32 - 8)) (xI ((rootP g c).getD i 0) m) := by
      apply ext_getD
      · rw [List.length_set, strmOf_len, strmOf_len]
      · intro j hj
        rw [strmOf_len] at hj
        have e1 : (strmOf (turn1 (rootP g c) i m)).getD j 0 = (turn1 (rootP g c) i m).getD (j / 24 * 32 + 8 + j % 24) 0 := by rw [strmOf, getD_map _ _ _ hj]
        have e2 : (strmOf (rootP g c)).getD j 0 = (rootP g c).getD (j / 24 * 32 + 8 + j % 24) 0 := by rw [strmOf, getD_map _ _ _ hj]
        rw [e1, hat]
        simp only [List.getD, List.getElem?_set]
        by_cases h : i / 32 * 24 + (i % 32 - 8) = j
        · rw [if_pos (by omega), if_pos h, if_pos (by rw [strmOf_len]; exact hk)]
          rfl
        · rw [if_neg (by omega), if_neg h]
          have := e2
          simp only [List.getD] at this
          exact this.symm
    have e4 : strmOf (turn1 (rootP g c) i m) = st192 c' := by rw [hS, strmOf_root]
    rw [strmOf_root] at es
    have z1 := crc_st hc hb
    have z2 := crc_st hcl hcb
    rw [← e4, es] at z2
    have xb := xI_bd (bR.at i) (b := m) (by omega)
    have := crc_one (st192 c) _ (by rw [st192_len]; exact hk) _ (st192_byt hb) xb z1 z2
    have e5 := rootP_get g c i hi
    rw [if_neg h8] at e5
    rw [← e5] at this
    exact hne this.symm
/-- Of a turned root's sectors one at least has the generation still. -/
theorem turn_gen (g : Int) (hg : 0 ≤ g ∧ g < 18446744073709551616) (c : List Int) (i : Nat) (hi : i < 256) (m : Int) : ∃ s, s < 8 ∧ genAt (turn1 (rootP g c) i m) s = g := by
  obtain ⟨s, hs, hsi⟩ : ∃ s, s < 8 ∧ s ≠ i / 32 := by
    by_cases h : i / 32 = 0
    · exact ⟨1, by omega, by omega⟩
    · exact ⟨0, by omega, by omega⟩
  refine ⟨s, hs, ?_⟩
  have hR := rootP_len g c
  have : ((turn1 (rootP g c) i m).drop (s * 32)).take 8 = ((rootP g c).drop (s * 32)).take 8 := by
    apply ext_getD
    · simp only [List.length_take, List.length_drop, turn1_len]
    · intro j hj
      have hj8 : j < 8 := by rw [List.length_take] at hj; omega
      rw [drop_take_get _ _ _ _ hj8, drop_take_get _ _ _ _ hj8, turn1_at _ _ _ _ (by rw [hR]; exact hi), if_neg (by omega)]
  unfold genAt
  rw [this]
  exact genAt_root g hg c s hs

/-- The disk behind both Writes. -/
def X2S (a b : List Int) : DSt := (rWrite (rWrite (newD 2) a).1 b).1
theorem two_first (a : List Int) (ha : a.length ≤ 186) (ba : Byt a) : (rWrite (newD 2) a).2 = (1, 0) ∧ Two (rWrite (newD 2) a).1 zeroP (rootP 1 a) ∧ (rWrite (newD 2) a).1.down = false ∧ (rWrite (newD 2) a).1.left = -1 := by
  have h := two_new
  have hG : nextG (newD 2) = 1 := by have := h.nxG.2.2.2.1 (by rw [new_newest]); rw [new_top] at this; exact this
  have hw := h.goes (by rw [new_top]; decide) rfl (by decide) a ha
  rw [hG] at hw
  have e : ¬ ((newD 2).left = 1) := by decide
  rw [if_neg e] at hw
  have hT := putS_two h 1 (rootP_len 1 a) (rootP_byt 1 ba) (rWrite (newD 2) a).1 (by rw [hw]) (by rw [hw]; rfl) (by rw [hw])
  exact ⟨by rw [hw], hT, by rw [hw]; rfl, by rw [hw]; rfl⟩
theorem top_one (a : List Int) : top zeroP (rootP 1 a) = 1 := by
  have hz : ∀ s, s < 8 → genAt zeroP s ≤ 1 := by decide +kernel
  apply Int.le_antisymm
  · exact top_up (by decide) hz (fun s hs => by rw [genAt_root 1 (by decide) a s hs]; decide)
  · have := top_q zeroP (rootP 1 a) 0 (by decide)
    rwa [genAt_root 1 (by decide) a 0 (by decide)] at this
theorem newest_one (a : List Int) (ha : a.length ≤ 186) : newest zeroP (rootP 1 a) = (1, a) := by
  have h1 : rootOf zeroP = (0, []) := by kernel_rfl
  unfold newest
  rw [h1, rootOf_root 1 (by decide) a ha]
  rfl
theorem two_second (a b : List Int) (ha : a.length ≤ 186) (ba : Byt a) (hb : b.length ≤ 186) (bb : Byt b) : (rWrite (rWrite (newD 2) a).1 b).2 = (2, 0) ∧ Two (X2S a b) (rootP 2 b) (rootP 1 a) ∧ (X2S a b).down = false ∧ (X2S a b).left = -1 := by
  obtain ⟨_, h, hd, hl⟩ := two_first a ha ba
  unfold X2S
  generalize (rWrite (newD 2) a).1 = X at *
  have hG : nextG X = 2 := by
    have := h.nxG.2.2.2.2
    rw [top_one, newest_one a ha] at this
    exact this (by show (1 + 1 : Int) % 2 ≠ 1 % 2; decide)
  have hw := h.goes (by rw [top_one]; decide) hd (by rw [hl]; decide) b hb
  have e : ¬ (X.left = 1) := by rw [hl]; decide
  rw [hG, if_neg e] at hw
  have hT := putS_two h 2 (rootP_len 2 b) (rootP_byt 2 bb) (rWrite X b).1 (by rw [hw]) (by rw [hw]; exact h.pend) (by rw [hw])
  exact ⟨by rw [hw], hT, by rw [hw]; exact hd, by rw [hw]; simp [hl]⟩
end Go.Proofs.Ytamfnjliikiifaa
