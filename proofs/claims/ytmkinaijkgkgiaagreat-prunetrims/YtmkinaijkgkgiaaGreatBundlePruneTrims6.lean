/- Texts V1, Open, OpenD, KM, OT, MY, V2, T1, X0, RM, RS, OpenP, Y1 of the proof of PruneTrims, one behind the other. -/
import Derived.Test.YtmkinaijkgkgiaaGreatRows
import Derived.ProofKit
import Derived.OpenShut
import Derived.Deep.SlicePairs
import Derived.Lib.SliceRun
import Derived.Test.YtmkinaijkgkgiaaGreatBundlePruneTrims1
import Derived.Test.YtmkinaijkgkgiaaGreatBundlePruneTrims2
import Derived.Test.YtmkinaijkgkgiaaGreatBundlePruneTrims3
import Derived.Test.YtmkinaijkgkgiaaGreatBundlePruneTrims4
import Derived.Test.YtmkinaijkgkgiaaGreatBundlePruneTrims5
/- Roots as pages, plain: what a page of a generation and a content is, and what a page tells. -/
namespace Go.Proofs.YtmkinaijkgkgiaaGreat
open Go.RowKit Go.Proofs.U
set_option linter.unusedSimpArgs false
set_option linter.unusedVariables false

/-- ds in the place of as many numbers, from o on. -/
def putI (l : List Int) (o : Nat) (ds : List Int) : List Int := l.take o ++ ds ++ l.drop (o + ds.length)
theorem putAt_putI (l : List Int) (o : Nat) (ds : List Int) : putAt (pgv l) o (pgv ds) = pgv (putI l o ds) := by
  simp [putAt, putI, pgv, List.map_take, List.map_drop]
/-- Bytes alone. -/
def Byt (l : List Int) : Prop := ∀ n ∈ l, (Lit.int .u8 n).wf = true
theorem Byt.at {l : List Int} (h : Byt l) (i : Nat) : 0 ≤ l.getD i 0 ∧ l.getD i 0 < 256 := by
  by_cases hi : i < l.length
  · have := u8_bd (h l[i] (by simp))
    simpa [List.getD, hi] using this
  · simp [List.getD, hi]
theorem Byt.take {l : List Int} (h : Byt l) (n : Nat) : Byt (l.take n) := fun x hx => h x (List.mem_of_mem_take hx)
theorem Byt.drop {l : List Int} (h : Byt l) (n : Nat) : Byt (l.drop n) := fun x hx => h x (List.mem_of_mem_drop hx)
theorem Byt.app {a b : List Int} (h : Byt a) (k : Byt b) : Byt (a ++ b) := wf_app h k
theorem zeroP_byt : Byt zeroP := by
  intro n hn
  rw [show n = 0 from List.eq_of_mem_replicate hn]; decide

/-- The stream of a content, as far as it goes; and with the zeros behind it. -/
def strm (c : List Int) : List Int := sealI (leB 2 c.length ++ c)
def st192 (c : List Int) : List Int := (List.range 192).map fun j => (strm c).getD j 0
/-- The root of a generation and a content. -/
def rootP (g : Int) (c : List Int) : List Int := (List.range 256).map fun i => if i % 32 < 8 then (leB 8 g).getD (i % 32) 0 else (st192 c).getD (i / 32 * 24 + (i % 32 - 8)) 0
/-- What stands where a sector has its generation. -/
def genAt (p : List Int) (s : Nat) : Int := leNum ((p.drop (s * 32)).take 8)
/-- What the sectors have beside their generations. -/
def strmOf (p : List Int) : List Int := (List.range 192).map fun j => p.getD (j / 24 * 32 + 8 + j % 24) 0
/-- How many bytes the content of a page seems to have. -/
def lenOf (p : List Int) : Int := leNum ((strmOf p).take 2)
def contOf (p : List Int) : List Int := ((strmOf p).drop 2).take (lenOf p).toNat
/-- What a page tells: its generation and its content; nought, if it is no root. -/
def rootOf (p : List Int) : Int × List Int := if 186 < lenOf p then (0, []) else if rootP (genAt p 0) (contOf p) == p then (genAt p 0, contOf p) else (0, [])
theorem genAt_bd {p : List Int} (h : Byt p) (s : Nat) : 0 ≤ genAt p s ∧ genAt p s < 18446744073709551616 := by
  have h1 := leNum_bd ((p.drop (s * 32)).take 8) (fun x hx => u8_bd (((h.drop _).take _) x hx))
  have h2 : ((p.drop (s * 32)).take 8).length ≤ 8 := by simp; omega
  refine ⟨h1.1, Int.lt_of_lt_of_le h1.2 ?_⟩
  generalize ((p.drop (s * 32)).take 8).length = n at h2
  clear h1
  have : n = 0 ∨ n = 1 ∨ n = 2 ∨ n = 3 ∨ n = 4 ∨ n = 5 ∨ n = 6 ∨ n = 7 ∨ n = 8 := by omega
  rcases this with rfl | rfl | rfl | rfl | rfl | rfl | rfl | rfl | rfl <;> decide
theorem rootOf_bd {p : List Int} (h : Byt p) : 0 ≤ (rootOf p).1 ∧ (rootOf p).1 < 18446744073709551616 := by
  unfold rootOf; split
  · decide
  · split
    · exact genAt_bd h 0
    · decide

def newest (p q : List Int) : Int × List Int :=
  let a := if (rootOf p).1 % 2 = 0 ∧ 0 < (rootOf p).1 then rootOf p else (0, [])
  if (rootOf q).1 % 2 = 1 ∧ a.1 < (rootOf q).1 then rootOf q else a
/-- The greatest of the first k generations. -/
def topK (p : List Int) (t : Int) (k : Nat) : Int := (List.range k).foldl (fun t s => max t (genAt p s)) t
def top (p q : List Int) : Int := topK q (topK p 0 8) 8
/-- What Read, Next and Write answer. -/
def rdE (X : DSt) : Int := if (readP X 0).2 = 0 then (readP X 1).2 else (readP X 0).2
def nwst (X : DSt) : Int × List Int := newest (readP X 0).1 (readP X 1).1
def rRead (X : DSt) : List Int × Int × Int := if rdE X = 0 then (if (nwst X).1 = 0 then ([], 0, 51) else ((nwst X).2, (nwst X).1, 0)) else ([], 0, rdE X)
def tp (X : DSt) : Int := top (readP X 0).1 (readP X 1).1
end Go.Proofs.YtmkinaijkgkgiaaGreat
/- How a slice of integers that came in is opened. -/
namespace Go.Proofs.U
open Go.RowKit Go.ChangeShapes Go.WideShapes Go.ChangeAt

/-- A slice of integers that came in, opened. -/
theorem slI_of_trod {P : Program} {H : Type} {enc : TypeId × Value → H} {W : World} {base t e : Nat} {k : IntKind} {v : Value} {d : DataW H} {p : List MemPlace}
    (hu : P.underlying t = some (.slice e)) (he : P.underlying e = some (.int k)) (hc : P.cellsOf e = 1) (hval : Value.okWide P W .any base t v)
    (h : DataW.Trod enc P W 0 (fun _ => true) true t v d p) : ∃ l, SlI k W v l := by
  obtain ⟨a, len, cap, rfl⟩ := okWide_slice hu hval
  obtain ⟨fuel, hf⟩ := h
  rcases open_ints hu he hc hf with ⟨hcs, _⟩ | ⟨x, l, c, zs, hcs, _, hl, hm, hz, _, hcell, hwz⟩
  · simp [Value.cells] at hcs
    obtain ⟨rfl, rfl, rfl⟩ := hcs
    exact ⟨[], SlI.nil k W⟩
  · simp [Value.cells] at hcs
    obtain ⟨rfl, rfl, rfl⟩ := hcs
    have hzl : zs.length = cap := by simpa using hz
    have e : (zs.take len).length = len := by simp; omega
    refine ⟨zs.take len, ?_, fun n hn => hwz n (List.mem_of_mem_take hn)⟩
    rw [e]
    refine ⟨_, _, rfl, hl, by simp; omega, (fun h => by cases h), fun y hy j u hj => ?_⟩
    cases hy
    have hj1 : j < len := by
      have := (List.getElem?_eq_some_iff.1 hj).1
      simp at this; omega
    rw [List.map_take, List.getElem?_take, if_pos hj1] at hj
    have hc1 := hcell j (by omega)
    have hjz : j < zs.length := by omega
    simp [hjz] at hj
    rw [← hj]
    simpa [List.getD, hjz] using hc1
end Go.Proofs.U
/- How a slice of acts, and one of bools, that came in are opened. -/
namespace Go.Proofs.YtmkinaijkgkgiaaGreat
open Go.RowKit Go.Proofs.U Go.ChangeShapes Go.WideShapes Go.ChangeAt
set_option linter.unusedSimpArgs false
set_option linter.unusedVariables false

/-- An act as it lies in memory: its kind, its place, its byte, its slice, and what that slice holds. -/
structure ActR where
  kind : Int
  at' : Int
  byte : Int
  kv : Value
  keep : List Int
end Go.Proofs.YtmkinaijkgkgiaaGreat
/- DiskKeeps, the plain part: what may be read behind a crash. -/
namespace Go.Proofs.YtmkinaijkgkgiaaGreat
open Go.RowKit Go.Proofs.U
set_option linter.unusedSimpArgs false
set_option linter.unusedVariables false

abbrev rep (c : Int) : List Int := List.replicate 256 c
structure KX (N : Nat) (X : DSt) (c : List Int) (ps : List (Nat × Int)) : Prop where
  pages : X.pages = c.map rep
  pend : X.pend = ps.map (fun x => ((x.1 : Int), rep x.2))
  len : c.length = N
  inN : ∀ x ∈ ps, x.1 < N
  bad : X.bad = fun _ => false
theorem KX.act {N : Nat} {X : DSt} {c : List Int} {ps : List (Nat × Int)} (h : KX N X c ps) : KX N X.act c ps := ⟨h.pages, h.pend, h.len, h.inN, h.bad⟩
theorem KX.cut {N : Nat} {X : DSt} {c : List Int} {ps : List (Nat × Int)} (h : KX N X c ps) (n : Int) : KX N { X with left := n } c ps := ⟨h.pages, h.pend, h.len, h.inN, h.bad⟩
theorem KX.new (n : Int) (N : Nat) (hN : newN n = N) : KX N (newD n) (List.replicate N 0) [] :=
  ⟨by show List.replicate (newN n) zeroP = _; rw [hN, List.map_replicate]; rfl, rfl, by simp, by simp, rfl⟩
theorem KX.plen {N : Nat} {X : DSt} {c : List Int} {ps : List (Nat × Int)} (h : KX N X c ps) : X.pages.length = N := by rw [h.pages, List.length_map, h.len]
theorem KX.write {N : Nat} {X : DSt} {c : List Int} {ps : List (Nat × Int)} (h : KX N X c ps) (i : Int) (b : Int) :
    (X.writeE i = 0 → ∃ j : Nat, i = j ∧ j < N ∧ KX N (X.write i (rep b)) c (ps ++ [(j, b)])) ∧ (X.writeE i ≠ 0 → KX N (X.write i (rep b)) c ps) := by
  unfold DSt.writeE DSt.write
  rw [h.plen]
  cases hin : inR N i with
  | false =>
    simp only [Bool.false_eq_true, if_false]
    exact ⟨fun h0 => by simp at h0, fun _ => h⟩
  | true =>
    simp only [if_true]
    constructor
    · intro h0
      simp only [inR, Bool.and_eq_true, decide_eq_true_eq] at hin
      refine ⟨i.toNat, by omega, by omega, ?_⟩
      rw [if_pos h0]
      refine ⟨h.pages, ?_, h.len, ?_, h.bad⟩
      · show X.pend ++ _ = _
        rw [h.pend, List.map_append]
        simp
        omega
      · intro x hx
        rcases List.mem_append.1 hx with hx | hx
        · exact h.inN x hx
        · simp at hx; subst hx; simp; omega
    · intro h0
      rw [if_neg h0]
      exact h.act
end Go.Proofs.YtmkinaijkgkgiaaGreat
/- Rows of one's own, of one cell an element, that begin somewhere in their block: cut from the left, and appended to. -/
namespace Go.Proofs.U
open Go.RowKit
set_option linter.unusedSimpArgs false
set_option linter.unusedVariables false
/-- v is a row in block b, from some cell on to the block's end. -/
def OwnT (e : TypeId) (w : World) (b : Nat) (v : Value) (xs : List Value) : Prop :=
  ∃ o cap cur, v = .slice (some ⟨b, o, none⟩) xs.length cap ∧ w.heap[b]? = some (.cells cur e (0, 0)) ∧ xs.length ≤ cap ∧ cap ≤ maxLen ∧ cur.size = o + cap ∧ (cur.toList.drop o).take xs.length = xs
section
variable {e : TypeId} {w w' : World} {b : Nat} {v : Value} {xs : List Value} {S : Nat → Prop} {P : Program}
theorem OwnT.lt (h : OwnT e w b v xs) : b < w.heap.size := by
  obtain ⟨o, cap, cur, _, h, _⟩ := h
  exact (Array.getElem?_eq_some_iff.mp h).1
theorem OwnT.fr (h : OwnT e w b v xs) (f : Fr S w w') (hs : ¬ S b) : OwnT e w' b v xs := by
  have hl := h.lt
  obtain ⟨o, cap, cur, h1, h2, h3⟩ := h
  exact ⟨o, cap, cur, h1, (f.block b hl hs).trans h2, h3⟩
theorem OwnT.opn (h : OwnT e w b v xs) : ∃ o cap, v = .slice (some ⟨b, o, none⟩) xs.length cap := by
  obtain ⟨o, cap, cur, h1, _⟩ := h
  exact ⟨o, cap, h1⟩
theorem OwnT.blk (h : OwnT e w b v xs) : ∃ cur, w.heap[b]? = some (.cells cur e (0, 0)) := by
  obtain ⟨o, cap, cur, _, h2, _⟩ := h
  exact ⟨cur, h2⟩
theorem OwnT.cellsAt {o cap n : Nat} (h : OwnT e w b (.slice (some ⟨b, o, none⟩) n cap) xs) : ∀ j u, xs[j]? = some u → w.cell? ((⟨b, o, none⟩ : Addr).add j) = some u := by
  obtain ⟨o', cap', cur, h1, h2, h3, h4, h5, h6⟩ := h
  obtain ⟨rfl, _, _⟩ : o = o' ∧ n = xs.length ∧ cap = cap' := by simpa using h1
  intro j u hj
  have hadd : (⟨b, o, none⟩ : Addr).add j = ⟨b, o + j, none⟩ := by unfold Addr.add; split <;> simp_all
  rw [hadd, cell_of_row w b (o + j) cur e (0, 0) h2]
  rw [← h6, List.getElem?_take] at hj
  split at hj
  · rw [List.getElem?_drop] at hj; simpa using hj
  · cases hj
theorem OwnT.sl (h : OwnT e w b v xs) : Sl w 1 v xs.length xs := by
  obtain ⟨o, cap, rfl⟩ := h.opn
  have hc := h.cellsAt
  obtain ⟨o', cap', cur, h1, h2, h3, _⟩ := h
  obtain ⟨_, rfl⟩ : o = o' ∧ cap = cap' := by simpa using h1
  exact ⟨some ⟨b, o, none⟩, cap, rfl, h3, by simp, (fun h => by cases h), fun x hx => by cases hx; exact hc⟩
theorem OwnT.cutL {o cap n : Nat} (h : OwnT e w b (.slice (some ⟨b, o, none⟩) n cap) xs) (i : Nat) (hi : i < xs.length) : OwnT e w b (.slice (some ⟨b, o + i, none⟩) (n - i) (cap - i)) (xs.drop i) := by
  obtain ⟨o', cap', cur, h1, h2, h3, h4, h5, h6⟩ := h
  obtain ⟨rfl, rfl, rfl⟩ : o = o' ∧ n = xs.length ∧ cap = cap' := by simpa using h1
  refine ⟨o + i, cap - i, cur, by simp, h2, by simp; omega, by omega, by omega, ?_⟩
  have e1 : (cur.toList.drop o).take xs.length = xs := h6
  have e2 : xs.drop i = ((cur.toList.drop o).take xs.length).drop i := by rw [e1]
  rw [List.drop_take, List.drop_drop] at e2
  rw [e2]
  simp only [List.length_take, List.length_drop, Array.length_toList]
  congr 1
  omega
end
end Go.Proofs.U
/- DiskKeeps: the row of rows that it keeps; what lies in memory while its regions run. -/
namespace Go.Proofs.U
open Go.RowKit
set_option linter.unusedSimpArgs false
set_option linter.unusedVariables false
abbrev enV (v : Value) : List Value := [v]
section
variable {P : Program} {w : World} {ops : Array Oper} {rest : List Oper} {o : Oper} {a : Act} {Q : Exit → Act → World → Prop} {e : TypeId} {K : Act → World → Prop} {b : Nat} {xs : List Value}
end
end Go.Proofs.U
namespace Go.Proofs.YtmkinaijkgkgiaaGreat
open Go.RowKit Go.Proofs.U
set_option linter.unusedSimpArgs false
set_option linter.unusedVariables false
section
variable {w : World} {ops : Array Oper} {rest : List Oper} {o : Oper} {a : Act} {Q : Exit → Act → World → Prop}
theorem at_index (t : TypeId) (x y : Operand) (_ho : o.op = .index t x y) (h : wpList Tryz.prog ops Q (o :: rest) a w) : wpList Tryz.prog ops Q (o :: rest) a w := h
end
/-- Rows of bytes in blocks of their own, held by a row. -/
structure May (w : World) (lo g N : Nat) (vs : Nat → Value) (bs : Nat → Nat) (ls : Nat → List Int) (K : Nat) : Prop where
  out : BxV w g 120 ((List.range N).map vs)
  each : ∀ i, i < K → OwnT 5 w (bs i) (vs i) ((ls i).map (Value.int .u8))
  inj : ∀ i j, i < K → j < K → bs i = bs j → i = j
  low : ∀ i, i < K → lo ≤ bs i
section
variable {w w' : World} {lo g N K : Nat} {vs : Nat → Value} {bs : Nat → Nat} {ls ls' : Nat → List Int} {S : Nat → Prop}
theorem May.ne (h : May w lo g N vs bs ls K) : ∀ i, i < K → bs i ≠ g := by
  intro i hi e
  obtain ⟨cur, hc⟩ := (h.each i hi).blk
  have := h.out
  unfold BxV at this
  rw [e, this] at hc
  simp at hc
theorem May.fr (h : May w lo g N vs bs ls K) (f : Fr S w w') (hg : ¬ S g) (hb : ∀ i, i < K → ¬ S (bs i)) : May w' lo g N vs bs ls K :=
  ⟨h.out.fr f hg, fun i hi => (h.each i hi).fr f (hb i hi), h.inj, h.low⟩
theorem May.fr0 (h : May w lo g N vs bs ls K) (f : Fr noB w w') : May w' lo g N vs bs ls K := h.fr f (fun q => q) (fun _ _ q => q)
theorem May.congr (h : May w lo g N vs bs ls K) (hl : ∀ i, i < K → ls i = ls' i) : May w lo g N vs bs ls' K :=
  ⟨h.out, fun i hi => hl i hi ▸ h.each i hi, h.inj, h.low⟩
end
end Go.Proofs.YtmkinaijkgkgiaaGreat
/- Pages and rows of bytes cut and copied; slotOf, generationOf of package root. -/
namespace Go.Proofs.YtmkinaijkgkgiaaGreat
open Go.RowKit Go.Proofs.U
set_option linter.unusedSimpArgs false
set_option linter.unusedVariables false

theorem BxV.slI {w : World} {g : Nat} {t : TypeId} {l : List Int} (h : BxV w g t (pgv l)) (hb : Byt l) (off n cap : Nat) (hn : off + n ≤ l.length) (hc : n ≤ cap) : SlI .u8 w (.slice (some ⟨g, off, none⟩) n cap) ((l.drop off).take n) := by
  have hl : ((l.drop off).take n).length = n := by simp; omega
  refine ⟨?_, (Byt.drop hb off).take n⟩
  rw [hl]
  refine ⟨_, _, rfl, hc, by rw [List.length_map, hl, Nat.mul_one], (fun e => by cases e), fun x hx => ?_⟩
  cases hx
  intro j u hj
  rw [Addr.plain]
  refine (h.cell (off + j) u ?_).1
  rw [← hj]
  have hjn : j < n := by
    have := (List.getElem?_eq_some_iff.1 hj).1
    simp only [List.length_map] at this; omega
  simp [pgv, List.getElem?_take, hjn, List.getElem?_drop]
/-- copy into a variable of bytes. -/
theorem run_cpyB {W : World} {g : Nat} {t : TypeId} {l : List Int} (hB : BxV W g t (pgv l)) (off n dcap : Nat) (hn : off + n ≤ l.length) (ty : TypeId) (v : Value) (m : List Int) (hS : SlI .u8 W v m) (r : Value) (hr : r = .slice (some ⟨g, off, none⟩) n dcap) :
    ∃ W', (Builtin.copy_ #[120, 120] ty #[r, v]).run Tryz.prog W = .ok (goInt (Nat.min m.length n)) W' ∧ BxV W' g t (pgv (putI l off (m.take n))) ∧ Fr (onB1 g) W W' := by
  subst hr
  have hS0 := hS
  obtain ⟨⟨ao, cap, rfl, hcap, hlen, hnone, hsome⟩, hwf⟩ := hS
  rw [Nat.mul_one, List.length_map] at hlen
  by_cases h0 : Nat.min m.length n = 0
  · refine ⟨W, ?_, ?_, Fr.refl _ _⟩
    · rw [run_copy_none W 120 120 ty 5 _ _ _ _ _ _ Tryz.underlying120 size_u8 h0, h0]; rfl
    · have : m.take n = [] := by
        have h0' : min m.length n = 0 := h0
        apply List.eq_nil_of_length_eq_zero; rw [List.length_take]; omega
      rw [this]
      have e : putI l off [] = l := by simp [putI]
      rw [e]; exact hB
  · cases ao with
    | none =>
      have h1 := hnone rfl
      have h0' : ¬ min m.length n = 0 := h0
      omega
    | some ad =>
      have hcell := hsome ad rfl
      have hl2 : (pgv (m.take n)).length = Nat.min m.length n := by
        show _ = min m.length n
        rw [pgv_len, List.length_take]; omega
      have hmn : Nat.min m.length n ≤ n := Nat.min_le_right _ _
      have hr := run_copy_cells (P := Tryz.prog) W 120 120 ty 5 g off n dcap ad m.length cap (pgv (m.take n)) Tryz.underlying120 size_u8 hl2
        (by
          intro j u hj
          refine hcell j u ?_
          have hjl := (List.getElem?_eq_some_iff.1 hj).1
          rw [hl2] at hjl
          rw [← hj]
          simp [pgv, List.getElem?_take, show j < n by omega])
        (fun j hj => by
          rw [hl2] at hj
          exact (hB.thereR off n (by rw [pgv_len]; omega) j (by omega)).1)
        (fun j hj => by
          rw [hl2] at hj
          exact (hB.thereR off n (by rw [pgv_len]; omega) j (by omega)).2) (pgv_one _)
      rw [hl2] at hr
      refine ⟨_, hr, ?_, setCells_fr1 _ _ _ _⟩
      have := setCells_bx (pgv (m.take n)) off W (pgv l) hB (by rw [hl2, pgv_len]; omega)
      rwa [putAt_putI] at this
section
variable {w : World} {ops : Array Oper} {rest : List Oper} {o : Oper} {a : Act} {Q : Exit → Act → World → Prop}
theorem at_cpy (d s : Operand) (t t' : TypeId) (_ho : o.op = .call { callee := .builtin .copy, args := #[d, s], argTypes := #[t, t'] }) (h : wpList Tryz.prog ops Q (o :: rest) a w) : wpList Tryz.prog ops Q (o :: rest) a w := h
end

end Go.Proofs.YtmkinaijkgkgiaaGreat
/- Arrays of bytes, of any length: how they are made, read, stored, cut, compared; no condition but that the type is one. -/
namespace Go.Proofs.YtmkinaijkgkgiaaGreat
open Go.RowKit Go.Proofs.U
set_option linter.unusedSimpArgs false
set_option linter.unusedVariables false

def zerB (n : Nat) : List Int := List.replicate n 0
theorem zerB_len (n : Nat) : (zerB n).length = n := List.length_replicate
theorem zerB_byt (n : Nat) : Byt (zerB n) := by
  intro x hx
  rw [show x = 0 from List.eq_of_mem_replicate hx]; decide
/-- t is an array of n bytes. -/
structure ArrT (t : TypeId) (n : Nat) : Prop where
  zero : (Tryz.prog.info? t).map (·.zero) = some (some (.agg (pgv (zerB n)).toArray))
  size : (Tryz.prog.info? t).map (·.size) = some n
  und : Tryz.prog.underlying t = some (.array n 5)
  built : Tryz.prog.built t [] = some (pgv (zerB n)).toArray
  len : Tryz.prog.arrayLen t = n
  elem : Tryz.prog.elem t = 5
  eqg : Tryz.prog.eqGuardType Tryz.prog.depth t = false
theorem arr_page : ArrT 96 256 := ⟨by kernel_rfl, by kernel_rfl, by kernel_rfl, by kernel_rfl, by kernel_rfl, by kernel_rfl, by kernel_rfl⟩
section
variable {t : TypeId} {n : Nat}
theorem ArrT.row (T : ArrT t n) : ∃ d, Tryz.prog.underlying t = some d ∧ d.isRow = true := ⟨_, T.und, rfl⟩
theorem ArrT.undL (T : ArrT t n) : Tryz.prog.underlying t = some (.array (Tryz.prog.arrayLen t) (Tryz.prog.elem t)) := by rw [T.len, T.elem]; exact T.und
theorem run_loadA (T : ArrT t n) (w : World) (b off : Nat) (p : List Int) (hc : w.rangeAt b off (pgv p)) (hp : p.length = n) : (Instr.loadAt t (.pointer (some ⟨b, off, none⟩))).run Tryz.prog w = .ok (pgV p) w := by
  have := run_loadVar_mid (P := Tryz.prog) w b off t (pgv p) _ hc T.und rfl (by rw [T.size, pgv_len, hp])
  simpa [Instr.loadAt, Instr.sureAddr, Result.andThen, pgV] using this
theorem bxAll {w : World} {g : Nat} {t' : TypeId} {p : List Int} (h : BxV w g t' (pgv p)) : w.rangeAt g 0 (pgv p) := h.range 0 (pgv p) (by show (pgv p).take (pgv p).length = pgv p; exact List.take_length)
theorem run_allA (T : ArrT t n) (hn : 0 < n) (w : World) (g : Nat) : (Instr.sliceAt t (.pointer (some ⟨g, 0, none⟩)) none none none).run Tryz.prog w = .ok (.slice (some ⟨g, 0, none⟩) n n) w := by
  have h := run_sliceAt_array_all (P := Tryz.prog) w t ⟨g, 0, none⟩ T.undL
  rw [h]
  obtain ⟨ii, hii, hsz⟩ := Option.map_eq_some_iff.1 size_u8
  simp only [T.elem, sizeOf, typeInfo, T.len, slicedAt]
  have h3 : ¬ (n = 0) := by omega
  simp [hii, hsz, go_sem, Addr.plain, h3]
theorem run_equalInA (T : ArrT t n) (w : World) (d : Nat) (xs ys : List Int) (hx : xs.length = n) (hy : ys.length = n) :
    (Op.equalIn (d + 2) t (pgV xs) (pgV ys)).run Tryz.prog w = .ok (xs == ys) w := by
  have he : Tryz.prog.underlying 5 = some (.int .u8) := Tryz.underlying5
  have hsz : ∀ w, (sizeOf 5).run Tryz.prog w = .ok 1 w := fun w => by kernel_rfl
  unfold pgV pgv
  rw [← all_range_eqI xs ys (hx.trans hy.symm), hx, List.range_eq_range', Op.equalIn]
  simp only [Sem.run_bind, run_underlying T.und, Result.andThen_ok, hsz, Std.Legacy.Range.forIn_eq_forIn_range', Std.Legacy.Range.size, Nat.sub_zero, Nat.add_sub_cancel, Nat.div_one]
  have hl : ∀ i ∈ List.range' 0 n 1, i < n := fun i hi => by simpa using (List.mem_range'_1.1 hi).2
  generalize List.range' 0 n 1 = l at hl ⊢
  induction l with
  | nil => simp
  | cons i l ih =>
    have hi : i < n := hl i (by simp)
    have px : (part 5 (xs.map (Value.int .u8)).toArray (i * 1)).run Tryz.prog w = .ok (.int .u8 (xs.getD i 0)) w := by
      simp [part, isAgg, run_underlying he, List.getD, List.getElem?_eq_getElem (show i < xs.length by omega)]
    have py : (part 5 (ys.map (Value.int .u8)).toArray (i * 1)).run Tryz.prog w = .ok (.int .u8 (ys.getD i 0)) w := by
      simp [part, isAgg, run_underlying he, List.getD, List.getElem?_eq_getElem (show i < ys.length by omega)]
    have pe : (Op.equalIn (d + 1) 5 (.int .u8 (xs.getD i 0)) (.int .u8 (ys.getD i 0))).run Tryz.prog w = .ok (xs.getD i 0 == ys.getD i 0) w := by
      rw [run_equalIn_int w d 5 .u8 .u8 _ _ he]
    simp only [List.forIn_cons, Sem.run_bind, px, py, pe, Result.andThen_ok, List.all_cons]
    cases hb : (xs.getD i 0 == ys.getD i 0)
    · simp
    · simp only [Bool.not_true, Bool.false_eq_true, if_false, Sem.run_pure, Result.andThen_ok, Bool.true_and]
      exact ih fun j hj => hl j (by simp [hj])
theorem run_eqlA (T : ArrT t n) (w : World) (xs ys : List Int) (hx : xs.length = n) (hy : ys.length = n) : (binOp .eql t (pgV xs) (pgV ys)).run Tryz.prog w = .ok (.bool (xs == ys)) w := by
  have := run_equalInA T w 9998 xs ys hx hy
  unfold pgV at *
  rw [run_eql_struct, this]; rfl
theorem run_neqA (T : ArrT t n) (w : World) (xs ys : List Int) (hx : xs.length = n) (hy : ys.length = n) : (binOp .neq t (pgV xs) (pgV ys)).run Tryz.prog w = .ok (.bool (!(xs == ys))) w := by
  have := run_equalInA T w 9998 xs ys hx hy
  unfold pgV at *
  rw [run_neq_struct, this]; rfl
theorem eqgA (T : ArrT t n) (x y : Operand) (p q : List Int) (w : World) : (eqGuard .eql t x y (pgV p) (pgV q)).run Tryz.prog w = .ok () w := by
  unfold pgV
  simp [eqGuard, T.eqg, go_sem]
theorem eqgAn (T : ArrT t n) (x y : Operand) (p q : List Int) (w : World) : (eqGuard .neq t x y (pgV p) (pgV q)).run Tryz.prog w = .ok () w := by
  unfold pgV
  simp [eqGuard, T.eqg, go_sem]
theorem results_arr2 {fn : Func} {q u : Tmp} (T : ArrT t n) (h : fn.results = #[.cell q t, .tmp u]) (tmps : Array Value) (w : World) (g : Nat) (p : List Int) (hq : tmps.getD q undef = .pointer (some ⟨g, 0, none⟩)) (hA : BxV w g t (pgv p)) (hp : p.length = n) :
    (results fn tmps).run Tryz.prog w = .ok (.tuple #[pgV p, tmps.getD u undef]) w := by
  rw [results_cell_tmp h, hq]
  have hr := run_loadVar_mid (P := Tryz.prog) w g 0 t (pgv p) _ (hA.range 0 _ (by simp)) T.und rfl (by rw [T.size, pgv_len, hp])
  simp only [asAddr, Sem.run_pure, Result.andThen_ok, hr]
  rfl
end
section
variable {t : TypeId} {n : Nat} {w : World} {ops : Array Oper} {rest : List Oper} {o : Oper} {a : Act} {Q : Exit → Act → World → Prop}
theorem wpList_buildA (T : ArrT t n) (hgd : Region.wanted o (yielded ops a.tmps) = true) (ho : o.op = .build t #[])
    (h : wpList Tryz.prog ops Q rest (a.put o.dst (pgV (zerB n))) w) : wpList Tryz.prog ops Q (o :: rest) a w := by
  refine wpList_wanted hgd fun K hK => ?_
  have hrun := run_build (P := Tryz.prog) w t #[] _ T.built
  unfold Oper.wp
  simp [execOp, ho, hrun, Result.andThen]
  exact hK _ _ h
theorem wpList_allocA (T : ArrT t n) (hgd : Region.wanted o (yielded ops a.tmps) = true) (ho : o.op = .alloc t)
    (h : ∀ g w', Hid (g = w.heap.size) → BxV w' g t (pgv (zerB n)) → Fr noB w w' → w.heap.size ≤ g → wpList Tryz.prog ops Q rest (a.put o.dst (.pointer (some ⟨g, 0, none⟩))) w') : wpList Tryz.prog ops Q (o :: rest) a w :=
  wpList_allocV hgd t ho _ T.zero h
theorem wpList_storeA (T : ArrT t n) (hgd : o.guard = none) (x y : Operand) (ho : o.op = .store t x y) (g : Nat) (hx : a.eval x = .pointer (some ⟨g, 0, none⟩)) (p : List Int) (hy : a.eval y = pgV p) (q : List Int) (hA : BxV w g t (pgv q))
    (hp : p.length = n) (hq : q.length = n)
    (h : ∀ w', BxV w' g t (pgv p) → Fr (onB1 g) w w' → wpList Tryz.prog ops Q rest (a.put o.dst undef) w') : wpList Tryz.prog ops Q (o :: rest) a w := by
  refine wpList_storeV hgd t x y ho g 0 hx (pgv p) hy t (pgv q) hA (by rw [T.size, pgv_len, hp]) (by rw [pgv_len, pgv_len, hp, hq]; omega) (pgv_one p) ?_
  intro w' h1 h2
  rw [putAt_all _ _ (by rw [pgv_len, pgv_len, hp, hq])] at h1
  exact h w' h1 h2
theorem wpList_loadA (T : ArrT t n) (hgd : Region.wanted o (yielded ops a.tmps) = true) (x : Operand) (ho : o.op = .load t x) (g : Nat) (hx : a.eval x = .pointer (some ⟨g, 0, none⟩)) (p : List Int) (hA : BxV w g t (pgv p)) (hp : p.length = n)
    (h : wpList Tryz.prog ops Q rest (a.put o.dst (pgV p)) w) : wpList Tryz.prog ops Q (o :: rest) a w := by
  refine wpList_wanted hgd fun K hK => ?_
  have hr := run_loadA T w g 0 p (bxAll hA) hp
  unfold Oper.wp execOp
  simp only [ho, hx, Sem.run_bind, hr, Result.andThen_ok]
  exact hK _ _ h
theorem wpList_allA (T : ArrT t n) (hn : 0 < n) (hgd : Region.wanted o (yielded ops a.tmps) = true) (x : Operand) (ho : o.op = .slice t x none none none) (g : Nat) (hx : a.eval x = .pointer (some ⟨g, 0, none⟩))
    (h : wpList Tryz.prog ops Q rest (a.put o.dst (.slice (some ⟨g, 0, none⟩) n n)) w) : wpList Tryz.prog ops Q (o :: rest) a w := by
  refine wpList_wanted hgd fun K hK => ?_
  have hr := run_allA T hn w g
  unfold Oper.wp
  simp [execOp, ho, hx, hr, Result.andThen]
  exact hK _ _ h
theorem wpList_eqlA (T : ArrT t n) (hgd : Region.wanted o (yielded ops a.tmps) = true) (x y : Operand) (t' : TypeId) (ho : o.op = .binOp .eql t x y t') (p q : List Int) (hx : a.eval x = pgV p) (hy : a.eval y = pgV q) (hp : p.length = n) (hq : q.length = n)
    (h : wpList Tryz.prog ops Q rest (a.put o.dst (.bool (p == q))) w) : wpList Tryz.prog ops Q (o :: rest) a w := by
  refine wpList_wanted hgd fun K hK => ?_
  have hr := run_eqlA T w p q hp hq
  unfold Oper.wp
  simp [execOp, ho, hx, hy, hr, eqgA T, Result.andThen]
  exact hK _ _ h
theorem wpList_neqA (T : ArrT t n) (hgd : Region.wanted o (yielded ops a.tmps) = true) (x y : Operand) (t' : TypeId) (ho : o.op = .binOp .neq t x y t') (p q : List Int) (hx : a.eval x = pgV p) (hy : a.eval y = pgV q) (hp : p.length = n) (hq : q.length = n)
    (h : wpList Tryz.prog ops Q rest (a.put o.dst (.bool (!(p == q)))) w) : wpList Tryz.prog ops Q (o :: rest) a w := by
  refine wpList_wanted hgd fun K hK => ?_
  have hr := run_neqA T w p q hp hq
  unfold Oper.wp
  simp [execOp, ho, hx, hy, hr, eqgAn T, Result.andThen]
  exact hK _ _ h
end
end Go.Proofs.YtmkinaijkgkgiaaGreat
/- Nodes as pages, plain: which nodes can be, what their pages are, and what a page tells; no condition. -/
namespace Go.Proofs.YtmkinaijkgkgiaaGreat
open Go.RowKit Go.Proofs.U
set_option linter.unusedSimpArgs false
set_option linter.unusedVariables false
/-- A node: its kind, its block, its entries (a key and a page each). -/
structure Nd where
  k : Int
  b : List Int
  es : List (Int × Int)
def nd0 : Nd := ⟨0, zerB 16, []⟩
/-- Keys rise, behind the last one; keys and pages that there are. -/
def rises : Int → List (Int × Int) → Bool
  | _, [] => true
  | last, (x, p) :: r => decide (last < x) && decide (x ≤ 63) && decide (0 ≤ p) && decide (p ≤ 239) && rises x r
def Nd.right (n : Nd) : Bool := if n.k = 1 then n.es.isEmpty else (n.k == 2 || n.k == 3) && (n.b == zerB 16) && decide (1 ≤ n.es.length) && decide (n.es.length ≤ 6) && rises (-1) n.es
/-- What is known of any node's memory. -/
def Nd.ok (n : Nd) : Prop := n.b.length = 16 ∧ Byt n.b
def pairs (l : List (Int × Int)) : List Int := l.flatMap fun x => [x.1, x.2]
theorem pairs_len (l : List (Int × Int)) : (pairs l).length = 2 * l.length := by
  unfold pairs
  induction l with
  | nil => rfl
  | cons x l ih => rw [List.flatMap_cons, List.length_append, ih, List.length_cons]; simp; omega
theorem pairs_at (l : List (Int × Int)) (i : Nat) (h : i < l.length) : (pairs l)[2 * i]? = some l[i].1 ∧ (pairs l)[2 * i + 1]? = some l[i].2 := by
  unfold pairs
  induction l generalizing i with
  | nil => simp at h
  | cons x l ih =>
    rw [List.flatMap_cons]
    cases i with
    | zero => simp
    | succ j =>
      have := ih j (by simpa using h)
      constructor
      · rw [List.getElem?_append_right (by simp; omega), show 2 * (j + 1) - [x.1, x.2].length = 2 * j by simp; omega, this.1]; rfl
      · rw [List.getElem?_append_right (by simp; omega), show 2 * (j + 1) + 1 - [x.1, x.2].length = 2 * j + 1 by simp; omega, this.2]; rfl
theorem rises_all {last : Int} {l : List (Int × Int)} (h : rises last l = true) (h0 : -1 ≤ last) : ∀ x ∈ l, (0 ≤ x.1 ∧ x.1 ≤ 63) ∧ 0 ≤ x.2 ∧ x.2 ≤ 239 := by
  induction l generalizing last with
  | nil => simp
  | cons y l ih =>
    obtain ⟨a, p⟩ := y
    simp [rises] at h
    obtain ⟨⟨⟨⟨h1, h2⟩, h3⟩, h4⟩, h5⟩ := h
    intro x hx
    rcases List.mem_cons.1 hx with rfl | hx
    · exact ⟨⟨by show 0 ≤ a; omega, h2⟩, h3, h4⟩
    · exact ih h5 (by omega) x hx
theorem byt_one {x : Int} (h0 : 0 ≤ x) (h1 : x < 256) : (Lit.int .u8 x).wf = true := by
  simp [Lit.wf, IntKind.min, IntKind.max, IntKind.signed, IntKind.bits]; omega
theorem pairs_byt {l : List (Int × Int)} (h : ∀ x ∈ l, (0 ≤ x.1 ∧ x.1 ≤ 63) ∧ 0 ≤ x.2 ∧ x.2 ≤ 239) : Byt (pairs l) := by
  intro y hy
  obtain ⟨x, hx, hy⟩ := List.mem_flatMap.1 hy
  have := h x hx
  simp at hy
  rcases hy with rfl | rfl
  · exact byt_one (by omega) (by omega)
  · exact byt_one (by omega) (by omega)
/-- What is sealed. -/
def Nd.body (n : Nd) : List Int := if n.k = 1 then n.k :: n.b else n.k :: (n.es.length : Int) :: pairs n.es
/-- A node's page. -/
def Nd.page (n : Nd) : List Int := sealI n.body ++ zerB (256 - (n.body.length + 4))
theorem right_data {n : Nd} (h : n.right = true) (hk : n.k = 1) : n.es = [] := by
  unfold Nd.right at h
  rw [if_pos hk] at h
  simpa using h
theorem right_tree {n : Nd} (h : n.right = true) (hk : ¬ n.k = 1) : (n.k = 2 ∨ n.k = 3) ∧ n.b = zerB 16 ∧ 1 ≤ n.es.length ∧ n.es.length ≤ 6 ∧ rises (-1) n.es = true := by
  unfold Nd.right at h
  rw [if_neg hk] at h
  simp at h
  obtain ⟨⟨⟨⟨h1, h2⟩, h3⟩, h4⟩, h5⟩ := h
  exact ⟨h1, h2, h3, h4, h5⟩
theorem body_len {n : Nd} (h : n.right = true) (ho : n.b.length = 16) : n.body.length ≤ 17 := by
  unfold Nd.body
  by_cases hk : n.k = 1
  · rw [if_pos hk, List.length_cons, ho]; decide
  · have := right_tree h hk
    rw [if_neg hk, List.length_cons, List.length_cons, pairs_len]; omega
theorem body_byt {n : Nd} (h : n.right = true) (ho : n.ok) : Byt n.body := by
  unfold Nd.body
  by_cases hk : n.k = 1
  · rw [if_pos hk]
    intro y hy
    rcases List.mem_cons.1 hy with rfl | hy
    · rw [hk]; decide
    · exact ho.2 y hy
  · obtain ⟨h1, _, h3, h4, h5⟩ := right_tree h hk
    rw [if_neg hk]
    intro y hy
    rcases List.mem_cons.1 hy with rfl | hy
    · rcases h1 with e | e <;> rw [e] <;> decide
    · rcases List.mem_cons.1 hy with rfl | hy
      · exact byt_one (by omega) (by omega)
      · exact pairs_byt (rises_all h5 (by decide)) y hy
theorem page_len {n : Nd} (h : n.right = true) (ho : n.b.length = 16) : n.page.length = 256 := by
  have := body_len h ho
  unfold Nd.page
  rw [List.length_append, sealI_length, zerB_len]; omega
theorem page_byt {n : Nd} (h : n.right = true) (ho : n.ok) : Byt n.page := (show Byt (sealI _) from sealI_wf _ (body_byt h ho)).app (zerB_byt _)
/-- The node that a page seems to have. -/
def decN (p : List Int) : Nd := if p.getD 0 0 = 1 then ⟨1, (p.drop 1).take 16, []⟩ else ⟨p.getD 0 0, zerB 16, (List.range (min (p.getD 1 0).toNat 6)).map fun i => (p.getD (2 + 2 * i) 0, p.getD (3 + 2 * i) 0)⟩
theorem page_front (n : Nd) (i : Nat) (h : i < n.body.length) : n.page.getD i 0 = n.body.getD i 0 := by
  unfold Nd.page sealI
  simp only [List.getD_eq_getElem?_getD, List.append_assoc]
  rw [List.getElem?_append_left h]
theorem dec_page {n : Nd} (h : n.right = true) (ho : n.ok) : decN n.page = n := by
  have h0 : n.page.getD 0 0 = n.k := by
    rw [page_front n 0 (by unfold Nd.body; split <;> simp)]
    unfold Nd.body; split <;> rfl
  unfold decN
  rw [h0]
  by_cases hk : n.k = 1
  · rw [if_pos hk]
    have hes := right_data h hk
    have hb : (n.page.drop 1).take 16 = n.b := by
      unfold Nd.page sealI Nd.body
      rw [if_pos hk, List.cons_append, List.cons_append, List.drop_succ_cons, List.drop_zero, List.append_assoc, List.take_left' ho.1]
    rw [hb]
    cases n
    simp at hk hes ⊢
    exact ⟨hk.symm, hes⟩
  · obtain ⟨_, h2, h3, h4, h5⟩ := right_tree h hk
    rw [if_neg hk]
    have hbl : n.body.length = 2 + 2 * n.es.length := by
      unfold Nd.body; rw [if_neg hk, List.length_cons, List.length_cons, pairs_len]; omega
    have h1 : n.page.getD 1 0 = (n.es.length : Int) := by
      rw [page_front n 1 (by omega)]
      unfold Nd.body; rw [if_neg hk]; rfl
    have he : ((List.range (min (n.page.getD 1 0).toNat 6)).map fun i => (n.page.getD (2 + 2 * i) 0, n.page.getD (3 + 2 * i) 0)) = n.es := by
      rw [h1, Int.toNat_natCast, Nat.min_eq_left h4]
      refine List.ext_getElem (by simp) fun i h6 h7 => ?_
      rw [List.getElem_map, List.getElem_range, page_front n _ (by omega), page_front n _ (by omega)]
      have := pairs_at n.es i h7
      unfold Nd.body
      rw [if_neg hk]
      simp only [List.getD_eq_getElem?_getD]
      rw [show 2 + 2 * i = (2 * i + 1) + 1 by omega, show 3 + 2 * i = (2 * i + 1 + 1) + 1 by omega, List.getElem?_cons_succ, List.getElem?_cons_succ, List.getElem?_cons_succ, List.getElem?_cons_succ, this.1, this.2]
      rfl
    rw [he]
    cases n
    simp at h2 ⊢
    exact h2.symm
/-- What a page tells. -/
def opN (p : List Int) : Nd × Int := if (decN p).right && ((decN p).page == p) then (decN p, 0) else (nd0, 81)
theorem opN_own {n : Nd} (h : n.right = true) (ho : n.ok) : opN n.page = (n, 0) := by
  unfold opN
  rw [dec_page h ho, h, beq_self_eq_true]; rfl
theorem opN_cases (p : List Int) : ((opN p) = (decN p, 0) ∧ (decN p).right = true ∧ (decN p).page = p) ∨ opN p = (nd0, 81) := by
  unfold opN
  split
  · rename_i h
    simp at h
    exact Or.inl ⟨rfl, h.1, h.2⟩
  · exact Or.inr rfl
/-- The last place whose key isn't above. -/
def atN (l : List (Int × Int)) (key : Int) : Int := (l.countP (fun x => decide (x.1 ≤ key)) : Int) - 1
theorem atN_le (l : List (Int × Int)) (key : Int) : -1 ≤ atN l key ∧ atN l key < l.length := by
  have := List.countP_le_length (p := fun x : Int × Int => decide (x.1 ≤ key)) (l := l)
  unfold atN; omega
theorem rises_lt {last : Int} {l : List (Int × Int)} (h : rises last l = true) : ∀ (i : Nat) (hi : i < l.length), last < l[i].1 := by
  induction l generalizing last with
  | nil => intro i hi; simp at hi
  | cons y l ih =>
    obtain ⟨a, p⟩ := y
    simp [rises] at h
    obtain ⟨⟨⟨⟨h1, h2⟩, h3⟩, h4⟩, h5⟩ := h
    intro i hi
    cases i with
    | zero => exact h1
    | succ j =>
      have hj : j < l.length := by simpa using hi
      have := ih h5 j hj
      show last < l[j].1
      omega
/-- Of keys that rise those up to the place aren't above, those behind it are. -/
theorem atN_split {last : Int} {l : List (Int × Int)} (h : rises last l = true) (key : Int) : ∀ (i : Nat) (hi : i < l.length), ((i : Int) ≤ atN l key ↔ l[i].1 ≤ key) := by
  unfold atN
  induction l generalizing last with
  | nil => intro i hi; simp at hi
  | cons y l ih =>
    obtain ⟨a, p⟩ := y
    have hr := h
    simp [rises] at h
    obtain ⟨⟨⟨⟨h1, h2⟩, h3⟩, h4⟩, h5⟩ := h
    have hlt := rises_lt h5
    intro i hi
    rw [List.countP_cons]
    by_cases hk : a ≤ key
    · simp only [hk, decide_true, if_true]
      cases i with
      | zero =>
        show _ ↔ a ≤ key
        exact ⟨fun _ => hk, fun _ => by omega⟩
      | succ j =>
        have hj : j < l.length := by simpa using hi
        have := ih h5 j hj
        show _ ↔ l[j].1 ≤ key
        rw [← this]
        omega
    · have hz : l.countP (fun x => decide (x.1 ≤ key)) = 0 := by
        rw [List.countP_eq_zero]
        intro x hx
        obtain ⟨j, hj, rfl⟩ := List.mem_iff_getElem.1 hx
        have := hlt j hj
        simp; omega
      rw [hz]
      simp only [hk, decide_false]
      cases i with
      | zero =>
        show _ ↔ a ≤ key
        simp; omega
      | succ j =>
        have hj : j < l.length := by simpa using hi
        have := hlt j hj
        show _ ↔ l[j].1 ≤ key
        simp; omega
end Go.Proofs.YtmkinaijkgkgiaaGreat
/- DiskRuns, the plain part: the document's disk and the program's. -/
namespace Go.Proofs.YtmkinaijkgkgiaaGreat
open Go.RowKit Go.Proofs.U
set_option linter.unusedSimpArgs false
set_option linter.unusedVariables false

structure RXD (X : DSt) (c : Bool) (l : Int) (bad : List Bool) : Prop where
  len : bad.length = X.pages.length
  bad : ∀ i, inR X.pages.length i = true → X.bad i = bad.getD i.toNat false
  cnt : c = true → 0 ≤ l ∧ l ≤ 9223372036854775807 ∧ X.left = l
  unc : c = false → X.left < 0
theorem RXD.new (n : Int) : RXD (newD n) false 0 (List.replicate (newN n) false) :=
  ⟨by simp [newD], fun i hi => by simp [newD, List.getD, List.getElem?_replicate]; split <;> rfl, fun h => (by cases h), fun _ => (by show (-1 : Int) < 0; decide)⟩
theorem RXD.hl {X : DSt} {c : Bool} {l : Int} {bad : List Bool} (h : RXD X c l bad) : c = true → -9223372036854775808 < l ∧ l ≤ 9223372036854775807 := fun hc => by have := h.cnt hc; omega
theorem RXD.act {X : DSt} {c : Bool} {l : Int} {bad : List Bool} (h : RXD X c l bad) :
    (actR c l X.down).2.1 = X.act.down ∧ (actR c l X.down).2.2 = X.actE ∧ RXD X.act c (actR c l X.down).1 bad := by
  obtain ⟨pages, xb, pend, d, lf⟩ := X
  have h1 := h.cnt
  have h2 := h.unc
  simp only at h1 h2
  unfold DSt.act DSt.actE actR actP
  simp only
  cases d with
  | true => exact ⟨by simp, by simp, ⟨h.len, h.bad, fun hc => by simpa using h1 hc, fun hc => by simpa using h2 hc⟩⟩
  | false =>
    cases c with
    | false =>
      have h3 := h2 rfl
      have e : (lf == 0) = false := by simp; omega
      have e2 : ¬ lf > 0 := by omega
      simp only [e, e2, Bool.false_or, Bool.false_and, if_false, Bool.false_eq_true]
      exact ⟨trivial, trivial, ⟨h.len, h.bad, fun hc => (by cases hc), fun _ => h3⟩⟩
    | true =>
      obtain ⟨h3, h4, rfl⟩ := h1 rfl
      by_cases e : lf = 0
      · subst e
        simp
        exact ⟨h.len, h.bad, fun _ => by simp, fun hc => (by cases hc)⟩
      · have e1 : (lf == 0) = false := by simpa using e
        have e2 : lf > 0 := by omega
        simp only [e1, e2, Bool.false_or, Bool.true_and, if_false, if_true, Bool.false_eq_true]
        exact ⟨trivial, trivial, ⟨h.len, h.bad, fun _ => ⟨by omega, by omega, rfl⟩, fun hc => (by cases hc)⟩⟩
theorem RXD.write {X : DSt} {c : Bool} {l : Int} {bad : List Bool} (h : RXD X c l bad) (i : Int) (p : List Int) :
    (X.write i p).pages = X.pages ∧
    (if inR X.pages.length i then (actR c l X.down).2.1 else X.down) = (X.write i p).down ∧ (if inR X.pages.length i then (actR c l X.down).2.2 else 41) = X.writeE i ∧
    (if inR X.pages.length i && (actR c l X.down).2.2 == 0 then X.pend ++ [(i, p)] else X.pend) = (X.write i p).pend ∧ RXD (X.write i p) c (if inR X.pages.length i then (actR c l X.down).1 else l) bad := by
  obtain ⟨h1, h2, h3⟩ := h.act
  unfold DSt.write DSt.writeE
  rw [h1, h2]
  cases inR X.pages.length i with
  | false => exact ⟨rfl, rfl, rfl, by simp, h⟩
  | true =>
    simp only [if_true, Bool.true_and]
    by_cases he : X.actE = 0
    · rw [if_pos he]
      exact ⟨by first | rfl | trivial, by first | rfl | trivial, by first | rfl | trivial, by simp [he], ⟨h3.len, h3.bad, h3.cnt, h3.unc⟩⟩
    · rw [if_neg he]
      exact ⟨by first | rfl | trivial, by first | rfl | trivial, by first | rfl | trivial, by simp [he]; rfl, h3⟩
theorem RXD.cut {X : DSt} {c : Bool} {l : Int} {bad : List Bool} (h : RXD X c l bad) (n : Int) (hn : -9223372036854775808 ≤ n ∧ n ≤ 9223372036854775807) : RXD { X with left := n } (decide (0 ≤ n)) n bad :=
  ⟨h.len, h.bad, fun hc => ⟨by simpa using hc, hn.2, rfl⟩, fun hc => by simp at hc; exact hc⟩
theorem RXD.read {X : DSt} {c : Bool} {l : Int} {bad : List Bool} (h : RXD X c l bad) (i : Int) : readR X.pages bad X.pend i = readP X i := by
  unfold readR readP
  cases hin : inR X.pages.length i with
  | false =>
    have : ¬ (0 ≤ i ∧ i < (X.pages.length : Int)) := by simp [inR] at hin; omega
    rw [if_neg this]; rfl
  | true =>
    have : 0 ≤ i ∧ i < (X.pages.length : Int) := by simpa [inR] using hin
    rw [if_pos this, h.bad i hin]; rfl
end Go.Proofs.YtmkinaijkgkgiaaGreat
/- DiskRuns: same. (Written by rs_gen.py.) -/
namespace Go.Proofs.U
open Go.RowKit
set_option linter.unusedSimpArgs false
set_option linter.unusedVariables false
/-- Where the cells of a slice lie that is not empty. -/
theorem SlR.addr {α : Type} {ec : α → List Value} {sz : Nat} {w : World} {v : Value} {l : List α} (h : SlR ec sz w v l) (hsz : 0 < sz) (hl : 0 < l.length) :
    ∃ b o cap, v = .slice (some ⟨b, o, none⟩) l.length cap ∧ ∀ j (hj : j < l.length) r u, (ec l[j])[r]? = some u → w.cell? ⟨b, o + j * sz + r, none⟩ = some u := by
  obtain ⟨hall, a, cap, rfl, hcap, hlen, hnone, hsome⟩ := h
  cases a with
  | none => have := hnone rfl; omega
  | some x =>
    have hc := hsome x rfl
    obtain ⟨b, o, sp⟩ := x
    have h0 : 0 < (l.flatMap ec).length := by rw [hlen]; exact Nat.mul_pos hl hsz
    have hsp : sp = none := by
      have := hc 0 _ (List.getElem?_eq_getElem h0)
      simpa [Addr.add] using World.cell?_spot this
    subst hsp
    refine ⟨b, o, cap, rfl, fun j hj r u hu => ?_⟩
    have hr : r < sz := by
      have h1 := (List.getElem?_eq_some_iff.1 hu).1
      rwa [hall _ (List.getElem_mem hj)] at h1
    have hf := flat_at ec sz l hall j hj r hr
    rw [hu] at hf
    have h2 := hc _ _ hf
    have hadd : (⟨b, o, none⟩ : Addr).add (j * sz + r) = ⟨b, o + j * sz + r, none⟩ := by unfold Addr.add; split <;> simp_all <;> omega
    rwa [hadd] at h2
theorem run_idxS {P : Program} {w : World} {sz : Nat} (t et : TypeId) (ht : P.underlying t = some (.slice et)) (hsz : (P.info? et).map (·.size) = some sz) (b o n cap : Nat) (k : IntKind) (j : Nat) (hj : j < n) :
    (Instr.indexAt t (.slice (some ⟨b, o, none⟩) n cap) (.int k (j : Int))).run P w = .ok (.pointer (some ⟨b, o + j * sz, none⟩)) w := by
  obtain ⟨ii, hinf, hsz'⟩ := Option.map_eq_some_iff.1 hsz
  have h1 : (0 : Int) ≤ (j : Int) ∧ (j : Int) < (n : Int) := by omega
  simp [Instr.indexAt, asIntOf, run_underlying ht, h1, sizeOf, typeInfo, hinf, hsz', go_sem, Addr.plain]
  omega
end Go.Proofs.U
namespace Go.Proofs.YtmkinaijkgkgiaaGreat
open Go.RowKit Go.Proofs.U
set_option linter.unusedSimpArgs false
set_option linter.unusedVariables false
end Go.Proofs.YtmkinaijkgkgiaaGreat
/- How a slice of pairs of integers that came in is opened. -/
namespace Go.Proofs.U
open Go.RowKit Go.ChangeShapes Go.WideShapes Go.ChangeAt

def pairC (k0 k1 : IntKind) (x : Int × Int) : List Value := [.int k0 x.1, .int k1 x.2]
def SlP (k0 k1 : IntKind) (w : World) (v : Value) (l : List (Int × Int)) : Prop := SlR (pairC k0 k1) 2 w v l ∧ ∀ x ∈ l, (Lit.int k0 x.1).wf = true ∧ (Lit.int k1 x.2).wf = true

end Go.Proofs.U
/- Parts of variables: an array of elements of one cell inside a bigger variable: its element's place, itself as a slice, cleared; no condition. -/
namespace Go.Proofs.U
open Go.RowKit
set_option linter.unusedSimpArgs false
set_option linter.unusedVariables false
/-- t is an array of n elements of type e, of one cell each. -/
structure Arr1 (P : Program) (t e : TypeId) (n : Nat) : Prop where
  und : P.underlying t = some (.array n e)
  size : (P.info? e).map (·.size) = some 1
  len : P.arrayLen t = n
  elem : P.elem t = e
section
variable {P : Program} {t e : TypeId} {n : Nat}
theorem Arr1.undL (T : Arr1 P t e n) : P.underlying t = some (.array (P.arrayLen t) (P.elem t)) := by rw [T.len, T.elem]; exact T.und
theorem run_idxOff (T : Arr1 P t e n) (w : World) (g off i : Nat) (hi : i < n) (k : IntKind) : (Instr.indexAt t (.pointer (some ⟨g, off, none⟩)) (.int k (i : Int))).run P w = .ok (.pointer (some ⟨g, off + i, none⟩)) w := by
  obtain ⟨ii, hii, hs⟩ := Option.map_eq_some_iff.1 T.size
  simp [Instr.indexAt, asIntOf, run_underlying T.und, hi, sizeOf, typeInfo, hii, hs, go_sem, Addr.plain]
theorem run_allOff (T : Arr1 P t e n) (hn : 0 < n) (w : World) (g off : Nat) : (Instr.sliceAt t (.pointer (some ⟨g, off, none⟩)) none none none).run P w = .ok (.slice (some ⟨g, off, none⟩) n n) w := by
  have h := run_sliceAt_array_all (P := P) w t ⟨g, off, none⟩ T.undL
  rw [h]
  obtain ⟨ii, hii, hsz⟩ := Option.map_eq_some_iff.1 T.size
  simp only [T.elem, sizeOf, typeInfo, T.len, slicedAt]
  have h3 : ¬ (n = 0) := by omega
  simp [hii, hsz, go_sem, Addr.plain, h3]
end
section
variable {P : Program} {t e : TypeId} {n : Nat} {w : World} {ops : Array Oper} {rest : List Oper} {o : Oper} {a : Act} {Q : Exit → Act → World → Prop}
theorem wpList_idxOff (T : Arr1 P t e n) (hgd : Region.wanted o (yielded ops a.tmps) = true) (x y : Operand) (ho : o.op = .indexAddr t x y) (g off : Nat) (hx : a.eval x = .pointer (some ⟨g, off, none⟩)) (k : IntKind) (z : Int) (i : Nat) (hy : a.eval y = .int k z) (hz : z = (i : Int)) (hi : i < n)
    (h : wpList P ops Q rest (a.put o.dst (.pointer (some ⟨g, off + i, none⟩))) w) : wpList P ops Q (o :: rest) a w := by
  refine wpList_wanted hgd fun K hK => ?_
  subst hz
  have hrun := run_idxOff T w g off i hi k
  unfold Oper.wp
  simp [execOp, ho, hx, hy, hrun, Result.andThen]
  exact hK _ _ h
theorem wpList_allOff (T : Arr1 P t e n) (hn : 0 < n) (hgd : Region.wanted o (yielded ops a.tmps) = true) (x : Operand) (ho : o.op = .slice t x none none none) (g off : Nat) (hx : a.eval x = .pointer (some ⟨g, off, none⟩))
    (h : wpList P ops Q rest (a.put o.dst (.slice (some ⟨g, off, none⟩) n n)) w) : wpList P ops Q (o :: rest) a w := by
  refine wpList_wanted hgd fun K hK => ?_
  have hr := run_allOff T hn w g off
  unfold Oper.wp
  simp [execOp, ho, hx, hr, Result.andThen]
  exact hK _ _ h
theorem at_clr (s : Operand) (t : TypeId) (_ho : o.op = .call { callee := .builtin .clear, args := #[s], argTypes := #[t] }) (h : wpList P ops Q (o :: rest) a w) : wpList P ops Q (o :: rest) a w := h
end
end Go.Proofs.U
