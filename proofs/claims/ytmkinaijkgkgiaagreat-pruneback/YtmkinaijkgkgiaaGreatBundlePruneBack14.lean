/- Texts H9, H10, H13, V6, V7, V11, V12, B5a, D5, E3, X13, X8, X14, OpenH, H14 of the proof of PruneBack, one behind the other. -/
import Derived.Lib.SlBytesConst
import Derived.Test.YtmkinaijkgkgiaaGreatRows
import Derived.Deep.MidRow
import Derived.Deep.RegionHeld3
import Derived.Deep.Matrix
import Derived.Deep.Strs
import Derived.Test.YtmkinaijkgkgiaaGreatBundlePruneBack1
import Derived.Test.YtmkinaijkgkgiaaGreatBundlePruneBack2
import Derived.Test.YtmkinaijkgkgiaaGreatBundlePruneBack3
import Derived.Test.YtmkinaijkgkgiaaGreatBundlePruneBack4
import Derived.Test.YtmkinaijkgkgiaaGreatBundlePruneBack5
import Derived.Test.YtmkinaijkgkgiaaGreatBundlePruneBack6
import Derived.Test.YtmkinaijkgkgiaaGreatBundlePruneBack7
import Derived.Test.YtmkinaijkgkgiaaGreatBundlePruneBack8
import Derived.Test.YtmkinaijkgkgiaaGreatBundlePruneBack9
import Derived.Test.YtmkinaijkgkgiaaGreatBundlePruneBack10
import Derived.Test.YtmkinaijkgkgiaaGreatBundlePruneBack11
import Derived.Test.YtmkinaijkgkgiaaGreatBundlePruneBack12
import Derived.Test.YtmkinaijkgkgiaaGreatBundlePruneBack13
/- A store: Reach. -/
namespace Go.Proofs.YtmkinaijkgkgiaaGreat
open Go.RowKit Go.Proofs.U Go.Shelf Go.Maps
set_option linter.unusedSimpArgs false
set_option linter.unusedVariables false
/-- A root is passed over, if it is none. -/
def rootF (get : Int → Nd × Int) (S : Int → Bool) (p : Int) : (Int → Bool) × Int := if p = -1 then (S, 0) else seeF get 241 S p
/-- Reach: what was seen, or the first error. -/
def reachF (get : Int → Nd × Int) (roots : List Int) : (Int → Bool) × Int := eachF (rootF get) (fun _ => false) roots
theorem nS_lt (S : Int → Bool) : nS S < 241 := by
  unfold nS
  have := List.countP_le_length (p := fun (i : Nat) => !S (i : Int)) (l := List.range 240)
  simp only [List.length_range] at this
  omega
def ReachIs (w w' : World) (R : (Int → Bool) × Int) (r : Ending) : Prop := ∃ u l, r = .returned (.tuple #[u, .int .i64 R.2]) ∧ (R.2 = 0 → SeenL R.1 l) ∧ SlI .i64 w' u l ∧ (∀ k, u.ownBlock = some k → w.heap.size ≤ k) ∧ Fr noB w w'
set_option maxRecDepth 100000 in
set_option maxHeartbeats 1000000 in
theorem reach_any {F : Nat → Prop} {gs gp : Nat} {X : DSt} {L : List Pg} {m : Nat} (hm : m ≤ 100000) (v : Value) (l : List Int) (hl : l.length ≤ 1000000) (w : World) (h : Sto w F gs gp X L m) (hv : SlI .i64 w v l) :
    Calls Tryz.prog 39 #[ptr gs, v] w fun r w' => ReachIs w w' (reachF (getF X L) l) r := by
  obtain ⟨a0, c0, rfl, hc0⟩ := hv.opn
  have hsee := fun gq (hq : w.heap.size ≤ gq) => see_any (F := F) (gs := gs) (gp := gp) (gq := gq) (X := X) (L := L) (m := m) hm (fun q => by have := h.ft gq q; omega) (by have := h.ltp; omega) (by have := h.lts; omega) 241
  have hlow := fun (S : Int → Bool) (p : Int) => seeF_low (X := X) (L := L) h.ok 241 (S := S) p
  unfold reachF
  obtain ⟨R, HR⟩ : ∃ R, Hid (eachF (rootF (getF X L)) (fun _ => false) l = R) := ⟨_, rfl⟩
  rw [HR.out]
  have ltp := h.ltp
  have lts := h.lts
  have hft := h.ft
  go_enter Tryz.func39, Tryz.ntmps39
  go_wp2_with (first
    | (with_reducible refine at_wpP ?_; refine wpList_mkMap rfl rfl ?_; intro gq w1 M1 f1 s1; have l1 := M1.lt))
  go_loopw [13] (fun i wr => ∃ (j : Nat) (t : Int → Bool), j ≤ l.length ∧ i = .int .i64 (j : Int) ∧ MapI wr gq t ∧ Low t ∧ Hid (eachF (rootF (getF X L)) t (l.drop j) = R) ∧ Fr noB w wr) (fun i _ => l.length - (intOf i).toNat)
  case atStart => exact ⟨0, _, Nat.zero_le _, rfl, M1, (fun x hx => by cases hx), HR, f1⟩
  case round =>
    obtain ⟨j, t, hj, rfl, hM, hLow, hA, hf⟩ := hrel
    by_cases hlt : j < l.length
    · obtain ⟨x, Hx⟩ : ∃ x, Hid (l[j] = x) := ⟨l[j], (rfl : l[j] = l[j])⟩
      have hxw : (Lit.int .i64 x).wf = true := hv.2 x (by rw [← Hx.out]; simp)
      have hv1 := (hv.fr0 hf).1
      have hlt' : (j : Int) < (l.length : Int) := by omega
      have hd : l.drop j = x :: l.drop (j + 1) := by rw [← Hx.out]; exact List.drop_eq_getElem_cons hlt
      rw [hd] at hA
      by_cases hx1 : x = -1
      · replace hA : Hid (eachF (rootF (getF X L)) t (l.drop (j + 1)) = R) := by
          show _ = _
          have e : rootF (getF X L) t x = (t, 0) := by unfold rootF; rw [if_pos hx1]
          rw [← hA.out, eachF_cons0 (by rw [e]), e]
        subst hx1
        go_wp2_with (first
          | (with_reducible refine at_wpP ?_; refine at_idx 52 _ _ rfl ?_; go_must (refine wpList_idx1 rfl 52 _ _ rfl 3 Tryz.underlying52 int_size1 (.slice a0 l.length c0) _ _ rfl hv1 .i64 (j : Int) j rfl rfl hlt ?_; intro pp u hu hcu; obtain rfl := getX hu hlt Hx.out)))
        go_roundw
        case rel => exact ⟨j + 1, t, by omega, by go_num, hM, hLow, hA, hf⟩
        case measure => simp [intOf]; omega
      · have hxb : (x == -1) = false := by simpa using hx1
        have hcx := hsee gq s1 t x wr (nS_lt t) hLow hxw (h.fr0 hf) hM
        have hlw := hlow t x hLow
        have e : rootF (getF X L) t x = seeF (getF X L) 241 t x := by unfold rootF; rw [if_neg hx1]
        obtain ⟨y, Hy⟩ : ∃ y, Hid (seeF (getF X L) 241 t x = y) := ⟨_, rfl⟩
        rw [Hy.out] at hcx hlw e
        replace e := show Hid _ from e
        by_cases h0 : y.2 = 0
        · replace hA : Hid (eachF (rootF (getF X L)) y.1 (l.drop (j + 1)) = R) := by show _ = _; rw [← hA.out, eachF_cons0 (by rw [e.out]; exact h0), e.out]
          obtain ⟨y1, y2⟩ := y
          simp only at h0 hA hcx hlw
          subst h0
          go_wp2_with (first
            | (with_reducible refine at_wpP ?_; refine at_idx 52 _ _ rfl ?_; go_must (refine wpList_idx1 rfl 52 _ _ rfl 3 Tryz.underlying52 int_size1 (.slice a0 l.length c0) _ _ rfl hv1 .i64 (j : Int) j rfl rfl hlt ?_; intro pp u hu hcu; obtain rfl := getX hu hlt Hx.out))
            | (go_at_call 62; go_must (refine hcx.mono ?_; rintro e w2 ⟨rfl, M2, f2⟩)))
          go_roundw
          case rel => exact ⟨j + 1, y1, by omega, by go_num, M2, hlw, hA, hf.thenT f2 (fun i hi q => by unfold onB1 at q; omega)⟩
          case measure => simp [intOf]; omega
        · replace hA : Hid (y = R) := by show _ = _; rw [← hA.out, eachF_cons1 (by rw [e.out]; exact h0), e.out]
          go_wp2_with (first
            | (with_reducible refine at_wpP ?_; refine at_idx 52 _ _ rfl ?_; go_must (refine wpList_idx1 rfl 52 _ _ rfl 3 Tryz.underlying52 int_size1 (.slice a0 l.length c0) _ _ rfl hv1 .i64 (j : Int) j rfl rfl hlt ?_; intro pp u hu hcu; obtain rfl := getX hu hlt Hx.out))
            | (go_at_call 62; go_must (refine hcx.mono ?_; rintro e w2 ⟨rfl, M2, f2⟩)))
          go_ret2
          rw [← hA.out]
          exact ⟨_, [], rfl, fun q => absurd q h0, SlI.nil _ _, (fun k hk => by cases hk), hf.thenT f2 (fun i hi q => by unfold onB1 at q; omega)⟩
    · obtain rfl : j = l.length := by omega
      replace hA : Hid ((t, (0 : Int)) = R) := by have := hA.out; rw [List.drop_length] at this; exact this
      have hlt' : ¬ (l.length : Int) < (l.length : Int) := by omega
      go_wp2_with (first
        | (go_at_call 64; go_must (refine (mkeys_any gq _).mono ?_; rintro e w2 ⟨g2, rfl, s2, b2, f2⟩; have M2 := hM.fr f2 (fun q => q); have z2 := f2.size))
        | (go_at_call 63; go_must (refine (sorted_any g2 gq t hLow _ b2 M2).mono ?_; rintro e w3 ⟨u, k, rfl, hS3, u3, o3, f3⟩)))
      go_ret2
      have zf := hf.size
      rw [← hA.out]
      exact ⟨_, k, rfl, fun _ => hS3, u3, (fun q hq => by have := o3 q hq; omega), (hf.thenN f2).thenN f3⟩
end Go.Proofs.YtmkinaijkgkgiaaGreat
/- nodesAlive, NodesNames. -/
namespace Go.Proofs.YtmkinaijkgkgiaaGreat
open Go.RowKit Go.Proofs.U Go.Shelf Go.Maps
set_option linter.unusedSimpArgs false
set_option linter.unusedVariables false
section
variable {w : World} {ops : Array Oper} {rest : List Oper} {o : Oper} {a : Act} {Q : Exit → Act → World → Prop}
theorem wpList_blkC {n : Int} (hgd : Region.wanted o (yielded ops a.tmps) = true) (ho : o.op = .build 70 #[(0, .const (.int .u8 n))]) (C : List Int) (hb : Tryz.prog.built 70 [(0, .int .u8 n)] = some (pgv C).toArray)
    (h : wpList Tryz.prog ops Q rest (a.put o.dst (pgV C)) w) : wpList Tryz.prog ops Q (o :: rest) a w := by
  refine wpList_wanted hgd fun K hK => ?_
  have hrun := run_build (P := Tryz.prog) w 70 #[(0, .int .u8 n)] _ hb
  unfold Oper.wp
  have hc : a.eval (.const (.int .u8 n)) = .int .u8 n := rfl
  simp [execOp, ho, hc, hrun, Result.andThen]
  exact hK _ _ h
end
theorem built_ndB (k : Int) (b : List Int) (hb : b.length = 16) : Tryz.prog.built 72 [(0, .int .i64 k), (1, pgV b)] = some (ndL k b nilS).toArray := by
  rw [built_struct _ _ nd_struct _ nd_zero _ nd_places]
  rw [fill_put _ _ 0 0 1 (.int .i64 k) [.int .i64 k] rfl rfl rfl (by decide)]
  rw [fill_put _ _ 1 1 16 (pgV b) (pgv b) rfl rfl (by rw [pgv_len, hb]) (by simp [putAt, ndL, pgv, zerB])]
  unfold Instr.fill
  congr 2
  unfold putAt ndL
  simp [pgv_len, hb, pgv, zerB]
end Go.Proofs.YtmkinaijkgkgiaaGreat
/- What NodesBack may read of a store, plain. -/
namespace Go.Proofs.YtmkinaijkgkgiaaGreat
open Go.RowKit Go.Proofs.U
set_option linter.unusedSimpArgs false
set_option linter.unusedVariables false
theorem rdN_write {X : DSt} {N m : Nat} (h : Up X N m) {p : Int} (h0 : 0 ≤ p) (h1 : p < (N : Int)) {n : Nd} (hr : n.right = true) (ho : n.ok) {r : Int} (r0 : 0 ≤ r) (r1 : r < (N : Int)) :
    rdN (X.write (p + 4) n.page) r = if r = p then (n, 0) else rdN X r := by
  unfold rdN
  rw [(h.write h0 h1 (page_len hr ho.1) (page_byt hr ho)).2.2 r r0 r1]
  split
  · exact opN_own hr ho
  · rfl
theorem hold_cases (L : List Pg) (p : Int) : (plHeld L p = false ∧ plHold L p = (L, 73)) ∨ (plHeld L p = true ∧ (plAt L p.toNat).c = 255 ∧ plHold L p = (L, 72)) ∨
    (plHeld L p = true ∧ ¬ (plAt L p.toNat).c = 255 ∧ plHold L p = (L.set p.toNat ⟨(plAt L p.toNat).c + 1, (plAt L p.toNat).s⟩, 0)) := by
  unfold plHeld plHold
  cases h : (plIn L p && (plAt L p.toNat).held) with
  | false => exact Or.inl ⟨rfl, by rw [if_neg (by simp)]⟩
  | true =>
    by_cases hc : (plAt L p.toNat).c = 255
    · exact Or.inr (Or.inl ⟨rfl, hc, by rw [if_pos rfl, if_pos hc]⟩)
    · exact Or.inr (Or.inr ⟨rfl, hc, by rw [if_pos rfl, if_neg hc]⟩)
theorem hold_keeps {L : List Pg} (hL : plOk L) (q p : Int) : plHeld (plHold L q).1 p = plHeld L p := by
  rcases hold_cases L q with ⟨_, e⟩ | ⟨_, _, e⟩ | ⟨hh, hc, e⟩
  · rw [e]
  · rw [e]
  · rw [e]
    obtain ⟨j, rfl, hj⟩ := plHeld_in hh
    simp only [Int.toNat_natCast] at *
    unfold plHeld plIn
    rw [List.length_set]
    congr 1
    rw [plAt_set _ _ _ _ hj]
    by_cases hp : p.toNat = j
    · rw [if_pos hp, hp]
      have h0 := (hL.2 j).1
      have h2 : plHeld L (j : Int) = true := hh
      unfold plHeld at h2
      simp only [Bool.and_eq_true, Int.toNat_natCast] at h2
      rw [h2.2]
      unfold Pg.held
      simp
      omega
    · rw [if_neg hp]
theorem eachHold_keeps (l : List Int) {L : List Pg} (hL : plOk L) (p : Int) : plHeld (eachF plHold L l).1 p = plHeld L p :=
  (eachF_inv (I := fun M => plOk M ∧ plHeld M p = plHeld L p) (fun M q h => ⟨hold_ok h.1 q, by rw [hold_keeps h.1]; exact h.2⟩) l L ⟨hL, rfl⟩).2
theorem eachHold_err : ∀ (l : List Int) {L : List Pg}, plOk L → (∀ q ∈ l, plHeld L q = true) → (eachF plHold L l).2 = 0 ∨ (eachF plHold L l).2 = 72
  | [], L, _, _ => Or.inl rfl
  | q :: l, L, hL, h => by
    by_cases h0 : (plHold L q).2 = 0
    · rw [eachF_cons0 h0]
      exact eachHold_err l (hold_ok hL q) (fun x hx => by rw [hold_keeps hL]; exact h x (by simp [hx]))
    · rw [eachF_cons1 h0]
      have hq := h q (by simp)
      rcases hold_cases L q with ⟨e, _⟩ | ⟨_, _, e⟩ | ⟨_, _, e⟩
      · rw [e] at hq; cases hq
      · rw [e]; exact Or.inr rfl
      · rw [e] at h0; exact absurd rfl h0
theorem held_set {L : List Pg} {k : Nat} (hk : k < L.length) (x : Pg) (p : Int) : plHeld (L.set k x) p = if p = (k : Int) then x.held else plHeld L p := by
  unfold plHeld plIn
  rw [List.length_set, plAt_set _ _ _ _ hk]
  by_cases hp : p = (k : Int)
  · subst hp
    simp [hk]
  · rw [if_neg hp]
    by_cases h0 : 0 ≤ p
    · rw [if_neg (by omega)]
    · have : decide (0 ≤ p) = false := by simpa using h0
      rw [this]; rfl
theorem free_not_held {L : List Pg} {k : Nat} (h : (plAt L k).free = true) : plHeld L (k : Int) = false := by
  unfold plHeld
  unfold Pg.free at h
  simp only [Bool.and_eq_true, beq_iff_eq] at h
  have : (plAt L k).held = false := by unfold Pg.held; simp [h.1, h.2]
  rw [Int.toNat_natCast, this]
  simp
theorem free_none {L : List Pg} (h : plFree L = 0) : plTake L = (L, 0, 71) := by
  rcases plTake_cases L with ⟨k, hk, hf, _, _⟩ | ⟨_, e⟩
  · unfold plFree at h
    rw [List.countP_eq_zero] at h
    exact absurd (by rw [← plAt_get L k hk]; exact hf) (h L[k] (by simp))
  · exact e
theorem free_some {L : List Pg} (h : ¬ plFree L = 0) : ∃ k, k < L.length ∧ (plAt L k).free = true ∧ plTake L = (L.set k ⟨0, 1⟩, (k : Int), 0) := by
  rcases plTake_cases L with ⟨k, hk, hf, _, e⟩ | ⟨hn, _⟩
  · exact ⟨k, hk, hf, e⟩
  · refine absurd ?_ h
    unfold plFree
    rw [List.countP_eq_zero]
    intro x hx
    obtain ⟨j, hj, rfl⟩ := List.mem_iff_getElem.1 hx
    have := hn j hj
    rw [plAt_get L j hj] at this
    simp [this]
theorem makeB_full (X : DSt) {L : List Pg} {n : Nd} (h : n.right = true) (ha : (kids n).any (fun p => !plHeld L p) = false) (hf : plFree L = 0) : makeF X L n = ((X, L), -1, 71) := by
  unfold makeF
  rw [h, ha, free_none hf]
  rfl
end Go.Proofs.YtmkinaijkgkgiaaGreat
/- Both slots' pages as one value; newestOf and topOf of package root. -/
namespace Go.Proofs.YtmkinaijkgkgiaaGreat
open Go.RowKit Go.Proofs.U
set_option linter.unusedSimpArgs false
set_option linter.unusedVariables false
def pp (p q : List Int) : List Value := pgv p ++ pgv q
section
variable {w : World} {ops : Array Oper} {rest : List Oper} {o : Oper} {a : Act} {Q : Exit → Act → World → Prop}
end

end Go.Proofs.YtmkinaijkgkgiaaGreat
/- slots of package root. -/
namespace Go.Proofs.YtmkinaijkgkgiaaGreat
open Go.RowKit Go.Proofs.U
set_option linter.unusedSimpArgs false
set_option linter.unusedVariables false
/-- All pages, and all that is pending, are bytes. -/
def DSt.byt (X : DSt) : Prop := (∀ p ∈ X.pages, Byt p) ∧ ∀ x ∈ X.pend, Byt x.2
section
variable {w : World} {ops : Array Oper} {rest : List Oper} {o : Oper} {a : Act} {Q : Exit → Act → World → Prop}
end
section
variable {w : World} {ops : Array Oper} {rest : List Oper} {o : Oper} {a : Act} {Q : Exit → Act → World → Prop}
end
end Go.Proofs.YtmkinaijkgkgiaaGreat
/- Roots, plain: what is written is read; what is torn is no root; the greatest generation. -/
namespace Go.Proofs.YtmkinaijkgkgiaaGreat
open Go.RowKit Go.Proofs.U
set_option linter.unusedSimpArgs false
set_option linter.unusedVariables false

/-- What newest tells. -/
theorem newest_cases (p q : List Int) :
    ((rootOf q).1 % 2 = 1 ∧ newest p q = rootOf q ∧ (0 ≤ (rootOf p).1 → 0 < (rootOf q).1)) ∨ ((rootOf p).1 % 2 = 0 ∧ 0 < (rootOf p).1 ∧ newest p q = rootOf p) ∨ newest p q = (0, []) := by
  unfold newest
  generalize rootOf p = a
  generalize rootOf q = b
  by_cases c1 : a.1 % 2 = 0 ∧ 0 < a.1
  · by_cases c2 : b.1 % 2 = 1 ∧ a.1 < b.1
    · simp only [c1, c2, and_self, if_true, true_and]
      exact Or.inl (fun h => by omega)
    · simp only [c1, and_self, if_true, if_neg c2, true_and]
      exact Or.inr (Or.inl trivial)
  · by_cases c2 : b.1 % 2 = 1 ∧ (0 : Int) < b.1
    · simp only [if_neg c1, c2, and_self, if_true, true_and]
      exact Or.inl (fun _ => trivial)
    · simp only [if_neg c1, if_neg c2]
      exact Or.inr (Or.inr trivial)
theorem newest_zero {p q : List Int} (h : (newest p q).1 = 0) (hb : Byt p) (hc : Byt q) : newest p q = (0, []) := by
  have h1 := rootOf_bd hb
  rcases newest_cases p q with ⟨_, h2, h3⟩ | ⟨_, h2, h3⟩ | h2
  · rw [h2] at h
    have := h3 h1.1
    omega
  · rw [h3] at h; omega
  · exact h2
end Go.Proofs.YtmkinaijkgkgiaaGreat
/- A disk of two pages, plain: what a Write makes of it, cut off or not; what is read behind a crash. -/
namespace Go.Proofs.YtmkinaijkgkgiaaGreat
open Go.RowKit Go.Proofs.U
set_option linter.unusedSimpArgs false
set_option linter.unusedVariables false

/-- Both slots, nothing pending, nothing bad. -/
structure Two (X : DSt) (p q : List Int) : Prop where
  pages : X.pages = [p, q]
  pend : X.pend = []
  bad : ∀ i, X.bad i = false
  lp : p.length = 256
  lq : q.length = 256
  bp : Byt p
  bq : Byt q
section
variable {X : DSt} {p q : List Int}
theorem Two.read0 (h : Two X p q) : readP X 0 = (p, 0) := by
  unfold readP
  rw [h.pages, h.pend, h.bad]
  rfl
theorem Two.read1 (h : Two X p q) : readP X 1 = (q, 0) := by
  unfold readP
  rw [h.pages, h.pend, h.bad]
  rfl
theorem Two.re (h : Two X p q) : rdE X = 0 := by unfold rdE; rw [h.read0, h.read1]; rfl
theorem Two.nw (h : Two X p q) : nwst X = newest p q := by unfold nwst; rw [h.read0, h.read1]
theorem Two.byt (h : Two X p q) : X.byt := by
  refine ⟨?_, by rw [h.pend]; simp⟩
  rw [h.pages]
  intro r hr
  simp at hr
  rcases hr with rfl | rfl
  · exact h.bp
  · exact h.bq
theorem Two.rd (h : Two X p q) : rRead X = ((newest p q).2, (newest p q).1, if (newest p q).1 = 0 then 51 else 0) := by
  unfold rRead
  rw [h.re, h.nw, if_pos rfl]
  by_cases h0 : (newest p q).1 = 0
  · have := newest_zero h0 h.bp h.bq
    rw [this]; rfl
  · rw [if_neg h0, if_neg h0]
end

section
variable {X : DSt} {p q : List Int}
end
end Go.Proofs.YtmkinaijkgkgiaaGreat
/- Rows of the call's own making: one element read, one stored; no condition. -/
namespace Go.Proofs.U
open Go.RowKit

theorem OwnI.some {k : IntKind} {e : TypeId} {w : World} {base : Nat} {v : Value} {l : List Int} (h : OwnI k e w base v l) (hl : 0 < l.length) :
    ∃ g cap cur, v = .slice (Option.some ⟨g, 0, none⟩) l.length cap ∧ base ≤ g ∧ w.heap[g]? = Option.some (.cells cur e (0, 0)) ∧ l.length ≤ cap ∧ cap ≤ maxLen ∧ cur.size = cap ∧ cur.toList.take l.length = l.map (Value.int k) := by
  rcases h.2 with ⟨_, hn⟩ | ⟨g, cap, cur, hv, h1, h2, h3, h4, h5, h6⟩
  · omega
  · exact ⟨g, cap, cur, hv, h1, h2, h3, h4, by simpa using h5, by simpa using h6⟩

end Go.Proofs.U
/- The walk of CrcJoin: it answers true for any three byte lists. -/
namespace Go.Proofs.YtmkinaijkgkgiaaGreat
open Go.RowKit Go.Proofs.U
set_option linter.unusedSimpArgs false
set_option linter.unusedVariables false

/-- the parts so far, zeros behind them. -/
def part (M : List Int) (k : Nat) : List Int := M.take k ++ List.replicate (M.length - k) 0
end Go.Proofs.YtmkinaijkgkgiaaGreat
/- Contract of the document's own sum. -/
namespace Go.Proofs.YtmkinaijkgkgiaaGreat
open Go.RowKit Go.Proofs.U
set_option linter.unusedSimpArgs false
set_option linter.unusedVariables false

def ones (k : Nat) : List Bool := List.replicate k true ++ List.replicate (32 - k) false
end Go.Proofs.YtmkinaijkgkgiaaGreat
/- The document's Open. (Written by x13_gen.py.) -/
namespace Go.Proofs.YtmkinaijkgkgiaaGreat
open Go.RowKit Go.Proofs.U
set_option linter.unusedSimpArgs false
set_option linter.unusedVariables false
section
variable {w : World} {ops : Array Oper} {rest : List Oper} {o : Oper} {a : Act} {Q : Exit → Act → World → Prop}
end
/-- Where things lie, while the document's entries are read. -/
structure RS8 (w : World) (g1 g2 g4 B : Nat) : Prop where
  a0 : w.heap.size ≤ g1
  a1 : w.heap.size ≤ g2
  a2 : g1 < g4
  a3 : g2 < g4
  a4 : g4 < B
section
variable {w : World} {g1 g2 g4 B : Nat} {p : List Int} {K : Int} {W W' : World} {u v : Value} {L : List (Int × Int)}
end

end Go.Proofs.YtmkinaijkgkgiaaGreat
/- At of package leaf: slices.Backward over entries. -/
namespace Go.Proofs.YtmkinaijkgkgiaaGreat
open Go.RowKit Go.Shelf Go.Proofs.U
attribute [local go_sem] Oper.semAt_some
set_option linter.unusedSimpArgs false
set_option linter.unusedVariables false

abbrev Ix := Int × (Int × Int)
def bkE (zs : List (Int × Int)) (j : Nat) : Ix := (((zs.length : Int) - 1 - j), zs[zs.length - 1 - j]?.getD (0, 0))
abbrev encY (x : Ix) : Array Value := #[.int .i64 x.1, enV x.2]

set_option maxRecDepth 100000 in
set_option maxHeartbeats 2000000 in
theorem bke1_in (F : Fence) (n : Nat) (h7 : F.fn 94) (hro : F.round = none) (hn : 1 ≤ n) (l Bs n₀ b off cap : Nat) (zs : List (Int × Int)) (hreach : zs.length ≤ 1000) (hb : b < n₀) (hBs : Bs < n₀) (J Jx : List Ix → World → Prop)
    (hY : ∀ pre x W, J pre W → pre.length < zs.length → YieldAt F (n - 1) Tryz.prog l (encY x) W fun e W' =>
      (e = .returned (.bool true) ∧ J (pre ++ [x]) W' ∧ Below n₀ W W') ∨ (e = .returned (.bool false) ∧ Jx (pre ++ [x]) W'))
    (W : World) (hc0 : W.cell? ⟨Bs, 0, none⟩ = some (.slice (some ⟨b, off, none⟩) zs.length cap)) (hc : ∀ j (hj : j < zs.length) q u, (enC zs[j])[q]? = some u → W.cell? ⟨b, off + j * 2 + q, none⟩ = some u) (h0 : J [] W) :
    CallsIn F n Tryz.prog 94 #[.func (.yield l) #[] #[], .pointer (some ⟨Bs, 0, none⟩)] W fun e W' => (∃ v, e = .returned v) ∧
      ((∃ ys, ys = uptoL (bkE zs) zs.length ∧ J ys W') ∨ (∃ pre, (∃ k, k ≤ zs.length ∧ pre = uptoL (bkE zs) k) ∧ Jx pre W')) := by
  refine callsIn_of_wp Tryz.func94 rfl h7 ?_ hro
  simp only [Tryz.ntmps94, List.size_toArray, List.length_cons, List.length_nil, Nat.reduceAdd, Nat.reduceSub, Array.replicate_succ, Array.replicate_zero, List.push_toArray, List.append_toArray, List.nil_append, List.cons_append]
  gi_wp2
  gi_loopw [3] (fun i wr => ∃ k : Nat, k ≤ zs.length ∧ i = .int .i64 ((zs.length : Int) - 1 - k) ∧ J (uptoL (bkE zs) k) wr ∧ Below n₀ W wr)
    (fun i _ => (intOf i + 1).toNat)
  case atStart => exact ⟨0, Nat.zero_le _, by simp, h0, Below.refl _ _⟩
  case round =>
    obtain ⟨k, hk, rfl, hJs, hnx⟩ := hrel
    have hc0' := (hnx.cell (p := ⟨Bs, 0, none⟩) hBs).trans hc0
    by_cases hlt : k < zs.length
    · obtain ⟨fn, tmps, assign, body, hy, hR⟩ := hY _ (bkE zs k) wr hJs (by rw [uptoL_length]; exact hlt)
      dsimp only [bkE, encY] at hy
      obtain ⟨j, Hj⟩ : ∃ j, Hid (zs.length - 1 - k = j) := ⟨_, rfl⟩
      have hjl : j < zs.length := by rw [← Hj.out]; omega
      have hji : (zs.length : Int) - 1 - k = (j : Int) := by rw [← Hj.out]; omega
      rw [Hj.out, hji] at hy
      rw [hji]
      have hgz : zs[j]?.getD (0, 0) = zs[j] := by simp [hjl]
      rw [hgz] at hy
      obtain ⟨x, Hx⟩ : ∃ x, Hid (zs[j] = x) := ⟨_, (rfl : zs[j] = zs[j])⟩
      have hrg : ∀ q u, (enC x)[q]? = some u → wr.cell? ⟨b, off + j * 2 + q, none⟩ = some u := by
        intro q v hq
        rw [← Hx.out] at hq
        exact (hnx.cell (p := ⟨b, off + j * 2 + q, none⟩) hb).trans (hc j hjl q v hq)
      rw [Hx.out] at hy
      have hri : ∀ W, (Instr.indexAt 31 (.slice (some ⟨b, off, none⟩) zs.length cap) (.int .i64 (j : Int))).run Tryz.prog W = .ok (.pointer (some ⟨b, off + j * 2, none⟩)) W := fun W => run_idxS _ 40 Tryz.underlying31 en_size b off zs.length cap .i64 j hjl
      have hrl : (Instr.loadAt 40 (.pointer (some ⟨b, off + j * 2, none⟩))).run Tryz.prog wr = .ok (enV x) wr := run_ldE wr b (off + j * 2) x hrg
      have hi1 : (0 : Int) ≤ (j : Int) := by omega
      gi_wp2_with (first | (refine at_ldI 40 _ rfl ?_; go_must (refine wpListIn_ld rfl 40 _ rfl _ _ rfl hrl ?_)))
      refine hR.mono ?_
      rintro e W3 (⟨rfl, hJ3, hk3⟩ | ⟨rfl, hJx3⟩)
      · gi_wp2
        go_roundw
        case rel => exact ⟨k + 1, by omega, by go_num, by rw [uptoL_succ]; exact hJ3, hnx.trans hk3⟩
        case measure => simp [intOf]
      · gi_wp2
        refine bodyPost_ret (results_none rfl _ _ _) rfl ?_
        exact ⟨⟨_, rfl⟩, .inr ⟨_, ⟨k + 1, by omega, (uptoL_succ _ _).symm⟩, hJx3⟩⟩
    · obtain rfl : k = zs.length := by omega
      gi_wp2
      go_end0
      exact ⟨⟨_, rfl⟩, .inl ⟨_, rfl, hJs⟩⟩

set_option maxRecDepth 100000 in
set_option maxHeartbeats 1000000 in
theorem bke1_nil_in (F : Fence) (n : Nat) (h7 : F.fn 94) (hro : F.round = none) (l Bs : Nat) (a : Option Addr) (cap : Nat) (J : List Ix → World → Prop) (W : World) (hBs : W.cell? ⟨Bs, 0, none⟩ = some (.slice a 0 cap)) (h0 : J [] W) :
    CallsIn F n Tryz.prog 94 #[.func (.yield l) #[] #[], .pointer (some ⟨Bs, 0, none⟩)] W fun e W' => (∃ v, e = .returned v) ∧ J [] W' := by
  refine callsIn_of_wp Tryz.func94 rfl h7 ?_ hro
  simp only [Tryz.ntmps94, List.size_toArray, List.length_cons, List.length_nil, Nat.reduceAdd, Nat.reduceSub, Array.replicate_succ, Array.replicate_zero, List.push_toArray, List.append_toArray, List.nil_append, List.cons_append]
  gi_wp2
  gi_loopw [3] (fun i wr => i = .int .i64 (-1) ∧ J [] wr) (fun _ _ => 0)
  case atStart => exact ⟨rfl, h0⟩
  case round =>
    obtain ⟨rfl, hJs⟩ := hrel
    gi_wp2
    go_end0
    exact ⟨⟨_, rfl⟩, hJs⟩

theorem bke_any (a : Option Addr) (len cap : Nat) (w : World) :
    Calls Tryz.prog 75 #[.slice a len cap] w fun e w' => e = .returned (.func (.func 94) #[] #[.pointer (some ⟨w.heap.size, 0, none⟩)]) ∧ w' = w.alloc (.cells #[.slice a len cap] 31) := by
  go_enter Tryz.func75, Tryz.ntmps75
  go_wp2
  go_ret
  exact ⟨rfl, rfl⟩

/-- slices.Backward over entries that lie below n₀: for every body that keeps all there. -/
theorem bke_stops (F : Fence) (n : Nat) (h7 : F.fn 94) (hro : F.round = none) (hn : 1 ≤ n) (Bs : Nat) (sv : Value) (zs : List (Int × Int)) (hreach : zs.length ≤ 1000) (w : World) (hBs : Bs < w.heap.size)
    (hc : w.cell? ⟨Bs, 0, none⟩ = some sv) (hI : SlP .i64 .i64 w sv zs) :
    SeqStopsK F n Tryz.prog 94 #[.pointer (some ⟨Bs, 0, none⟩)] encY (Below w.heap.size) (fun ys => ys = uptoL (bkE zs) zs.length)
      (fun pre => ∃ k, k ≤ zs.length ∧ pre = uptoL (bkE zs) k) zs.length w := fun l J Jx W hW _ _ hY h0 => by
  have hc' := (hW.cell (p := ⟨Bs, 0, none⟩) hBs).trans hc
  have hI' := hI.1.fr0 (Fr.of_below hW)
  by_cases hz : zs.length = 0
  · obtain ⟨a0, c0, rfl, _⟩ := hI.1.opn
    rw [hz] at hc'
    refine (bke1_nil_in F n h7 hro l Bs a0 c0 J W hc' h0).mono fun e W' ⟨he, hj⟩ => ⟨he, .inl ⟨[], ?_, hj⟩⟩
    simp [uptoL, hz]
  · obtain ⟨b, off, cap', rfl, hcells⟩ := SlR.addr hI.1 (by decide) (by omega)
    have hbw : b < w.heap.size := World.block_lt_of_cell? w _ (hcells 0 (by omega) 0 _ rfl)
    refine bke1_in F n h7 hro hn l Bs w.heap.size b off cap' zs hreach hbw hBs J Jx hY W hc' (fun j hj q u hq => ?_) h0
    exact (hW.cell (p := ⟨b, off + j * 2 + q, none⟩) hbw).trans (hcells j hj q u hq)

/-- The place of the last entry whose key isn't above. -/
def AtIs (l : List (Int × Int)) (key at' : Int) : Prop := -1 ≤ at' ∧ at' < l.length ∧ ∀ (j : Nat) (hj : j < l.length), (at' < (j : Int) → key < l[j].1) ∧ ((j : Int) = at' → l[j].1 ≤ key)
/-- Between two rounds of At. -/
def AI (key : Int) (W0 : World) (pre : List Ix) (W : World) : Prop := (∀ x ∈ pre, key < x.2.1) ∧ Fr noB W0 W
def AX (key : Int) (g4 : Nat) (W0 : World) (c : Code) (pre : List Ix) (W : World) : Prop :=
  c = .ret ∧ ∃ pre' x, pre = pre' ++ [x] ∧ (∀ y ∈ pre', key < y.2.1) ∧ x.2.1 ≤ key ∧ BxV W g4 3 [.int .i64 x.1] ∧ Fr (onB1 g4) W0 W
theorem AI_own (key : Int) (W0 : World) : OwnFrom W0.heap.size (AI key W0) := fun s W W' row hs hg hr => ⟨hs.1, ownFrom_frN (β := Unit) (Nat.le_refl _) () W W' row hs.2 hg hr⟩
theorem AX_own {key : Int} {g4 : Nat} {W0 : World} (c : Code) (h4 : g4 < W0.heap.size) : OwnFrom W0.heap.size (AX key g4 W0 c) := by
  rintro s W W' row ⟨hc, pre', x, h1, h2, h3, h4', h6⟩ hg hr
  refine ⟨hc, pre', x, h1, h2, h3, ?_, ownFrom_frN (β := Unit) (Nat.le_refl _) () W W' row h6 hg hr⟩
  exact (hg.block g4 h4'.lt (fun q => by have := (hr g4 q.symm).1; omega)).trans h4'
theorem at_hit (zs : List (Int × Int)) (key : Int) {pre pre' : List Ix} {x : Ix} (hSp : ∃ k, k ≤ zs.length ∧ pre = uptoL (bkE zs) k) (hpre : pre = pre' ++ [x]) (hno : ∀ y ∈ pre', key < y.2.1) (hhit : x.2.1 ≤ key) : AtIs zs key x.1 := by
  obtain ⟨k, hk, rfl⟩ := hSp
  have hlen : k = pre'.length + 1 := by have := congrArg List.length hpre; rw [uptoL_length] at this; simpa using this
  subst hlen
  rw [uptoL_succ] at hpre
  obtain ⟨hp1, hp2⟩ := List.append_inj hpre (by rw [uptoL_length])
  have hx : bkE zs pre'.length = x := by simpa using hp2
  obtain ⟨j, Hj⟩ : ∃ j, zs.length - 1 - pre'.length = j := ⟨_, rfl⟩
  have hj : j < zs.length := by omega
  have hxz : x.2 = zs[j] := by rw [← hx]; unfold bkE; simp only; rw [Hj]; simp [hj]
  have hx1 : x.1 = (j : Int) := by rw [← hx]; unfold bkE; simp only; omega
  refine ⟨by omega, by omega, fun q hq => ⟨fun h => ?_, fun h => ?_⟩⟩
  · have hmem : bkE zs (zs.length - 1 - q) ∈ pre' := by
      rw [← hp1]; unfold uptoL
      exact List.mem_map.2 ⟨zs.length - 1 - q, by simp; omega, rfl⟩
    have := hno _ hmem
    unfold bkE at this
    rw [show zs.length - 1 - (zs.length - 1 - q) = q by omega] at this
    simp [hq] at this
    omega
  · have : q = j := by omega
    subst this
    rw [← hxz]; exact hhit
theorem at_miss (zs : List (Int × Int)) (key : Int) (hno : ∀ y ∈ uptoL (bkE zs) zs.length, key < y.2.1) : AtIs zs key (-1) := by
  refine ⟨by omega, by omega, fun q hq => ⟨fun h => ?_, fun h => by omega⟩⟩
  have hmem : bkE zs (zs.length - 1 - q) ∈ uptoL (bkE zs) zs.length := by
    unfold uptoL
    exact List.mem_map.2 ⟨zs.length - 1 - q, by simp; omega, rfl⟩
  have := hno _ hmem
  unfold bkE at this
  rw [show zs.length - 1 - (zs.length - 1 - q) = q by omega] at this
  simp [hq] at this
  omega
theorem int_zero : (Tryz.prog.info? 3).map (·.zero) = some (some (.int .i64 0)) := by kernel_rfl
theorem int_size : (Tryz.prog.info? 3).map (·.size) = some 1 := by kernel_rfl
theorem results_int {fn : Func} {q : Tmp} (h : fn.results = #[.cell q 3]) (tmps : Array Value) (w : World) (g : Nat) (x : Int) (hq : tmps.getD q undef = .pointer (some ⟨g, 0, none⟩)) (hB : w.cell? ⟨g, 0, none⟩ = some (.int .i64 x)) :
    (results fn tmps).run Tryz.prog w = .ok (.int .i64 x) w := by
  have hr2 : (loadVar 3 ⟨g, 0, none⟩).run Tryz.prog w = .ok (.int .i64 x) w := by simp [go_sem, hB]
  simp only [results, h]
  simp [Sem.run_bind, Result.andThen]
  have hq' : tmps[q]?.getD undef = .pointer (some ⟨g, 0, none⟩) := by simpa using hq
  simp [hq', asAddr, hr2]

set_option maxRecDepth 100000 in
set_option maxHeartbeats 2000000 in
theorem at_any (v : Value) (l : List (Int × Int)) (key : Int) (w : World) (hs : SlP .i64 .i64 w v l) (hm : l.length ≤ 1000) :
    Calls Tryz.prog 54 #[v, .int .i64 key] w fun r w' => ∃ at', r = .returned (.int .i64 at') ∧ AtIs l key at' ∧ Fr noB w w' := by
  have hS := hs
  obtain ⟨a0, c0, rfl, hc0⟩ := hs.1.opn
  refine (callsIn_wide (n := 5)).1 ?_
  refine callsIn_of_wp_marks Tryz.func54 rfl trivial ?_ rfl
  simp only [Tryz.ntmps54, List.size_toArray, List.length_cons, List.length_nil, Nat.reduceAdd, Nat.reduceSub, Array.replicate_succ, Array.replicate_zero, List.push_toArray, List.append_toArray, List.nil_append, List.cons_append]
  refine wpIn_wide.2 ?_
  go_wp2_with (first
    | (with_reducible refine at_wpP ?_; refine wpList_boxG rfl 3 _ rfl (.int .i64 key) [.int .i64 key] rfl rfl ?_; intro g3 w3 hg3 b3 f3 s3; have l3 := b3.lt; have z3 := f3.size)
    | (with_reducible refine at_wpP ?_; refine wpList_allocG rfl 3 rfl (.int .i64 0) [.int .i64 0] int_zero rfl ?_; intro g4 w4 hg4 b4 f4 s4; have l4 := b4.lt; have z4 := f4.size)
    | (go_at_call 75; go_must (refine (bke_any _ _ _ _).mono ?_; rintro e w7 ⟨rfl, rfl⟩)))
  obtain ⟨W0, hW0⟩ : ∃ W0, w4.alloc (.cells #[.slice a0 l.length c0] 31) = W0 := ⟨_, rfl⟩
  have hsz0 : W0.heap.size = w4.heap.size + 1 := by rw [← hW0]; simp
  have f70 : Fr noB w4 W0 := by rw [← hW0]; exact (Fr.refl _ _).alloc _
  have hbx0 : W0.cell? ⟨w4.heap.size, 0, none⟩ = some (.slice a0 l.length c0) := by rw [← hW0]; simp
  have F7 : Fr noB w W0 := (f3.thenN f4).thenN f70
  have hsl0 : SlP .i64 .i64 W0 (.slice a0 l.length c0) l := ⟨hS.1.fr0 F7, hS.2⟩
  have d3 := (b3.fr0 f4).fr0 f70
  have d4 := b4.fr0 f70
  have hg4W : g4 < W0.heap.size := d4.lt
  have hg3W : g3 < W0.heap.size := d3.lt
  have q3' : W0.cell? ⟨g3, 0, none⟩ = some (.int .i64 key) := (d3.cell 0 _ rfl).1
  have z7 := F7.size
  rw [hW0]
  refine (wpIn_wide (n := 5)).1 ?_
  refine wpIn_rangeFunc_ownH (F := Fence.wide) rfl (by omega) (gf := 94) (lb := #[.pointer (some ⟨w4.heap.size, 0, none⟩)]) rfl trivial (enters_of Tryz.func94 (by kernel_rfl) rfl)
    (bke_stops Fence.wide (5 - 1) trivial rfl (by omega) w4.heap.size _ l hm W0 (by omega) hbx0 hsl0) (fun h k => h.trans k) (fun W l o o' hl ho h1 h2 => belowK_b (w := W0) (Nat.le_refl _) W l o o' hl ho h1 h2) (Below.refl _ _) (fun _ => rfl)
    (AI key W0) (AX key g4 W0) (AI_own key W0) (fun c => AX_own c hg4W) ⟨by simp, Fr.refl _ _⟩
    (fun x a' W => ∃ gx, BxV W gx 40 (enC x.2) ∧ W0.heap.size ≤ gx ∧ a' = { tmps := #[.slice a0 l.length c0, .int .i64 key, undef, .pointer (some ⟨g3, 0, none⟩), .pointer (some ⟨g4, 0, none⟩), .int .i64 x.1, .pointer (some ⟨gx, 0, none⟩), .slice a0 l.length c0, .func (.func 94) #[] #[.pointer (some ⟨w4.heap.size, 0, none⟩)], .int .i64 x.1, enV x.2, undef, undef, undef, undef, undef], defers := [] })
    ?hAx ?assign ?body ?done ?stop
  case hAx =>
    intro x a' _ W W1 row hs hg hr
    obtain ⟨gx, hb, hgx, e⟩ := hs
    refine ⟨gx, ?_, hgx, e⟩
    have hb' : W.heap[gx]? = _ := hb
    refine (hg.block gx hb.lt (fun q => ?_)).trans hb
    obtain ⟨_, o, ho, hc⟩ := hr gx q.symm
    rw [hb'] at ho; cases ho; cases hc
  case assign =>
    intro l' pre x W K hI hK
    obtain ⟨hI1, hI2⟩ := hI
    have zI := hI2.size
    simp only [encY, zip2, List.setIfInBounds_toArray, List.set_cons_zero, List.set_cons_succ]
    gi_wp2_with (first
      | (refine at_alI 40 rfl ?_; go_must (refine wpListIn_allocV rfl 40 rfl _ en_zero ?_; intro gx w8 hgx hw8 b8 f8))
      | (refine at_stI 40 _ _ rfl ?_; go_must (refine wpListIn_storeV rfl 40 _ _ rfl gx 0 rfl (enC x.2) rfl _ _ b8 en_size (Nat.le_refl _) (en_one _) ?_; intro w9 b9 f9; rw [putAt_all (enC (0, 0)) (enC x.2) rfl] at b9)))
    have F9 : Fr noB W w9 := f8.thenT f9 (fun k hk q => by unfold onB1 at q; omega)
    exact hK _ _ (keepsFrom_of_fr F9 (fun _ _ q => q.elim)) (below_of_fr F9 zI) ⟨hI1, hI2.thenN F9⟩ ⟨gx, b9, by omega, by rw [hgx]; rfl⟩
  case body =>
    rintro l' pre x a' W hl ⟨r, hr⟩ ⟨hno, hfr⟩ ⟨gx, hbx, hgx, rfl⟩ hlt
    obtain ⟨p1, _⟩ := hbx.cell 0 _ rfl
    have q3w := hfr.cell q3' (fun q => q)
    have zI := hfr.size
    by_cases hcmp : x.2.1 ≤ key
    · have e4 := d4.fr0 hfr
      gi_wp2_with (first
        | (refine at_stI 3 _ _ rfl ?_; go_must (refine wpListIn_store1 rfl 3 _ _ rfl g4 0 rfl (.int .i64 x.1) rfl rfl _ _ e4 int_size (by simp) ?_; intro w10 b10 f10; have b10 : BxV w10 g4 3 [.int .i64 x.1] := (by simpa using b10))))
      refine ⟨keepsFrom_of_fr f10 (fun k o q hk => ?_), rfl, pre, x, rfl, hno, hcmp, b10, (hfr.mono (fun _ _ q => q.elim)).trans f10⟩
      cases q
      have e4' : W.heap[g4]? = _ := e4
      rw [e4'] at hk; cases hk; rfl
    · gi_wp2
      refine ⟨KeepsFrom.refl _ _, Below.refl _ _, ?_, hfr⟩
      intro y hy
      rcases List.mem_append.1 hy with hy | hy
      · exact hno y hy
      · simp at hy; subst hy; exact hcmp
  case done =>
    rintro D ys W hD rfl ⟨hno, hfr⟩ hK
    have hmiss := at_miss l key hno
    have h4 := d4.fr0 hfr
    go_wp2_with (first
      | (with_reducible refine at_wpP ?_; refine at_st 3 _ _ rfl ?_; go_must (refine wpList_store1 rfl 3 _ _ rfl g4 0 rfl (.int .i64 (-1)) rfl rfl _ _ h4 int_size (by simp) ?_; intro w9 b9 f9)))
    have hFX := (F7.thenN hfr).thenT (S := noB) f9 (fun k hk q => by unfold onB1 at q; omega)
    have hKf : w9.heap[D]? = some (.deferred (some [])) := by
      have hDl : D < W.heap.size := (Array.getElem?_eq_some_iff.1 hK).1
      exact (f9.block D hDl (fun q => by unfold onB1 at q; omega)).trans hK
    refine ⟨by simp, .inl ⟨_, _, rfl, run_takeDeferred hKf, ?_⟩⟩
    have hDg : Fr (fun k => k = D) w9 (w9.putObj D (.deferred none)) := (Fr.refl _ _).grown (grownBy_putObj' w9 D _) (fun k e _ => by cases e; rfl)
    have b4g := b9.fr hDg (fun q => by omega)
    exact ⟨_, results_int Tryz.results54 _ _ g4 (-1) rfl (b4g.cell 0 _ rfl).1, -1, rfl, hmiss, hFX.thenT hDg (fun k hk q => by omega)⟩
  case stop =>
    rintro D c pre W hD hSp hX hK
    obtain ⟨rfl, pre', x, hpre, hno, hhit, b4f, hfX⟩ := hX
    gi_wp2
    have hl := at_hit l key hSp hpre hno hhit
    have hFX := F7.thenT (S := noB) hfX (fun k hk q => by unfold onB1 at q; omega)
    refine ⟨by simp, .inl ⟨_, _, rfl, run_takeDeferred hK, ?_⟩⟩
    have hDg : Fr (fun k => k = D) W (W.putObj D (.deferred none)) := (Fr.refl _ _).grown (grownBy_putObj' W D _) (fun k e _ => by cases e; rfl)
    have b4g := b4f.fr hDg (fun q => by omega)
    exact ⟨_, results_int Tryz.results54 _ _ g4 x.1 rfl (b4g.cell 0 _ rfl).1, x.1, rfl, hl, hFX.thenT hDg (fun k hk q => by omega)⟩
end Go.Proofs.YtmkinaijkgkgiaaGreat
/- LeafOpens. -/
namespace Go.Proofs.YtmkinaijkgkgiaaGreat
open Go.RowKit Go.Proofs.U
set_option linter.unusedSimpArgs false
set_option linter.unusedVariables false
/-- What Open hands back, its row opened. -/
theorem NOpenIs.parts {w w' : World} {x : Nd × Int} {r : Ending} (h : NOpenIs w w' x r) : ∃ a m c, r = .returned (.tuple #[ndV x.1.k x.1.b (.slice a m c), .int .i64 x.2]) ∧ NdS w' (.slice a m c) x.1 ∧ Hid (x.1.b.length = 16) ∧ Fr noB w w' := by
  obtain ⟨v, rfl, hn, _, f⟩ := h
  obtain ⟨a, m, c, rfl⟩ := hn.sl
  exact ⟨a, m, c, rfl, hn, hn.bl, f⟩

end Go.Proofs.YtmkinaijkgkgiaaGreat
/- How a slice of nodes, and one of acts, that came in are opened. -/
namespace Go.Proofs.YtmkinaijkgkgiaaGreat
open Go.RowKit Go.Proofs.U Go.ChangeShapes Go.WideShapes Go.ChangeAt
set_option linter.unusedSimpArgs false
set_option linter.unusedVariables false
/-- An act as it lies in memory. -/
structure ActH where
  kind : Int
  at' : Int
  kv : Value
  keys : List Int
  blk : List Int
end Go.Proofs.YtmkinaijkgkgiaaGreat
/- NodesBack. (Written by h14_gen.py.) -/
namespace Go.Proofs.YtmkinaijkgkgiaaGreat
open Go.RowKit Go.Proofs.U Go.Shelf Go.Maps
set_option linter.unusedSimpArgs false
set_option linter.unusedVariables false
theorem make_F {F : Nat → Prop} {gs gp : Nat} {X Y : DSt} {L M : List Pg} {m : Nat} {p e : Int} {w : World} (n : Nd) (vs : Value) (s : Sto w F gs gp X L m) (hm : m ≤ 100000) (hn : NdS w vs n) (he : makeF X L n = ((Y, M), p, e)) :
    Calls Tryz.prog 29 #[ptr gs, ndV n.k n.b vs] w fun r w' => r = .returned (.tuple #[.int .i64 p, .int .i64 e]) ∧ LayIs w w' F gs gp (Y, M) (m + 1) := by
  refine (make_any n vs w s hm hn).mono ?_
  rw [he]
  exact fun r w' h => h
theorem hold_F {F : Nat → Prop} {gs gp : Nat} {X : DSt} {L M : List Pg} {m : Nat} {e : Int} {w : World} (p : Int) (s : Sto w F gs gp X L m) (he : plHold L p = (M, e)) :
    Calls Tryz.prog 30 #[ptr gs, .int .i64 p] w fun r w' => r = .returned (.int .i64 e) ∧ Sto w' F gs gp X M m ∧ Fr (onB1 gp) w w' := by
  refine (nhold_any p w s).mono ?_
  rw [he]
  exact fun r w' h => h
theorem get_F {F : Nat → Prop} {gs gp : Nat} {X : DSt} {L : List Pg} {m : Nat} {R : Nd × Int} {w : World} (p : Int) (s : Sto w F gs gp X L m) (hm : m ≤ 100000) (he : getF X L p = R) :
    Calls Tryz.prog 40 #[ptr gs, .int .i64 p] w fun r w' => NOpenIs w w' R r := by
  rw [← he]
  exact nget_any p w s hm
theorem free_F {F : Nat → Prop} {gs gp : Nat} {X : DSt} {L : List Pg} {m : Nat} {k : Int} {w : World} (s : Sto w F gs gp X L m) (hk : ((plFree L : Nat) : Int) = k) :
    Calls Tryz.prog 20 #[ptr gp] w fun r w' => r = .returned (.int .i64 k) ∧ w = w' := by
  rw [← hk]
  exact pfreeN_any s.ok gp w s.pl
section
variable {w : World} {ops : Array Oper} {rest : List Oper} {o : Oper} {a : Act} {Q : Exit → Act → World → Prop}
end
end Go.Proofs.YtmkinaijkgkgiaaGreat
