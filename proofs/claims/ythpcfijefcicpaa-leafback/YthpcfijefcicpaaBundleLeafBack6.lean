/- Texts K12, KM, OT, MY, V2, T1 of the proof of LeafBack, one behind the other. -/
import Derived.Test.YthpcfijefcicpaaBundleLeafBack1
import Derived.Test.YthpcfijefcicpaaBundleLeafBack2
import Derived.Test.YthpcfijefcicpaaBundleLeafBack3
import Derived.Test.YthpcfijefcicpaaBundleLeafBack4
import Derived.Test.YthpcfijefcicpaaBundleLeafBack5
/- Pages loaded and compared where a guard asks for it. -/
namespace Go.Proofs.Ythpcfijefcicpaa
open Go.RowKit Go.Proofs.U
set_option linter.unusedSimpArgs false
set_option linter.unusedVariables false
section
variable {w : World} {ops : Array Oper} {rest : List Oper} {o : Oper} {a : Act} {Q : Exit → Act → World → Prop}
theorem wpList_loadPw (hgd : Region.wanted o (yielded ops a.tmps) = true) (x : Operand) (ho : o.op = .load 23 x) (g : Nat) (hx : a.eval x = .pointer (some ⟨g, 0, none⟩)) (p : List Int) (hA : BxV w g 23 (pgv p)) (hp : p.length = 256)
    (h : wpList Try.prog ops Q rest (a.put o.dst (pgV p)) w) : wpList Try.prog ops Q (o :: rest) a w := by
  refine wpList_wanted hgd fun K hK => ?_
  have hr := run_loadP w g 0 p (hA.range 0 (pgv p) (by show (pgv p).take (pgv p).length = pgv p; exact List.take_length)) hp
  unfold Oper.wp execOp
  simp only [ho, hx, Sem.run_bind, hr, Result.andThen_ok]
  exact hK _ _ h
theorem at_bin (b : BinOp) (t t' : TypeId) (x y : Operand) (_ho : o.op = .binOp b t x y t') (h : wpList Try.prog ops Q (o :: rest) a w) : wpList Try.prog ops Q (o :: rest) a w := h
theorem wpList_neqP (hgd : Region.wanted o (yielded ops a.tmps) = true) (x y : Operand) (ho : o.op = .binOp .neq 23 x y 23) (p q : List Int) (hx : a.eval x = pgV p) (hy : a.eval y = pgV q) (hp : p.length = 256) (hq : q.length = 256)
    (h : wpList Try.prog ops Q rest (a.put o.dst (.bool (!(p == q)))) w) : wpList Try.prog ops Q (o :: rest) a w := by
  refine wpList_wanted hgd fun K hK => ?_
  have hr := run_neq_page w p q hp hq
  unfold Oper.wp
  simp [execOp, ho, hx, hy, hr, eqg_neq, Result.andThen]
  exact hK _ _ h
end
end Go.Proofs.Ythpcfijefcicpaa
/- DiskKeeps, the plain part: what may be read behind a crash. -/
namespace Go.Proofs.Ythpcfijefcicpaa
open Go.RowKit Go.Proofs.U
set_option linter.unusedSimpArgs false
set_option linter.unusedVariables false

abbrev rep (c : Int) : List Int := List.replicate 256 c
/-- What a page may hold: its own byte, and the bytes of its pending writes. -/
def mayL (c : List Int) (ps : List (Nat × Int)) (i : Nat) : List Int := c.getD i 0 :: (ps.filter (fun x => x.1 == i)).map (·.2)
structure KX (N : Nat) (X : DSt) (c : List Int) (ps : List (Nat × Int)) : Prop where
  pages : X.pages = c.map rep
  pend : X.pend = ps.map (fun x => ((x.1 : Int), rep x.2))
  len : c.length = N
  inN : ∀ x ∈ ps, x.1 < N
  bad : X.bad = fun _ => false
theorem KX.act {N : Nat} {X : DSt} {c : List Int} {ps : List (Nat × Int)} (h : KX N X c ps) : KX N X.act c ps := ⟨h.pages, h.pend, h.len, h.inN, h.bad⟩
theorem KX.cut {N : Nat} {X : DSt} {c : List Int} {ps : List (Nat × Int)} (h : KX N X c ps) (n : Int) : KX N { X with left := n } c ps := ⟨h.pages, h.pend, h.len, h.inN, h.bad⟩
theorem KX.new (n : Int) (N : Nat) (hN : newN n = N) : KX N (newD n) (List.replicate N 0) [] :=
  ⟨by show List.replicate (newN n) zeroP = _; rw [hN, List.map_replicate]; rfl, rfl, by simp, by simp, rfl⟩
theorem KX.plen {N : Nat} {X : DSt} {c : List Int} {ps : List (Nat × Int)} (h : KX N X c ps) : X.pages.length = N := by rw [h.pages, List.length_map, h.len]
theorem KX.write {N : Nat} {X : DSt} {c : List Int} {ps : List (Nat × Int)} (h : KX N X c ps) (i : Int) (b : Int) :
    (X.writeE i = 0 → ∃ j : Nat, i = j ∧ j < N ∧ KX N (X.write i (rep b)) c (ps ++ [(j, b)])) ∧ (X.writeE i ≠ 0 → KX N (X.write i (rep b)) c ps) := by
  unfold DSt.writeE DSt.write
  rw [h.plen]
  cases hin : inR N i with
  | false =>
    simp only [Bool.false_eq_true, if_false]
    exact ⟨fun h0 => by simp at h0, fun _ => h⟩
  | true =>
    simp only [if_true]
    constructor
    · intro h0
      simp only [inR, Bool.and_eq_true, decide_eq_true_eq] at hin
      refine ⟨i.toNat, by omega, by omega, ?_⟩
      rw [if_pos h0]
      refine ⟨h.pages, ?_, h.len, ?_, h.bad⟩
      · show X.pend ++ _ = _
        rw [h.pend, List.map_append]
        simp
        omega
      · intro x hx
        rcases List.mem_append.1 hx with hx | hx
        · exact h.inN x hx
        · simp at hx; subst hx; simp; omega
    · intro h0
      rw [if_neg h0]
      exact h.act
theorem mayL_put (c : List Int) (ps : List (Nat × Int)) (j : Nat) (b : Int) (i : Nat) : mayL c (ps ++ [(j, b)]) i = if j = i then mayL c ps i ++ [b] else mayL c ps i := by
  unfold mayL
  rw [List.filter_append, List.map_append]
  by_cases e : j = i
  · subst e; simp
  · simp [e]
theorem mayL_len (c : List Int) (ps : List (Nat × Int)) (i : Nat) : (mayL c ps i).length ≤ ps.length + 1 := by
  unfold mayL
  have := List.length_filter_le (fun x : Nat × Int => x.1 == i) ps
  simp; omega
/-- What is synced. -/
def lastC (c : List Int) (ps : List (Nat × Int)) : List Int := ps.foldl (fun c x => c.set x.1 x.2) c
theorem lastC_len (c : List Int) (ps : List (Nat × Int)) : (lastC c ps).length = c.length := by
  unfold lastC
  induction ps generalizing c with
  | nil => rfl
  | cons x ps ih => rw [List.foldl_cons, ih]; simp
theorem lastC_put (c : List Int) (ps : List (Nat × Int)) (x : Nat × Int) : lastC c (ps ++ [x]) = (lastC c ps).set x.1 x.2 := by
  unfold lastC; rw [List.foldl_append]; rfl
theorem lastC_may (N : Nat) (c : List Int) (hc : c.length = N) : ∀ (n : Nat) (ps : List (Nat × Int)), ps.length = n → (∀ x ∈ ps, x.1 < N) → ∀ i, i < N → (mayL c ps i).drop ((mayL c ps i).length - 1) = [(lastC c ps).getD i 0] := by
  intro n
  induction n with
  | zero =>
    intro ps hp _ i hi
    obtain rfl := List.eq_nil_of_length_eq_zero hp
    simp [mayL, lastC]
  | succ n ih =>
    intro ps hp hin i hi
    obtain ⟨qs, x, rfl⟩ : ∃ qs x, ps = qs ++ [x] := ⟨ps.dropLast, ps.getLast (by intro e; subst e; cases hp), (List.dropLast_concat_getLast _).symm⟩
    have hq := ih qs (by simpa using hp) (fun y hy => hin y (by simp [hy])) i hi
    have hx : x.1 < N := hin x (by simp)
    rw [lastC_put]
    have e : mayL c (qs ++ [x]) i = if x.1 = i then mayL c qs i ++ [x.2] else mayL c qs i := mayL_put c qs x.1 x.2 i
    rw [e]
    have hl := lastC_len c qs
    by_cases h : x.1 = i
    · subst h
      simp [List.getD, hl, hc, hi]
    · rw [if_neg h, hq]
      simp [List.getD, List.getElem?_set_ne h]
theorem rep_getD (c : Int) (k : Nat) (h : k < 256) : (rep c).getD k 0 = c := by simp [List.getD, h]
theorem getD_map_rep (c : List Int) (i : Nat) (h : i < c.length) : (c.map rep).getD i [] = rep (c.getD i 0) := by simp [List.getD, h]
theorem pend_at (ps : List (Nat × Int)) (m : Nat) (h : m < ps.length) : (ps.map (fun x => ((x.1 : Int), rep x.2))).getD m (0, []) = ((ps[m].1 : Int), rep ps[m].2) := by simp [List.getD, h]
theorem setS_all (N : Nat) (c : List Int) (ps : List (Nat × Int)) (hc : c.length = N) (hin : ∀ x ∈ ps, x.1 < N) : ∀ m, m ≤ ps.length →
    setS (c.map rep) (ps.map (fun x => ((x.1 : Int), rep x.2))) (fun _ _ => true) m = (lastC c (ps.take m)).map rep := by
  intro m
  induction m with
  | zero => intro _; rfl
  | succ m ih =>
    intro hm
    rw [setS_succ, ih (by omega), List.take_succ_eq_append_getElem (by omega), lastC_put]
    unfold setS1
    rw [pend_at ps m (by omega)]
    simp only [Int.toNat_natCast]
    rw [mixS_all _ _ (by simp), List.map_set]
theorem KX.sync {N : Nat} {X : DSt} {c : List Int} {ps : List (Nat × Int)} (h : KX N X c ps) :
    (X.actE = 0 → KX N X.sync (lastC c ps) []) ∧ (X.actE ≠ 0 → KX N X.sync c ps) := by
  unfold DSt.sync
  constructor
  · intro h0
    rw [if_pos h0]
    refine ⟨?_, by simp [DSt.settle], by rw [lastC_len, h.len], by simp, h.bad⟩
    show setS X.pages X.pend _ X.pend.length = _
    rw [h.pages, h.pend, setS_all N c ps h.len h.inN _ (by simp)]
    simp
  · intro h0
    rw [if_neg h0]
    exact h.act
/-- A page that may be there behind a crash. -/
def GoodP (l : List Int) (p : List Int) : Prop := p.length = 256 ∧ ∀ k, k < 256 → p.getD k 0 ∈ l ∧ p.getD k 0 = p.getD (k / 32 * 32) 0
theorem GoodP.mono {l l' p : List Int} (h : GoodP l p) (hl : ∀ x ∈ l, x ∈ l') : GoodP l' p := ⟨h.1, fun k hk => ⟨hl _ (h.2 k hk).1, (h.2 k hk).2⟩⟩
theorem mixS_at (old new : List Int) (st : Nat → Bool) (k : Nat) (hk : k < 256) : (mixS old new st 8).getD k 0 = if st (k / 32) then new.getD k 0 else old.getD k 0 := by
  have : k / 32 < 8 := by omega
  simp [mixS, List.getD, hk, this]
theorem good_mix {l : List Int} {p : List Int} (h : GoodP l p) (b : Int) (st : Nat → Bool) : GoodP (l ++ [b]) (mixS p (rep b) st 8) := by
  refine ⟨mixS_len _ _ _ _, fun k hk => ?_⟩
  have hk2 : k / 32 * 32 < 256 := by omega
  have hk3 : k / 32 * 32 / 32 = k / 32 := by omega
  rw [mixS_at _ _ _ _ hk, mixS_at _ _ _ _ hk2, hk3, rep_getD b k hk, rep_getD b _ hk2]
  have := h.2 k hk
  cases st (k / 32) with
  | true => simp
  | false => exact ⟨by simp only [Bool.false_eq_true, if_false]; exact List.mem_append_left _ this.1, by simpa using this.2⟩
theorem setS_good (N : Nat) (c : List Int) (ps : List (Nat × Int)) (hc : c.length = N) (hin : ∀ x ∈ ps, x.1 < N) (st : Nat → Nat → Bool) : ∀ m, m ≤ ps.length → ∀ i, i < N →
    GoodP (mayL c (ps.take m) i) ((setS (c.map rep) (ps.map (fun x => ((x.1 : Int), rep x.2))) st m).getD i []) := by
  intro m
  induction m with
  | zero =>
    intro _ i hi
    have e : (setS (c.map rep) (ps.map (fun x => ((x.1 : Int), rep x.2))) st 0) = c.map rep := rfl
    rw [e, getD_map_rep c i (by omega)]
    refine ⟨by simp, fun k hk => ?_⟩
    rw [rep_getD _ k hk, rep_getD _ _ (by omega)]
    simp [mayL]
  | succ m ih =>
    intro hm i hi
    have hlen := setS_len (c.map rep) (ps.map (fun x => ((x.1 : Int), rep x.2))) st m
    rw [List.length_map, hc] at hlen
    rw [setS_succ, List.take_succ_eq_append_getElem (by omega)]
    have e : mayL c (ps.take m ++ [ps[m]]) i = if ps[m].1 = i then mayL c (ps.take m) i ++ [ps[m].2] else mayL c (ps.take m) i := mayL_put c _ ps[m].1 ps[m].2 i
    rw [e]
    unfold setS1
    rw [pend_at ps m (by omega)]
    simp only [Int.toNat_natCast]
    have h0 := ih (by omega) i hi
    generalize setS (c.map rep) (ps.map (fun x => ((x.1 : Int), rep x.2))) st m = S at *
    by_cases h : ps[m].1 = i
    · rw [if_pos h, h]
      have : (S.set i (mixS (S.getD i []) (rep ps[m].2) (st m) 8)).getD i [] = mixS (S.getD i []) (rep ps[m].2) (st m) 8 := by simp [List.getD, hlen, hi]
      rw [this]
      exact good_mix h0 _ _
    · rw [if_neg h]
      have : (S.set ps[m].1 (mixS (S.getD ps[m].1 []) (rep ps[m].2) (st m) 8)).getD i [] = S.getD i [] := by simp [List.getD, List.getElem?_set_ne h]
      rw [this]
      exact h0
theorem KX.crash {N : Nat} {X : DSt} {c : List Int} {ps : List (Nat × Int)} (h : KX N X c ps) (keep : List Int) :
    (X.crash keep).pages.length = N ∧ (X.crash keep).pend = [] ∧ (X.crash keep).down = false ∧ (∀ i : Nat, i < N → ∃ p, readP (X.crash keep) (i : Int) = (p, 0) ∧ GoodP (mayL c ps i) p) := by
  have e : (X.crash keep).pages = setS (c.map rep) (ps.map (fun x => ((x.1 : Int), rep x.2))) (stayK keep) ps.length := by
    show setS X.pages X.pend _ X.pend.length = _
    rw [h.pages, h.pend, List.length_map]
  have hl : (X.crash keep).pages.length = N := by rw [e, setS_len, List.length_map, h.len]
  refine ⟨hl, rfl, rfl, fun i hi => ⟨(X.crash keep).pages.getD i [], ?_, ?_⟩⟩
  · have h1 : inR N (i : Int) = true := by simp [inR]; omega
    have h2 : (X.crash keep).bad (i : Int) = false := by show X.bad _ = _; rw [h.bad]
    have h3 : (X.crash keep).pend = [] := rfl
    unfold readP
    rw [hl, h1, h2, h3]
    simp [lastW]
  · rw [e]
    have := setS_good N c ps h.len h.inN (stayK keep) ps.length (Nat.le_refl _) i hi
    rwa [List.take_length] at this
end Go.Proofs.Ythpcfijefcicpaa
/- Rows of one's own, of one cell an element, that begin somewhere in their block: cut from the left, and appended to. -/
namespace Go.Proofs.U
open Go.RowKit
set_option linter.unusedSimpArgs false
set_option linter.unusedVariables false
/-- v is a row in block b, from some cell on to the block's end. -/
def OwnT (e : TypeId) (w : World) (b : Nat) (v : Value) (xs : List Value) : Prop :=
  ∃ o cap cur, v = .slice (some ⟨b, o, none⟩) xs.length cap ∧ w.heap[b]? = some (.cells cur e (0, 0)) ∧ xs.length ≤ cap ∧ cap ≤ maxLen ∧ cur.size = o + cap ∧ (cur.toList.drop o).take xs.length = xs
section
variable {e : TypeId} {w w' : World} {b : Nat} {v : Value} {xs : List Value} {S : Nat → Prop} {P : Program}
theorem OwnT.lt (h : OwnT e w b v xs) : b < w.heap.size := by
  obtain ⟨o, cap, cur, _, h, _⟩ := h
  exact (Array.getElem?_eq_some_iff.mp h).1
theorem OwnT.fr (h : OwnT e w b v xs) (f : Fr S w w') (hs : ¬ S b) : OwnT e w' b v xs := by
  have hl := h.lt
  obtain ⟨o, cap, cur, h1, h2, h3⟩ := h
  exact ⟨o, cap, cur, h1, (f.block b hl hs).trans h2, h3⟩
theorem OwnT.opn (h : OwnT e w b v xs) : ∃ o cap, v = .slice (some ⟨b, o, none⟩) xs.length cap := by
  obtain ⟨o, cap, cur, h1, _⟩ := h
  exact ⟨o, cap, h1⟩
theorem OwnT.blk (h : OwnT e w b v xs) : ∃ cur, w.heap[b]? = some (.cells cur e (0, 0)) := by
  obtain ⟨o, cap, cur, _, h2, _⟩ := h
  exact ⟨cur, h2⟩
theorem OwnT.cellsAt {o cap n : Nat} (h : OwnT e w b (.slice (some ⟨b, o, none⟩) n cap) xs) : ∀ j u, xs[j]? = some u → w.cell? ((⟨b, o, none⟩ : Addr).add j) = some u := by
  obtain ⟨o', cap', cur, h1, h2, h3, h4, h5, h6⟩ := h
  obtain ⟨rfl, _, _⟩ : o = o' ∧ n = xs.length ∧ cap = cap' := by simpa using h1
  intro j u hj
  have hadd : (⟨b, o, none⟩ : Addr).add j = ⟨b, o + j, none⟩ := by unfold Addr.add; split <;> simp_all
  rw [hadd, cell_of_row w b (o + j) cur e (0, 0) h2]
  rw [← h6, List.getElem?_take] at hj
  split at hj
  · rw [List.getElem?_drop] at hj; simpa using hj
  · cases hj
theorem OwnT.sl (h : OwnT e w b v xs) : Sl w 1 v xs.length xs := by
  obtain ⟨o, cap, rfl⟩ := h.opn
  have hc := h.cellsAt
  obtain ⟨o', cap', cur, h1, h2, h3, _⟩ := h
  obtain ⟨_, rfl⟩ : o = o' ∧ cap = cap' := by simpa using h1
  exact ⟨some ⟨b, o, none⟩, cap, rfl, h3, by simp, (fun h => by cases h), fun x hx => by cases hx; exact hc⟩
theorem OwnT.cutL {o cap n : Nat} (h : OwnT e w b (.slice (some ⟨b, o, none⟩) n cap) xs) (i : Nat) (hi : i < xs.length) : OwnT e w b (.slice (some ⟨b, o + i, none⟩) (n - i) (cap - i)) (xs.drop i) := by
  obtain ⟨o', cap', cur, h1, h2, h3, h4, h5, h6⟩ := h
  obtain ⟨rfl, rfl, rfl⟩ : o = o' ∧ n = xs.length ∧ cap = cap' := by simpa using h1
  refine ⟨o + i, cap - i, cur, by simp, h2, by simp; omega, by omega, by omega, ?_⟩
  have e1 : (cur.toList.drop o).take xs.length = xs := h6
  have e2 : xs.drop i = ((cur.toList.drop o).take xs.length).drop i := by rw [e1]
  rw [List.drop_take, List.drop_drop] at e2
  rw [e2]
  simp only [List.length_take, List.length_drop, Array.length_toList]
  congr 1
  omega
theorem OwnT.made (w : World) (x : Value) (e : TypeId) : OwnT e (w.alloc (.cells #[x] e)) w.heap.size (.slice (some ⟨w.heap.size, 0, none⟩) 1 1) [x] :=
  ⟨0, 1, #[x], rfl, heap_alloc_new w _, by simp, by unfold maxLen; decide, by simp, by simp⟩

theorem run_cutL (t : TypeId) (ht : P.underlying t = some (.slice e)) (hsz : (P.info? e).map (·.size) = some 1) (o cap n i : Nat) (hi : i < n) (hn : n ≤ cap) (w : World) :
    (Instr.sliceAt t (.slice (some ⟨b, o, none⟩) n cap) (some (.int .i64 (i : Int))) none none).run P w = .ok (.slice (some ⟨b, o + i, none⟩) (n - i) (cap - i)) w := by
  obtain ⟨ii, hinf, hsz'⟩ := Option.map_eq_some_iff.1 hsz
  have hne : ¬ cap = i := by omega
  have hin : i ≤ n := by omega
  have hnc : ¬ cap < n := by omega
  simp [Instr.sliceAt, Instr.slice, Instr.sliceBounds, Instr.sliceBound, asIntOf, run_underlying ht, sizeOf, typeInfo, hinf, hsz', go_sem, hne, Addr.plain, hin, hnc]
  try omega

theorem run_append_T (t ty : TypeId) (i : TypeInfo) (z : Value) (ht : P.underlying t = some (.slice e)) (hi : P.info? e = some i) (hz : i.zero = some z) (hs1 : i.size = 1) (hb1 : i.bytes = 1) (hzs : z.cells.size = 1)
    (hO : OwnT e w b v xs) (g : Nat) (x : Value) (hx : w.cell? ⟨g, 0, none⟩ = some x) (h1 : x.oneCell' = true) (hl : xs.length ≤ 100000) :
    ∃ v' w' b', (Builtin.append_ #[t, t] ty #[v, .slice (some ⟨g, 0, none⟩) 1 1]).run P w = .ok v' w' ∧ OwnT e w' b' v' (xs ++ [x]) ∧ Fr (onB1 b) w w' ∧ (b' = b ∨ w.heap.size ≤ b') := by
  obtain ⟨o, cap, rfl⟩ := hO.opn
  have holds := hO.cellsAt
  obtain ⟨o', cap', cur, hv, h2, h3, h4, h5, h6⟩ := hO
  obtain ⟨rfl, rfl⟩ : o = o' ∧ cap = cap' := by simpa using hv
  have hnews : ∀ j u, [x][j]? = some u → w.cell? ((⟨g, 0, none⟩ : Addr).add j) = some u := by
    intro j u hj
    cases j with
    | zero => simp at hj; subst hj; exact hx
    | succ j => simp at hj
  by_cases hroom : xs.length + 1 ≤ cap
  · have hf := run_firstCells_some (P := P) w i.size 1 ⟨g, 0, none⟩ 1 1 [x] (by simp [hs1]) hnews
    have hst := run_storeCells_at P b (o + xs.length) e [x] 0 cur w h2 (by simp; omega) (by simpa using h1)
    simp only [Nat.add_zero] at hst
    have hadd : (⟨b, o, none⟩ : Addr).add (xs.length * i.size) = ⟨b, o + xs.length, none⟩ := by rw [hs1, Nat.mul_one]; unfold Addr.add; split <;> simp_all
    refine ⟨.slice (some ⟨b, o, none⟩) (xs.length + 1) cap, w.setRow b (cur.toList.take (o + xs.length) ++ [x] ++ cur.toList.drop (o + xs.length + [x].length)).toArray, b, ?_, ⟨o, cap, _, by simp, setRow_heap w b cur _ e _ h2, by simpa using hroom, h4, ?_, ?_⟩, ⟨rfl, rfl, rfl, by simp, fun k _ hk => setRow_other w b k _ (fun e => hk e)⟩, Or.inl rfl⟩
    · simp [Builtin.append_, run_underlying ht, sizeOf, typeInfo, hi, Builtin.lenOf, hroom, hf, hadd, hst]
    · simp only [List.size_toArray, List.length_append, List.length_take, List.length_drop, Array.length_toList, List.length_singleton]
      omega
    · have e1 : (cur.toList.take (o + xs.length)).drop o = xs := by rw [List.drop_take]; simpa using h6
      have e2 : (cur.toList.take (o + xs.length)).length = o + xs.length := by simp; omega
      simp only [List.append_assoc]
      rw [List.drop_append_of_le_length (by omega), e1, ← List.append_assoc]
      exact List.take_left
  · have hr := run_append_grow (P := P) w t ty e i z ht hi hz ⟨b, o, none⟩ xs.length cap xs (by simp [hs1]) holds ⟨g, 0, none⟩ 1 1 [x] (by simp [hs1]) hnews (by omega) (by omega) (growslice_fits (by omega) (by rw [hb1]; omega))
    have hge := grownCap_ge w (xs.length + 1) cap e
    have hcm : grownCap w (xs.length + 1) cap e ≤ maxLen := grownCap_le_maxLen w (xs.length + 1) cap e (by unfold maxLen; omega)
    refine ⟨_, _, w.heap.size, hr, ⟨0, _, _, by simp, heap_alloc_new w.drew _, by simpa using hge, hcm, ?_, ?_⟩, ⟨rfl, rfl, rfl, by simp, fun k hk _ => heap_alloc_old w.drew _ hk⟩, Or.inr (Nat.le_refl _)⟩
    · simp only [Array.size_append, List.size_toArray, size_zeroCells, hzs, List.length_singleton]
      omega
    · simp only [Array.toList_append, List.append_assoc, List.drop_zero]
      rw [← List.append_assoc]
      exact List.take_left
end
end Go.Proofs.U
/- DiskKeeps: the row of rows that it keeps; what lies in memory while its regions run. -/
namespace Go.Proofs.U
open Go.RowKit
set_option linter.unusedSimpArgs false
set_option linter.unusedVariables false
abbrev enV (v : Value) : List Value := [v]
def upd {α : Type} (f : Nat → α) (j : Nat) (x : α) : Nat → α := fun i => if i = j then x else f i
theorem upd_self {α : Type} (f : Nat → α) (j : Nat) (x : α) : upd f j x j = x := by simp [upd]
theorem upd_ne {α : Type} (f : Nat → α) {j : Nat} (x : α) {i : Nat} (h : i ≠ j) : upd f j x i = f i := by simp [upd, h]
theorem set_upd {α : Type} (f : Nat → α) (j : Nat) (x : α) (n : Nat) : ((List.range n).map f).set j x = (List.range n).map (upd f j x) := by
  apply List.ext_getElem
  · simp
  · intro i h1 h2
    rw [List.getElem_set]
    by_cases h : j = i
    · subst h; simp [upd]
    · have h' : ¬ i = j := fun e => h e.symm
      simp [upd, h, h']
theorem map_const_range {α : Type} (x : α) (n : Nat) : (List.range n).map (fun _ => x) = List.replicate n x := by simp [List.map_const']
theorem flat_enV : ∀ l : List Value, l.flatMap enV = l
  | [] => rfl
  | x :: l => by rw [List.flatMap_cons, flat_enV l]; rfl
theorem bx_full {w : World} {base g N : Nat} {e : TypeId} {l : List Value} (h : OwnR enV 1 e w base (.slice (some ⟨g, 0, none⟩) N N) l) (hl : l.length = N) : BxV w g e l := by
  obtain ⟨_, h1, h2⟩ := h
  rcases h2 with ⟨h2, _⟩ | ⟨g', cap, cur, hv, _, hg, _, _, hcs, ht⟩
  · cases hv : h2
  · obtain ⟨rfl, hN, rfl⟩ : g = g' ∧ N = l.length ∧ N = cap := by simpa using hv
    rw [flat_enV] at ht
    unfold BxV
    rw [hg]
    have : cur.toList = l := by
      rw [← ht, List.take_of_length_le]
      rw [Array.length_toList, hcs, hN]; omega
    rw [← this]
section
variable {P : Program} {w : World} {ops : Array Oper} {rest : List Oper} {o : Oper} {a : Act} {Q : Exit → Act → World → Prop} {e : TypeId} {K : Act → World → Prop} {b : Nat} {xs : List Value}
theorem wpList_mkT (hgd : Region.wanted o (yielded ops a.tmps) = true) (t : TypeId) (y : Operand) (ho : o.op = .buildSlice t 1 #[(0, y)]) (e : TypeId) (ht : P.underlying t = some (.slice e)) (z : Value) (hinfo : (P.info? e).map (fun i => (i.zero, i.size)) = some (some z, 1))
    (x : Value) (hy : a.eval y = x) (hV : x.cells = #[x])
    (h : ∀ g w', OwnT e w' g (.slice (some ⟨g, 0, none⟩) 1 1) [x] → Fr noB w w' → w.heap.size ≤ g → wpList P ops Q rest (a.put o.dst (.slice (some ⟨g, 0, none⟩) 1 1)) w') : wpList P ops Q (o :: rest) a w := by
  refine wpList_wanted hgd fun K hK => ?_
  have hr := run_mk1 (P := P) (ec := enV) (sz := 1) t ht z hinfo (by decide) (by decide) x x (by rw [hV]) rfl w
  unfold Oper.wp
  simp only [execOp, ho]
  simp [hy, hr, Result.andThen]
  exact hK _ _ (h w.heap.size _ (OwnT.made w x e) ((Fr.refl _ _).alloc _) (Nat.le_refl _))
theorem wp_appT (s x : Operand) (t : TypeId) (ho : o.op = .call { callee := .builtin .append, args := #[s, x], argTypes := #[t, t] })
    (z : Value) (ht : P.underlying t = some (.slice e)) (hinfo : (P.info? e).map (fun i => (i.zero, i.size, i.bytes)) = some (some z, 1, 1)) (hzs : z.cells.size = 1)
    (v : Value) (hs : a.eval s = v) (hO : OwnT e w b v xs) (g : Nat) (hx : a.eval x = .slice (some ⟨g, 0, none⟩) 1 1) (y : Value) (hc : w.cell? ⟨g, 0, none⟩ = some y) (h1 : y.oneCell' = true) (hl : xs.length ≤ 100000)
    (h : ∀ v' w' b', OwnT e w' b' v' (xs ++ [y]) → Fr (onB1 b) w w' → (b' = b ∨ w.heap.size ≤ b') → K (a.put o.dst v') w') : o.wp P a w K Q := by
  obtain ⟨i0, hi, hz0, hz1, hz2⟩ := info_parts hinfo
  obtain ⟨v', w', b', hr, h2, h3, h5⟩ := run_append_T (P := P) t o.type i0 z ht hi hz0 hz1 hz2 hzs hO g y hc h1 hl
  unfold Oper.wp execOp
  simp only [ho, resolve, invoke, builtin, Sem.run_bind, Sem.run_pure, Result.andThen_ok, List.map_toArray, List.map_cons, List.map_nil, hs, hx, hr]
  exact h v' w' b' h2 h3 h5
theorem run_ld1 (t : TypeId) (e : TypeId) (ht : P.underlying t = some (.slice e)) (g off : Nat) (v : Value) (hc : w.cell? ⟨g, off, none⟩ = some v) : (Instr.loadAt t (.pointer (some ⟨g, off, none⟩))).run P w = .ok v w := by
  simp [Instr.loadAt, Instr.sureAddr, loadVar, isAgg, run_underlying ht, go_sem, hc]
end
end Go.Proofs.U
namespace Go.Proofs.Ythpcfijefcicpaa
open Go.RowKit Go.Proofs.U
set_option linter.unusedSimpArgs false
set_option linter.unusedVariables false
theorem encA_le (x y : ActR) : 0 + (encA x).length ≤ (encA y).length := by simp [encA]
theorem encA_eq (x y : ActR) : (encA x).length = (encA y).length := rfl
theorem wf64 {z : Int} (h : (Lit.int .i64 z).wf = true) : -9223372036854775808 ≤ z ∧ z ≤ 9223372036854775807 := by
  simp [Lit.wf, IntKind.min, IntKind.max, IntKind.signed, IntKind.bits] at h; omega
theorem encA_one {w : World} {x : ActR} (h : ActOk w x) : ∀ u ∈ encA x, u.oneCell' = true := by
  obtain ⟨a, c, e, _⟩ := h.2.2.2.opn
  intro u hu
  simp [encA, e] at hu
  rcases hu with rfl | rfl | rfl | rfl <;> rfl
theorem wrapN (n : Nat) (h : n ≤ 1000) : IntKind.i64.wrap (n : Int) = n := by rw [IntKind.wrap_i64]; omega
section
variable {w : World} {ops : Array Oper} {rest : List Oper} {o : Oper} {a : Act} {Q : Exit → Act → World → Prop}
theorem at_index (t : TypeId) (x y : Operand) (_ho : o.op = .index t x y) (h : wpList Try.prog ops Q (o :: rest) a w) : wpList Try.prog ops Q (o :: rest) a w := h
theorem wpList_indexP (hgd : Region.wanted o (yielded ops a.tmps) = true) (x y : Operand) (ho : o.op = .index 23 x y) (p : List Int) (hx : a.eval x = pgV p) (hl : p.length = 256) (i : Nat) (hy : a.eval y = .int .i64 (i : Int)) (hi : i < 256)
    (h : wpList Try.prog ops Q rest (a.put o.dst (.int .u8 (p.getD i 0))) w) : wpList Try.prog ops Q (o :: rest) a w := by
  refine wpList_wanted hgd fun K hK => ?_
  have hrun : (Instr.index 23 (pgV p) (.int .i64 (i : Int))).run Try.prog w = .ok (.int .u8 (p.getD i 0)) w := by
    obtain ⟨ii, hii, hs⟩ := Option.map_eq_some_iff.1 size_u8
    have ht : Try.prog.underlying 23 = some (.array 256 5) := by kernel_rfl
    have he : Try.prog.underlying 5 = some (.int .u8) := Try.underlying5
    have hgi : p[i]? = some (p.getD i 0) := by simp [List.getD, show i < p.length by omega]
    generalize p.getD i 0 = y at hgi
    have h1 : (i : Int) < 256 := by omega
    unfold pgV pgv
    simp [Instr.index, asIntOf, run_underlying ht, run_underlying he, part, isAgg, sizeOf, typeInfo, hii, hs, go_sem, h1, hgi]
    intro hh; omega
  unfold Oper.wp
  simp [execOp, ho, hx, hy, hrun, Result.andThen]
  exact hK _ _ h
theorem wpList_ld1w (hgd : Region.wanted o (yielded ops a.tmps) = true) (t e : TypeId) (ht : Try.prog.underlying t = some (.slice e)) (x : Operand) (ho : o.op = .load t x) (g off : Nat) (hx : a.eval x = .pointer (some ⟨g, off, none⟩)) (v : Value) (hc : w.cell? ⟨g, off, none⟩ = some v)
    (h : wpList Try.prog ops Q rest (a.put o.dst v) w) : wpList Try.prog ops Q (o :: rest) a w := by
  refine wpList_wanted hgd fun K hK => ?_
  have hr := run_ld1 (P := Try.prog) (w := w) t e ht g off v hc
  unfold Oper.wp
  simp [execOp, ho, hx, hr, Result.andThen]
  exact hK _ _ h
end
def JN (w0 : World) : List Value → World → Prop := fun _ W => W = w0

/-- Rows of bytes in blocks of their own, held by a row. -/
structure May (w : World) (lo g N : Nat) (vs : Nat → Value) (bs : Nat → Nat) (ls : Nat → List Int) (K : Nat) : Prop where
  out : BxV w g 45 ((List.range N).map vs)
  each : ∀ i, i < K → OwnT 5 w (bs i) (vs i) ((ls i).map (Value.int .u8))
  inj : ∀ i j, i < K → j < K → bs i = bs j → i = j
  low : ∀ i, i < K → lo ≤ bs i
section
variable {w w' : World} {lo g N K : Nat} {vs : Nat → Value} {bs : Nat → Nat} {ls ls' : Nat → List Int} {S : Nat → Prop}
theorem May.ne (h : May w lo g N vs bs ls K) : ∀ i, i < K → bs i ≠ g := by
  intro i hi e
  obtain ⟨cur, hc⟩ := (h.each i hi).blk
  have := h.out
  unfold BxV at this
  rw [e, this] at hc
  simp at hc
theorem May.fr (h : May w lo g N vs bs ls K) (f : Fr S w w') (hg : ¬ S g) (hb : ∀ i, i < K → ¬ S (bs i)) : May w' lo g N vs bs ls K :=
  ⟨h.out.fr f hg, fun i hi => (h.each i hi).fr f (hb i hi), h.inj, h.low⟩
theorem May.fr0 (h : May w lo g N vs bs ls K) (f : Fr noB w w') : May w' lo g N vs bs ls K := h.fr f (fun q => q) (fun _ _ q => q)
theorem May.congr (h : May w lo g N vs bs ls K) (hl : ∀ i, i < K → ls i = ls' i) : May w lo g N vs bs ls' K :=
  ⟨h.out, fun i hi => hl i hi ▸ h.each i hi, h.inj, h.low⟩
end
/-- While a byte is appended to one of the rows. -/
def JA (w0 : World) (g2 bj j : Nat) (L xs : List Value) (c : Int) : List Value → World → Prop
  | [], W => W = w0
  | [v], W => v = .slice (some ⟨w0.heap.size, 0, none⟩) 1 1 ∧ W = w0.alloc (.cells #[.int .u8 c] 5)
  | [_, v], W => ∃ b', OwnT 5 W b' v (xs ++ [.int .u8 c]) ∧ Fr (onB1 bj) w0 W ∧ (b' = bj ∨ w0.heap.size ≤ b')
  | [_, v, _], W => ∃ b', OwnT 5 W b' v (xs ++ [.int .u8 c]) ∧ BxV W g2 45 (L.set j v) ∧ Fr (fun q => q = bj ∨ q = g2) w0 W ∧ (b' = bj ∨ w0.heap.size ≤ b')
  | _, _ => False
theorem JA.fr {w0 : World} {g2 bj j : Nat} {L xs : List Value} {c : Int} : ∀ {hv : List Value} {W : World}, JA w0 g2 bj j L xs c hv W → Fr (fun q => q = bj ∨ q = g2) w0 W
  | [], _, h => by cases h; exact Fr.refl _ _
  | [_], _, h => by obtain ⟨_, rfl⟩ := h; exact ((Fr.refl noB w0).alloc _).mono (fun _ _ q => q.elim)
  | [_, _], _, h => by obtain ⟨_, _, h, _⟩ := h; exact h.mono (fun _ _ q => Or.inl q)
  | [_, _, _], _, h => by obtain ⟨_, _, _, h, _⟩ := h; exact h
  | _ :: _ :: _ :: _ :: _, _, h => h.elim
/-- While one of the rows is cut. -/
def JU (w0 : World) (g2 : Nat) (L : List Value) : List Value → World → Prop
  | [], W => W = w0
  | [_], W => BxV W g2 45 L ∧ Fr (onB1 g2) w0 W
  | _, _ => False
end Go.Proofs.Ythpcfijefcicpaa
/- Pages and rows of bytes cut and copied; slotOf, generationOf of package root. -/
namespace Go.Proofs.Ythpcfijefcicpaa
open Go.RowKit Go.Proofs.U
set_option linter.unusedSimpArgs false
set_option linter.unusedVariables false

theorem BxV.slI {w : World} {g : Nat} {t : TypeId} {l : List Int} (h : BxV w g t (pgv l)) (hb : Byt l) (off n cap : Nat) (hn : off + n ≤ l.length) (hc : n ≤ cap) : SlI .u8 w (.slice (some ⟨g, off, none⟩) n cap) ((l.drop off).take n) := by
  have hl : ((l.drop off).take n).length = n := by simp; omega
  refine ⟨?_, (Byt.drop hb off).take n⟩
  rw [hl]
  refine ⟨_, _, rfl, hc, by rw [List.length_map, hl, Nat.mul_one], (fun e => by cases e), fun x hx => ?_⟩
  cases hx
  intro j u hj
  rw [Addr.plain]
  refine (h.cell (off + j) u ?_).1
  rw [← hj]
  have hjn : j < n := by
    have := (List.getElem?_eq_some_iff.1 hj).1
    simp only [List.length_map] at this; omega
  simp [pgv, List.getElem?_take, hjn, List.getElem?_drop]
theorem run_cutP (W : World) (b off i j : Nat) (hi : i < 256) (hij : i ≤ j) (hj : j ≤ 256) (x y : Int) (hx : x = (i : Int)) (hy : y = (j : Int)) : (Instr.sliceAt 23 (.pointer (some ⟨b, off, none⟩)) (some (.int .i64 x)) (some (.int .i64 y)) none).run Try.prog W = .ok (.slice (some ⟨b, off + i, none⟩) (j - i) (256 - i)) W := by
  subst hx hy
  have h := run_sliceAt_array_lh W 23 ⟨b, off, none⟩ (P := Try.prog) (by kernel_rfl) .i64 .i64 (i : Int) (j : Int) (by omega) (by omega) (by rw [len_page]; omega)
  rw [h]
  have he : Try.prog.elem 23 = 5 := by kernel_rfl
  obtain ⟨ii, hii, hsz⟩ := Option.map_eq_some_iff.1 size_u8
  simp only [he, sizeOf, typeInfo, len_page, slicedAt, Int.toNat_natCast]
  have h3 : ¬ (256 = i) := by omega
  simp [hii, hsz, go_sem, Addr.plain, h3]
/-- s[i:] of a row of bytes. -/
theorem run_cutL (W : World) (g n i : Nat) (hi : i < n) (x : Int) (hx : x = (i : Int)) : (Instr.sliceAt 45 (.slice (some ⟨g, 0, none⟩) n n) (some (.int .i64 x)) none none).run Try.prog W = .ok (.slice (some ⟨g, i, none⟩) (n - i) (n - i)) W := by
  subst hx
  rw [run_cutl 45 5 Try.underlying45 1 size_u8 _ n n .i64 i (by omega)]
  have h3 : ¬ (n = i) := by omega
  simp [h3, Addr.plain]
/-- copy into a variable of bytes. -/
theorem run_cpyB {W : World} {g : Nat} {t : TypeId} {l : List Int} (hB : BxV W g t (pgv l)) (off n dcap : Nat) (hn : off + n ≤ l.length) (ty : TypeId) (v : Value) (m : List Int) (hS : SlI .u8 W v m) (r : Value) (hr : r = .slice (some ⟨g, off, none⟩) n dcap) :
    ∃ W', (Builtin.copy_ #[45, 45] ty #[r, v]).run Try.prog W = .ok (goInt (Nat.min m.length n)) W' ∧ BxV W' g t (pgv (putI l off (m.take n))) ∧ Fr (onB1 g) W W' := by
  subst hr
  have hS0 := hS
  obtain ⟨⟨ao, cap, rfl, hcap, hlen, hnone, hsome⟩, hwf⟩ := hS
  rw [Nat.mul_one, List.length_map] at hlen
  by_cases h0 : Nat.min m.length n = 0
  · refine ⟨W, ?_, ?_, Fr.refl _ _⟩
    · rw [run_copy_none W 45 45 ty 5 _ _ _ _ _ _ Try.underlying45 size_u8 h0, h0]; rfl
    · have : m.take n = [] := by
        have h0' : min m.length n = 0 := h0
        apply List.eq_nil_of_length_eq_zero; rw [List.length_take]; omega
      rw [this]
      have e : putI l off [] = l := by simp [putI]
      rw [e]; exact hB
  · cases ao with
    | none =>
      have h1 := hnone rfl
      have h0' : ¬ min m.length n = 0 := h0
      omega
    | some ad =>
      have hcell := hsome ad rfl
      have hl2 : (pgv (m.take n)).length = Nat.min m.length n := by
        show _ = min m.length n
        rw [pgv_len, List.length_take]; omega
      have hmn : Nat.min m.length n ≤ n := Nat.min_le_right _ _
      have hr := run_copy_cells (P := Try.prog) W 45 45 ty 5 g off n dcap ad m.length cap (pgv (m.take n)) Try.underlying45 size_u8 hl2
        (by
          intro j u hj
          refine hcell j u ?_
          have hjl := (List.getElem?_eq_some_iff.1 hj).1
          rw [hl2] at hjl
          rw [← hj]
          simp [pgv, List.getElem?_take, show j < n by omega])
        (fun j hj => by
          rw [hl2] at hj
          exact (hB.thereR off n (by rw [pgv_len]; omega) j (by omega)).1)
        (fun j hj => by
          rw [hl2] at hj
          exact (hB.thereR off n (by rw [pgv_len]; omega) j (by omega)).2) (pgv_one _)
      rw [hl2] at hr
      refine ⟨_, hr, ?_, setCells_fr1 _ _ _ _⟩
      have := setCells_bx (pgv (m.take n)) off W (pgv l) hB (by rw [hl2, pgv_len]; omega)
      rwa [putAt_putI] at this
section
variable {w : World} {ops : Array Oper} {rest : List Oper} {o : Oper} {a : Act} {Q : Exit → Act → World → Prop}
theorem wpList_cutP (hgd : Region.wanted o (yielded ops a.tmps) = true) (x lo hi : Operand) (ho : o.op = .slice 23 x (some lo) (some hi) none) (g : Nat) (hx : a.eval x = .pointer (some ⟨g, 0, none⟩)) (i j : Nat) (zl zh : Int) (hlo : a.eval lo = .int .i64 zl) (hhi : a.eval hi = .int .i64 zh) (hzl : zl = (i : Int)) (hzh : zh = (j : Int)) (hi' : i < 256) (hij : i ≤ j) (hj : j ≤ 256)
    (h : wpList Try.prog ops Q rest (a.put o.dst (.slice (some ⟨g, i, none⟩) (j - i) (256 - i))) w) : wpList Try.prog ops Q (o :: rest) a w := by
  refine wpList_wanted hgd fun K hK => ?_
  have hr := run_cutP w g 0 i j hi' hij hj zl zh hzl hzh
  rw [Nat.zero_add] at hr
  unfold Oper.wp
  simp [execOp, ho, hx, hlo, hhi, hr, Result.andThen]
  exact hK _ _ h
theorem wpList_cpyB (hgd : o.guard = none) (d s : Operand) (ho : o.op = .call { callee := .builtin .copy, args := #[d, s], argTypes := #[45, 45] })
    (g : Nat) (t : TypeId) (l : List Int) (hB : BxV w g t (pgv l)) (off n dcap : Nat) (hd : a.eval d = .slice (some ⟨g, off, none⟩) n dcap) (hn : off + n ≤ l.length) (v : Value) (hs : a.eval s = v) (m : List Int) (hS : SlI .u8 w v m)
    (h : ∀ w', BxV w' g t (pgv (putI l off (m.take n))) → Fr (onB1 g) w w' → wpList Try.prog ops Q rest (a.put o.dst (goInt (Nat.min m.length n))) w') : wpList Try.prog ops Q (o :: rest) a w := by
  obtain ⟨W', hr, h1, h2⟩ := run_cpyB hB off n dcap hn o.type v m hS _ rfl
  exact Lib.wpList_copy_run w hgd d s 45 45 ho _ _ hd hs hr (h W' h1 h2)
theorem at_cpy (d s : Operand) (t t' : TypeId) (_ho : o.op = .call { callee := .builtin .copy, args := #[d, s], argTypes := #[t, t'] }) (h : wpList Try.prog ops Q (o :: rest) a w) : wpList Try.prog ops Q (o :: rest) a w := h
/-- make([]byte, n). -/
theorem wpList_mkB (hgd : o.guard = none) (l c : Operand) (ho : o.op = .makeSlice 45 l c) (n : Nat) (L : Int) (hl : a.eval l = .int .i64 L) (hc : a.eval c = .int .i64 L) (hL : L = (n : Int)) (hn : n ≤ 1000000)
    (h : ∀ g w', BxV w' g 5 (pgv (List.replicate n 0)) → Fr noB w w' → w.heap.size ≤ g → wpList Try.prog ops Q rest (a.put o.dst (.slice (some ⟨g, 0, none⟩) n n)) w') : wpList Try.prog ops Q (o :: rest) a w := by
  refine wpList_makeR enV 1 hgd l c 45 ho 0 5 (.int .u8 0) 1 Try.underlying45 info_u8b (Value.int .u8 0) rfl rfl (by decide) .i64 .i64 L L n hl hc hL hL (by omega) (by unfold maxLen; omega) (Nat.zero_le _) ?_
  intro g w' ho hf hg hlt
  refine h g w' ?_ hf hg
  have := bx_full ho (by simp)
  simpa [pgv] using this
end

theorem nm8 (l : List Int) (h : l.length = 8) : nmV l 0 false 8 = leNum l := by
  have e : isW 8 = true := rfl
  simp [nmV, e, tkL, tkOk, h, List.take_of_length_le]

end Go.Proofs.Ythpcfijefcicpaa
/- Arrays of bytes, of any length: how they are made, read, stored, cut, compared; no condition but that the type is one. -/
namespace Go.Proofs.Ythpcfijefcicpaa
open Go.RowKit Go.Proofs.U
set_option linter.unusedSimpArgs false
set_option linter.unusedVariables false

def zerB (n : Nat) : List Int := List.replicate n 0
theorem zerB_len (n : Nat) : (zerB n).length = n := List.length_replicate
theorem zerB_byt (n : Nat) : Byt (zerB n) := by
  intro x hx
  rw [show x = 0 from List.eq_of_mem_replicate hx]; decide
/-- t is an array of n bytes. -/
structure ArrT (t : TypeId) (n : Nat) : Prop where
  zero : (Try.prog.info? t).map (·.zero) = some (some (.agg (pgv (zerB n)).toArray))
  size : (Try.prog.info? t).map (·.size) = some n
  und : Try.prog.underlying t = some (.array n 5)
  built : Try.prog.built t [] = some (pgv (zerB n)).toArray
  len : Try.prog.arrayLen t = n
  elem : Try.prog.elem t = 5
  eqg : Try.prog.eqGuardType Try.prog.depth t = false
theorem arr_page : ArrT 23 256 := ⟨by kernel_rfl, by kernel_rfl, by kernel_rfl, by kernel_rfl, by kernel_rfl, by kernel_rfl, by kernel_rfl⟩
section
variable {t : TypeId} {n : Nat}
theorem ArrT.row (T : ArrT t n) : ∃ d, Try.prog.underlying t = some d ∧ d.isRow = true := ⟨_, T.und, rfl⟩
theorem ArrT.undL (T : ArrT t n) : Try.prog.underlying t = some (.array (Try.prog.arrayLen t) (Try.prog.elem t)) := by rw [T.len, T.elem]; exact T.und
theorem run_loadA (T : ArrT t n) (w : World) (b off : Nat) (p : List Int) (hc : w.rangeAt b off (pgv p)) (hp : p.length = n) : (Instr.loadAt t (.pointer (some ⟨b, off, none⟩))).run Try.prog w = .ok (pgV p) w := by
  have := run_loadVar_mid (P := Try.prog) w b off t (pgv p) _ hc T.und rfl (by rw [T.size, pgv_len, hp])
  simpa [Instr.loadAt, Instr.sureAddr, Result.andThen, pgV] using this
theorem bxAll {w : World} {g : Nat} {t' : TypeId} {p : List Int} (h : BxV w g t' (pgv p)) : w.rangeAt g 0 (pgv p) := h.range 0 (pgv p) (by show (pgv p).take (pgv p).length = pgv p; exact List.take_length)
theorem run_allA (T : ArrT t n) (hn : 0 < n) (w : World) (g : Nat) : (Instr.sliceAt t (.pointer (some ⟨g, 0, none⟩)) none none none).run Try.prog w = .ok (.slice (some ⟨g, 0, none⟩) n n) w := by
  have h := run_sliceAt_array_all (P := Try.prog) w t ⟨g, 0, none⟩ T.undL
  rw [h]
  obtain ⟨ii, hii, hsz⟩ := Option.map_eq_some_iff.1 size_u8
  simp only [T.elem, sizeOf, typeInfo, T.len, slicedAt]
  have h3 : ¬ (n = 0) := by omega
  simp [hii, hsz, go_sem, Addr.plain, h3]
theorem run_fromA (T : ArrT t n) (w : World) (g i : Nat) (hi : i < n) (x : Int) (hx : x = (i : Int)) : (Instr.sliceAt t (.pointer (some ⟨g, 0, none⟩)) (some (.int .i64 x)) none none).run Try.prog w = .ok (.slice (some ⟨g, i, none⟩) (n - i) (n - i)) w := by
  subst hx
  have h := run_sliceAt_array_l (P := Try.prog) w t ⟨g, 0, none⟩ T.undL .i64 (i : Int) (by omega) (by rw [T.len]; omega)
  rw [h]
  obtain ⟨ii, hii, hsz⟩ := Option.map_eq_some_iff.1 size_u8
  simp only [T.elem, sizeOf, typeInfo, T.len, slicedAt, Int.toNat_natCast]
  have h3 : ¬ (n = i) := by omega
  simp [hii, hsz, go_sem, Addr.plain, h3]
theorem run_equalInA (T : ArrT t n) (w : World) (d : Nat) (xs ys : List Int) (hx : xs.length = n) (hy : ys.length = n) :
    (Op.equalIn (d + 2) t (pgV xs) (pgV ys)).run Try.prog w = .ok (xs == ys) w := by
  have he : Try.prog.underlying 5 = some (.int .u8) := Try.underlying5
  have hsz : ∀ w, (sizeOf 5).run Try.prog w = .ok 1 w := fun w => by kernel_rfl
  unfold pgV pgv
  rw [← all_range_eqI xs ys (hx.trans hy.symm), hx, List.range_eq_range', Op.equalIn]
  simp only [Sem.run_bind, run_underlying T.und, Result.andThen_ok, hsz, Std.Legacy.Range.forIn_eq_forIn_range', Std.Legacy.Range.size, Nat.sub_zero, Nat.add_sub_cancel, Nat.div_one]
  have hl : ∀ i ∈ List.range' 0 n 1, i < n := fun i hi => by simpa using (List.mem_range'_1.1 hi).2
  generalize List.range' 0 n 1 = l at hl ⊢
  induction l with
  | nil => simp
  | cons i l ih =>
    have hi : i < n := hl i (by simp)
    have px : (part 5 (xs.map (Value.int .u8)).toArray (i * 1)).run Try.prog w = .ok (.int .u8 (xs.getD i 0)) w := by
      simp [part, isAgg, run_underlying he, List.getD, List.getElem?_eq_getElem (show i < xs.length by omega)]
    have py : (part 5 (ys.map (Value.int .u8)).toArray (i * 1)).run Try.prog w = .ok (.int .u8 (ys.getD i 0)) w := by
      simp [part, isAgg, run_underlying he, List.getD, List.getElem?_eq_getElem (show i < ys.length by omega)]
    have pe : (Op.equalIn (d + 1) 5 (.int .u8 (xs.getD i 0)) (.int .u8 (ys.getD i 0))).run Try.prog w = .ok (xs.getD i 0 == ys.getD i 0) w := by
      rw [run_equalIn_int w d 5 .u8 .u8 _ _ he]
    simp only [List.forIn_cons, Sem.run_bind, px, py, pe, Result.andThen_ok, List.all_cons]
    cases hb : (xs.getD i 0 == ys.getD i 0)
    · simp
    · simp only [Bool.not_true, Bool.false_eq_true, if_false, Sem.run_pure, Result.andThen_ok, Bool.true_and]
      exact ih fun j hj => hl j (by simp [hj])
theorem run_eqlA (T : ArrT t n) (w : World) (xs ys : List Int) (hx : xs.length = n) (hy : ys.length = n) : (binOp .eql t (pgV xs) (pgV ys)).run Try.prog w = .ok (.bool (xs == ys)) w := by
  have := run_equalInA T w 9998 xs ys hx hy
  unfold pgV at *
  rw [run_eql_struct, this]; rfl
theorem run_neqA (T : ArrT t n) (w : World) (xs ys : List Int) (hx : xs.length = n) (hy : ys.length = n) : (binOp .neq t (pgV xs) (pgV ys)).run Try.prog w = .ok (.bool (!(xs == ys))) w := by
  have := run_equalInA T w 9998 xs ys hx hy
  unfold pgV at *
  rw [run_neq_struct, this]; rfl
theorem eqgA (T : ArrT t n) (x y : Operand) (p q : List Int) (w : World) : (eqGuard .eql t x y (pgV p) (pgV q)).run Try.prog w = .ok () w := by
  unfold pgV
  simp [eqGuard, T.eqg, go_sem]
theorem eqgAn (T : ArrT t n) (x y : Operand) (p q : List Int) (w : World) : (eqGuard .neq t x y (pgV p) (pgV q)).run Try.prog w = .ok () w := by
  unfold pgV
  simp [eqGuard, T.eqg, go_sem]
theorem run_indexA (T : ArrT t n) (w : World) (p : List Int) (hl : p.length = n) (i : Nat) (hi : i < n) : (Instr.index t (pgV p) (.int .i64 (i : Int))).run Try.prog w = .ok (.int .u8 (p.getD i 0)) w := by
  obtain ⟨ii, hii, hs⟩ := Option.map_eq_some_iff.1 size_u8
  have he : Try.prog.underlying 5 = some (.int .u8) := Try.underlying5
  have hgi : p[i]? = some (p.getD i 0) := by simp [List.getD, show i < p.length by omega]
  generalize p.getD i 0 = y at hgi
  unfold pgV pgv
  simp [Instr.index, asIntOf, run_underlying T.und, run_underlying he, part, isAgg, sizeOf, typeInfo, hii, hs, go_sem, hi, hgi]
theorem run_idxAt (T : ArrT t n) (w : World) (g i : Nat) (hi : i < n) (k : IntKind) : (Instr.indexAt t (.pointer (some ⟨g, 0, none⟩)) (.int k (i : Int))).run Try.prog w = .ok (.pointer (some ⟨g, i, none⟩)) w := by
  obtain ⟨ii, hii, hs⟩ := Option.map_eq_some_iff.1 size_u8
  simp [Instr.indexAt, asIntOf, run_underlying T.und, hi, sizeOf, typeInfo, hii, hs, go_sem, Addr.plain]
theorem results_arr {fn : Func} {q : Tmp} (T : ArrT t n) (h : fn.results = #[.cell q t]) (tmps : Array Value) (w : World) (g : Nat) (p : List Int) (hq : tmps.getD q undef = .pointer (some ⟨g, 0, none⟩)) (hA : BxV w g t (pgv p)) (hp : p.length = n) :
    (results fn tmps).run Try.prog w = .ok (pgV p) w :=
  results_cell_row h tmps w g t (pgv p).toArray (0, 0) _ hq hA T.und rfl (by rw [T.size]; simp [pgv_len, hp])
theorem results_arr2 {fn : Func} {q u : Tmp} (T : ArrT t n) (h : fn.results = #[.cell q t, .tmp u]) (tmps : Array Value) (w : World) (g : Nat) (p : List Int) (hq : tmps.getD q undef = .pointer (some ⟨g, 0, none⟩)) (hA : BxV w g t (pgv p)) (hp : p.length = n) :
    (results fn tmps).run Try.prog w = .ok (.tuple #[pgV p, tmps.getD u undef]) w := by
  rw [results_cell_tmp h, hq]
  have hr := run_loadVar_mid (P := Try.prog) w g 0 t (pgv p) _ (hA.range 0 _ (by simp)) T.und rfl (by rw [T.size, pgv_len, hp])
  simp only [asAddr, Sem.run_pure, Result.andThen_ok, hr]
  rfl
end
section
variable {t : TypeId} {n : Nat} {w : World} {ops : Array Oper} {rest : List Oper} {o : Oper} {a : Act} {Q : Exit → Act → World → Prop}
theorem wpList_buildA (T : ArrT t n) (hgd : Region.wanted o (yielded ops a.tmps) = true) (ho : o.op = .build t #[])
    (h : wpList Try.prog ops Q rest (a.put o.dst (pgV (zerB n))) w) : wpList Try.prog ops Q (o :: rest) a w := by
  refine wpList_wanted hgd fun K hK => ?_
  have hrun := run_build (P := Try.prog) w t #[] _ T.built
  unfold Oper.wp
  simp [execOp, ho, hrun, Result.andThen]
  exact hK _ _ h
theorem wpList_allocA (T : ArrT t n) (hgd : Region.wanted o (yielded ops a.tmps) = true) (ho : o.op = .alloc t)
    (h : ∀ g w', Hid (g = w.heap.size) → BxV w' g t (pgv (zerB n)) → Fr noB w w' → w.heap.size ≤ g → wpList Try.prog ops Q rest (a.put o.dst (.pointer (some ⟨g, 0, none⟩))) w') : wpList Try.prog ops Q (o :: rest) a w :=
  wpList_allocV hgd t ho _ T.zero h
theorem wpList_storeA (T : ArrT t n) (hgd : o.guard = none) (x y : Operand) (ho : o.op = .store t x y) (g : Nat) (hx : a.eval x = .pointer (some ⟨g, 0, none⟩)) (p : List Int) (hy : a.eval y = pgV p) (q : List Int) (hA : BxV w g t (pgv q))
    (hp : p.length = n) (hq : q.length = n)
    (h : ∀ w', BxV w' g t (pgv p) → Fr (onB1 g) w w' → wpList Try.prog ops Q rest (a.put o.dst undef) w') : wpList Try.prog ops Q (o :: rest) a w := by
  refine wpList_storeV hgd t x y ho g 0 hx (pgv p) hy t (pgv q) hA (by rw [T.size, pgv_len, hp]) (by rw [pgv_len, pgv_len, hp, hq]; omega) (pgv_one p) ?_
  intro w' h1 h2
  rw [putAt_all _ _ (by rw [pgv_len, pgv_len, hp, hq])] at h1
  exact h w' h1 h2
theorem wpList_loadA (T : ArrT t n) (hgd : Region.wanted o (yielded ops a.tmps) = true) (x : Operand) (ho : o.op = .load t x) (g : Nat) (hx : a.eval x = .pointer (some ⟨g, 0, none⟩)) (p : List Int) (hA : BxV w g t (pgv p)) (hp : p.length = n)
    (h : wpList Try.prog ops Q rest (a.put o.dst (pgV p)) w) : wpList Try.prog ops Q (o :: rest) a w := by
  refine wpList_wanted hgd fun K hK => ?_
  have hr := run_loadA T w g 0 p (bxAll hA) hp
  unfold Oper.wp execOp
  simp only [ho, hx, Sem.run_bind, hr, Result.andThen_ok]
  exact hK _ _ h
theorem wpList_allA (T : ArrT t n) (hn : 0 < n) (hgd : Region.wanted o (yielded ops a.tmps) = true) (x : Operand) (ho : o.op = .slice t x none none none) (g : Nat) (hx : a.eval x = .pointer (some ⟨g, 0, none⟩))
    (h : wpList Try.prog ops Q rest (a.put o.dst (.slice (some ⟨g, 0, none⟩) n n)) w) : wpList Try.prog ops Q (o :: rest) a w := by
  refine wpList_wanted hgd fun K hK => ?_
  have hr := run_allA T hn w g
  unfold Oper.wp
  simp [execOp, ho, hx, hr, Result.andThen]
  exact hK _ _ h
theorem wpList_fromA (T : ArrT t n) (hgd : Region.wanted o (yielded ops a.tmps) = true) (x lo : Operand) (ho : o.op = .slice t x (some lo) none none) (g : Nat) (hx : a.eval x = .pointer (some ⟨g, 0, none⟩)) (i : Nat) (zl : Int) (hlo : a.eval lo = .int .i64 zl) (hzl : zl = (i : Int)) (hi : i < n)
    (h : wpList Try.prog ops Q rest (a.put o.dst (.slice (some ⟨g, i, none⟩) (n - i) (n - i))) w) : wpList Try.prog ops Q (o :: rest) a w := by
  refine wpList_wanted hgd fun K hK => ?_
  have hr := run_fromA T w g i hi zl hzl
  unfold Oper.wp
  simp [execOp, ho, hx, hlo, hr, Result.andThen]
  exact hK _ _ h
theorem wpList_eqlA (T : ArrT t n) (hgd : Region.wanted o (yielded ops a.tmps) = true) (x y : Operand) (t' : TypeId) (ho : o.op = .binOp .eql t x y t') (p q : List Int) (hx : a.eval x = pgV p) (hy : a.eval y = pgV q) (hp : p.length = n) (hq : q.length = n)
    (h : wpList Try.prog ops Q rest (a.put o.dst (.bool (p == q))) w) : wpList Try.prog ops Q (o :: rest) a w := by
  refine wpList_wanted hgd fun K hK => ?_
  have hr := run_eqlA T w p q hp hq
  unfold Oper.wp
  simp [execOp, ho, hx, hy, hr, eqgA T, Result.andThen]
  exact hK _ _ h
theorem wpList_neqA (T : ArrT t n) (hgd : Region.wanted o (yielded ops a.tmps) = true) (x y : Operand) (t' : TypeId) (ho : o.op = .binOp .neq t x y t') (p q : List Int) (hx : a.eval x = pgV p) (hy : a.eval y = pgV q) (hp : p.length = n) (hq : q.length = n)
    (h : wpList Try.prog ops Q rest (a.put o.dst (.bool (!(p == q)))) w) : wpList Try.prog ops Q (o :: rest) a w := by
  refine wpList_wanted hgd fun K hK => ?_
  have hr := run_neqA T w p q hp hq
  unfold Oper.wp
  simp [execOp, ho, hx, hy, hr, eqgAn T, Result.andThen]
  exact hK _ _ h
theorem wpList_indexA (T : ArrT t n) (hgd : Region.wanted o (yielded ops a.tmps) = true) (x y : Operand) (ho : o.op = .index t x y) (p : List Int) (hx : a.eval x = pgV p) (hl : p.length = n) (i : Nat) (hy : a.eval y = .int .i64 (i : Int)) (hi : i < n)
    (h : wpList Try.prog ops Q rest (a.put o.dst (.int .u8 (p.getD i 0))) w) : wpList Try.prog ops Q (o :: rest) a w := by
  refine wpList_wanted hgd fun K hK => ?_
  have hrun := run_indexA T w p hl i hi
  unfold Oper.wp
  simp [execOp, ho, hx, hy, hrun, Result.andThen]
  exact hK _ _ h
theorem at_idxA (t : TypeId) (x y : Operand) (_ho : o.op = .indexAddr t x y) (h : wpList Try.prog ops Q (o :: rest) a w) : wpList Try.prog ops Q (o :: rest) a w := h
theorem wpList_idxAt (T : ArrT t n) (hgd : Region.wanted o (yielded ops a.tmps) = true) (x y : Operand) (ho : o.op = .indexAddr t x y) (g : Nat) (hx : a.eval x = .pointer (some ⟨g, 0, none⟩)) (k : IntKind) (z : Int) (i : Nat) (hy : a.eval y = .int k z) (hz : z = (i : Int)) (hi : i < n)
    (h : wpList Try.prog ops Q rest (a.put o.dst (.pointer (some ⟨g, i, none⟩))) w) : wpList Try.prog ops Q (o :: rest) a w := by
  refine wpList_wanted hgd fun K hK => ?_
  subst hz
  have hrun := run_idxAt T w g i hi k
  unfold Oper.wp
  simp [execOp, ho, hx, hy, hrun, Result.andThen]
  exact hK _ _ h
end
end Go.Proofs.Ythpcfijefcicpaa
