/- Texts P3, P4, OR, P5, BD of the proof of RootSpoilt, one behind the other. -/
import Derived.Laws.Tables
import Derived.Test.YtijgfojnppcbjaaBundleRootSpoilt1
/- The document's disk: There, act and Cut. -/
namespace Go.Proofs.Ytijgfojnppcbjaa
open Go.RowKit Go.Proofs.U
set_option linter.unusedSimpArgs false
set_option linter.unusedVariables false

/-- The document's disk as a value. -/
abbrev dkL (v1 v2 v3 : Value) (c : Bool) (l : Int) (d : Bool) : List Value := [v1, v2, v3, .bool c, .int .i64 l, .bool d]
abbrev dkV (v1 v2 v3 : Value) (c : Bool) (l : Int) (d : Bool) : Value := .agg #[v1, v2, v3, .bool c, .int .i64 l, .bool d]
theorem zero_disk : (Try.prog.info? 39).map (·.zero) = some (some (.agg (dkL (.slice none 0 0) (.slice none 0 0) (.slice none 0 0) false 0 false).toArray)) := by kernel_rfl
theorem size_disk : (Try.prog.info? 39).map (·.size) = some 6 := by kernel_rfl
theorem size_int : (Try.prog.info? 3).map (·.size) = some 1 := by kernel_rfl
theorem size_bool : (Try.prog.info? 4).map (·.size) = some 1 := by kernel_rfl

/-- A slice as a value. -/
def isSl (v : Value) : Prop := ∃ a n c, v = .slice a n c

section
variable {w : World} {ops : Array Oper} {rest : List Oper} {o : Oper} {a : Act} {Q : Exit → Act → World → Prop}
theorem wpList_stD (hgd : o.guard = none) (x y : Operand) (ho : o.op = .store 39 x y) (g : Nat) (hx : a.eval x = .pointer (some ⟨g, 0, none⟩)) (v1 v2 v3 : Value) (c : Bool) (l : Int) (d : Bool) (hy : a.eval y = dkV v1 v2 v3 c l d) (cs : List Value) (hA : BxV w g 39 cs) (hl : cs.length = 6)
    (h1 : isSl v1) (h2 : isSl v2) (h3 : isSl v3)
    (h : ∀ w', BxV w' g 39 (dkL v1 v2 v3 c l d) → Fr (onB1 g) w w' → wpList Try.prog ops Q rest (a.put o.dst undef) w') : wpList Try.prog ops Q (o :: rest) a w := by
  refine wpList_storeV hgd 39 x y ho g 0 hx (dkL v1 v2 v3 c l d) hy 39 cs hA (by rw [size_disk]; rfl) (by rw [hl]; exact Nat.le_refl _) ?_ ?_
  · obtain ⟨_, _, _, rfl⟩ := h1
    obtain ⟨_, _, _, rfl⟩ := h2
    obtain ⟨_, _, _, rfl⟩ := h3
    intro v hv
    simp at hv
    rcases hv with rfl | rfl | rfl | rfl | rfl | rfl <;> rfl
  · intro w' b f
    rw [putAt_all _ _ (by rw [hl]; rfl)] at b
    exact h w' b f
theorem wpList_ldD (hgd : o.guard = none) (x : Operand) (ho : o.op = .load 39 x) (g : Nat) (hx : a.eval x = .pointer (some ⟨g, 0, none⟩)) (v1 v2 v3 : Value) (c : Bool) (l : Int) (d : Bool) (hA : BxV w g 39 (dkL v1 v2 v3 c l d))
    (h : wpList Try.prog ops Q rest (a.put o.dst (dkV v1 v2 v3 c l d)) w) : wpList Try.prog ops Q (o :: rest) a w :=
  wpList_loadV hgd 39 x ho g 0 hx 39 (dkL v1 v2 v3 c l d) (dkL v1 v2 v3 c l d) _ hA Try.underlying39 rfl (by rw [size_disk]; rfl) (by simp) h
theorem wpList_allocD (hgd : Region.wanted o (yielded ops a.tmps) = true) (ho : o.op = .alloc 39)
    (h : ∀ g w', Hid (g = w.heap.size) → BxV w' g 39 (dkL (.slice none 0 0) (.slice none 0 0) (.slice none 0 0) false 0 false) → Fr noB w w' → w.heap.size ≤ g → wpList Try.prog ops Q rest (a.put o.dst (.pointer (some ⟨g, 0, none⟩))) w') : wpList Try.prog ops Q (o :: rest) a w :=
  wpList_allocV hgd 39 ho _ zero_disk h
end
/-- A disk and an error's number handed back. -/
theorem results_disk2 {fn : Func} {q u : Tmp} (h : fn.results = #[.cell q 39, .tmp u]) (tmps : Array Value) (w : World) (g : Nat) (v1 v2 v3 : Value) (c : Bool) (l : Int) (d : Bool) (hq : tmps.getD q undef = .pointer (some ⟨g, 0, none⟩)) (hA : BxV w g 39 (dkL v1 v2 v3 c l d)) :
    (results fn tmps).run Try.prog w = .ok (.tuple #[dkV v1 v2 v3 c l d, tmps.getD u undef]) w := by
  rw [results_cell_tmp h, hq]
  have hr := run_loadVar_mid (P := Try.prog) w g 0 39 (dkL v1 v2 v3 c l d) _ (hA.range 0 _ (by simp)) Try.underlying39 rfl (by rw [size_disk]; rfl)
  simp only [asAddr, Sem.run_pure, Result.andThen_ok, hr]

theorem results_disk1 {fn : Func} {q : Tmp} (h : fn.results = #[.cell q 39]) (tmps : Array Value) (w : World) (g : Nat) (v1 v2 v3 : Value) (c : Bool) (l : Int) (d : Bool) (hq : tmps.getD q undef = .pointer (some ⟨g, 0, none⟩)) (hA : BxV w g 39 (dkL v1 v2 v3 c l d)) :
    (results fn tmps).run Try.prog w = .ok (dkV v1 v2 v3 c l d) w :=
  results_cell_row h tmps w g 39 (dkL v1 v2 v3 c l d).toArray (0, 0) _ hq hA Try.underlying39 rfl (by rw [size_disk]; rfl)

set_option maxHeartbeats 1000000 in
theorem there_any (a : Option Addr) (n cap : Nat) (v2 v3 : Value) (c : Bool) (l : Int) (d : Bool) (i : Int) (w : World) :
    Calls Try.prog 40 #[dkV (.slice a n cap) v2 v3 c l d, .int .i64 i] w fun r w' => r = .returned (.bool (decide (0 ≤ i) && decide (i < (n : Int)))) ∧ Fr noB w w' := by
  by_cases h0 : 0 ≤ i
  · go_enter Try.func40, Try.ntmps40
    go_wp2_with (with_reducible refine at_wpP ?_; refine wpList_boxV rfl 39 _ rfl (dkL (.slice a n cap) v2 v3 c l d) rfl ?_; intro g1 w1 hg1 b1 f1 s1; obtain ⟨k0, k1, k2, k3, k4, k5⟩ := b1.six)
    go_ret
    exact ⟨by simp [h0], f1⟩
  · have h1 : decide (0 ≤ i) = false := by simpa using h0
    go_enter Try.func40, Try.ntmps40
    go_wp2_with (with_reducible refine at_wpP ?_; refine wpList_boxV rfl 39 _ rfl (dkL (.slice a n cap) v2 v3 c l d) rfl ?_; intro g1 w1 hg1 b1 f1 s1; obtain ⟨k0, k1, k2, k3, k4, k5⟩ := b1.six)
    go_ret
    exact ⟨rfl, f1⟩

/-- What an act does: counted, left, down, error. -/
def actR (c : Bool) (l : Int) (d : Bool) : Int × Bool × Int := if d || (c && l == 0) then (l, true, 42) else if c then (l - 1, d, 0) else (l, d, 0)

set_option maxHeartbeats 2000000 in
theorem ract_any (v1 v2 v3 : Value) (h1 : isSl v1) (h2 : isSl v2) (h3 : isSl v3) (c : Bool) (l : Int) (hl : c = true → -9223372036854775808 < l ∧ l ≤ 9223372036854775807) (d : Bool) (w : World) :
    Calls Try.prog 41 #[dkV v1 v2 v3 c l d] w fun r w' => r = .returned (.tuple #[dkV v1 v2 v3 c (actR c l d).1 (actR c l d).2.1, .int .i64 (actR c l d).2.2]) ∧ Fr noB w w' := by
  cases d with
  | true =>
    have hr : actR c l true = (l, true, 42) := by simp [actR]
    rw [hr]
    go_enter Try.func41, Try.ntmps41
    go_wp2_with (first
      | (with_reducible refine at_wpP ?_; refine wpList_boxV rfl 39 _ rfl (dkL v1 v2 v3 c l true) rfl ?_; intro g1 w1 hg1 b1 f1 s1)
      | (with_reducible refine at_wpP ?_; refine wpList_allocD rfl rfl ?_; intro g2 w2 hg2 b2 f2 s2; have c2 := b1.fr0 f2; have hl1 := b1.lt; have hl2 := b2.lt; obtain ⟨k0, k1, k2, k3, k4, k5⟩ := c2.six)
      | (with_reducible refine at_wpP ?_; refine wpList_store1 rfl 4 _ _ rfl g1 5 rfl (.bool true) rfl rfl _ _ c2 size_bool (by simp) ?_; go_must (intro w3 c3 f3; have c3 : BxV w3 g1 39 (dkL v1 v2 v3 c l true) := (by simpa using c3); have b3 := b2.ne f3 (by omega)))
      | (with_reducible refine at_wpP ?_; refine wpList_ldD rfl _ rfl g1 rfl v1 v2 v3 c (l) true c3 ?_)
      | (with_reducible refine at_wpP ?_; refine wpList_stD rfl _ _ rfl g2 rfl v1 v2 v3 c (l) true rfl _ b3 rfl h1 h2 h3 ?_; intro w4 b4 f4))
    refine bodyPost_ret (v := .tuple #[dkV v1 v2 v3 c (l) true, .int .i64 42]) (results_disk2 Try.results41 _ w4 g2 v1 v2 v3 c (l) true rfl b4) rfl ⟨rfl, ?_⟩
    exact ((f1.thenN f2).thenT f3 (fun i hi q => by unfold onB1 at q; have := f1.size; omega)).thenT f4 (fun i hi q => by unfold onB1 at q; have := f1.size; omega)
  | false =>
    cases c with
    | false =>
      have hr : actR false l false = (l, false, 0) := by simp [actR]
      rw [hr]
      go_enter Try.func41, Try.ntmps41
      go_wp2_with (first
        | (with_reducible refine at_wpP ?_; refine wpList_boxV rfl 39 _ rfl (dkL v1 v2 v3 false l false) rfl ?_; intro g1 w1 hg1 b1 f1 s1)
        | (with_reducible refine at_wpP ?_; refine wpList_allocD rfl rfl ?_; intro g2 w2 hg2 b2 f2 s2; have c2 := b1.fr0 f2; have hl1 := b1.lt; have hl2 := b2.lt; obtain ⟨k0, k1, k2, k3, k4, k5⟩ := c2.six)
        | (with_reducible refine at_wpP ?_; refine wpList_ldD rfl _ rfl g1 rfl v1 v2 v3 false (l) false c2 ?_)
        | (with_reducible refine at_wpP ?_; refine wpList_stD rfl _ _ rfl g2 rfl v1 v2 v3 false (l) false rfl _ b2 rfl h1 h2 h3 ?_; intro w4 b4 f4))
      refine bodyPost_ret (v := .tuple #[dkV v1 v2 v3 false (l) false, .int .i64 0]) (results_disk2 Try.results41 _ w4 g2 v1 v2 v3 false (l) false rfl b4) rfl ⟨rfl, ?_⟩
      exact (f1.thenN f2).thenT f4 (fun i hi q => by unfold onB1 at q; have := f1.size; omega)
    | true =>
      have hl := hl rfl
      by_cases h0 : l = 0
      · subst h0
        have hr : actR true 0 false = (0, true, 42) := by simp [actR]
        rw [hr]
        go_enter Try.func41, Try.ntmps41
        go_wp2_with (first
          | (with_reducible refine at_wpP ?_; refine wpList_boxV rfl 39 _ rfl (dkL v1 v2 v3 true 0 false) rfl ?_; intro g1 w1 hg1 b1 f1 s1)
          | (with_reducible refine at_wpP ?_; refine wpList_allocD rfl rfl ?_; intro g2 w2 hg2 b2 f2 s2; have c2 := b1.fr0 f2; have hl1 := b1.lt; have hl2 := b2.lt; obtain ⟨k0, k1, k2, k3, k4, k5⟩ := c2.six)
          | (with_reducible refine at_wpP ?_; refine wpList_store1 rfl 4 _ _ rfl g1 5 rfl (.bool true) rfl rfl _ _ c2 size_bool (by simp) ?_; go_must (intro w3 c3 f3; have c3 : BxV w3 g1 39 (dkL v1 v2 v3 true 0 true) := (by simpa using c3); have b3 := b2.ne f3 (by omega)))
          | (with_reducible refine at_wpP ?_; refine wpList_ldD rfl _ rfl g1 rfl v1 v2 v3 true (0) true c3 ?_)
          | (with_reducible refine at_wpP ?_; refine wpList_stD rfl _ _ rfl g2 rfl v1 v2 v3 true (0) true rfl _ b3 rfl h1 h2 h3 ?_; intro w4 b4 f4))
        refine bodyPost_ret (v := .tuple #[dkV v1 v2 v3 true (0) true, .int .i64 42]) (results_disk2 Try.results41 _ w4 g2 v1 v2 v3 true (0) true rfl b4) rfl ⟨rfl, ?_⟩
        exact ((f1.thenN f2).thenT f3 (fun i hi q => by unfold onB1 at q; have := f1.size; omega)).thenT f4 (fun i hi q => by unfold onB1 at q; have := f1.size; omega)
      · have hb : (l == 0) = false := by simpa using h0
        have hr : actR true l false = (l - 1, false, 0) := by simp [actR, hb]
        rw [hr]
        go_enter Try.func41, Try.ntmps41
        go_wp2_with (first
          | (with_reducible refine at_wpP ?_; refine wpList_boxV rfl 39 _ rfl (dkL v1 v2 v3 true l false) rfl ?_; intro g1 w1 hg1 b1 f1 s1)
          | (with_reducible refine at_wpP ?_; refine wpList_allocD rfl rfl ?_; intro g2 w2 hg2 b2 f2 s2; have c2 := b1.fr0 f2; have hl1 := b1.lt; have hl2 := b2.lt; obtain ⟨k0, k1, k2, k3, k4, k5⟩ := c2.six)
          | (with_reducible refine at_wpP ?_; refine wpList_store1 rfl 3 _ _ rfl g1 4 rfl (.int .i64 (l - 1)) rfl rfl _ _ c2 size_int (by simp) ?_; go_must (intro w3 c3 f3; have c3 : BxV w3 g1 39 (dkL v1 v2 v3 true (l - 1) false) := (by simpa using c3); have b3 := b2.ne f3 (by omega)))
          | (with_reducible refine at_wpP ?_; refine wpList_ldD rfl _ rfl g1 rfl v1 v2 v3 true (l - 1) false c3 ?_)
          | (with_reducible refine at_wpP ?_; refine wpList_stD rfl _ _ rfl g2 rfl v1 v2 v3 true (l - 1) false rfl _ b3 rfl h1 h2 h3 ?_; intro w4 b4 f4))
        refine bodyPost_ret (v := .tuple #[dkV v1 v2 v3 true (l - 1) false, .int .i64 0]) (results_disk2 Try.results41 _ w4 g2 v1 v2 v3 true (l - 1) false rfl b4) rfl ⟨rfl, ?_⟩
        exact ((f1.thenN f2).thenT f3 (fun i hi q => by unfold onB1 at q; have := f1.size; omega)).thenT f4 (fun i hi q => by unfold onB1 at q; have := f1.size; omega)

set_option maxHeartbeats 1000000 in
theorem rcut_any (v1 v2 v3 : Value) (h1 : isSl v1) (h2 : isSl v2) (h3 : isSl v3) (c : Bool) (l : Int) (d : Bool) (n : Int) (w : World) :
    Calls Try.prog 20 #[dkV v1 v2 v3 c l d, .int .i64 n] w fun r w' => r = .returned (dkV v1 v2 v3 (decide (0 ≤ n)) n d) ∧ Fr noB w w' := by
  obtain ⟨b, Hb⟩ : ∃ b, Hid (decide (0 ≤ n) = b) := ⟨_, rfl⟩
  rw [Hb.out]
  have hb := Hb.out
  go_enter Try.func20, Try.ntmps20
  go_wp2_with (first
    | (with_reducible refine at_wpP ?_; refine wpList_boxV rfl 39 _ rfl (dkL v1 v2 v3 c l d) rfl ?_; intro g1 w1 hg1 b1 f1 s1)
    | (with_reducible refine at_wpP ?_; refine wpList_allocD rfl rfl ?_; intro g2 w2 hg2 b2 f2 s2; have c2 := b1.fr0 f2; have hl1 := b1.lt; have hl2 := b2.lt)
    | (with_reducible refine at_wpP ?_; refine wpList_store1 rfl 4 _ _ rfl g1 3 rfl (.bool b) rfl rfl _ _ c2 size_bool (by simp) ?_; go_must (intro w3 c3 f3; have c3 : BxV w3 g1 39 (dkL v1 v2 v3 b l d) := (by simpa using c3); have b3 := b2.ne f3 (by omega)))
    | (with_reducible refine at_wpP ?_; refine wpList_store1 rfl 3 _ _ rfl g1 4 rfl (.int .i64 n) rfl rfl _ _ c3 size_int (by simp) ?_; go_must (intro w4 c4 f4; have c4 : BxV w4 g1 39 (dkL v1 v2 v3 b n d) := (by simpa using c4); have b4 := b3.ne f4 (by omega)))
    | (with_reducible refine at_wpP ?_; refine wpList_ldD rfl _ rfl g1 rfl v1 v2 v3 b n d c4 ?_)
    | (with_reducible refine at_wpP ?_; refine wpList_stD rfl _ _ rfl g2 rfl v1 v2 v3 b n d rfl _ b4 rfl h1 h2 h3 ?_; intro w5 b5 f5))
  refine bodyPost_ret (v := dkV v1 v2 v3 b n d) (results_disk1 Try.results20 _ w5 g2 v1 v2 v3 b n d rfl b5) rfl ⟨rfl, ?_⟩
  have z1 := f1.size
  exact (((f1.thenN f2).thenT f3 (fun i hi q => by unfold onB1 at q; omega)).thenT f4 (fun i hi q => by unfold onB1 at q; omega)).thenT f5 (fun i hi q => by unfold onB1 at q; omega)
end Go.Proofs.Ytijgfojnppcbjaa
/- The document's disk: Read. -/
namespace Go.Proofs.Ytijgfojnppcbjaa
open Go.RowKit Go.Proofs.U
set_option linter.unusedSimpArgs false
set_option linter.unusedVariables false

abbrev encB (b : Bool) : List Value := [.bool b]
def encW (x : Int × List Int) : List Value := .int .i64 x.1 :: pgv x.2
abbrev SlPg (w : World) (v : Value) (l : List (List Int)) : Prop := SlR pgv 256 w v l
abbrev SlBo (w : World) (v : Value) (l : List Bool) : Prop := SlR encB 1 w v l
abbrev SlWr (w : World) (v : Value) (l : List (Int × List Int)) : Prop := SlR encW 257 w v l
theorem SlR.isSl {α : Type} {ec : α → List Value} {sz : Nat} {w : World} {v : Value} {l : List α} (h : SlR ec sz w v l) : isSl v := by
  obtain ⟨a, c, rfl, _⟩ := h.opn; exact ⟨_, _, _, rfl⟩
theorem write_size : (Try.prog.info? 91).map (·.size) = some 257 := by kernel_rfl

/-- What a page reads as: the last write of it, or what is stable. -/
def lastW (pend : List (Int × List Int)) (i : Int) (p : List Int) : List Int := pend.foldl (fun q x => if x.1 == i then x.2 else q) p
theorem lastW_none (i : Int) (p : List Int) (l : List (Int × List Int)) (h : ∀ x ∈ l, (x.1 == i) = false) : lastW l i p = p := by
  unfold lastW
  induction l generalizing p with
  | nil => rfl
  | cons x l ih => rw [List.foldl_cons, h x (by simp)]; exact ih p (fun y hy => h y (by simp [hy]))
theorem lastW_hit (i : Int) (p : List Int) (l : List (Int × List Int)) (k : Nat) (hk : k < l.length) (hx : (l[k].1 == i) = true) (h : ∀ j (hj : j < l.length), k < j → (l[j].1 == i) = false) : lastW l i p = l[k].2 := by
  have e : l = l.take (k + 1) ++ l.drop (k + 1) := (List.take_append_drop _ _).symm
  have h2 : ∀ x ∈ l.drop (k + 1), (x.1 == i) = false := by
    intro x hx
    obtain ⟨j, hj, rfl⟩ := List.mem_iff_getElem.1 hx
    rw [List.getElem_drop]
    exact h _ _ (by omega)
  have : lastW l i p = lastW (l.drop (k + 1)) i (lastW (l.take (k + 1)) i p) := by
    conv => lhs; rw [e]
    unfold lastW; rw [List.foldl_append]
  rw [this, lastW_none _ _ _ h2, List.take_succ_eq_append_getElem hk]
  unfold lastW
  rw [List.foldl_append, List.foldl_cons, List.foldl_nil, hx]
  rfl

theorem results_page2 {fn : Func} {q u : Tmp} (h : fn.results = #[.cell q 46, .tmp u]) (tmps : Array Value) (w : World) (g : Nat) (p : List Int) (hq : tmps.getD q undef = .pointer (some ⟨g, 0, none⟩)) (hA : BxV w g 46 (pgv p)) (hp : p.length = 256) :
    (results fn tmps).run Try.prog w = .ok (.tuple #[pgV p, tmps.getD u undef]) w := by
  rw [results_cell_tmp h, hq]
  have hr := run_loadVar_mid (P := Try.prog) w g 0 46 (pgv p) _ (hA.range 0 _ (by simp)) Try.underlying46 rfl (by rw [size_page, pgv_len, hp])
  simp only [asAddr, Sem.run_pure, Result.andThen_ok, hr]
  rfl

theorem range_of {w : World} {b o : Nat} {cs : List Value} (h : ∀ (j : Nat) (v : Value), cs[j]? = some v → w.cell? ⟨b, o + j, none⟩ = some v) : w.rangeAt b o cs := by
  intro j v hj
  exact h j v hj
section
variable {w : World} {ops : Array Oper} {rest : List Oper} {o : Oper} {a : Act} {Q : Exit → Act → World → Prop}
/-- A page read out of the midst of a block. -/
theorem wpList_ldPm (hgd : o.guard = none) (x : Operand) (ho : o.op = .load 46 x) (b off : Nat) (hx : a.eval x = .pointer (some ⟨b, off, none⟩)) (p : List Int) (hc : w.rangeAt b off (pgv p)) (hp : p.length = 256)
    (h : wpList Try.prog ops Q rest (a.put o.dst (pgV p)) w) : wpList Try.prog ops Q (o :: rest) a w :=
  wpList_load_mid hgd 46 x ho b off hx (pgv p) _ hc Try.underlying46 rfl (by rw [size_page, pgv_len, hp]) h
end

def readR (pages : List (List Int)) (bad : List Bool) (pend : List (Int × List Int)) (i : Int) : List Int × Int :=
  if 0 ≤ i ∧ i < (pages.length : Int) then (if bad.getD i.toNat false then (zeroP, 43) else (lastW pend i (pages.getD i.toNat []), 0)) else (zeroP, 41)

set_option maxRecDepth 100000 in
set_option maxHeartbeats 2000000 in
theorem rread_any (v1 v2 v3 : Value) (pages : List (List Int)) (bad : List Bool) (pend : List (Int × List Int)) (c : Bool) (l : Int) (d : Bool) (i : Int) (w : World)
    (h1 : SlPg w v1 pages) (h2 : SlBo w v2 bad) (h3 : SlWr w v3 pend) (hlb : bad.length = pages.length) (hm : pages.length ≤ 100000) (hm3 : pend.length ≤ 100000) :
    Calls Try.prog 45 #[dkV v1 v2 v3 c l d, .int .i64 i] w fun r w' => r = .returned (.tuple #[pgV (readR pages bad pend i).1, .int .i64 (readR pages bad pend i).2]) ∧ Fr noB w w' := by
  obtain ⟨a1, c1, rfl, _⟩ := h1.opn
  obtain ⟨a2, c2', rfl, _⟩ := h2.opn
  obtain ⟨a3, c3', rfl, _⟩ := h3.opn
  obtain ⟨Z, HZ⟩ : ∃ Z, Hid (zeroP = Z) := ⟨_, rfl⟩
  have hZl : Hid (Z.length = 256) := by show _ = _; rw [← HZ.out]; exact zeroP_len
  have Hlb := show Hid _ from hlb
  clear hlb
  by_cases hi : 0 ≤ i ∧ i < (pages.length : Int)
  · obtain ⟨n, rfl⟩ : ∃ n : Nat, i = n := ⟨i.toNat, by omega⟩
    have hn : n < pages.length := by omega
    have hnb : n < bad.length := by rw [Hlb.out]; exact hn
    have ht : (decide (0 ≤ (n : Int)) && decide ((n : Int) < (pages.length : Int))) = true := by simp; omega
    have hr : readR pages bad pend (n : Int) = if bad[n] then (Z, 43) else (lastW pend (n : Int) pages[n], 0) := by
      unfold readR; rw [if_pos hi, HZ.out]; simp [List.getD, hn, hnb]
    rw [hr]
    clear hr
    obtain ⟨bn, Hbn⟩ : ∃ b, Hid (bad[n] = b) := ⟨bad[n], (rfl : bad[n] = bad[n])⟩
    rw [Hbn.out]
    cases bn with
    | true =>
      simp only [if_true]
      go_enter Try.func45, Try.ntmps45
      go_wp2_with (first
        | (with_reducible refine at_wpP ?_; refine wpList_boxV rfl 39 _ rfl (dkL (.slice a1 pages.length c1) (.slice a2 bad.length c2') (.slice a3 pend.length c3') c l d) rfl ?_; intro g1 w1 hg1 b1 f1 s1)
        | (with_reducible refine at_wpP ?_; refine wpList_allocP rfl rfl ?_; rw [HZ.out]; intro g2 w2 hg2 b2 f2 s2; have c2 := b1.fr0 f2; have hl1 := b1.lt; have hl2 := b2.lt)
        | (with_reducible refine at_wpP ?_; refine wpList_ldD rfl _ rfl g1 rfl _ _ _ c l d c2 ?_)
        | (go_at_call 40; go_must (refine (there_any _ _ _ _ _ _ _ _ _ _).mono ?_; rintro e w3 ⟨rfl, f3⟩; have b3 := b2.fr0 f3; have c3 := c2.fr0 f3; obtain ⟨k0, k1, k2, k3, k4, k5⟩ := c3.six))
        | (refine at_idx 36 _ _ rfl ?_; go_must (refine wpList_idxR rfl 36 _ _ rfl 4 Try.underlying36 1 size_bool _ _ _ rfl (h2.fr0 ((f1.thenN f2).thenN f3)) (by decide) _ _ n rfl rfl hnb ?_; rw [Hbn.out]; intro ba oa hba hca; have p0 := hca 0 _ rfl; rw [Nat.add_zero] at p0))
        | (with_reducible refine at_wpP ?_; refine wpList_buildP rfl rfl ?_; rw [HZ.out])
        | (with_reducible refine at_wpP ?_; refine wpList_storeP rfl _ _ rfl g2 rfl _ rfl _ b3 hZl.out hZl.out ?_; intro w4 b4 f4))
      refine bodyPost_ret (v := .tuple #[pgV Z, .int .i64 43]) (results_page2 Try.results45 _ w4 g2 Z rfl b4 hZl.out) rfl ⟨rfl, ?_⟩
      exact ((f1.thenN f2).thenN f3).thenT f4 (fun i hi q => by unfold onB1 at q; have := f1.size; omega)
    | false =>
      simp only [Bool.false_eq_true, if_false]
      obtain ⟨R, HR⟩ : ∃ R, Hid (lastW pend (n : Int) pages[n] = R) := ⟨lastW pend (n : Int) pages[n], (rfl : _ = _)⟩
      rw [HR.out]
      have hPl := h1.1
      have hWl := h3.1
      go_enter Try.func45, Try.ntmps45
      go_wp2_with (first
        | (with_reducible refine at_wpP ?_; refine wpList_boxV rfl 39 _ rfl (dkL (.slice a1 pages.length c1) (.slice a2 bad.length c2') (.slice a3 pend.length c3') c l d) rfl ?_; intro g1 w1 hg1 b1 f1 s1)
        | (with_reducible refine at_wpP ?_; refine wpList_allocP rfl rfl ?_; rw [HZ.out]; intro g2 w2 hg2 b2 f2 s2; have c2 := b1.fr0 f2; have hl1 := b1.lt; have hl2 := b2.lt)
        | (with_reducible refine at_wpP ?_; refine wpList_ldD rfl _ rfl g1 rfl _ _ _ c l d c2 ?_)
        | (go_at_call 40; go_must (refine (there_any _ _ _ _ _ _ _ _ _ _).mono ?_; rintro e w3 ⟨rfl, f3⟩; have b3 := b2.fr0 f3; have c3 := c2.fr0 f3; obtain ⟨k0, k1, k2, k3, k4, k5⟩ := c3.six))
        | (refine at_idx 36 _ _ rfl ?_; go_must (refine wpList_idxR rfl 36 _ _ rfl 4 Try.underlying36 1 size_bool _ _ _ rfl (h2.fr0 ((f1.thenN f2).thenN f3)) (by decide) _ _ n rfl rfl hnb ?_; rw [Hbn.out]; intro ba oa hba hca; have p0 := hca 0 _ rfl; rw [Nat.add_zero] at p0)))
      have F3 := (f1.thenN f2).thenN f3
      have z1 := f1.size
      go_loop [6] (fun kk => ∃ m : Nat, m ≤ pend.length ∧ kk = .int .i64 ((m : Int) - 1) ∧ Hid (∀ j (hj : j < pend.length), m ≤ j → (pend[j].1 == (n : Int)) = false)) (fun kk => (intOf kk + 1).toNat)
      case atStart => exact ⟨pend.length, Nat.le_refl _, rfl, show ∀ j (hj : j < pend.length), _ from fun j hj h => by omega⟩
      case round =>
        obtain ⟨m, hm', rfl, hall⟩ := hrel
        rcases m with _ | k
        · have hR : Hid (pages[n] = R) := by
            show _ = _
            rw [← HR.out, lastW_none]
            intro x hx
            obtain ⟨j, hj, rfl⟩ := List.mem_iff_getElem.1 hx
            exact hall.out j hj (Nat.zero_le _)
          have hRl : R.length = 256 := by rw [← hR.out, ← pgv_len]; exact hPl _ (by simp)
          have e1 : ¬ ((0 : Int) ≤ ((0 : Nat) : Int) - 1) := by omega
          go_wp2_with (first
            | (refine at_idx 35 _ _ rfl ?_; go_must (refine wpList_idxR rfl 35 _ _ rfl 46 Try.underlying35 256 size_page _ _ _ rfl (h1.fr0 F3) (by decide) _ _ n rfl rfl hn ?_; rw [hR.out]; intro ba oa hba hca))
            | (with_reducible refine at_wpP ?_; refine wpList_ldPm rfl _ rfl ba oa rfl R (range_of fun j v hj => hca j v hj) hRl ?_)
            | (with_reducible refine at_wpP ?_; refine wpList_storeP rfl _ _ rfl g2 rfl _ rfl _ b3 hRl hZl.out ?_; intro w4 b4 f4))
          refine bodyPost_ret (v := .tuple #[pgV R, .int .i64 0]) (results_page2 Try.results45 _ w4 g2 R rfl b4 hRl) rfl ⟨rfl, ?_⟩
          exact F3.thenT f4 (fun i hi q => by unfold onB1 at q; omega)
        · have hk : k < pend.length := by omega
          have e1 : ((0 : Int) ≤ ((k + 1 : Nat) : Int) - 1) := by omega
          have e2 : ((k + 1 : Nat) : Int) - 1 = (k : Int) := by omega
          obtain ⟨X, HX⟩ : ∃ X, Hid (pend[k] = X) := ⟨pend[k], (rfl : pend[k] = pend[k])⟩
          obtain ⟨x1, x2⟩ := X
          by_cases hx : x1 = (n : Int)
          · have hR : x2 = R := by
              rw [← HR.out, lastW_hit (n : Int) pages[n] pend k hk (by rw [HX.out]; simpa using hx) (fun j hj hkj => hall.out j hj (by omega)), HX.out]
            subst hR
            subst hx
            have hRl : x2.length = 256 := by
              have := hWl pend[k] (by simp)
              rw [HX.out] at this
              simpa [encW, pgv_len] using this
            rw [e2]
            go_wp2_with (first
              | (refine at_idx 37 _ _ rfl ?_; go_must (refine wpList_idxR rfl 37 _ _ rfl 91 Try.underlying37 257 write_size _ _ _ rfl (h3.fr0 F3) (by decide) _ _ k rfl rfl hk ?_; rw [HX.out]; intro ba oa hba hca; have p0 := hca 0 _ rfl; rw [Nat.add_zero] at p0))
              | (with_reducible refine at_wpP ?_; refine wpList_ldPm rfl _ rfl ba (oa + 1) rfl x2 (range_of fun j v hj => by have := hca (j + 1) v (by simpa [encW] using hj); rwa [show oa + (j + 1) = oa + 1 + j by omega] at this) hRl ?_)
              | (with_reducible refine at_wpP ?_; refine wpList_storeP rfl _ _ rfl g2 rfl _ rfl _ b3 hRl hZl.out ?_; intro w4 b4 f4))
            refine bodyPost_ret (v := .tuple #[pgV x2, .int .i64 0]) (results_page2 Try.results45 _ w4 g2 x2 rfl b4 hRl) rfl ⟨rfl, ?_⟩
            exact F3.thenT f4 (fun i hi q => by unfold onB1 at q; omega)
          · have hxb : (x1 == (n : Int)) = false := by simpa using hx
            rw [e2]
            go_wp2_with (refine at_idx 37 _ _ rfl ?_; go_must (refine wpList_idxR rfl 37 _ _ rfl 91 Try.underlying37 257 write_size _ _ _ rfl (h3.fr0 F3) (by decide) _ _ k rfl rfl hk ?_; rw [HX.out]; intro ba oa hba hca; have p0 := hca 0 _ rfl; rw [Nat.add_zero] at p0))
            go_round
            case rel =>
              refine ⟨k, by omega, by go_num, ?_⟩
              show ∀ j (hj : j < pend.length), _
              intro j hj hkj
              by_cases hjk : j = k
              · subst hjk; rw [HX.out]; exact hxb
              · exact hall.out j hj (by omega)
            case measure => simp [intOf]
  · have hr : readR pages bad pend i = (Z, 41) := by unfold readR; rw [if_neg hi, HZ.out]
    rw [hr]
    have ht : (decide (0 ≤ i) && decide (i < (pages.length : Int))) = false := by
      rw [Bool.and_eq_false_iff]; simp; omega
    go_enter Try.func45, Try.ntmps45
    go_wp2_with (first
      | (with_reducible refine at_wpP ?_; refine wpList_boxV rfl 39 _ rfl (dkL (.slice a1 pages.length c1) (.slice a2 bad.length c2') (.slice a3 pend.length c3') c l d) rfl ?_; intro g1 w1 hg1 b1 f1 s1)
      | (with_reducible refine at_wpP ?_; refine wpList_allocP rfl rfl ?_; rw [HZ.out]; intro g2 w2 hg2 b2 f2 s2; have c2 := b1.fr0 f2; have hl1 := b1.lt; have hl2 := b2.lt)
      | (with_reducible refine at_wpP ?_; refine wpList_ldD rfl _ rfl g1 rfl _ _ _ c l d c2 ?_)
      | (go_at_call 40; go_must (refine (there_any _ _ _ _ _ _ _ _ _ _).mono ?_; rintro e w3 ⟨rfl, f3⟩; have b3 := b2.fr0 f3))
      | (with_reducible refine at_wpP ?_; refine wpList_buildP rfl rfl ?_; rw [HZ.out])
      | (with_reducible refine at_wpP ?_; refine wpList_storeP rfl _ _ rfl g2 rfl _ rfl _ b3 hZl.out hZl.out ?_; intro w4 b4 f4))
    refine bodyPost_ret (v := .tuple #[pgV Z, .int .i64 41]) (results_page2 Try.results45 _ w4 g2 Z rfl b4 hZl.out) rfl ⟨rfl, ?_⟩
    exact ((f1.thenN f2).thenN f3).thenT f4 (fun i hi q => by unfold onB1 at q; have := f1.size; omega)
end Go.Proofs.Ytijgfojnppcbjaa
/- Rows of the call's own making whose elements take several cells: read, stored, appended to; no condition. -/
namespace Go.Proofs.U
open Go.RowKit
set_option linter.unusedSimpArgs false
set_option linter.unusedVariables false

def OwnR {α : Type} (ec : α → List Value) (sz : Nat) (e : TypeId) (w : World) (base : Nat) (v : Value) (l : List α) : Prop := (∀ x ∈ l, (ec x).length = sz) ∧ w.ownsRow base e sz v l.length (l.flatMap ec)

section
variable {α : Type} {ec : α → List Value} {sz : Nat} {e : TypeId} {w w' : World} {base : Nat} {v : Value} {l : List α}
theorem OwnR.sl (h : OwnR ec sz e w base v l) : SlR ec sz w v l := ⟨h.1, Sl.of_owns h.2⟩
theorem OwnR.opn (h : OwnR ec sz e w base v l) : ∃ a cap, v = .slice a l.length cap := by
  obtain ⟨a, cap, hv, _⟩ := h.sl.opn; exact ⟨a, cap, hv⟩
theorem OwnR.newB (h : OwnR ec sz e w base v l) : ∀ j, v.ownBlock = some j → base ≤ j ∧ j < w.heap.size := World.ownsRow.lt h.2
theorem OwnR.fr {S : Nat → Prop} (h : OwnR ec sz e w base v l) (hf : Fr S w w') (hs : ∀ k, v.ownBlock = some k → ¬ S k) : OwnR ec sz e w' base v l := by
  refine ⟨h.1, h.2.1, ?_⟩
  rcases h.2.2 with h0 | ⟨g, cap, cur, hv, h1, h2, h3⟩
  · exact Or.inl h0
  · exact Or.inr ⟨g, cap, cur, hv, h1, (hf.block g (Array.getElem?_eq_some_iff.1 h2).1 (hs g (by rw [hv]; rfl))).trans h2, h3⟩
theorem OwnR.fr0 (h : OwnR ec sz e w base v l) (hf : Fr noB w w') : OwnR ec sz e w' base v l := h.fr hf (fun _ _ q => q)
theorem OwnR.ne {g : Nat} (h : OwnR ec sz e w base v l) (hf : Fr (onB1 g) w w') (hg : ∀ k, v.ownBlock = some k → k ≠ g) : OwnR ec sz e w' base v l := h.fr hf (fun k hk q => hg k hk q)
theorem OwnR.rebase {b : Nat} (h : OwnR ec sz e w base v l) (hb : b ≤ base) : OwnR ec sz e w b v l := by
  refine ⟨h.1, h.2.1, ?_⟩
  rcases h.2.2 with h0 | ⟨g, cap, cur, hv, h1, h3⟩
  · exact Or.inl h0
  · exact Or.inr ⟨g, cap, cur, hv, Nat.le_trans hb h1, h3⟩
/-- Rows of other types lie apart. -/
theorem OwnR.apart {β : Type} {ec' : β → List Value} {sz' : Nat} {e' : TypeId} {base' : Nat} {v' : Value} {l' : List β} (h : OwnR ec sz e w base v l) (h' : OwnR ec' sz' e' w base' v' l') (hne : e ≠ e') : ∀ q, v.ownBlock = some q → v'.ownBlock = some q → False := by
  intro q hq hq'
  rcases h.2.2 with ⟨rfl, _⟩ | ⟨g, cap, cur, rfl, _, h2, _⟩
  · simp [Value.ownBlock] at hq
  rcases h'.2.2 with ⟨rfl, _⟩ | ⟨g', cap', cur', rfl, _, h2', _⟩
  · simp [Value.ownBlock] at hq'
  simp [Value.ownBlock] at hq hq'
  subst hq hq'
  rw [h2] at h2'
  simp at h2'
  exact hne h2'.2
/-- Its block, where there is an element. -/
theorem OwnR.bx (h : OwnR ec sz e w base v l) (hl : 0 < l.length) :
    ∃ g cap cur, v = .slice (some ⟨g, 0, none⟩) l.length cap ∧ base ≤ g ∧ BxV w g e cur ∧ l.length * sz ≤ cur.length ∧ cur.take (l.length * sz) = l.flatMap ec ∧
      ∀ (w' : World) (cur' : List Value) (l' : List α), BxV w' g e cur' → cur'.length = cur.length → l'.length = l.length → (∀ x ∈ l', (ec x).length = sz) → cur'.take (l.length * sz) = l'.flatMap ec → OwnR ec sz e w' base v l' := by
  rcases h.2.2 with ⟨_, hn⟩ | ⟨g, cap, cur, hv, h1, h2, h3, h4, h5, h6⟩
  · omega
  · have hlen : l.length * sz ≤ cur.toList.length := by
      have : cur.toList.length = cap * sz := by rw [← h5]; exact Array.length_toList
      rw [this]; exact Nat.mul_le_mul_right _ h3
    refine ⟨g, cap, cur.toList, hv, h1, h2, hlen, h6, ?_⟩
    intro w' cur' l' hb hc hl' hall htk
    refine ⟨hall, ?_, Or.inr ⟨g, cap, cur'.toArray, by rw [hl']; exact hv, h1, hb, by rw [hl']; exact h3, h4, ?_, ?_⟩⟩
    · rw [← htk, List.length_take, hc, hl']; omega
    · rw [List.size_toArray, hc, Array.length_toList, h5]
    · rw [hl']; exact htk
theorem flat_put (l : List α) (hall : ∀ x ∈ l, (ec x).length = sz) (j : Nat) (hj : j < l.length) (x : α) (hx : (ec x).length = sz) (cur : List Value) (hlen : l.length * sz ≤ cur.length) (hc : cur.take (l.length * sz) = l.flatMap ec) :
    (putAt cur (j * sz) (ec x)).take (l.length * sz) = (l.set j x).flatMap ec := by
  have e1 : cur = l.flatMap ec ++ cur.drop (l.length * sz) := by rw [← hc, List.take_append_drop]
  have hfl : ∀ m : List α, (∀ x ∈ m, (ec x).length = sz) → (m.flatMap ec).length = m.length * sz := by
    intro m hm
    induction m with
    | nil => simp
    | cons y m ih => rw [List.flatMap_cons, List.length_append, hm y (by simp), ih (fun z hz => hm z (by simp [hz])), List.length_cons, Nat.succ_mul]; omega
  have hsp : l = l.take j ++ l[j] :: l.drop (j + 1) := by rw [List.getElem_cons_drop, List.take_append_drop]
  have hset : l.set j x = l.take j ++ x :: l.drop (j + 1) := by rw [List.set_eq_take_append_cons_drop, if_pos hj]
  have hA : ((l.take j).flatMap ec).length = j * sz := by rw [hfl _ (fun y hy => hall y (List.mem_of_mem_take hy))]; rw [List.length_take, Nat.min_eq_left (by omega)]
  have hlj := hall l[j] (by simp)
  have hflat : l.flatMap ec = (l.take j).flatMap ec ++ (ec l[j] ++ (l.drop (j + 1)).flatMap ec) := by
    conv => lhs; rw [hsp]
    rw [List.flatMap_append, List.flatMap_cons]
  have htake : cur.take (j * sz) = (l.take j).flatMap ec := by
    rw [e1, hflat, List.append_assoc, List.take_left' hA]
  have hdrop : cur.drop (j * sz + sz) = (l.drop (j + 1)).flatMap ec ++ cur.drop (l.length * sz) := by
    conv => lhs; rw [e1]
    rw [hflat]
    simp only [List.append_assoc]
    rw [← List.append_assoc, List.drop_left' (by rw [List.length_append, hA, hlj])]
  unfold putAt
  rw [hx, htake, hdrop, hset, List.flatMap_append, List.flatMap_cons]
  have hB : ((l.drop (j + 1)).flatMap ec).length = (l.length - (j + 1)) * sz := by rw [hfl _ (fun y hy => hall y (List.mem_of_mem_drop hy))]; simp
  have htot : ((l.take j).flatMap ec ++ ec x ++ (l.drop (j + 1)).flatMap ec).length = l.length * sz := by
    rw [List.length_append, List.length_append, hA, hx, hB]
    have : l.length = j + 1 + (l.length - (j + 1)) := by omega
    conv => rhs; rw [this, Nat.add_mul, Nat.add_mul, Nat.one_mul]
  rw [← List.append_assoc, List.take_left' htot, List.append_assoc]

variable {P : Program} {ops : Array Oper} {rest : List Oper} {o : Oper} {a : Act} {Q : Exit → Act → World → Prop}
/-- x[j], x a row of the call's own making. -/
theorem wpList_idxO (hgd : Region.wanted o (yielded ops a.tmps) = true) (t : TypeId) (x i : Operand) (ho : o.op = .indexAddr t x i) (et : TypeId) (ht : P.underlying t = some (.slice et)) (hsz : (P.info? et).map (·.size) = some sz)
    (g n cap : Nat) (hx : a.eval x = .slice (some ⟨g, 0, none⟩) n cap) (k : IntKind) (z : Int) (j : Nat) (hi : a.eval i = .int k z) (hz : z = (j : Int)) (hj : j < n)
    (h : wpList P ops Q rest (a.put o.dst (.pointer (some ⟨g, j * sz, none⟩))) w) : wpList P ops Q (o :: rest) a w := by
  refine wpList_wanted hgd fun K hK => ?_
  subst hz
  obtain ⟨ii, hinf, hsz'⟩ := Option.map_eq_some_iff.1 hsz
  have hrun : (Instr.indexAt t (.slice (some ⟨g, 0, none⟩) n cap) (.int k (j : Int))).run P w = .ok (.pointer (some ⟨g, j * sz, none⟩)) w := by
    have h1 : (0 : Int) ≤ (j : Int) ∧ (j : Int) < (n : Int) := by omega
    simp [Instr.indexAt, asIntOf, run_underlying ht, h1, sizeOf, typeInfo, hinf, hsz', go_sem, Addr.plain]
    omega
  unfold Oper.wp
  simp [execOp, ho, hx, hi, hrun, Result.andThen]
  exact hK _ _ h
theorem run_idxO (t et : TypeId) (ht : P.underlying t = some (.slice et)) (hsz : (P.info? et).map (·.size) = some sz) (g n cap : Nat) (k : IntKind) (j : Nat) (hj : j < n) :
    (Instr.indexAt t (.slice (some ⟨g, 0, none⟩) n cap) (.int k (j : Int))).run P w = .ok (.pointer (some ⟨g, j * sz, none⟩)) w := by
  obtain ⟨ii, hinf, hsz'⟩ := Option.map_eq_some_iff.1 hsz
  have h1 : (0 : Int) ≤ (j : Int) ∧ (j : Int) < (n : Int) := by omega
  simp [Instr.indexAt, asIntOf, run_underlying ht, h1, sizeOf, typeInfo, hinf, hsz', go_sem, Addr.plain]
  omega
/-- Where an element lies. -/
theorem OwnR.rangeK {g n cap : Nat} (hO : OwnR ec sz e w base (.slice (some ⟨g, 0, none⟩) n cap) l) (j : Nat) (hj : j < l.length) : w.rangeAt g (j * sz) (ec l[j]) := by
  obtain ⟨g', cap', cur, hv, h1, hB, h3, h4, h5⟩ := hO.bx (by omega)
  cases hv
  intro q u hq
  have hql : q < sz := by rw [← hO.1 l[j] (by simp)]; exact (List.getElem?_eq_some_iff.1 hq).1
  refine (hB.cell (j * sz + q) u ?_).1
  have hfl := flat_at ec sz l hO.1 j hj q hql
  rw [hq, ← h4, List.getElem?_take] at hfl
  split at hfl
  · exact hfl
  · cases hfl
theorem wp_stR {K : Act → World → Prop} (t : TypeId) (x y : Operand) (ho : o.op = .store t x y) (g n cap : Nat) (hO : OwnR ec sz e w base (.slice (some ⟨g, 0, none⟩) n cap) l) (j : Nat) (hj : j < l.length) (hx : a.eval x = .pointer (some ⟨g, j * sz, none⟩))
    (b : α) (hy : a.eval y = .agg (ec b).toArray) (hb : (ec b).length = sz) (hb1 : ∀ u ∈ ec b, u.oneCell' = true) (hi : (P.info? t).map (·.size) = some sz)
    (h : ∀ w', OwnR ec sz e w' base (.slice (some ⟨g, 0, none⟩) n cap) (l.set j b) → Fr (onB1 g) w w' → K (a.put o.dst undef) w') : o.wp P a w K Q := by
  obtain ⟨g', cap', cur, hv, h1, hB, h3, h4, h5⟩ := hO.bx (by omega)
  cases hv
  have hle : j * sz + sz ≤ cur.length := by
    have : (j + 1) * sz ≤ l.length * sz := Nat.mul_le_mul_right _ (by omega)
    rw [Nat.add_mul, Nat.one_mul] at this; omega
  refine wp_store_mid t x y ho g (j * sz) (ec b).toArray hx hy (by simpa using hB.thereR (j * sz) (ec b).length (by rw [hb]; exact hle)) (by rw [hi]; simp [hb]) (all_oneCell_toArray hb1) (h _ ?_ (setCells_fr1 w g _ _))
  have hB' := setCells_bx (ec b) (j * sz) w cur hB (by rw [hb]; exact hle)
  refine h5 _ _ _ hB' ?_ (by simp) ?_ (flat_put l hO.1 j hj b hb cur h3 h4)
  · unfold putAt; simp [hb]; omega
  · intro z hz
    rcases List.mem_or_eq_of_mem_set hz with hz | rfl
    · exact hO.1 z hz
    · exact hb
/-- x[j] = y, y a value of several cells. -/
theorem wpList_stR (hgd : o.guard = none) (t : TypeId) (x y : Operand) (ho : o.op = .store t x y) (g n cap : Nat) (hO : OwnR ec sz e w base (.slice (some ⟨g, 0, none⟩) n cap) l) (j : Nat) (hj : j < l.length) (hx : a.eval x = .pointer (some ⟨g, j * sz, none⟩))
    (b : α) (hy : a.eval y = .agg (ec b).toArray) (hb : (ec b).length = sz) (hb1 : ∀ u ∈ ec b, u.oneCell' = true) (hi : (P.info? t).map (·.size) = some sz)
    (h : ∀ w', OwnR ec sz e w' base (.slice (some ⟨g, 0, none⟩) n cap) (l.set j b) → Fr (onB1 g) w w' → wpList P ops Q rest (a.put o.dst undef) w') : wpList P ops Q (o :: rest) a w := by
  obtain ⟨g', cap', cur, hv, h1, hB, h3, h4, h5⟩ := hO.bx (by omega)
  cases hv
  have hle : j * sz + sz ≤ cur.length := by
    have : (j + 1) * sz ≤ l.length * sz := Nat.mul_le_mul_right _ (by omega)
    rw [Nat.add_mul, Nat.one_mul] at this; omega
  refine wpList_storeV hgd t x y ho g (j * sz) hx (ec b) hy e cur hB (by rw [hi, hb]) (by rw [hb]; exact hle) hb1 ?_
  intro w' hB' hf
  refine h w' (h5 w' _ _ hB' ?_ (by simp) ?_ (flat_put l hO.1 j hj b hb cur h3 h4)) hf
  · unfold putAt; simp [hb]; omega
  · intro z hz
    rcases List.mem_or_eq_of_mem_set hz with hz | rfl
    · exact hO.1 z hz
    · exact hb
/-- x[j] = y, y of one cell. -/
theorem wpList_stR1 {ec : α → List Value} {l : List α} (hgd : o.guard = none) (t : TypeId) (x y : Operand) (ho : o.op = .store t x y) (g n cap : Nat) (hO : OwnR ec 1 e w base (.slice (some ⟨g, 0, none⟩) n cap) l) (j : Nat) (hj : j < l.length) (hx : a.eval x = .pointer (some ⟨g, j, none⟩))
    (b : α) (u : Value) (hb : ec b = [u]) (hy : a.eval y = u) (hb1 : u.oneCell' = true) (hi : (P.info? t).map (·.size) = some 1)
    (h : ∀ w', OwnR ec 1 e w' base (.slice (some ⟨g, 0, none⟩) n cap) (l.set j b) → Fr (onB1 g) w w' → wpList P ops Q rest (a.put o.dst undef) w') : wpList P ops Q (o :: rest) a w := by
  obtain ⟨g', cap', cur, hv, h1, hB, h3, h4, h5⟩ := hO.bx (by omega)
  cases hv
  refine wpList_store1 hgd t x y ho g (j * 1) (by rw [Nat.mul_one]; exact hx) u hy hb1 e cur hB hi (by omega) ?_
  intro w' hB' hf
  have hp : cur.set (j * 1) u = putAt cur (j * 1) (ec b) := by
    rw [hb]; unfold putAt
    rw [List.set_eq_take_append_cons_drop, if_pos (by omega)]; simp
  rw [hp] at hB'
  refine h w' (h5 w' _ _ hB' ?_ (by simp) ?_ (flat_put l hO.1 j hj b (by rw [hb]; rfl) cur h3 h4)) hf
  · rw [← hp]; simp
  · intro z hz
    rcases List.mem_or_eq_of_mem_set hz with hz | rfl
    · exact hO.1 z hz
    · rw [hb]; rfl
/-- append(s, x...). -/
theorem wpList_appR (hgd : o.guard = none) (s x : Operand) (t : TypeId) (ho : o.op = .call { callee := .builtin .append, args := #[s, x], argTypes := #[t, t] })
    (base : Nat) (e : TypeId) (z : Value) (bytes : Nat) (ht : P.underlying t = some (.slice e)) (hinfo : (P.info? e).map (fun i => (i.zero, i.size, i.bytes)) = some (some z, sz, bytes)) (hzs : z.cells.size = sz) (hsz : 0 < sz)
    (v : Value) (l : List α) (hs : a.eval s = v) (hO : OwnR ec sz e w base v l) (vx : Value) (m : List α) (hx : a.eval x = vx) (hS : SlR ec sz w vx m) (h1 : ∀ y ∈ m, ∀ u ∈ ec y, u.oneCell' = true)
    (h63 : l.length + m.length ≤ maxLen) (hbytes : (l.length + m.length) * bytes ≤ 140737488355328) (hbase : base ≤ w.heap.size)
    (h : ∀ v' w', OwnR ec sz e w' base v' (l ++ m) → w.grownBy w' v.ownBlock → wpList P ops Q rest (a.put o.dst v') w') : wpList P ops Q (o :: rest) a w := by
  refine wpList_app hgd s x t ho base e z sz bytes ht hinfo hzs hsz v l.length (l.flatMap ec) hs hO.2 vx m.length (m.flatMap ec) hx hS.2 ?_ h63 hbytes hbase ?_
  · intro u hu
    obtain ⟨y, hy, hu⟩ := List.mem_flatMap.1 hu
    exact h1 y hy u hu
  · intro v' w' ho' hg
    refine h v' w' ⟨?_, by rw [List.length_append, List.flatMap_append]; exact ho'⟩ hg
    intro y hy
    rcases List.mem_append.1 hy with hy | hy
    · exact hO.1 y hy
    · exact hS.1 y hy
/-- []T{}: a row of no elements, its block a letter. -/
theorem wpList_mk0 (ec : α → List Value) (sz : Nat) (hgd : Region.wanted o (yielded ops a.tmps) = true) (t : TypeId) (ho : o.op = .buildSlice t 0 #[]) (e : TypeId) (ht : P.underlying t = some (.slice e)) (hsz : (P.info? e).map (·.size) = some sz)
    (h : ∀ g w', OwnR ec sz e w' w.heap.size (.slice (some ⟨g, 0, none⟩) 0 0) ([] : List α) → Fr noB w w' → w.heap.size ≤ g → g < w'.heap.size → wpList P ops Q rest (a.put o.dst (.slice (some ⟨g, 0, none⟩) 0 0)) w') : wpList P ops Q (o :: rest) a w := by
  refine wpList_wanted hgd fun K hK => ?_
  obtain ⟨ii, hinf, hsz'⟩ := Option.map_eq_some_iff.1 hsz
  have hrun : (execOp a.eval o).run P w = .ok (.value (.slice (some ⟨w.heap.size, 0, none⟩) 0 0)) (w.alloc (.cells #[] e)) := by
    simp only [execOp, ho]
    simp [go_sem, run_underlying ht, sizeOf, typeInfo, hinf, hsz']
  unfold Oper.wp
  rw [hrun]
  exact hK _ _ (h w.heap.size _ ⟨by simp, World.ownsRow_made w #[] 0 (Nat.le_refl _) (Nat.zero_le _) (by simp)⟩ ((Fr.refl _ _).alloc _) (Nat.le_refl _) (by simp))
theorem OwnR.empty (w : World) (e : TypeId) (hb : base ≤ w.heap.size) : OwnR ec sz e (w.alloc (.cells #[] e)) base (.slice (some ⟨w.heap.size, 0, none⟩) 0 0) ([] : List α) :=
  ⟨by simp, World.ownsRow_made w #[] 0 hb (Nat.zero_le _) (by simp)⟩
theorem OwnR.none (w : World) (e : TypeId) : OwnR ec sz e w base (.slice .none 0 0) ([] : List α) := ⟨by simp, by simp, Or.inl ⟨rfl, rfl⟩⟩
theorem OwnR.grown {S : Nat → Prop} {b0 : World} (h : OwnR ec sz e w base v l) (hf : Fr S b0 w) (hb : b0.heap.size ≤ base) (hg : w.grownBy w' v.ownBlock) : Fr S b0 w' :=
  hf.grown hg (fun k hk hlt => absurd (h.newB k hk).1 (by omega))
end
end Go.Proofs.U
/- The document's disk: Spoil and Put. -/
namespace Go.Proofs.Ytijgfojnppcbjaa
open Go.RowKit Go.Proofs.U
set_option linter.unusedSimpArgs false
set_option linter.unusedVariables false

theorem info_bool : (Try.prog.info? 4).map (fun i => (i.zero, i.size, i.bytes)) = some (some (.bool false), 1, 1) := by kernel_rfl
theorem size_sbool : (Try.prog.info? 36).map (·.size) = some 1 := by kernel_rfl
theorem isSl_mk (a : Option Addr) (n c : Nat) : isSl (.slice a n c) := ⟨a, n, c, rfl⟩
/-- A slice that is the old one, or lies in new memory. -/
def nwB (w w' : World) (v v' : Value) : Prop := ∀ q, v'.ownBlock = some q → v.ownBlock = some q ∨ (w.heap.size ≤ q ∧ q < w'.heap.size)
def inR (n : Nat) (i : Int) : Bool := decide (0 ≤ i) && decide (i < (n : Int))

set_option maxRecDepth 100000 in
set_option maxHeartbeats 2000000 in
theorem rspoil_any (v1 v2 v3 : Value) (n : Nat) (a1 : Option Addr) (c1 : Nat) (hv1 : v1 = .slice a1 n c1) (h3 : isSl v3) (bad : List Bool) (c : Bool) (l : Int) (d : Bool) (i : Int) (b : Bool) (w : World)
    (h2 : SlBo w v2 bad) (hlb : bad.length = n) (hm : n ≤ 100000) :
    Calls Try.prog 24 #[dkV v1 v2 v3 c l d, .int .i64 i, .bool b] w fun r w' => ∃ v2', r = .returned (.tuple #[dkV v1 v2' v3 c l d, .int .i64 (if inR n i then 0 else 41)]) ∧ SlBo w' v2' (if inR n i then bad.set i.toNat b else bad) ∧ Fr noB w w' ∧ nwB w w' v2 v2' := by
  subst hv1
  have hsl2 := SlR.isSl h2
  obtain ⟨a2, c2', rfl, hc2⟩ := h2.opn
  have Hlb := show Hid _ from hlb
  clear hlb
  have hsl1 : isSl (.slice a1 n c1) := ⟨_, _, _, rfl⟩
  cases hin : inR n i with
  | false =>
    have ht : (decide (0 ≤ i) && decide (i < (n : Int))) = false := hin
    simp only [Bool.false_eq_true, if_false]
    go_enter Try.func24, Try.ntmps24
    go_wp2_with (first
      | (with_reducible refine at_wpP ?_; refine wpList_boxV rfl 39 _ rfl (dkL (.slice a1 n c1) (.slice a2 bad.length c2') v3 c l d) rfl ?_; intro g1 w1 hg1 b1 f1 s1)
      | (with_reducible refine at_wpP ?_; refine wpList_allocD rfl rfl ?_; intro g2 w2 hg2 b2 f2 s2; have e2 := b1.fr0 f2; have hl1 := b1.lt; have hl2 := b2.lt)
      | (go_at_call 40; go_must (refine (there_any _ _ _ _ _ _ _ _ _ _).mono ?_; rintro e w3 ⟨rfl, f3⟩; have b3 := b2.fr0 f3; have e3 := e2.fr0 f3))
      | (with_reducible refine at_wpP ?_; refine wpList_ldD rfl _ rfl g1 rfl _ _ _ c l d e3 ?_)
      | (with_reducible refine at_wpP ?_; refine wpList_ldD rfl _ rfl g1 rfl _ _ _ c l d e2 ?_)
      | (with_reducible refine at_wpP ?_; refine wpList_stD rfl _ _ rfl g2 rfl _ _ _ c l d rfl _ b3 rfl hsl1 hsl2 h3 ?_; intro w4 b4 f4))
    have F4 := ((f1.thenN f2).thenN f3).thenT (S := noB) f4 (fun i hi q => by unfold onB1 at q; have := f1.size; omega)
    refine bodyPost_ret (v := .tuple #[dkV (.slice a1 n c1) (.slice a2 bad.length c2') v3 c l d, .int .i64 41]) (results_disk2 Try.results24 _ w4 g2 _ _ _ c l d rfl b4) rfl ⟨_, rfl, h2.fr0 F4, F4, fun q h => Or.inl h⟩
  | true =>
    have ht : (decide (0 ≤ i) && decide (i < (n : Int))) = true := hin
    have hi : 0 ≤ i ∧ i < (n : Int) := by simpa using ht
    obtain ⟨j, rfl⟩ : ∃ j : Nat, i = j := ⟨i.toNat, by omega⟩
    have hj : j < bad.length := by rw [Hlb.out]; omega
    simp only [if_true, Int.toNat_natCast]
    have hbl : Hid (bad.length ≤ 100000) := by show _ ≤ _; rw [Hlb.out]; exact hm
    go_enter Try.func24, Try.ntmps24
    go_wp2_with (first
      | (with_reducible refine at_wpP ?_; refine wpList_boxV rfl 39 _ rfl (dkL (.slice a1 n c1) (.slice a2 bad.length c2') v3 c l d) rfl ?_; intro g1 w1 hg1 b1 f1 s1)
      | (with_reducible refine at_wpP ?_; refine wpList_allocD rfl rfl ?_; intro g2 w2 hg2 b2 f2 s2; have e2 := b1.fr0 f2; have hl1 := b1.lt; have hl2 := b2.lt)
      | (go_at_call 40; go_must (refine (there_any _ _ _ _ _ _ _ _ _ _).mono ?_; rintro e w3 ⟨rfl, f3⟩; have b3 := b2.fr0 f3; have e3 := e2.fr0 f3; have F3 := (f1.thenN f2).thenN f3; obtain ⟨k0, k1, k2, k3, k4, k5⟩ := e3.six))
      | (with_reducible refine at_wpP ?_; refine wpList_ldD rfl _ rfl g1 rfl _ _ _ c l d e2 ?_)
      | (with_reducible refine at_wpP ?_; refine wpList_mk0 encB 1 rfl 36 rfl 4 Try.underlying36 size_bool ?_; intro g4 w4 o4 f4 s4 t4; have b4 := b3.fr0 f4; have e4 := e3.fr0 f4; have F4 := F3.thenN f4; have hl3 := F3.size; obtain ⟨k0, k1, k2, k3, k4, k5⟩ := e4.six; have m1 := e3.lt; have m2 := b3.lt)
      | (at_builtin; go_must (refine wpList_appR (ec := encB) (sz := 1) rfl _ _ 36 rfl w3.heap.size 4 _ 1 Try.underlying36 info_bool rfl (by decide) _ [] rfl o4 _ bad rfl (h2.fr0 F4) (by intro y _ u hu; simp at hu; subst hu; rfl) ?hq1 ?hq2 ?hq3 ?_; rotate_left 3; intro v5 w5 o5 hg5; rw [List.nil_append] at o5; obtain ⟨g5, cap5, cur, hv5, h15, hB5, _, _, _⟩ := o5.bx (by omega); subst hv5; have hg5 : w4.grownBy w5 (some g4) := hg5; have f5 : Fr (onB1 g4) w4 w5 := (Fr.refl _ _).grown hg5 (fun k hk _ => (Option.some.inj hk).symm); have F5 := F4.thenT (S := noB) f5 (fun i hi q => by unfold onB1 at q; omega); have b5 := b4.ne f5 (by omega); have e5 := e4.ne f5 (by omega); have q5 := (o5.newB g5 rfl).1; obtain ⟨k0, k1, k2, k3, k4, k5⟩ := e5.six))
      | (refine at_idx 36 _ _ rfl ?_; go_must (refine wpList_idxO rfl 36 _ _ rfl 4 Try.underlying36 size_bool g5 _ _ rfl _ _ j rfl rfl hj ?_))
      | (with_reducible refine at_wpP ?_; refine at_st 4 _ _ rfl ?_; go_must (refine wpList_stR1 rfl 4 _ _ rfl g5 _ _ o5 j hj (by simp [Act.eval, Act.put]) b (.bool b) rfl rfl rfl size_bool ?_; intro w6 o6 f6; have b6 := b5.ne f6 (by omega); have e6 := e5.ne f6 (by omega); have F6 := F5.thenT (S := noB) f6 (fun i hi q => by unfold onB1 at q; have := F3.size; omega)))
      | (with_reducible refine at_wpP ?_; refine wpList_store1 rfl 36 _ _ rfl g1 1 rfl (.slice (some ⟨g5, 0, none⟩) bad.length cap5) rfl rfl _ _ e6 size_sbool (by simp) ?_; go_must (intro w7 e7 f7; have e7 : BxV w7 g1 39 (dkL (.slice a1 n c1) (.slice (some ⟨g5, 0, none⟩) bad.length cap5) v3 c l d) := (by simpa using e7); have b7 := b6.ne f7 (by omega)))
      | (with_reducible refine at_wpP ?_; refine wpList_ldD rfl _ rfl g1 rfl _ _ _ c l d e7 ?_)
      | (with_reducible refine at_wpP ?_; refine at_st 39 _ _ rfl ?_; go_must (refine wpList_stD rfl _ _ rfl g2 rfl _ _ _ c l d rfl _ b7 rfl hsl1 (isSl_mk _ _ _) h3 ?_; intro w8 b8 f8)))
    case hq1 => have := hbl.out; unfold maxLen; simp; omega
    case hq2 => have := hbl.out; simp; omega
    case hq3 => exact f4.size
    have F7 := F6.thenT (S := noB) f7 (fun i hi q => by unfold onB1 at q; have := f1.size; omega)
    have F8 := F7.thenT (S := noB) f8 (fun i hi q => by unfold onB1 at q; have := f1.size; omega)
    have o8 := (o6.ne f7 (fun k hk => by simp [Value.ownBlock] at hk; omega)).ne f8 (fun k hk => by simp [Value.ownBlock] at hk; omega)
    exact bodyPost_ret (v := .tuple #[dkV (.slice a1 n c1) (.slice (some ⟨g5, 0, none⟩) bad.length cap5) v3 c l d, .int .i64 0]) (results_disk2 Try.results24 _ w8 g2 _ _ _ c l d rfl b8) rfl ⟨_, rfl, o8.sl, F8, fun q h => Or.inr ⟨by have := (o8.newB q h).1; have := F3.size; omega, (o8.newB q h).2⟩⟩
end Go.Proofs.Ytijgfojnppcbjaa
/- Values of several cells, put together out of parts; a row of one of them; no condition. -/
namespace Go.Proofs.U
open Go.RowKit
set_option linter.unusedSimpArgs false
set_option linter.unusedVariables false

theorem zip_put (off : Nat) : ∀ (ds : List Value) (k : Nat) (cells : List Value), off + k + ds.length ≤ cells.length →
    (ds.zipIdx k).foldl (fun (cs : Array Value) x => cs.setIfInBounds (off + x.2) x.1) cells.toArray = (putAt cells (off + k) ds).toArray := by
  intro ds
  induction ds with
  | nil => intro k cells _; rw [putAt_nil]; rfl
  | cons d ds ih =>
    intro k cells h
    simp at h
    rw [List.zipIdx_cons, List.foldl_cons]
    simp only [List.setIfInBounds_toArray]
    rw [ih (k + 1) (cells.set (off + k) d) (by simp; omega), ← putAt_cons cells (off + k) d ds (by omega)]
    rfl
theorem fill_put (place : Nat → Option (Nat × Nat)) (cells : List Value) (k off sz : Nat) (v : Value) (ds : List Value) (hv : v.cells = ds.toArray) (hp : place k = some (off, sz)) (hs : ds.length = sz) (hl : off + sz ≤ cells.length) (rest : List (Nat × Value)) :
    Instr.fill place cells.toArray ((k, v) :: rest) = Instr.fill place (putAt cells off ds).toArray rest := by
  have hz : Array.foldl (fun (cs : Array Value) x => cs.setIfInBounds (off + x.2) x.1) cells.toArray ds.toArray.zipIdx = (putAt cells off ds).toArray := by
    have := zip_put off ds 0 cells (by omega)
    rw [Nat.add_zero] at this
    rw [← this]
    simp
  conv => lhs; unfold Instr.fill
  simp only [hp, hv]
  rw [if_neg (by simp; omega)]
  exact congrArg (fun z => Instr.fill place z rest) hz
theorem built_struct {P : Program} (t : TypeId) (fields : Array Field) (hu : P.underlying t = some (.struct fields)) (zs : List Value) (hz : (P.info? t).map (·.zero) = some (some (.agg zs.toArray))) (places : List (Nat × Nat))
    (hp : fields.toList.mapM (fun f => (P.info? f.type).map fun i => (f.offset, i.size)) = some places) (parts : List (Nat × Value)) : P.built t parts = Instr.fill (places.toArray[·]?) zs.toArray parts := by
  obtain ⟨i, hi, hz'⟩ := Option.map_eq_some_iff.1 hz
  unfold Program.built
  rw [hi, hu]
  simp only [hz', hp, Value.cells]

section
variable {α : Type} {ec : α → List Value} {sz : Nat} {w : World} {P : Program} {ops : Array Oper} {rest : List Oper} {o : Oper} {a : Act} {Q : Exit → Act → World → Prop}
/-- []T{y}: a row of one element, its block a letter. -/
theorem wpList_mk1 (hgd : Region.wanted o (yielded ops a.tmps) = true) (t : TypeId) (y : Operand) (ho : o.op = .buildSlice t 1 #[(0, y)]) (e : TypeId) (ht : P.underlying t = some (.slice e)) (z : Value) (hinfo : (P.info? e).map (fun i => (i.zero, i.size)) = some (some z, sz)) (hsz : 0 < sz) (hbig : sz ≤ 16777216)
    (x : α) (V : Value) (hy : a.eval y = V) (hV : V.cells = (ec x).toArray) (hx : (ec x).length = sz)
    (h : ∀ g w', SlR ec sz w' (.slice (some ⟨g, 0, none⟩) 1 1) [x] → Fr noB w w' → w.heap.size ≤ g → g < w'.heap.size → wpList P ops Q rest (a.put o.dst (.slice (some ⟨g, 0, none⟩) 1 1)) w') : wpList P ops Q (o :: rest) a w := by
  refine wpList_wanted hgd fun K hK => ?_
  obtain ⟨ii, hinf, hq⟩ := Option.map_eq_some_iff.1 hinfo
  simp only [Prod.mk.injEq] at hq
  have hfill : ∀ X : Array Value, X.size = sz → Instr.fill (fun i => some (i * sz, sz)) X [(0, V)] = some (ec x).toArray := by
    intro X hX
    have h1 := fill_put (fun i => some (i * sz, sz)) X.toList 0 0 sz V (ec x) hV (by simp) hx (by rw [Array.length_toList, hX]; omega) []
    have e1 : X.toList.toArray = X := by simp
    rw [e1] at h1
    rw [h1, putAt_all _ _ (by rw [hx, ← hX]; exact Array.length_toList.symm)]
    rfl
  have hbs : (Instr.buildSlice t 1 #[(0, V)]).run P w = .ok (.slice (some ⟨w.heap.size, 0, none⟩) 1 1) (w.alloc (.cells (ec x).toArray e)) := by
    have hne : ¬ sz = 0 := by omega
    have hnb : ¬ 16777216 < sz := by omega
    have hf := hfill ((Array.range sz).map (fun k => z.cells[k % z.cells.size]!)) (by simp)
    unfold Instr.buildSlice
    simp [run_underlying ht, sizeOf, typeInfo, zeroValue, hinf, hq.1, hq.2, hne, hnb, hf, Sem.run_bind, Result.andThen]
    simp [go_sem]
  have hrun : (execOp a.eval o).run P w = .ok (.value (.slice (some ⟨w.heap.size, 0, none⟩) 1 1)) (w.alloc (.cells (ec x).toArray e)) := by
    simp only [execOp, ho]
    simp [hy, hbs, Result.andThen]
  unfold Oper.wp
  rw [hrun]
  refine hK _ _ (h w.heap.size _ ⟨?_, ?_⟩ ((Fr.refl _ _).alloc _) (Nat.le_refl _) (by simp))
  · intro y hy; simp at hy; subst hy; exact hx
  · refine ⟨some ⟨w.heap.size, 0, none⟩, 1, rfl, Nat.le_refl _, by simp [hx], (fun h => by cases h), fun ad had j u hj => ?_⟩
    cases had
    have hj' : (ec x)[j]? = some u := by simpa using hj
    rw [Addr.plain, Nat.zero_add, World.cell?_alloc_new]
    simpa using hj'
end
end Go.Proofs.U
