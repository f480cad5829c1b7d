/- The document's disk: There, act and Cut. -/
import Derived.Test.YtejjfpdcmaefiaaP2
import Derived.Test.YtejjfpdcmaefiaaBase3
namespace Go.Proofs.Ytejjfpdcmaefiaa
open Go.RowKit Go.Proofs.U
set_option linter.unusedSimpArgs false
set_option linter.unusedVariables false

/-- The document's disk as a value. -/
abbrev dkL (v1 v2 v3 : Value) (c : Bool) (l : Int) (d : Bool) : List Value := [v1, v2, v3, .bool c, .int .i64 l, .bool d]
abbrev dkV (v1 v2 v3 : Value) (c : Bool) (l : Int) (d : Bool) : Value := .agg #[v1, v2, v3, .bool c, .int .i64 l, .bool d]
theorem zero_disk : (Try.prog.info? 39).map (·.zero) = some (some (.agg (dkL (.slice none 0 0) (.slice none 0 0) (.slice none 0 0) false 0 false).toArray)) := by kernel_rfl
theorem size_disk : (Try.prog.info? 39).map (·.size) = some 6 := by kernel_rfl
theorem size_int : (Try.prog.info? 3).map (·.size) = some 1 := by kernel_rfl
theorem size_bool : (Try.prog.info? 4).map (·.size) = some 1 := by kernel_rfl

/-- A slice as a value. -/
def isSl (v : Value) : Prop := ∃ a n c, v = .slice a n c

section
variable {w : World} {ops : Array Oper} {rest : List Oper} {o : Oper} {a : Act} {Q : Exit → Act → World → Prop}
theorem wpList_stD (hgd : o.guard = none) (x y : Operand) (ho : o.op = .store 39 x y) (g : Nat) (hx : a.eval x = .pointer (some ⟨g, 0, none⟩)) (v1 v2 v3 : Value) (c : Bool) (l : Int) (d : Bool) (hy : a.eval y = dkV v1 v2 v3 c l d) (cs : List Value) (hA : BxV w g 39 cs) (hl : cs.length = 6)
    (h1 : isSl v1) (h2 : isSl v2) (h3 : isSl v3)
    (h : ∀ w', BxV w' g 39 (dkL v1 v2 v3 c l d) → Fr (onB1 g) w w' → wpList Try.prog ops Q rest (a.put o.dst undef) w') : wpList Try.prog ops Q (o :: rest) a w := by
  refine wpList_storeV hgd 39 x y ho g 0 hx (dkL v1 v2 v3 c l d) hy 39 cs hA (by rw [size_disk]; rfl) (by rw [hl]; exact Nat.le_refl _) ?_ ?_
  · obtain ⟨_, _, _, rfl⟩ := h1
    obtain ⟨_, _, _, rfl⟩ := h2
    obtain ⟨_, _, _, rfl⟩ := h3
    intro v hv
    simp at hv
    rcases hv with rfl | rfl | rfl | rfl | rfl | rfl <;> rfl
  · intro w' b f
    rw [putAt_all _ _ (by rw [hl]; rfl)] at b
    exact h w' b f
theorem wpList_ldD (hgd : o.guard = none) (x : Operand) (ho : o.op = .load 39 x) (g : Nat) (hx : a.eval x = .pointer (some ⟨g, 0, none⟩)) (v1 v2 v3 : Value) (c : Bool) (l : Int) (d : Bool) (hA : BxV w g 39 (dkL v1 v2 v3 c l d))
    (h : wpList Try.prog ops Q rest (a.put o.dst (dkV v1 v2 v3 c l d)) w) : wpList Try.prog ops Q (o :: rest) a w :=
  wpList_loadV hgd 39 x ho g 0 hx 39 (dkL v1 v2 v3 c l d) (dkL v1 v2 v3 c l d) _ hA Try.underlying39 rfl (by rw [size_disk]; rfl) (by simp) h
theorem wpList_allocD (hgd : Region.wanted o (yielded ops a.tmps) = true) (ho : o.op = .alloc 39)
    (h : ∀ g w', Hid (g = w.heap.size) → BxV w' g 39 (dkL (.slice none 0 0) (.slice none 0 0) (.slice none 0 0) false 0 false) → Fr noB w w' → w.heap.size ≤ g → wpList Try.prog ops Q rest (a.put o.dst (.pointer (some ⟨g, 0, none⟩))) w') : wpList Try.prog ops Q (o :: rest) a w :=
  wpList_allocV hgd 39 ho _ zero_disk h
end
/-- A disk and an error's number handed back. -/
theorem results_disk2 {fn : Func} {q u : Tmp} (h : fn.results = #[.cell q 39, .tmp u]) (tmps : Array Value) (w : World) (g : Nat) (v1 v2 v3 : Value) (c : Bool) (l : Int) (d : Bool) (hq : tmps.getD q undef = .pointer (some ⟨g, 0, none⟩)) (hA : BxV w g 39 (dkL v1 v2 v3 c l d)) :
    (results fn tmps).run Try.prog w = .ok (.tuple #[dkV v1 v2 v3 c l d, tmps.getD u undef]) w := by
  rw [results_cell_tmp h, hq]
  have hr := run_loadVar_mid (P := Try.prog) w g 0 39 (dkL v1 v2 v3 c l d) _ (hA.range 0 _ (by simp)) Try.underlying39 rfl (by rw [size_disk]; rfl)
  simp only [asAddr, Sem.run_pure, Result.andThen_ok, hr]

theorem results_disk1 {fn : Func} {q : Tmp} (h : fn.results = #[.cell q 39]) (tmps : Array Value) (w : World) (g : Nat) (v1 v2 v3 : Value) (c : Bool) (l : Int) (d : Bool) (hq : tmps.getD q undef = .pointer (some ⟨g, 0, none⟩)) (hA : BxV w g 39 (dkL v1 v2 v3 c l d)) :
    (results fn tmps).run Try.prog w = .ok (dkV v1 v2 v3 c l d) w :=
  results_cell_row h tmps w g 39 (dkL v1 v2 v3 c l d).toArray (0, 0) _ hq hA Try.underlying39 rfl (by rw [size_disk]; rfl)

set_option maxHeartbeats 1000000 in
theorem there_any (a : Option Addr) (n cap : Nat) (v2 v3 : Value) (c : Bool) (l : Int) (d : Bool) (i : Int) (w : World) :
    Calls Try.prog 35 #[dkV (.slice a n cap) v2 v3 c l d, .int .i64 i] w fun r w' => r = .returned (.bool (decide (0 ≤ i) && decide (i < (n : Int)))) ∧ Fr noB w w' := by
  by_cases h0 : 0 ≤ i
  · go_enter Try.func35, Try.ntmps35
    go_wp2_with (with_reducible refine at_wpP ?_; refine wpList_boxV rfl 39 _ rfl (dkL (.slice a n cap) v2 v3 c l d) rfl ?_; intro g1 w1 hg1 b1 f1 s1; obtain ⟨k0, k1, k2, k3, k4, k5⟩ := b1.six)
    go_ret
    exact ⟨by simp [h0], f1⟩
  · have h1 : decide (0 ≤ i) = false := by simpa using h0
    go_enter Try.func35, Try.ntmps35
    go_wp2_with (with_reducible refine at_wpP ?_; refine wpList_boxV rfl 39 _ rfl (dkL (.slice a n cap) v2 v3 c l d) rfl ?_; intro g1 w1 hg1 b1 f1 s1; obtain ⟨k0, k1, k2, k3, k4, k5⟩ := b1.six)
    go_ret
    exact ⟨rfl, f1⟩

/-- What an act does: counted, left, down, error. -/
def actR (c : Bool) (l : Int) (d : Bool) : Int × Bool × Int := if d || (c && l == 0) then (l, true, 42) else if c then (l - 1, d, 0) else (l, d, 0)

set_option maxHeartbeats 2000000 in
theorem ract_any (v1 v2 v3 : Value) (h1 : isSl v1) (h2 : isSl v2) (h3 : isSl v3) (c : Bool) (l : Int) (hl : c = true → -9223372036854775808 < l ∧ l ≤ 9223372036854775807) (d : Bool) (w : World) :
    Calls Try.prog 36 #[dkV v1 v2 v3 c l d] w fun r w' => r = .returned (.tuple #[dkV v1 v2 v3 c (actR c l d).1 (actR c l d).2.1, .int .i64 (actR c l d).2.2]) ∧ Fr noB w w' := by
  cases d with
  | true =>
    have hr : actR c l true = (l, true, 42) := by simp [actR]
    rw [hr]
    go_enter Try.func36, Try.ntmps36
    go_wp2_with (first
      | (with_reducible refine at_wpP ?_; refine wpList_boxV rfl 39 _ rfl (dkL v1 v2 v3 c l true) rfl ?_; intro g1 w1 hg1 b1 f1 s1)
      | (with_reducible refine at_wpP ?_; refine wpList_allocD rfl rfl ?_; intro g2 w2 hg2 b2 f2 s2; have c2 := b1.fr0 f2; have hl1 := b1.lt; have hl2 := b2.lt; obtain ⟨k0, k1, k2, k3, k4, k5⟩ := c2.six)
      | (with_reducible refine at_wpP ?_; refine wpList_store1 rfl 4 _ _ rfl g1 5 rfl (.bool true) rfl rfl _ _ c2 size_bool (by simp) ?_; go_must (intro w3 c3 f3; have c3 : BxV w3 g1 39 (dkL v1 v2 v3 c l true) := (by simpa using c3); have b3 := b2.ne f3 (by omega)))
      | (with_reducible refine at_wpP ?_; refine wpList_ldD rfl _ rfl g1 rfl v1 v2 v3 c (l) true c3 ?_)
      | (with_reducible refine at_wpP ?_; refine wpList_stD rfl _ _ rfl g2 rfl v1 v2 v3 c (l) true rfl _ b3 rfl h1 h2 h3 ?_; intro w4 b4 f4))
    refine bodyPost_ret (v := .tuple #[dkV v1 v2 v3 c (l) true, .int .i64 42]) (results_disk2 Try.results36 _ w4 g2 v1 v2 v3 c (l) true rfl b4) rfl ⟨rfl, ?_⟩
    exact ((f1.thenN f2).thenT f3 (fun i hi q => by unfold onB1 at q; have := f1.size; omega)).thenT f4 (fun i hi q => by unfold onB1 at q; have := f1.size; omega)
  | false =>
    cases c with
    | false =>
      have hr : actR false l false = (l, false, 0) := by simp [actR]
      rw [hr]
      go_enter Try.func36, Try.ntmps36
      go_wp2_with (first
        | (with_reducible refine at_wpP ?_; refine wpList_boxV rfl 39 _ rfl (dkL v1 v2 v3 false l false) rfl ?_; intro g1 w1 hg1 b1 f1 s1)
        | (with_reducible refine at_wpP ?_; refine wpList_allocD rfl rfl ?_; intro g2 w2 hg2 b2 f2 s2; have c2 := b1.fr0 f2; have hl1 := b1.lt; have hl2 := b2.lt; obtain ⟨k0, k1, k2, k3, k4, k5⟩ := c2.six)
        | (with_reducible refine at_wpP ?_; refine wpList_ldD rfl _ rfl g1 rfl v1 v2 v3 false (l) false c2 ?_)
        | (with_reducible refine at_wpP ?_; refine wpList_stD rfl _ _ rfl g2 rfl v1 v2 v3 false (l) false rfl _ b2 rfl h1 h2 h3 ?_; intro w4 b4 f4))
      refine bodyPost_ret (v := .tuple #[dkV v1 v2 v3 false (l) false, .int .i64 0]) (results_disk2 Try.results36 _ w4 g2 v1 v2 v3 false (l) false rfl b4) rfl ⟨rfl, ?_⟩
      exact (f1.thenN f2).thenT f4 (fun i hi q => by unfold onB1 at q; have := f1.size; omega)
    | true =>
      have hl := hl rfl
      by_cases h0 : l = 0
      · subst h0
        have hr : actR true 0 false = (0, true, 42) := by simp [actR]
        rw [hr]
        go_enter Try.func36, Try.ntmps36
        go_wp2_with (first
          | (with_reducible refine at_wpP ?_; refine wpList_boxV rfl 39 _ rfl (dkL v1 v2 v3 true 0 false) rfl ?_; intro g1 w1 hg1 b1 f1 s1)
          | (with_reducible refine at_wpP ?_; refine wpList_allocD rfl rfl ?_; intro g2 w2 hg2 b2 f2 s2; have c2 := b1.fr0 f2; have hl1 := b1.lt; have hl2 := b2.lt; obtain ⟨k0, k1, k2, k3, k4, k5⟩ := c2.six)
          | (with_reducible refine at_wpP ?_; refine wpList_store1 rfl 4 _ _ rfl g1 5 rfl (.bool true) rfl rfl _ _ c2 size_bool (by simp) ?_; go_must (intro w3 c3 f3; have c3 : BxV w3 g1 39 (dkL v1 v2 v3 true 0 true) := (by simpa using c3); have b3 := b2.ne f3 (by omega)))
          | (with_reducible refine at_wpP ?_; refine wpList_ldD rfl _ rfl g1 rfl v1 v2 v3 true (0) true c3 ?_)
          | (with_reducible refine at_wpP ?_; refine wpList_stD rfl _ _ rfl g2 rfl v1 v2 v3 true (0) true rfl _ b3 rfl h1 h2 h3 ?_; intro w4 b4 f4))
        refine bodyPost_ret (v := .tuple #[dkV v1 v2 v3 true (0) true, .int .i64 42]) (results_disk2 Try.results36 _ w4 g2 v1 v2 v3 true (0) true rfl b4) rfl ⟨rfl, ?_⟩
        exact ((f1.thenN f2).thenT f3 (fun i hi q => by unfold onB1 at q; have := f1.size; omega)).thenT f4 (fun i hi q => by unfold onB1 at q; have := f1.size; omega)
      · have hb : (l == 0) = false := by simpa using h0
        have hr : actR true l false = (l - 1, false, 0) := by simp [actR, hb]
        rw [hr]
        go_enter Try.func36, Try.ntmps36
        go_wp2_with (first
          | (with_reducible refine at_wpP ?_; refine wpList_boxV rfl 39 _ rfl (dkL v1 v2 v3 true l false) rfl ?_; intro g1 w1 hg1 b1 f1 s1)
          | (with_reducible refine at_wpP ?_; refine wpList_allocD rfl rfl ?_; intro g2 w2 hg2 b2 f2 s2; have c2 := b1.fr0 f2; have hl1 := b1.lt; have hl2 := b2.lt; obtain ⟨k0, k1, k2, k3, k4, k5⟩ := c2.six)
          | (with_reducible refine at_wpP ?_; refine wpList_store1 rfl 3 _ _ rfl g1 4 rfl (.int .i64 (l - 1)) rfl rfl _ _ c2 size_int (by simp) ?_; go_must (intro w3 c3 f3; have c3 : BxV w3 g1 39 (dkL v1 v2 v3 true (l - 1) false) := (by simpa using c3); have b3 := b2.ne f3 (by omega)))
          | (with_reducible refine at_wpP ?_; refine wpList_ldD rfl _ rfl g1 rfl v1 v2 v3 true (l - 1) false c3 ?_)
          | (with_reducible refine at_wpP ?_; refine wpList_stD rfl _ _ rfl g2 rfl v1 v2 v3 true (l - 1) false rfl _ b3 rfl h1 h2 h3 ?_; intro w4 b4 f4))
        refine bodyPost_ret (v := .tuple #[dkV v1 v2 v3 true (l - 1) false, .int .i64 0]) (results_disk2 Try.results36 _ w4 g2 v1 v2 v3 true (l - 1) false rfl b4) rfl ⟨rfl, ?_⟩
        exact ((f1.thenN f2).thenT f3 (fun i hi q => by unfold onB1 at q; have := f1.size; omega)).thenT f4 (fun i hi q => by unfold onB1 at q; have := f1.size; omega)

set_option maxHeartbeats 1000000 in
theorem rcut_any (v1 v2 v3 : Value) (h1 : isSl v1) (h2 : isSl v2) (h3 : isSl v3) (c : Bool) (l : Int) (d : Bool) (n : Int) (w : World) :
    Calls Try.prog 22 #[dkV v1 v2 v3 c l d, .int .i64 n] w fun r w' => r = .returned (dkV v1 v2 v3 (decide (0 ≤ n)) n d) ∧ Fr noB w w' := by
  obtain ⟨b, Hb⟩ : ∃ b, Hid (decide (0 ≤ n) = b) := ⟨_, rfl⟩
  rw [Hb.out]
  have hb := Hb.out
  go_enter Try.func22, Try.ntmps22
  go_wp2_with (first
    | (with_reducible refine at_wpP ?_; refine wpList_boxV rfl 39 _ rfl (dkL v1 v2 v3 c l d) rfl ?_; intro g1 w1 hg1 b1 f1 s1)
    | (with_reducible refine at_wpP ?_; refine wpList_allocD rfl rfl ?_; intro g2 w2 hg2 b2 f2 s2; have c2 := b1.fr0 f2; have hl1 := b1.lt; have hl2 := b2.lt)
    | (with_reducible refine at_wpP ?_; refine wpList_store1 rfl 4 _ _ rfl g1 3 rfl (.bool b) rfl rfl _ _ c2 size_bool (by simp) ?_; go_must (intro w3 c3 f3; have c3 : BxV w3 g1 39 (dkL v1 v2 v3 b l d) := (by simpa using c3); have b3 := b2.ne f3 (by omega)))
    | (with_reducible refine at_wpP ?_; refine wpList_store1 rfl 3 _ _ rfl g1 4 rfl (.int .i64 n) rfl rfl _ _ c3 size_int (by simp) ?_; go_must (intro w4 c4 f4; have c4 : BxV w4 g1 39 (dkL v1 v2 v3 b n d) := (by simpa using c4); have b4 := b3.ne f4 (by omega)))
    | (with_reducible refine at_wpP ?_; refine wpList_ldD rfl _ rfl g1 rfl v1 v2 v3 b n d c4 ?_)
    | (with_reducible refine at_wpP ?_; refine wpList_stD rfl _ _ rfl g2 rfl v1 v2 v3 b n d rfl _ b4 rfl h1 h2 h3 ?_; intro w5 b5 f5))
  refine bodyPost_ret (v := dkV v1 v2 v3 b n d) (results_disk1 Try.results22 _ w5 g2 v1 v2 v3 b n d rfl b5) rfl ⟨rfl, ?_⟩
  have z1 := f1.size
  exact (((f1.thenN f2).thenT f3 (fun i hi q => by unfold onB1 at q; omega)).thenT f4 (fun i hi q => by unfold onB1 at q; omega)).thenT f5 (fun i hi q => by unfold onB1 at q; omega)
end Go.Proofs.Ytejjfpdcmaefiaa
