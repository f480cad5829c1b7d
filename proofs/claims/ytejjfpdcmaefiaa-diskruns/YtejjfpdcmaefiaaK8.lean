/- slices.Backward over the pending writes. -/
import Derived.Test.YtejjfpdcmaefiaaK7
import Derived.RangeFuncNested
import Derived.RangeFuncBound
import Derived.RangeFuncCalls
import Derived.RangeFuncLeaves
import Derived.RangeFuncBox
import Derived.Shelf.Abstract
import Derived.Shelf.RegionOpen
import Derived.OwnWalkIn
import Derived.TacticsInMore
import Derived.LoopNIn
import Derived.LoopIn
namespace Go.Proofs.U
open Go.RowKit
set_option linter.unusedSimpArgs false
set_option linter.unusedVariables false
section
variable {F : Fence} {nF : Nat} {P : Program} {w : World} {ops : Array Oper} {rest : List Oper} {o : Oper} {a : Act} {Q : Exit → Act → World → Prop}
theorem at_wpI {l : List Oper} (h : wpListIn F nF P ops Q l a w) : wpListIn F nF P ops Q l a w := h
theorem at_ldI (t : TypeId) (x : Operand) (_ho : o.op = .load t x) (h : wpListIn F nF P ops Q (o :: rest) a w) : wpListIn F nF P ops Q (o :: rest) a w := h
theorem at_stI (t : TypeId) (x y : Operand) (_ho : o.op = .store t x y) (h : wpListIn F nF P ops Q (o :: rest) a w) : wpListIn F nF P ops Q (o :: rest) a w := h
theorem wpListIn_ld (hgd : o.guard = none) (t : TypeId) (x : Operand) (ho : o.op = .load t x) (p u : Value) (hx : a.eval x = p) (hr : (Instr.loadAt t p).run P w = .ok u w)
    (h : wpListIn F nF P ops Q rest (a.put o.dst u) w) : wpListIn F nF P ops Q (o :: rest) a w := by
  refine wpListIn_plain hgd fun K' hK' => ?_
  unfold Oper.wpIn
  refine ⟨by simp [Oper.about, ho], ?_⟩
  rw [Oper.semAt_plain F _ _ (by rw [ho]; intro c hc'; cases hc')]
  simp only [execOp, ho, hx]
  simp [hr, Result.andThen]
  exact hK' _ _ h
theorem wpListIn_st (hgd : o.guard = none) (t : TypeId) (x y : Operand) (ho : o.op = .store t x y) (p u : Value) (hx : a.eval x = p) (hy : a.eval y = u) (w' : World) (hr : (Instr.storeAt t p u).run P w = .ok () w')
    (h : wpListIn F nF P ops Q rest (a.put o.dst undef) w') : wpListIn F nF P ops Q (o :: rest) a w := by
  refine wpListIn_plain hgd fun K' hK' => ?_
  unfold Oper.wpIn
  refine ⟨by simp [Oper.about, ho], ?_⟩
  rw [Oper.semAt_plain F _ _ (by rw [ho]; intro c hc'; cases hc')]
  simp only [execOp, ho, hx, hy]
  simp [hr, Result.andThen]
  exact hK' _ _ h
theorem at_alI (t : TypeId) (_ho : o.op = .alloc t) (h : wpListIn F nF P ops Q (o :: rest) a w) : wpListIn F nF P ops Q (o :: rest) a w := h
theorem wpListIn_storeV (hgd : o.guard = none) (t : TypeId) (x y : Operand) (ho : o.op = .store t x y) (g off : Nat) (hx : a.eval x = .pointer (some ⟨g, off, none⟩)) (ds : List Value) (hy : a.eval y = .agg ds.toArray) (t' : TypeId) (cs : List Value) (hA : BxV w g t' cs)
    (hi : (P.info? t).map (·.size) = some ds.length) (hl : off + ds.length ≤ cs.length) (h1 : ∀ v ∈ ds, v.oneCell' = true)
    (h : ∀ w', BxV w' g t' (putAt cs off ds) → Fr (onB1 g) w w' → wpListIn F nF P ops Q rest (a.put o.dst undef) w') : wpListIn F nF P ops Q (o :: rest) a w := by
  have hr := run_storeAt_mid (P := P) w g off t ds.toArray (by simpa using hA.thereR off ds.length hl) (by simpa using hi) (all_oneCell_toArray h1)
  refine wpListIn_st hgd t x y ho _ _ hx hy _ hr (h _ ?_ ?_)
  · exact setCells_bx ds off w cs hA hl
  · exact setCells_fr1 w g _ off
theorem wpListIn_store1 (hgd : o.guard = none) (t : TypeId) (x y : Operand) (ho : o.op = .store t x y) (g off : Nat) (hx : a.eval x = .pointer (some ⟨g, off, none⟩)) (v : Value) (hy : a.eval y = v) (hv : v.oneCell' = true) (t' : TypeId) (cs : List Value) (hA : BxV w g t' cs)
    (hi : (P.info? t).map (·.size) = some 1) (hl : off < cs.length)
    (h : ∀ w', BxV w' g t' (cs.set off v) → Fr (onB1 g) w w' → wpListIn F nF P ops Q rest (a.put o.dst undef) w') : wpListIn F nF P ops Q (o :: rest) a w := by
  refine wpListIn_st hgd t x y ho _ _ hx hy _ (run_st1 (P := P) (off := off) t hi v hv t' cs hA hl) (h _ (hA.set off v) (Fr.setCell (S := onB1 g) (Fr.refl _ _) _ _ (fun _ => rfl)))
theorem keepsFrom_of_fr {B : Nat} {S : Nat → Prop} {W W' : World} (f : Fr S W W') (hS : ∀ k o, S k → W.heap[k]? = some o → o.isCells = true) : KeepsFrom B W W' :=
  ⟨f.size, fun k o _ hk ho => (f.block k (Array.getElem?_eq_some_iff.1 hk).1 (fun q => by have := hS k o q hk; rw [ho] at this; cases this)).trans hk⟩
theorem below_of_fr {B : Nat} {W W' : World} (f : Fr noB W W') (hB : B ≤ W.heap.size) : Below B W W' := ⟨f.os, f.tape, f.output, f.size, fun k hk => f.block k (Nat.lt_of_lt_of_le hk hB) (fun q => q)⟩
theorem wpListIn_allocV (hgd : o.guard = none) (t : TypeId) (ho : o.op = .alloc t) (zs : List Value) (hz : (P.info? t).map (·.zero) = some (some (.agg zs.toArray)))
    (h : ∀ g w', g = w.heap.size → w' = w.alloc (.cells zs.toArray t) → BxV w' g t zs → Fr noB w w' → wpListIn F nF P ops Q rest (a.put o.dst (.pointer (some ⟨g, 0, none⟩))) w') : wpListIn F nF P ops Q (o :: rest) a w := by
  refine wpListIn_plain hgd fun K' hK' => ?_
  unfold Oper.wpIn
  refine ⟨by simp [Oper.about, ho], ?_⟩
  rw [Oper.semAt_plain F _ _ (by rw [ho]; intro c hc'; cases hc')]
  obtain ⟨i, hi, hzz⟩ := Option.map_eq_some_iff.1 hz
  simp only [execOp, ho]
  simp [Instr.alloc, zeroValue, typeInfo, hi, hzz, go_sem, Value.cells]
  refine hK' _ _ (h w.heap.size _ rfl rfl ?_ ((Fr.refl _ _).alloc _))
  show (w.heap.push _)[w.heap.size]? = _
  rw [Array.getElem?_push, if_pos rfl]
end
end Go.Proofs.U
namespace Go.Proofs.Ytejjfpdcmaefiaa
open Go.RowKit Go.Shelf Go.Proofs.U
attribute [local go_sem] Oper.semAt_some
set_option linter.unusedSimpArgs false
set_option linter.unusedVariables false

/-- A write of a page. -/
abbrev Wr := { x : Int × List Int // x.2.length = 256 }
theorem wr_list : ∀ pend : List (Int × List Int), (∀ x ∈ pend, x.2.length = 256) → ∃ zs : List Wr, zs.map (·.1) = pend
  | [], _ => ⟨[], rfl⟩
  | x :: l, h => by
    obtain ⟨zs, hz⟩ := wr_list l (fun y hy => h y (by simp [hy]))
    exact ⟨⟨x, h x (by simp)⟩ :: zs, by simp [hz]⟩
def wr0 : Wr := ⟨(0, zeroP), zeroP_len⟩
def bkW (zs : List Wr) (j : Nat) : Int × Wr := (((zs.length : Int) - 1 - j), zs[zs.length - 1 - j]?.getD wr0)
def uptoL {α : Type} (f : Nat → α) (k : Nat) : List α := (List.range k).map f
theorem uptoL_succ {α : Type} (f : Nat → α) (k : Nat) : uptoL f (k + 1) = uptoL f k ++ [f k] := by simp [uptoL, List.range_succ]
theorem uptoL_length {α : Type} (f : Nat → α) (k : Nat) : (uptoL f k).length = k := by simp [uptoL]
abbrev encX (x : Int × Wr) : Array Value := #[.int .i64 x.1, .agg (encW x.2.1).toArray]

set_option maxRecDepth 100000 in
set_option maxHeartbeats 2000000 in
theorem bkw1_in (F : Fence) (n : Nat) (h7 : F.fn 39) (hro : F.round = none) (hn : 1 ≤ n) (l Bs n₀ b cap : Nat) (zs : List Wr) (hreach : zs.length ≤ 1000000000000) (hb : b < n₀) (hBs : Bs < n₀) (J Jx : List (Int × Wr) → World → Prop)
    (hY : ∀ pre x W, J pre W → pre.length < zs.length → YieldAt F (n - 1) Try.prog l (encX x) W fun e W' =>
      (e = .returned (.bool true) ∧ J (pre ++ [x]) W' ∧ Below n₀ W W') ∨ (e = .returned (.bool false) ∧ Jx (pre ++ [x]) W'))
    (W : World) (hc0 : W.cell? ⟨Bs, 0, none⟩ = some (.slice (some ⟨b, 0, none⟩) zs.length cap)) (hc : ∀ j (hj : j < zs.length), W.rangeAt b (j * 257) (encW zs[j].1)) (h0 : J [] W) :
    CallsIn F n Try.prog 39 #[.func (.yield l) #[] #[], .pointer (some ⟨Bs, 0, none⟩)] W fun e W' => (∃ v, e = .returned v) ∧
      ((∃ ys, ys = uptoL (bkW zs) zs.length ∧ J ys W') ∨ (∃ pre, (∃ k, k ≤ zs.length ∧ pre = uptoL (bkW zs) k) ∧ Jx pre W')) := by
  refine callsIn_of_wp Try.func39 rfl h7 ?_ hro
  simp only [Try.ntmps39, List.size_toArray, List.length_cons, List.length_nil, Nat.reduceAdd, Nat.reduceSub, Array.replicate_succ, Array.replicate_zero, List.push_toArray, List.append_toArray, List.nil_append, List.cons_append]
  gi_wp2
  gi_loopw [3] (fun i wr => ∃ k : Nat, k ≤ zs.length ∧ i = .int .i64 ((zs.length : Int) - 1 - k) ∧ J (uptoL (bkW zs) k) wr ∧ Below n₀ W wr)
    (fun i _ => (intOf i + 1).toNat)
  case atStart => exact ⟨0, Nat.zero_le _, by simp, h0, Below.refl _ _⟩
  case round =>
    obtain ⟨k, hk, rfl, hJs, hnx⟩ := hrel
    have hc0' := (hnx.cell (p := ⟨Bs, 0, none⟩) hBs).trans hc0
    by_cases hlt : k < zs.length
    · obtain ⟨fn, tmps, assign, body, hy, hR⟩ := hY _ (bkW zs k) wr hJs (by rw [uptoL_length]; exact hlt)
      dsimp only [bkW, encX] at hy
      obtain ⟨j, Hj⟩ : ∃ j, Hid (zs.length - 1 - k = j) := ⟨_, rfl⟩
      have hjl : j < zs.length := by rw [← Hj.out]; omega
      have hji : (zs.length : Int) - 1 - k = (j : Int) := by rw [← Hj.out]; omega
      rw [Hj.out, hji] at hy
      rw [hji]
      have hgz : zs[j]?.getD wr0 = zs[j] := by simp [hjl]
      rw [hgz] at hy
      obtain ⟨x, Hx⟩ : ∃ x, Hid (zs[j] = x) := ⟨_, (rfl : zs[j] = zs[j])⟩
      have hrg : wr.rangeAt b (j * 257) (encW x.1) := by
        intro q v hq
        rw [← Hx.out] at hq
        exact (hnx.cell (p := ⟨b, j * 257 + q, none⟩) hb).trans (hc j hjl q v hq)
      rw [Hx.out] at hy
      have hri : ∀ W, (Instr.indexAt 64 (.slice (some ⟨b, 0, none⟩) zs.length cap) (.int .i64 (j : Int))).run Try.prog W = .ok (.pointer (some ⟨b, j * 257, none⟩)) W := fun W => run_idxO _ 74 Try.underlying64 pwrite_size b zs.length cap .i64 j hjl
      have hrl : (Instr.loadAt 74 (.pointer (some ⟨b, j * 257, none⟩))).run Try.prog wr = .ok (.agg (encW x.1).toArray) wr := by
        simp only [Instr.loadAt, Instr.sureAddr, Sem.run_bind, Sem.run_pure, Result.andThen_ok, run_loadVar_mid wr b (j * 257) 74 (encW x.1) _ hrg punder_write rfl (by rw [pwrite_size, encW_len _ x.2])]
      have hi1 : (0 : Int) ≤ (j : Int) := by omega
      gi_wp2_with (first | (refine at_ldI 74 _ rfl ?_; go_must (refine wpListIn_ld rfl 74 _ rfl _ _ rfl hrl ?_)))
      refine hR.mono ?_
      rintro e W3 (⟨rfl, hJ3, hk3⟩ | ⟨rfl, hJx3⟩)
      · gi_wp2
        go_roundw
        case rel => exact ⟨k + 1, by omega, by go_num, by rw [uptoL_succ]; exact hJ3, hnx.trans hk3⟩
        case measure => simp [intOf]
      · gi_wp2
        refine bodyPost_ret (results_none rfl _ _ _) rfl ?_
        exact ⟨⟨_, rfl⟩, .inr ⟨_, ⟨k + 1, by omega, (uptoL_succ _ _).symm⟩, hJx3⟩⟩
    · obtain rfl : k = zs.length := by omega
      gi_wp2
      go_end0
      exact ⟨⟨_, rfl⟩, .inl ⟨_, rfl, hJs⟩⟩

set_option maxRecDepth 100000 in
set_option maxHeartbeats 1000000 in
theorem bkw1_nil_in (F : Fence) (n : Nat) (h7 : F.fn 39) (hro : F.round = none) (l Bs : Nat) (a : Option Addr) (cap : Nat) (J : List (Int × Wr) → World → Prop) (W : World) (hBs : W.cell? ⟨Bs, 0, none⟩ = some (.slice a 0 cap)) (h0 : J [] W) :
    CallsIn F n Try.prog 39 #[.func (.yield l) #[] #[], .pointer (some ⟨Bs, 0, none⟩)] W fun e W' => (∃ v, e = .returned v) ∧ J [] W' := by
  refine callsIn_of_wp Try.func39 rfl h7 ?_ hro
  simp only [Try.ntmps39, List.size_toArray, List.length_cons, List.length_nil, Nat.reduceAdd, Nat.reduceSub, Array.replicate_succ, Array.replicate_zero, List.push_toArray, List.append_toArray, List.nil_append, List.cons_append]
  gi_wp2
  gi_loopw [3] (fun i wr => i = .int .i64 (-1) ∧ J [] wr) (fun _ _ => 0)
  case atStart => exact ⟨rfl, h0⟩
  case round =>
    obtain ⟨rfl, hJs⟩ := hrel
    gi_wp2
    go_end0
    exact ⟨⟨_, rfl⟩, hJs⟩

theorem bkw_any (a : Option Addr) (len cap : Nat) (w : World) :
    Calls Try.prog 31 #[.slice a len cap] w fun e w' => e = .returned (.func (.func 39) #[] #[.pointer (some ⟨w.heap.size, 0, none⟩)]) ∧ w' = w.alloc (.cells #[.slice a len cap] 64) := by
  go_enter Try.func31, Try.ntmps31
  go_wp2
  go_ret
  exact ⟨rfl, rfl⟩

/-- slices.Backward over writes that lie below n₀: for every body that keeps all there. -/
theorem bkw_stops (F : Fence) (n : Nat) (h7 : F.fn 39) (hro : F.round = none) (hn : 1 ≤ n) (Bs : Nat) (sv : Value) (zs : List Wr) (hreach : zs.length ≤ 1000000000000) (w : World) (hBs : Bs < w.heap.size)
    (hc : w.cell? ⟨Bs, 0, none⟩ = some sv) (hI : OwnR encW 257 74 w 0 sv (zs.map (·.1))) :
    SeqStopsK F n Try.prog 39 #[.pointer (some ⟨Bs, 0, none⟩)] encX (Below w.heap.size) (fun ys => ys = uptoL (bkW zs) zs.length)
      (fun pre => ∃ k, k ≤ zs.length ∧ pre = uptoL (bkW zs) k) zs.length w := fun l J Jx W hW _ _ hY h0 => by
  have hc' := (hW.cell (p := ⟨Bs, 0, none⟩) hBs).trans hc
  have hI' := hI.fr0 (Fr.of_below hW)
  by_cases hz : zs.length = 0
  · obtain ⟨a0, c0, rfl⟩ := hI.opn
    rw [List.length_map, hz] at hc'
    refine (bkw1_nil_in F n h7 hro l Bs a0 c0 J W hc' h0).mono fun e W' ⟨he, hj⟩ => ⟨he, .inl ⟨[], ?_, hj⟩⟩
    simp [uptoL, hz]
  · obtain ⟨b, cap', cur, hv, _, _, _, _, _⟩ := hI'.bx (by rw [List.length_map]; omega)
    rw [hv] at hc' hI' hI
    have hbw := (hI.newB b rfl).2
    refine bkw1_in F n h7 hro hn l Bs w.heap.size b cap' zs hreach hbw hBs J Jx hY W (by rw [hc', List.length_map]) (fun j hj => ?_) h0
    have := OwnR.rangeK hI' j (by rw [List.length_map]; exact hj)
    simpa using this
end Go.Proofs.Ytejjfpdcmaefiaa
