/- Contract of slices.Backward over bytes, and of Take in one form. -/
import Derived.Test.YtffdgbimpodopaaA4
import Derived.RangeFuncNested
import Derived.RangeFuncBound
import Derived.RangeFuncCalls
import Derived.RangeFuncLeaves
import Derived.RangeFuncBox
import Derived.Shelf.Abstract
import Derived.Shelf.RegionOpen
import Derived.OwnWalkIn
import Derived.TacticsInMore
import Derived.LoopNIn
import Derived.LoopIn
namespace Go.Proofs.Ytffdgbimpodopaa
open Go.RowKit Go.Shelf Go.Proofs.U
attribute [local go_sem] Oper.semAt_some

def upto {α : Type} (f : Nat → α) (k : Nat) : List α := (List.range k).map f
theorem upto_succ {α : Type} (f : Nat → α) (k : Nat) : upto f (k + 1) = upto f k ++ [f k] := by simp [upto, List.range_succ]
theorem upto_length {α : Type} (f : Nat → α) (k : Nat) : (upto f k).length = k := by simp [upto]

/-- Below n₀ all blocks but B are as they were. -/
def KB (n₀ B : Nat) (W W' : World) : Prop := ∀ k, k < n₀ → k ≠ B → W'.heap[k]? = W.heap[k]?
theorem KB.refl (n₀ B : Nat) (W : World) : KB n₀ B W W := fun _ _ _ => rfl
theorem KB.t {n₀ B : Nat} {X Y Z : World} (h : KB n₀ B X Y) (k : KB n₀ B Y Z) : KB n₀ B X Z := fun i hi hb => (k i hi hb).trans (h i hi hb)
theorem KB.b {n₀ B : Nat} {w : World} (hn : n₀ ≤ w.heap.size) (W : World) (l : Nat) (o o' : Obj) (hl : w.heap.size ≤ l) (_h : W.heap[l]? = some o) (_ : o.isCells = false) (_ : o.isWalk = false) : KB n₀ B W (W.putObj l o') := fun k hk _ =>
  (grownBy_putObj' W l o').block k (by have := (Array.getElem?_eq_some_iff.1 _h).1; omega) (fun e => by cases e; omega)
theorem KB.cell {n₀ B : Nat} {W W' : World} (h : KB n₀ B W W') {p : Addr} (hp : p.block < n₀) (hb : p.block ≠ B) : W'.cell? p = W.cell? p := World.cell?_of_block (w := W) (h p.block hp hb)

def back (zs : List Int) (j : Nat) : Int × Int := (((zs.length : Int) - 1 - j), zs[zs.length - 1 - j]?.getD 0)

set_option maxRecDepth 100000 in
set_option maxHeartbeats 2000000 in
theorem backward1_in (F : Fence) (n : Nat) (h7 : F.fn 26) (hro : F.round = none) (hn : 1 ≤ n) (l Bs n₀ B b off cap : Nat) (zs : List Int) (hreach : zs.length ≤ 1000000000000) (hb : b < n₀) (hbB : b ≠ B) (hBs : Bs < n₀) (hBsB : Bs ≠ B) (J Jx : List (Int × Int) → World → Prop)
    (hY : ∀ pre x W, J pre W → pre.length < zs.length → YieldAt F (n - 1) Try.prog l #[.int .i64 x.1, .int .u8 x.2] W fun e W' =>
      (e = .returned (.bool true) ∧ J (pre ++ [x]) W' ∧ KB n₀ B W W') ∨ (e = .returned (.bool false) ∧ Jx (pre ++ [x]) W'))
    (W : World) (hc0 : W.cell? ⟨Bs, 0, none⟩ = some (.slice (some ⟨b, off, none⟩) zs.length cap)) (hc : ∀ j, j < zs.length → W.cell? ⟨b, off + j, none⟩ = some (.int .u8 (zs[j]?.getD 0))) (h0 : J [] W) :
    CallsIn F n Try.prog 26 #[.func (.yield l) #[] #[], .pointer (some ⟨Bs, 0, none⟩)] W fun e W' => (∃ v, e = .returned v) ∧
      ((∃ ys, ys = upto (back zs) zs.length ∧ J ys W') ∨ (∃ pre, (∃ k, k ≤ zs.length ∧ pre = upto (back zs) k) ∧ Jx pre W')) := by
  refine callsIn_of_wp Try.func26 rfl h7 ?_ hro
  simp only [Try.ntmps26, List.size_toArray, List.length_cons, List.length_nil, Nat.reduceAdd, Nat.reduceSub, Array.replicate_succ, Array.replicate_zero, List.push_toArray, List.append_toArray, List.nil_append, List.cons_append]
  gi_wp2
  gi_loopw [3] (fun i wr => ∃ k : Nat, k ≤ zs.length ∧ i = .int .i64 ((zs.length : Int) - 1 - k) ∧ J (upto (back zs) k) wr ∧ KB n₀ B W wr)
    (fun i _ => (intOf i + 1).toNat)
  case atStart => exact ⟨0, Nat.zero_le _, by simp, h0, KB.refl _ _ _⟩
  case round =>
    obtain ⟨k, hk, rfl, hJs, hnx⟩ := hrel
    have hc0' := (hnx.cell (p := ⟨Bs, 0, none⟩) hBs hBsB).trans hc0
    by_cases hlt : k < zs.length
    · obtain ⟨fn, tmps, assign, body, hy, hR⟩ := hY _ (back zs k) wr hJs (by rw [upto_length]; exact hlt)
      dsimp only [back] at hy
      have hcx : wr.cell? ⟨b, off + (zs.length - 1 - k), none⟩ = some (.int .u8 (zs[zs.length - 1 - k]?.getD 0)) := (hnx.cell (p := ⟨b, off + (zs.length - 1 - k), none⟩) hb hbB).trans (hc (zs.length - 1 - k) (by omega))
      have hi1 : (0 : Int) ≤ (zs.length : Int) - 1 - k := by omega
      have hi2 : (zs.length : Int) - 1 - k < (zs.length : Int) := by omega
      have hi3 : ((zs.length : Int) - 1 - k).toNat = zs.length - 1 - k := by omega
      gi_wp2
      refine hR.mono ?_
      rintro e W3 (⟨rfl, hJ3, hk3⟩ | ⟨rfl, hJx3⟩)
      · gi_wp2
        go_roundw
        case rel => exact ⟨k + 1, by omega, by go_num, by rw [upto_succ]; exact hJ3, hnx.t hk3⟩
        case measure => simp [intOf]; omega
      · gi_wp2
        refine bodyPost_ret (results_none rfl _ _ _) rfl ?_
        exact ⟨⟨_, rfl⟩, .inr ⟨_, ⟨k + 1, by omega, (upto_succ _ _).symm⟩, hJx3⟩⟩
    · obtain rfl : k = zs.length := by omega
      gi_wp2
      go_end0
      exact ⟨⟨_, rfl⟩, .inl ⟨_, rfl, hJs⟩⟩

set_option maxRecDepth 100000 in
set_option maxHeartbeats 1000000 in
theorem backward1_nil_in (F : Fence) (n : Nat) (h7 : F.fn 26) (hro : F.round = none) (l Bs : Nat) (a : Option Addr) (cap : Nat) (J : List (Int × Int) → World → Prop) (W : World) (hBs : W.cell? ⟨Bs, 0, none⟩ = some (.slice a 0 cap)) (h0 : J [] W) :
    CallsIn F n Try.prog 26 #[.func (.yield l) #[] #[], .pointer (some ⟨Bs, 0, none⟩)] W fun e W' => (∃ v, e = .returned v) ∧ J [] W' := by
  refine callsIn_of_wp Try.func26 rfl h7 ?_ hro
  simp only [Try.ntmps26, List.size_toArray, List.length_cons, List.length_nil, Nat.reduceAdd, Nat.reduceSub, Array.replicate_succ, Array.replicate_zero, List.push_toArray, List.append_toArray, List.nil_append, List.cons_append]
  gi_wp2
  gi_loopw [3] (fun i wr => i = .int .i64 (-1) ∧ J [] wr) (fun _ _ => 0)
  case atStart => exact ⟨rfl, h0⟩
  case round =>
    obtain ⟨rfl, hJs⟩ := hrel
    gi_wp2
    go_end0
    exact ⟨⟨_, rfl⟩, hJs⟩

set_option maxHeartbeats 1000000 in
theorem backward_in (F : Fence) (n : Nat) (h5 : F.fn 23) (hro : F.round = none) (a : Option Addr) (len cap : Nat) (w : World) :
    CallsIn F n Try.prog 23 #[.slice a len cap] w fun e w' => e = .returned (.func (.func 26) #[] #[.pointer (some ⟨w.heap.size, 0, none⟩)]) ∧ w' = w.alloc (.cells #[.slice a len cap] 22) := by
  refine callsIn_of_wp Try.func23 rfl h5 ?_ hro
  simp only [Try.ntmps23, List.size_toArray, List.length_cons, List.length_nil, Nat.reduceAdd, Nat.reduceSub, Array.replicate_succ, Array.replicate_zero, List.push_toArray, List.append_toArray, List.nil_append, List.cons_append]
  gi_wp2
  go_ret
  exact ⟨rfl, rfl⟩

/-- slices.Backward over bytes that lie below n₀, not in block B: for every body that keeps all but B there. -/
theorem backward_stops (F : Fence) (n : Nat) (h7 : F.fn 26) (hro : F.round = none) (hn : 1 ≤ n) (Bs n₀ B : Nat) (sv : Value) (zs : List Int) (hreach : zs.length ≤ 1000000000000) (w : World) (hn₀ : n₀ ≤ w.heap.size) (hBs : Bs < n₀) (hBsB : Bs ≠ B)
    (hc : w.cell? ⟨Bs, 0, none⟩ = some sv) (hI : SlI .u8 w sv zs) (hlt : ∀ k, sv.ownBlock = some k → k < n₀ ∧ k ≠ B) :
    SeqStopsK F n Try.prog 26 #[.pointer (some ⟨Bs, 0, none⟩)] (fun x : Int × Int => #[Value.int .i64 x.1, Value.int .u8 x.2]) (KB n₀ B) (fun ys => ys = upto (back zs) zs.length)
      (fun pre => ∃ k, k ≤ zs.length ∧ pre = upto (back zs) k) zs.length w := fun l J Jx W hW _ _ hY h0 => by
  have hc' := (hW.cell (p := ⟨Bs, 0, none⟩) (Nat.lt_of_lt_of_le hBs hn₀)).trans hc
  have hI' := hI.fr0 (Fr.of_below hW)
  obtain ⟨⟨ao, cap, rfl, hcap, hlen, hnone, hsome⟩, hwf⟩ := hI'
  by_cases hz : zs.length = 0
  · rw [hz] at hc'
    refine (backward1_nil_in F n h7 hro l Bs ao cap J W hc' h0).mono fun e W' ⟨he, hj⟩ => ⟨he, .inl ⟨[], ?_, hj⟩⟩
    simp [upto, hz]
  · cases ao with
    | none => have := hnone rfl; omega
    | some ad =>
      obtain ⟨b, off, sp⟩ := ad
      have hcell := hsome _ rfl
      have hsp : sp = none := by
        have := hcell 0 _ (List.getElem?_eq_getElem (by simp; omega))
        simpa [Addr.add] using World.cell?_spot this
      subst hsp
      obtain ⟨h1, h2⟩ := hlt b rfl
      refine backward1_in F n h7 hro hn l Bs n₀ B b off cap zs hreach h1 h2 hBs hBsB J Jx hY W hc' (fun j hj => ?_) h0
      have := hcell j (.int .u8 (zs[j]?.getD 0)) (by simp [hj])
      rwa [Addr.plain] at this

/-- What Take answers and leaves: the bytes, how many were taken, whether it failed. -/
def tkOk (l : List Int) (t : Nat) (f : Bool) (n : Int) : Bool := !f && decide (0 ≤ n) && decide (n ≤ ((l.length - t : Nat) : Int))
def tkL (l : List Int) (t : Nat) (f : Bool) (n : Int) : List Int := if tkOk l t f n then (l.drop t).take n.toNat else []
def tkT (l : List Int) (t : Nat) (f : Bool) (n : Int) : Nat := if tkOk l t f n then t + n.toNat else t
def tkF (l : List Int) (t : Nat) (f : Bool) (n : Int) : Bool := !tkOk l t f n

theorem take_any (b : Nat) (vb : Value) (l : List Int) (t : Nat) (f : Bool) (n : Int) (w : World) (hr : Rd w b vb l t f) :
    Calls Try.prog 19 #[.pointer (some ⟨b, 0, none⟩), .int .i64 n] w fun e w' => ∃ v, e = .returned v ∧ OwnI .u8 5 w' w.heap.size v (tkL l t f n) ∧ Rd w' b vb l (tkT l t f n) (tkF l t f n) ∧ Fr (onB b) w w' := by
  have ht : t ≤ l.length := by obtain ⟨h0, h1, h2, h3, h4, h5, h6, h7⟩ := hr; exact h6
  cases hk : tkOk l t f n with
  | true =>
    have hk' := hk
    simp [tkOk] at hk
    obtain ⟨⟨rfl, hn0⟩, hn⟩ := hk
    obtain ⟨m, rfl⟩ := Int.eq_ofNat_of_zero_le hn0
    refine (take_yes b vb l t m w hr (by omega)).mono ?_
    rintro e w' ⟨v, rfl, ho, hr', hf⟩
    refine ⟨v, rfl, ?_, ?_, hf⟩
    · simpa [tkL, hk'] using ho
    · simpa [tkT, tkF, hk'] using hr'
  | false =>
    have hk' := hk
    simp [tkOk] at hk
    refine (take_no b vb l t f n w hr ?_).mono ?_
    · by_cases hf : f = true
      · exact .inl hf
      · by_cases hn0 : 0 ≤ n
        · have := hk (by simpa using hf) hn0; omega
        · omega
    · rintro e w' ⟨rfl, hr', hf⟩
      refine ⟨_, rfl, ?_, ?_, hf⟩
      · simpa [tkL, hk'] using OwnI.mk (k := .u8) [] (World.ownsRow_nil w' w.heap.size 5 1) rfl
      · simpa [tkT, tkF, hk'] using hr'
end Go.Proofs.Ytffdgbimpodopaa
