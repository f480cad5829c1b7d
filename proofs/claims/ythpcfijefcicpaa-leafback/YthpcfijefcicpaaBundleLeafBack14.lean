/- Texts X8, X9, OpenC, OpenT of the proof of LeafBack, one behind the other. -/
import Derived.Deep.Matrix
import Derived.Test.YthpcfijefcicpaaBundleLeafBack1
import Derived.Test.YthpcfijefcicpaaBundleLeafBack2
import Derived.Test.YthpcfijefcicpaaBundleLeafBack3
import Derived.Test.YthpcfijefcicpaaBundleLeafBack4
import Derived.Test.YthpcfijefcicpaaBundleLeafBack5
import Derived.Test.YthpcfijefcicpaaBundleLeafBack6
import Derived.Test.YthpcfijefcicpaaBundleLeafBack7
import Derived.Test.YthpcfijefcicpaaBundleLeafBack8
import Derived.Test.YthpcfijefcicpaaBundleLeafBack9
import Derived.Test.YthpcfijefcicpaaBundleLeafBack10
import Derived.Test.YthpcfijefcicpaaBundleLeafBack11
import Derived.Test.YthpcfijefcicpaaBundleLeafBack12
import Derived.Test.YthpcfijefcicpaaBundleLeafBack13
/- At of package leaf: slices.Backward over entries. -/
namespace Go.Proofs.Ythpcfijefcicpaa
open Go.RowKit Go.Shelf Go.Proofs.U
attribute [local go_sem] Oper.semAt_some
set_option linter.unusedSimpArgs false
set_option linter.unusedVariables false

abbrev Ix := Int × (Int × Int)
def bkE (zs : List (Int × Int)) (j : Nat) : Ix := (((zs.length : Int) - 1 - j), zs[zs.length - 1 - j]?.getD (0, 0))
abbrev encY (x : Ix) : Array Value := #[.int .i64 x.1, enV x.2]

set_option maxRecDepth 100000 in
set_option maxHeartbeats 2000000 in
theorem bke1_in (F : Fence) (n : Nat) (h7 : F.fn 29) (hro : F.round = none) (hn : 1 ≤ n) (l Bs n₀ b off cap : Nat) (zs : List (Int × Int)) (hreach : zs.length ≤ 1000) (hb : b < n₀) (hBs : Bs < n₀) (J Jx : List Ix → World → Prop)
    (hY : ∀ pre x W, J pre W → pre.length < zs.length → YieldAt F (n - 1) Try.prog l (encY x) W fun e W' =>
      (e = .returned (.bool true) ∧ J (pre ++ [x]) W' ∧ Below n₀ W W') ∨ (e = .returned (.bool false) ∧ Jx (pre ++ [x]) W'))
    (W : World) (hc0 : W.cell? ⟨Bs, 0, none⟩ = some (.slice (some ⟨b, off, none⟩) zs.length cap)) (hc : ∀ j (hj : j < zs.length) q u, (enC zs[j])[q]? = some u → W.cell? ⟨b, off + j * 2 + q, none⟩ = some u) (h0 : J [] W) :
    CallsIn F n Try.prog 29 #[.func (.yield l) #[] #[], .pointer (some ⟨Bs, 0, none⟩)] W fun e W' => (∃ v, e = .returned v) ∧
      ((∃ ys, ys = uptoL (bkE zs) zs.length ∧ J ys W') ∨ (∃ pre, (∃ k, k ≤ zs.length ∧ pre = uptoL (bkE zs) k) ∧ Jx pre W')) := by
  refine callsIn_of_wp Try.func29 rfl h7 ?_ hro
  simp only [Try.ntmps29, List.size_toArray, List.length_cons, List.length_nil, Nat.reduceAdd, Nat.reduceSub, Array.replicate_succ, Array.replicate_zero, List.push_toArray, List.append_toArray, List.nil_append, List.cons_append]
  gi_wp2
  gi_loopw [3] (fun i wr => ∃ k : Nat, k ≤ zs.length ∧ i = .int .i64 ((zs.length : Int) - 1 - k) ∧ J (uptoL (bkE zs) k) wr ∧ Below n₀ W wr)
    (fun i _ => (intOf i + 1).toNat)
  case atStart => exact ⟨0, Nat.zero_le _, by simp, h0, Below.refl _ _⟩
  case round =>
    obtain ⟨k, hk, rfl, hJs, hnx⟩ := hrel
    have hc0' := (hnx.cell (p := ⟨Bs, 0, none⟩) hBs).trans hc0
    by_cases hlt : k < zs.length
    · obtain ⟨fn, tmps, assign, body, hy, hR⟩ := hY _ (bkE zs k) wr hJs (by rw [uptoL_length]; exact hlt)
      dsimp only [bkE, encY] at hy
      obtain ⟨j, Hj⟩ : ∃ j, Hid (zs.length - 1 - k = j) := ⟨_, rfl⟩
      have hjl : j < zs.length := by rw [← Hj.out]; omega
      have hji : (zs.length : Int) - 1 - k = (j : Int) := by rw [← Hj.out]; omega
      rw [Hj.out, hji] at hy
      rw [hji]
      have hgz : zs[j]?.getD (0, 0) = zs[j] := by simp [hjl]
      rw [hgz] at hy
      obtain ⟨x, Hx⟩ : ∃ x, Hid (zs[j] = x) := ⟨_, (rfl : zs[j] = zs[j])⟩
      have hrg : ∀ q u, (enC x)[q]? = some u → wr.cell? ⟨b, off + j * 2 + q, none⟩ = some u := by
        intro q v hq
        rw [← Hx.out] at hq
        exact (hnx.cell (p := ⟨b, off + j * 2 + q, none⟩) hb).trans (hc j hjl q v hq)
      rw [Hx.out] at hy
      have hri : ∀ W, (Instr.indexAt 29 (.slice (some ⟨b, off, none⟩) zs.length cap) (.int .i64 (j : Int))).run Try.prog W = .ok (.pointer (some ⟨b, off + j * 2, none⟩)) W := fun W => run_idxS _ 43 Try.underlying29 en_size b off zs.length cap .i64 j hjl
      have hrl : (Instr.loadAt 43 (.pointer (some ⟨b, off + j * 2, none⟩))).run Try.prog wr = .ok (enV x) wr := run_ldE wr b (off + j * 2) x hrg
      have hi1 : (0 : Int) ≤ (j : Int) := by omega
      gi_wp2_with (first | (refine at_ldI 43 _ rfl ?_; go_must (refine wpListIn_ld rfl 43 _ rfl _ _ rfl hrl ?_)))
      refine hR.mono ?_
      rintro e W3 (⟨rfl, hJ3, hk3⟩ | ⟨rfl, hJx3⟩)
      · gi_wp2
        go_roundw
        case rel => exact ⟨k + 1, by omega, by go_num, by rw [uptoL_succ]; exact hJ3, hnx.trans hk3⟩
        case measure => simp [intOf]
      · gi_wp2
        refine bodyPost_ret (results_none rfl _ _ _) rfl ?_
        exact ⟨⟨_, rfl⟩, .inr ⟨_, ⟨k + 1, by omega, (uptoL_succ _ _).symm⟩, hJx3⟩⟩
    · obtain rfl : k = zs.length := by omega
      gi_wp2
      go_end0
      exact ⟨⟨_, rfl⟩, .inl ⟨_, rfl, hJs⟩⟩

set_option maxRecDepth 100000 in
set_option maxHeartbeats 1000000 in
theorem bke1_nil_in (F : Fence) (n : Nat) (h7 : F.fn 29) (hro : F.round = none) (l Bs : Nat) (a : Option Addr) (cap : Nat) (J : List Ix → World → Prop) (W : World) (hBs : W.cell? ⟨Bs, 0, none⟩ = some (.slice a 0 cap)) (h0 : J [] W) :
    CallsIn F n Try.prog 29 #[.func (.yield l) #[] #[], .pointer (some ⟨Bs, 0, none⟩)] W fun e W' => (∃ v, e = .returned v) ∧ J [] W' := by
  refine callsIn_of_wp Try.func29 rfl h7 ?_ hro
  simp only [Try.ntmps29, List.size_toArray, List.length_cons, List.length_nil, Nat.reduceAdd, Nat.reduceSub, Array.replicate_succ, Array.replicate_zero, List.push_toArray, List.append_toArray, List.nil_append, List.cons_append]
  gi_wp2
  gi_loopw [3] (fun i wr => i = .int .i64 (-1) ∧ J [] wr) (fun _ _ => 0)
  case atStart => exact ⟨rfl, h0⟩
  case round =>
    obtain ⟨rfl, hJs⟩ := hrel
    gi_wp2
    go_end0
    exact ⟨⟨_, rfl⟩, hJs⟩

theorem bke_any (a : Option Addr) (len cap : Nat) (w : World) :
    Calls Try.prog 21 #[.slice a len cap] w fun e w' => e = .returned (.func (.func 29) #[] #[.pointer (some ⟨w.heap.size, 0, none⟩)]) ∧ w' = w.alloc (.cells #[.slice a len cap] 29) := by
  go_enter Try.func21, Try.ntmps21
  go_wp2
  go_ret
  exact ⟨rfl, rfl⟩

/-- slices.Backward over entries that lie below n₀: for every body that keeps all there. -/
theorem bke_stops (F : Fence) (n : Nat) (h7 : F.fn 29) (hro : F.round = none) (hn : 1 ≤ n) (Bs : Nat) (sv : Value) (zs : List (Int × Int)) (hreach : zs.length ≤ 1000) (w : World) (hBs : Bs < w.heap.size)
    (hc : w.cell? ⟨Bs, 0, none⟩ = some sv) (hI : SlP .i64 .i64 w sv zs) :
    SeqStopsK F n Try.prog 29 #[.pointer (some ⟨Bs, 0, none⟩)] encY (Below w.heap.size) (fun ys => ys = uptoL (bkE zs) zs.length)
      (fun pre => ∃ k, k ≤ zs.length ∧ pre = uptoL (bkE zs) k) zs.length w := fun l J Jx W hW _ _ hY h0 => by
  have hc' := (hW.cell (p := ⟨Bs, 0, none⟩) hBs).trans hc
  have hI' := hI.1.fr0 (Fr.of_below hW)
  by_cases hz : zs.length = 0
  · obtain ⟨a0, c0, rfl, _⟩ := hI.1.opn
    rw [hz] at hc'
    refine (bke1_nil_in F n h7 hro l Bs a0 c0 J W hc' h0).mono fun e W' ⟨he, hj⟩ => ⟨he, .inl ⟨[], ?_, hj⟩⟩
    simp [uptoL, hz]
  · obtain ⟨b, off, cap', rfl, hcells⟩ := SlR.addr hI.1 (by decide) (by omega)
    have hbw : b < w.heap.size := World.block_lt_of_cell? w _ (hcells 0 (by omega) 0 _ rfl)
    refine bke1_in F n h7 hro hn l Bs w.heap.size b off cap' zs hreach hbw hBs J Jx hY W hc' (fun j hj q u hq => ?_) h0
    exact (hW.cell (p := ⟨b, off + j * 2 + q, none⟩) hbw).trans (hcells j hj q u hq)

/-- The place of the last entry whose key isn't above. -/
def AtIs (l : List (Int × Int)) (key at' : Int) : Prop := -1 ≤ at' ∧ at' < l.length ∧ ∀ (j : Nat) (hj : j < l.length), (at' < (j : Int) → key < l[j].1) ∧ ((j : Int) = at' → l[j].1 ≤ key)
/-- Between two rounds of At. -/
def AI (key : Int) (W0 : World) (pre : List Ix) (W : World) : Prop := (∀ x ∈ pre, key < x.2.1) ∧ Fr noB W0 W
def AX (key : Int) (g4 : Nat) (W0 : World) (c : Code) (pre : List Ix) (W : World) : Prop :=
  c = .ret ∧ ∃ pre' x, pre = pre' ++ [x] ∧ (∀ y ∈ pre', key < y.2.1) ∧ x.2.1 ≤ key ∧ BxV W g4 3 [.int .i64 x.1] ∧ Fr (onB1 g4) W0 W
theorem AI_own (key : Int) (W0 : World) : OwnFrom W0.heap.size (AI key W0) := fun s W W' row hs hg hr => ⟨hs.1, ownFrom_frN (β := Unit) (Nat.le_refl _) () W W' row hs.2 hg hr⟩
theorem AX_own {key : Int} {g4 : Nat} {W0 : World} (c : Code) (h4 : g4 < W0.heap.size) : OwnFrom W0.heap.size (AX key g4 W0 c) := by
  rintro s W W' row ⟨hc, pre', x, h1, h2, h3, h4', h6⟩ hg hr
  refine ⟨hc, pre', x, h1, h2, h3, ?_, ownFrom_frN (β := Unit) (Nat.le_refl _) () W W' row h6 hg hr⟩
  exact (hg.block g4 h4'.lt (fun q => by have := (hr g4 q.symm).1; omega)).trans h4'
theorem at_hit (zs : List (Int × Int)) (key : Int) {pre pre' : List Ix} {x : Ix} (hSp : ∃ k, k ≤ zs.length ∧ pre = uptoL (bkE zs) k) (hpre : pre = pre' ++ [x]) (hno : ∀ y ∈ pre', key < y.2.1) (hhit : x.2.1 ≤ key) : AtIs zs key x.1 := by
  obtain ⟨k, hk, rfl⟩ := hSp
  have hlen : k = pre'.length + 1 := by have := congrArg List.length hpre; rw [uptoL_length] at this; simpa using this
  subst hlen
  rw [uptoL_succ] at hpre
  obtain ⟨hp1, hp2⟩ := List.append_inj hpre (by rw [uptoL_length])
  have hx : bkE zs pre'.length = x := by simpa using hp2
  obtain ⟨j, Hj⟩ : ∃ j, zs.length - 1 - pre'.length = j := ⟨_, rfl⟩
  have hj : j < zs.length := by omega
  have hxz : x.2 = zs[j] := by rw [← hx]; unfold bkE; simp only; rw [Hj]; simp [hj]
  have hx1 : x.1 = (j : Int) := by rw [← hx]; unfold bkE; simp only; omega
  refine ⟨by omega, by omega, fun q hq => ⟨fun h => ?_, fun h => ?_⟩⟩
  · have hmem : bkE zs (zs.length - 1 - q) ∈ pre' := by
      rw [← hp1]; unfold uptoL
      exact List.mem_map.2 ⟨zs.length - 1 - q, by simp; omega, rfl⟩
    have := hno _ hmem
    unfold bkE at this
    rw [show zs.length - 1 - (zs.length - 1 - q) = q by omega] at this
    simp [hq] at this
    omega
  · have : q = j := by omega
    subst this
    rw [← hxz]; exact hhit
theorem at_miss (zs : List (Int × Int)) (key : Int) (hno : ∀ y ∈ uptoL (bkE zs) zs.length, key < y.2.1) : AtIs zs key (-1) := by
  refine ⟨by omega, by omega, fun q hq => ⟨fun h => ?_, fun h => by omega⟩⟩
  have hmem : bkE zs (zs.length - 1 - q) ∈ uptoL (bkE zs) zs.length := by
    unfold uptoL
    exact List.mem_map.2 ⟨zs.length - 1 - q, by simp; omega, rfl⟩
  have := hno _ hmem
  unfold bkE at this
  rw [show zs.length - 1 - (zs.length - 1 - q) = q by omega] at this
  simp [hq] at this
  omega
theorem int_zero : (Try.prog.info? 3).map (·.zero) = some (some (.int .i64 0)) := by kernel_rfl
theorem int_size : (Try.prog.info? 3).map (·.size) = some 1 := by kernel_rfl
theorem results_int {fn : Func} {q : Tmp} (h : fn.results = #[.cell q 3]) (tmps : Array Value) (w : World) (g : Nat) (x : Int) (hq : tmps.getD q undef = .pointer (some ⟨g, 0, none⟩)) (hB : w.cell? ⟨g, 0, none⟩ = some (.int .i64 x)) :
    (results fn tmps).run Try.prog w = .ok (.int .i64 x) w := by
  have hr2 : (loadVar 3 ⟨g, 0, none⟩).run Try.prog w = .ok (.int .i64 x) w := by simp [go_sem, hB]
  simp only [results, h]
  simp [Sem.run_bind, Result.andThen]
  have hq' : tmps[q]?.getD undef = .pointer (some ⟨g, 0, none⟩) := by simpa using hq
  simp [hq', asAddr, hr2]

set_option maxRecDepth 100000 in
set_option maxHeartbeats 2000000 in
theorem at_any (v : Value) (l : List (Int × Int)) (key : Int) (w : World) (hs : SlP .i64 .i64 w v l) (hm : l.length ≤ 1000) :
    Calls Try.prog 14 #[v, .int .i64 key] w fun r w' => ∃ at', r = .returned (.int .i64 at') ∧ AtIs l key at' ∧ Fr noB w w' := by
  have hS := hs
  obtain ⟨a0, c0, rfl, hc0⟩ := hs.1.opn
  refine (callsIn_wide (n := 5)).1 ?_
  refine callsIn_of_wp_marks Try.func14 rfl trivial ?_ rfl
  simp only [Try.ntmps14, List.size_toArray, List.length_cons, List.length_nil, Nat.reduceAdd, Nat.reduceSub, Array.replicate_succ, Array.replicate_zero, List.push_toArray, List.append_toArray, List.nil_append, List.cons_append]
  refine wpIn_wide.2 ?_
  go_wp2_with (first
    | (with_reducible refine at_wpP ?_; refine wpList_boxG rfl 3 _ rfl (.int .i64 key) [.int .i64 key] rfl rfl ?_; intro g3 w3 hg3 b3 f3 s3; have l3 := b3.lt; have z3 := f3.size)
    | (with_reducible refine at_wpP ?_; refine wpList_allocG rfl 3 rfl (.int .i64 0) [.int .i64 0] int_zero rfl ?_; intro g4 w4 hg4 b4 f4 s4; have l4 := b4.lt; have z4 := f4.size)
    | (go_at_call 21; go_must (refine (bke_any _ _ _ _).mono ?_; rintro e w7 ⟨rfl, rfl⟩)))
  obtain ⟨W0, hW0⟩ : ∃ W0, w4.alloc (.cells #[.slice a0 l.length c0] 29) = W0 := ⟨_, rfl⟩
  have hsz0 : W0.heap.size = w4.heap.size + 1 := by rw [← hW0]; simp
  have f70 : Fr noB w4 W0 := by rw [← hW0]; exact (Fr.refl _ _).alloc _
  have hbx0 : W0.cell? ⟨w4.heap.size, 0, none⟩ = some (.slice a0 l.length c0) := by rw [← hW0]; simp
  have F7 : Fr noB w W0 := (f3.thenN f4).thenN f70
  have hsl0 : SlP .i64 .i64 W0 (.slice a0 l.length c0) l := ⟨hS.1.fr0 F7, hS.2⟩
  have d3 := (b3.fr0 f4).fr0 f70
  have d4 := b4.fr0 f70
  have hg4W : g4 < W0.heap.size := d4.lt
  have hg3W : g3 < W0.heap.size := d3.lt
  have q3' : W0.cell? ⟨g3, 0, none⟩ = some (.int .i64 key) := (d3.cell 0 _ rfl).1
  have z7 := F7.size
  rw [hW0]
  refine (wpIn_wide (n := 5)).1 ?_
  refine wpIn_rangeFunc_ownH (F := Fence.wide) rfl (by omega) (gf := 29) (lb := #[.pointer (some ⟨w4.heap.size, 0, none⟩)]) rfl trivial (enters_of Try.func29 (by kernel_rfl) rfl)
    (bke_stops Fence.wide (5 - 1) trivial rfl (by omega) w4.heap.size _ l hm W0 (by omega) hbx0 hsl0) (fun h k => h.trans k) (fun W l o o' hl ho h1 h2 => belowK_b (w := W0) (Nat.le_refl _) W l o o' hl ho h1 h2) (Below.refl _ _) (fun _ => rfl)
    (AI key W0) (AX key g4 W0) (AI_own key W0) (fun c => AX_own c hg4W) ⟨by simp, Fr.refl _ _⟩
    (fun x a' W => ∃ gx, BxV W gx 43 (enC x.2) ∧ W0.heap.size ≤ gx ∧ a' = { tmps := #[.slice a0 l.length c0, .int .i64 key, undef, .pointer (some ⟨g3, 0, none⟩), .pointer (some ⟨g4, 0, none⟩), .int .i64 x.1, .pointer (some ⟨gx, 0, none⟩), .slice a0 l.length c0, .func (.func 29) #[] #[.pointer (some ⟨w4.heap.size, 0, none⟩)], .int .i64 x.1, enV x.2, undef, undef, undef, undef, undef], defers := [] })
    ?hAx ?assign ?body ?done ?stop
  case hAx =>
    intro x a' _ W W1 row hs hg hr
    obtain ⟨gx, hb, hgx, e⟩ := hs
    refine ⟨gx, ?_, hgx, e⟩
    have hb' : W.heap[gx]? = _ := hb
    refine (hg.block gx hb.lt (fun q => ?_)).trans hb
    obtain ⟨_, o, ho, hc⟩ := hr gx q.symm
    rw [hb'] at ho; cases ho; cases hc
  case assign =>
    intro l' pre x W K hI hK
    obtain ⟨hI1, hI2⟩ := hI
    have zI := hI2.size
    simp only [encY, zip2, List.setIfInBounds_toArray, List.set_cons_zero, List.set_cons_succ]
    gi_wp2_with (first
      | (refine at_alI 43 rfl ?_; go_must (refine wpListIn_allocV rfl 43 rfl _ en_zero ?_; intro gx w8 hgx hw8 b8 f8))
      | (refine at_stI 43 _ _ rfl ?_; go_must (refine wpListIn_storeV rfl 43 _ _ rfl gx 0 rfl (enC x.2) rfl _ _ b8 en_size (Nat.le_refl _) (en_one _) ?_; intro w9 b9 f9; rw [putAt_all (enC (0, 0)) (enC x.2) rfl] at b9)))
    have F9 : Fr noB W w9 := f8.thenT f9 (fun k hk q => by unfold onB1 at q; omega)
    exact hK _ _ (keepsFrom_of_fr F9 (fun _ _ q => q.elim)) (below_of_fr F9 zI) ⟨hI1, hI2.thenN F9⟩ ⟨gx, b9, by omega, by rw [hgx]; rfl⟩
  case body =>
    rintro l' pre x a' W hl ⟨r, hr⟩ ⟨hno, hfr⟩ ⟨gx, hbx, hgx, rfl⟩ hlt
    obtain ⟨p1, _⟩ := hbx.cell 0 _ rfl
    have q3w := hfr.cell q3' (fun q => q)
    have zI := hfr.size
    by_cases hcmp : x.2.1 ≤ key
    · have e4 := d4.fr0 hfr
      gi_wp2_with (first
        | (refine at_stI 3 _ _ rfl ?_; go_must (refine wpListIn_store1 rfl 3 _ _ rfl g4 0 rfl (.int .i64 x.1) rfl rfl _ _ e4 int_size (by simp) ?_; intro w10 b10 f10; have b10 : BxV w10 g4 3 [.int .i64 x.1] := (by simpa using b10))))
      refine ⟨keepsFrom_of_fr f10 (fun k o q hk => ?_), rfl, pre, x, rfl, hno, hcmp, b10, (hfr.mono (fun _ _ q => q.elim)).trans f10⟩
      cases q
      have e4' : W.heap[g4]? = _ := e4
      rw [e4'] at hk; cases hk; rfl
    · gi_wp2
      refine ⟨KeepsFrom.refl _ _, Below.refl _ _, ?_, hfr⟩
      intro y hy
      rcases List.mem_append.1 hy with hy | hy
      · exact hno y hy
      · simp at hy; subst hy; exact hcmp
  case done =>
    rintro D ys W hD rfl ⟨hno, hfr⟩ hK
    have hmiss := at_miss l key hno
    have h4 := d4.fr0 hfr
    go_wp2_with (first
      | (with_reducible refine at_wpP ?_; refine at_st 3 _ _ rfl ?_; go_must (refine wpList_store1 rfl 3 _ _ rfl g4 0 rfl (.int .i64 (-1)) rfl rfl _ _ h4 int_size (by simp) ?_; intro w9 b9 f9)))
    have hFX := (F7.thenN hfr).thenT (S := noB) f9 (fun k hk q => by unfold onB1 at q; omega)
    have hKf : w9.heap[D]? = some (.deferred (some [])) := by
      have hDl : D < W.heap.size := (Array.getElem?_eq_some_iff.1 hK).1
      exact (f9.block D hDl (fun q => by unfold onB1 at q; omega)).trans hK
    refine ⟨by simp, .inl ⟨_, _, rfl, run_takeDeferred hKf, ?_⟩⟩
    have hDg : Fr (fun k => k = D) w9 (w9.putObj D (.deferred none)) := (Fr.refl _ _).grown (grownBy_putObj' w9 D _) (fun k e _ => by cases e; rfl)
    have b4g := b9.fr hDg (fun q => by omega)
    exact ⟨_, results_int Try.results14 _ _ g4 (-1) rfl (b4g.cell 0 _ rfl).1, -1, rfl, hmiss, hFX.thenT hDg (fun k hk q => by omega)⟩
  case stop =>
    rintro D c pre W hD hSp hX hK
    obtain ⟨rfl, pre', x, hpre, hno, hhit, b4f, hfX⟩ := hX
    gi_wp2
    have hl := at_hit l key hSp hpre hno hhit
    have hFX := F7.thenT (S := noB) hfX (fun k hk q => by unfold onB1 at q; omega)
    refine ⟨by simp, .inl ⟨_, _, rfl, run_takeDeferred hK, ?_⟩⟩
    have hDg : Fr (fun k => k = D) W (W.putObj D (.deferred none)) := (Fr.refl _ _).grown (grownBy_putObj' W D _) (fun k e _ => by cases e; rfl)
    have b4g := b4f.fr hDg (fun q => by omega)
    exact ⟨_, results_int Try.results14 _ _ g4 x.1 rfl (b4g.cell 0 _ rfl).1, x.1, rfl, hl, hFX.thenT hDg (fun k hk q => by omega)⟩
end Go.Proofs.Ythpcfijefcicpaa
/- leafAlive; LeafNames. (Written by x9_gen.py.) -/
namespace Go.Proofs.Ythpcfijefcicpaa
open Go.RowKit Go.Proofs.U
set_option linter.unusedSimpArgs false
set_option linter.unusedVariables false
theorem SlR_newL {α : Type} (w : World) (t : TypeId) (ec : α → List Value) (sz : Nat) (l : List α) (h : ∀ x ∈ l, (ec x).length = sz) : SlR ec sz (w.alloc (.cells (l.flatMap ec).toArray t)) (.slice (some ⟨w.heap.size, 0, none⟩) l.length l.length) l := by
  refine ⟨h, ⟨some ⟨w.heap.size, 0, none⟩, l.length, rfl, Nat.le_refl _, ?_, (fun h => by cases h), fun ad had j u hj => ?_⟩⟩
  · clear w t
    induction l with
    | nil => simp
    | cons x l ih => rw [List.flatMap_cons, List.length_append, h x (by simp), ih (fun y hy => h y (by simp [hy])), List.length_cons]; rw [Nat.succ_mul]; omega
  · cases had
    rw [Addr.plain, Nat.zero_add, World.cell?_alloc_new]
    simpa using hj
def alE : List (Int × Int) := [(3, 9), (7, 1)]
def alN : Nd := ⟨2, zerB 16, alE⟩
theorem run_mkal (w : World) : (Instr.buildSlice 29 2 #[(0, enV (3, 9)), (1, enV (7, 1))]).run Try.prog w = .ok (.slice (some ⟨w.heap.size, 0, none⟩) 2 2) (w.alloc (.cells #[.int .i64 3, .int .i64 9, .int .i64 7, .int .i64 1] 43)) := by kernel_rfl
theorem alN_right : alN.right = true := by decide
/-- The list of the chapter's example lies at a block. -/
def AlS (w : World) (g : Nat) : Prop := SlP .i64 .i64 w (.slice (some ⟨g, 0, none⟩) 2 2) alE ∧ ∀ q u, (enC (7, 1))[q]? = some u → w.cell? ⟨g, 0 + 1 * 2 + q, none⟩ = some u
theorem AlS.fr0 {w w' : World} {g : Nat} (h : AlS w g) (f : Fr noB w w') : AlS w' g := ⟨⟨h.1.1.fr0 f, h.1.2⟩, fun q u hq => f.cell (h.2 q u hq) (fun q => q)⟩
theorem AlS.nd {w : World} {g : Nat} (h : AlS w g) : NdS w (.slice (some ⟨g, 0, none⟩) 2 2) alN := ⟨h.1, ⟨zerB_len 16, zerB_byt 16⟩, by decide, rfl⟩
section
variable {w : World} {ops : Array Oper} {rest : List Oper} {o : Oper} {a : Act} {Q : Exit → Act → World → Prop}
theorem wpList_mkal (hgd : Region.wanted o (yielded ops a.tmps) = true) (y z : Operand) (ho : o.op = .buildSlice 29 2 #[(0, y), (1, z)]) (hy : a.eval y = enV (3, 9)) (hz : a.eval z = enV (7, 1))
    (h : ∀ g w', AlS w' g → Fr noB w w' → wpList Try.prog ops Q rest (a.put o.dst (.slice (some ⟨g, 0, none⟩) 2 2)) w') : wpList Try.prog ops Q (o :: rest) a w := by
  refine wpList_wanted hgd fun K hK => ?_
  have hrun := run_mkal w
  unfold Oper.wp
  simp [execOp, ho, hy, hz, hrun, Result.andThen]
  have hs := SlR_newL w 43 enC 2 alE (fun _ _ => rfl)
  refine hK _ _ (h w.heap.size _ ⟨⟨hs, ?_⟩, ?_⟩ ((Fr.refl _ _).alloc _))
  · intro x hx; simp [alE] at hx; rcases hx with rfl | rfl <;> decide
  · intro q u hq
    rw [World.cell?_alloc_new]
    match q, hq with
    | 0, hq => simp [pairC] at hq; subst hq; rfl
    | 1, hq => simp [pairC] at hq; subst hq; rfl
    | q + 2, hq => simp [pairC] at hq
end
theorem at_al5 (g : Nat) (w : World) (h : AlS w g) : Calls Try.prog 14 #[.slice (some ⟨g, 0, none⟩) 2 2, .int .i64 5] w fun r w' => r = .returned (.int .i64 0) ∧ Fr noB w w' := by
  refine (at_any _ alE 5 w h.1 (by decide)).mono ?_
  rintro e w' ⟨a, rfl, ⟨h1, h2, h3⟩, f⟩
  have q0 := h3 0 (by decide)
  have q1 := h3 1 (by decide)
  simp [alE] at h2 q0 q1
  have : a = 0 := by omega
  subst this
  exact ⟨rfl, f⟩
theorem at_al2 (g : Nat) (w : World) (h : AlS w g) : Calls Try.prog 14 #[.slice (some ⟨g, 0, none⟩) 2 2, .int .i64 2] w fun r w' => r = .returned (.int .i64 (-1)) ∧ Fr noB w w' := by
  refine (at_any _ alE 2 w h.1 (by decide)).mono ?_
  rintro e w' ⟨a, rfl, ⟨h1, h2, h3⟩, f⟩
  have q0 := h3 0 (by decide)
  have q1 := h3 1 (by decide)
  simp [alE] at h2 q0 q1
  have : a = -1 := by omega
  subst this
  exact ⟨rfl, f⟩
theorem al_ents {w : World} {u : Value} (h : NdS w u alN) : ∃ b o c, u = .slice (some ⟨b, o, none⟩) 2 c ∧ ∀ q y, (enC (7, 1))[q]? = some y → w.cell? ⟨b, o + 1 * 2 + q, none⟩ = some y := by
  obtain ⟨b, o, c, rfl, hc⟩ := SlR.addr h.1.1 (by decide) (by decide)
  exact ⟨b, o, c, rfl, fun q y hq => hc 1 (by decide) q y hq⟩
theorem OpenIs.al {w w' : World} {r : Ending} (h : OpenIs w w' (alN, 0) r) : ∃ b o c, r = .returned (.tuple #[ndV 2 (zerB 16) (.slice (some ⟨b, o, none⟩) 2 c), .int .i64 0]) ∧ (∀ q y, (enC (7, 1))[q]? = some y → w'.cell? ⟨b, o + 1 * 2 + q, none⟩ = some y) ∧ Fr noB w w' := by
  obtain ⟨u, rfl, hn, _, f⟩ := h
  obtain ⟨b, o, c, rfl, hc⟩ := al_ents hn
  exact ⟨b, o, c, rfl, hc, f⟩

set_option maxRecDepth 100000 in
set_option maxHeartbeats 2000000 in
theorem lalive_any (w : World) :
    Calls Try.prog 9 #[] w fun r w' => r = .returned (.bool true) ∧ Fr noB w w' := by
  have hpk := fun (vs : Value) (w : World) h => page_ok alN vs w h alN_right
  have hpl := page_len (n := alN) alN_right (zerB_len 16)
  have hpb := page_byt (n := alN) alN_right ⟨zerB_len 16, zerB_byt 16⟩
  have hop := fun w => open_any alN.page hpl hpb w
  rw [opN_own alN_right ⟨zerB_len 16, zerB_byt 16⟩] at hop
  obtain ⟨R, HR⟩ : ∃ R, Hid (alN.page = R) := ⟨_, rfl⟩
  rw [HR.out] at hpk hop hpl
  have hRl := show Hid _ from hpl
  clear hpl hpb
  go_enter Try.func9, Try.ntmps9
  go_wp2_with (first
    | (with_reducible refine at_wpP ?_; refine wpList_bldE rfl _ _ rfl 3 9 rfl rfl ?_)
    | (with_reducible refine at_wpP ?_; refine wpList_bldE rfl _ _ rfl 7 1 rfl rfl ?_)
    | (with_reducible refine at_wpP ?_; refine wpList_mkal rfl _ _ rfl rfl rfl ?_; intro gv w1 hv1 f1)
    | (with_reducible refine at_wpP ?_; refine wpList_bldN rfl _ rfl 2 (zerB 16) (.slice (some ⟨gv, 0, none⟩) 2 2) [(0, .int .i64 2), (2, .slice (some ⟨gv, 0, none⟩) 2 2)] rfl (built_ndE 2 _ ⟨_, _, _, rfl⟩) ?_)
    | (go_at_call 7; go_must (refine (hpk _ _ hv1.nd).mono ?_; rintro e w2 ⟨rfl, f2⟩; have F2 := f1.thenN f2))
    | (with_reducible refine at_wpP ?_; have q := f2; refine wpList_allocA arr_page rfl rfl ?_; intro g3 w3 hg3 b3 f3 s3; have l3 := b3.lt; have z3 := f3.size)
    | (with_reducible refine at_wpP ?_; refine at_st 23 _ _ rfl ?_; go_must (refine wpList_storeA arr_page rfl _ _ rfl g3 rfl R rfl _ b3 hRl.out (zerB_len 256) ?_; intro w4 b4 f4; have z4 := f4.size; have F4 := F2.thenN (Fr.ownX f3 s3 f4); have G4 := f2.thenN (Fr.ownX f3 s3 f4)))
    | (with_reducible refine at_wpP ?_; refine at_ld 23 _ rfl ?_; go_must (refine wpList_loadA arr_page rfl _ rfl g3 rfl R b4 hRl.out ?_))
    | (go_at_call 8; go_must (refine (hop _).mono ?_; intro e w5 hq; obtain ⟨bu, ou, cu, rfl, hcu0, f5⟩ := OpenIs.al hq; have F5 := F4.thenN f5; have G5 := G4.thenN f5; have z5 := f5.size; clear hq))
    | (with_reducible refine at_wpP ?_; have q := f5; refine wpList_allocN rfl rfl ?_; intro g4 w7 hg4 b7 f7 s7; have l7 := b7.lt; have z7 := f7.size)
    | (with_reducible refine at_wpP ?_; refine at_st 31 _ _ rfl ?_; go_must (refine wpList_stN rfl _ _ rfl g4 rfl 2 (zerB 16) (.slice (some ⟨bu, ou, none⟩) 2 cu) rfl (zerB_len 16) ⟨_, _, _, rfl⟩ 0 (zerB 16) nilS b7 (zerB_len 16) ?_; intro w8 b8 f8; have H8 := Fr.ownX f7 s7 f8; have F8 := F5.thenN H8; have G8 := G5.thenN H8)))
  obtain ⟨w0, HW⟩ : ∃ w0, Hid (w8.drew = w0) := ⟨_, rfl⟩
  have f0 : Fr noB w8 w0 := by rw [← HW.out]; exact (Fr.refl _ _).drew
  have F0 := F8.thenN f0
  have HJ0 : JGX w0 [] w8.drew := by rw [HW.out]; exact Fr.refl _ _
  have hvs : AlS w0 gv := (hv1.fr0 G8).fr0 f0
  have hcu := (NdB.ents b8 (zerB_len 16))
  have hcu := f0.cell hcu (fun q => q)
  have hc1 : ∀ q y, (enC (7, 1))[q]? = some y → w0.cell? ⟨bu, ou + 1 * 2 + q, none⟩ = some y := fun q y hq => f0.cell (H8.cell (hcu0 q y hq) (fun q => q)) (fun q => q)
  have hc2 := hvs.2
  refine wp_region_chain_lay (by kernel_rfl) [] [none, none, none, none, none, none, none, none, none, none, none, none, none, none, none, none, none, none, none, none, none, none, none, none, none, none, none, none, none, none, none, none, none]
    [fun v => v = .slice (some ⟨gv, 0, none⟩) 2 2, fun v => v = .int .i64 0, fun v => v = .bool true, fun v => v = .bool true, fun v => v = .slice (some ⟨gv, 0, none⟩) 2 2, fun v => v = .int .i64 (-1), fun v => v = .bool true, fun v => v = .bool true, fun v => v = .bool true, fun v => v = .int .i64 0, fun v => v = .bool true, fun v => v = .bool true, fun v => v = .bool true, fun v => v = .int .i64 0, fun v => v = .bool true, fun v => v = .bool true, fun v => v = .bool true, fun v => v = .pointer (some ⟨g4, 17, none⟩), fun v => v = .slice (some ⟨bu, ou, none⟩) 2 cu, fun v => v = .int .i64 2, fun v => v = .bool true, fun v => v = .bool true, fun v => v = .bool true, fun v => v = .pointer (some ⟨g4, 17, none⟩), fun v => v = .slice (some ⟨bu, ou, none⟩) 2 cu, fun v => v = .pointer (some ⟨bu, ou + 1 * 2, none⟩), fun v => v = enV (7, 1), fun v => v = .slice (some ⟨gv, 0, none⟩) 2 2, fun v => v = .pointer (some ⟨gv, 0 + 1 * 2, none⟩), fun v => v = enV (7, 1), fun v => v = .bool true, fun v => v = .bool true, fun v => v = .bool true]
    (JGX w0) (HJ0) (by kernel_rfl) (by kernel_rfl) (by decide) ⟨?o0, ?o1, ?o2, ?o3, ?o4, ?o5, ?o6, ?o7, ?o8, ?o9, ?o10, ?o11, ?o12, ?o13, ?o14, ?o15, ?o16, ?o17, ?o18, ?o19, ?o20, ?o21, ?o22, ?o23, ?o24, ?o25, ?o26, ?o27, ?o28, ?o29, ?o30, ?o31, ?o32, trivial⟩ ?oe
  case o0 =>
    intro A W hv hlen hJ hbase hdL hdH
    have e1 : A.eval (.tmp 1) = .slice (some ⟨gv, 0, none⟩) 2 2 := hbase 1 (by kernel_rfl)
    have f1 : A.tmps[1]?.getD undef = .slice (some ⟨gv, 0, none⟩) 2 2 := by simpa [Act.eval] using e1
    exact light_val rfl (v := .slice (some ⟨gv, 0, none⟩) 2 2) (by simp [execOp, e1, f1]) hJ rfl
  case o1 =>
    intro A W hv hlen hJ hbase hdL hdH
    have e20 : A.eval (.tmp 20) = .slice (some ⟨gv, 0, none⟩) 2 2 := hdL 0 20 (by kernel_rfl) (by kernel_rfl) (by kernel_rfl)
    have f20 : A.tmps[20]?.getD undef = .slice (some ⟨gv, 0, none⟩) 2 2 := by simpa [Act.eval] using e20
    refine light_callX rfl (args := #[.slice (some ⟨gv, 0, none⟩) 2 2, .int .i64 (5)]) (f := 14) (by simp [execOp, resolve, invoke, go_sem, e20, f20]) ?_
    refine (at_al5 _ _ (hvs.fr0 hJ)).mono ?_
    rintro e w' ⟨rfl, f'⟩
    exact ⟨_, rfl, Fr.thenN hJ f', rfl⟩
  case o2 =>
    intro A W hv hlen hJ hbase hdL hdH
    have e21 : A.eval (.tmp 21) = .int .i64 0 := hdL 1 21 (by kernel_rfl) (by kernel_rfl) (by kernel_rfl)
    have f21 : A.tmps[21]?.getD undef = .int .i64 0 := by simpa [Act.eval] using e21
    exact light_val rfl (v := .bool true) (by simp [execOp, go_sem, e21, f21]) hJ rfl
  case o3 =>
    intro A W hv hlen hJ hbase hdL hdH
    have e22 : A.eval (.tmp 22) = .bool true := hdL 2 22 (by kernel_rfl) (by kernel_rfl) (by kernel_rfl)
    have f22 : A.tmps[22]?.getD undef = .bool true := by simpa [Act.eval] using e22
    exact light_val rfl (v := .bool true) (by simp [execOp, e22, f22]) hJ rfl
  case o4 =>
    intro A W hv hlen hJ hbase hdL hdH
    have e1 : A.eval (.tmp 1) = .slice (some ⟨gv, 0, none⟩) 2 2 := hbase 1 (by kernel_rfl)
    have f1 : A.tmps[1]?.getD undef = .slice (some ⟨gv, 0, none⟩) 2 2 := by simpa [Act.eval] using e1
    have eg : A.eval (.tmp 23) = .bool true := hdL 3 23 (by kernel_rfl) (by kernel_rfl) (by kernel_rfl)
    exact light_val (wanted_of rfl (by kernel_rfl) eg) (v := .slice (some ⟨gv, 0, none⟩) 2 2) (by simp [execOp, e1, f1]) hJ rfl
  case o5 =>
    intro A W hv hlen hJ hbase hdL hdH
    have e24 : A.eval (.tmp 24) = .slice (some ⟨gv, 0, none⟩) 2 2 := hdL 4 24 (by kernel_rfl) (by kernel_rfl) (by kernel_rfl)
    have f24 : A.tmps[24]?.getD undef = .slice (some ⟨gv, 0, none⟩) 2 2 := by simpa [Act.eval] using e24
    have eg : A.eval (.tmp 23) = .bool true := hdL 3 23 (by kernel_rfl) (by kernel_rfl) (by kernel_rfl)
    refine light_callX (wanted_of rfl (by kernel_rfl) eg) (args := #[.slice (some ⟨gv, 0, none⟩) 2 2, .int .i64 (2)]) (f := 14) (by simp [execOp, resolve, invoke, go_sem, e24, f24]) ?_
    refine (at_al2 _ _ (hvs.fr0 hJ)).mono ?_
    rintro e w' ⟨rfl, f'⟩
    exact ⟨_, rfl, Fr.thenN hJ f', rfl⟩
  case o6 =>
    intro A W hv hlen hJ hbase hdL hdH
    have e25 : A.eval (.tmp 25) = .int .i64 (-1) := hdL 5 25 (by kernel_rfl) (by kernel_rfl) (by kernel_rfl)
    have f25 : A.tmps[25]?.getD undef = .int .i64 (-1) := by simpa [Act.eval] using e25
    have eg : A.eval (.tmp 23) = .bool true := hdL 3 23 (by kernel_rfl) (by kernel_rfl) (by kernel_rfl)
    exact light_val (wanted_of rfl (by kernel_rfl) eg) (v := .bool true) (by simp [execOp, go_sem, e25, f25]) hJ rfl
  case o7 =>
    intro A W hv hlen hJ hbase hdL hdH
    have e23 : A.eval (.tmp 23) = .bool true := hdL 3 23 (by kernel_rfl) (by kernel_rfl) (by kernel_rfl)
    have f23 : A.tmps[23]?.getD undef = .bool true := by simpa [Act.eval] using e23
    have e26 : A.eval (.tmp 26) = .bool true := hdL 6 26 (by kernel_rfl) (by kernel_rfl) (by kernel_rfl)
    have f26 : A.tmps[26]?.getD undef = .bool true := by simpa [Act.eval] using e26
    exact light_val rfl (v := .bool true) (by simp [execOp, go_sem, e23, f23, e26, f26]) hJ rfl
  case o8 =>
    intro A W hv hlen hJ hbase hdL hdH
    have e27 : A.eval (.tmp 27) = .bool true := hdL 7 27 (by kernel_rfl) (by kernel_rfl) (by kernel_rfl)
    have f27 : A.tmps[27]?.getD undef = .bool true := by simpa [Act.eval] using e27
    exact light_val rfl (v := .bool true) (by simp [execOp, e27, f27]) hJ rfl
  case o9 =>
    intro A W hv hlen hJ hbase hdL hdH
    have e3 : A.eval (.tmp 3) = .int .i64 0 := hbase 3 (by kernel_rfl)
    have f3 : A.tmps[3]?.getD undef = .int .i64 0 := by simpa [Act.eval] using e3
    have eg : A.eval (.tmp 28) = .bool true := hdL 8 28 (by kernel_rfl) (by kernel_rfl) (by kernel_rfl)
    exact light_val (wanted_of rfl (by kernel_rfl) eg) (v := .int .i64 0) (by simp [execOp, e3, f3]) hJ rfl
  case o10 =>
    intro A W hv hlen hJ hbase hdL hdH
    have e29 : A.eval (.tmp 29) = .int .i64 0 := hdL 9 29 (by kernel_rfl) (by kernel_rfl) (by kernel_rfl)
    have f29 : A.tmps[29]?.getD undef = .int .i64 0 := by simpa [Act.eval] using e29
    have eg : A.eval (.tmp 28) = .bool true := hdL 8 28 (by kernel_rfl) (by kernel_rfl) (by kernel_rfl)
    exact light_val (wanted_of rfl (by kernel_rfl) eg) (v := .bool true) (by simp [execOp, go_sem, e29, f29]) hJ rfl
  case o11 =>
    intro A W hv hlen hJ hbase hdL hdH
    have e28 : A.eval (.tmp 28) = .bool true := hdL 8 28 (by kernel_rfl) (by kernel_rfl) (by kernel_rfl)
    have f28 : A.tmps[28]?.getD undef = .bool true := by simpa [Act.eval] using e28
    have e30 : A.eval (.tmp 30) = .bool true := hdL 10 30 (by kernel_rfl) (by kernel_rfl) (by kernel_rfl)
    have f30 : A.tmps[30]?.getD undef = .bool true := by simpa [Act.eval] using e30
    exact light_val rfl (v := .bool true) (by simp [execOp, go_sem, e28, f28, e30, f30]) hJ rfl
  case o12 =>
    intro A W hv hlen hJ hbase hdL hdH
    have e31 : A.eval (.tmp 31) = .bool true := hdL 11 31 (by kernel_rfl) (by kernel_rfl) (by kernel_rfl)
    have f31 : A.tmps[31]?.getD undef = .bool true := by simpa [Act.eval] using e31
    exact light_val rfl (v := .bool true) (by simp [execOp, e31, f31]) hJ rfl
  case o13 =>
    intro A W hv hlen hJ hbase hdL hdH
    have e5 : A.eval (.tmp 5) = .int .i64 0 := hbase 5 (by kernel_rfl)
    have f5 : A.tmps[5]?.getD undef = .int .i64 0 := by simpa [Act.eval] using e5
    have eg : A.eval (.tmp 32) = .bool true := hdL 12 32 (by kernel_rfl) (by kernel_rfl) (by kernel_rfl)
    exact light_val (wanted_of rfl (by kernel_rfl) eg) (v := .int .i64 0) (by simp [execOp, e5, f5]) hJ rfl
  case o14 =>
    intro A W hv hlen hJ hbase hdL hdH
    have e33 : A.eval (.tmp 33) = .int .i64 0 := hdL 13 33 (by kernel_rfl) (by kernel_rfl) (by kernel_rfl)
    have f33 : A.tmps[33]?.getD undef = .int .i64 0 := by simpa [Act.eval] using e33
    have eg : A.eval (.tmp 32) = .bool true := hdL 12 32 (by kernel_rfl) (by kernel_rfl) (by kernel_rfl)
    exact light_val (wanted_of rfl (by kernel_rfl) eg) (v := .bool true) (by simp [execOp, go_sem, e33, f33]) hJ rfl
  case o15 =>
    intro A W hv hlen hJ hbase hdL hdH
    have e32 : A.eval (.tmp 32) = .bool true := hdL 12 32 (by kernel_rfl) (by kernel_rfl) (by kernel_rfl)
    have f32 : A.tmps[32]?.getD undef = .bool true := by simpa [Act.eval] using e32
    have e34 : A.eval (.tmp 34) = .bool true := hdL 14 34 (by kernel_rfl) (by kernel_rfl) (by kernel_rfl)
    have f34 : A.tmps[34]?.getD undef = .bool true := by simpa [Act.eval] using e34
    exact light_val rfl (v := .bool true) (by simp [execOp, go_sem, e32, f32, e34, f34]) hJ rfl
  case o16 =>
    intro A W hv hlen hJ hbase hdL hdH
    have e35 : A.eval (.tmp 35) = .bool true := hdL 15 35 (by kernel_rfl) (by kernel_rfl) (by kernel_rfl)
    have f35 : A.tmps[35]?.getD undef = .bool true := by simpa [Act.eval] using e35
    exact light_val rfl (v := .bool true) (by simp [execOp, e35, f35]) hJ rfl
  case o17 =>
    intro A W hv hlen hJ hbase hdL hdH
    have e4 : A.eval (.tmp 4) = .pointer (some ⟨g4, 0, none⟩) := hbase 4 (by kernel_rfl)
    have f4 : A.tmps[4]?.getD undef = .pointer (some ⟨g4, 0, none⟩) := by simpa [Act.eval] using e4
    have eg : A.eval (.tmp 36) = .bool true := hdL 16 36 (by kernel_rfl) (by kernel_rfl) (by kernel_rfl)
    exact light_val (wanted_of rfl (by kernel_rfl) eg) (v := .pointer (some ⟨g4, 17, none⟩)) (by simp [execOp, go_sem, e4, f4]) hJ rfl
  case o18 =>
    intro A W hv hlen hJ hbase hdL hdH
    have e37 : A.eval (.tmp 37) = .pointer (some ⟨g4, 17, none⟩) := hdL 17 37 (by kernel_rfl) (by kernel_rfl) (by kernel_rfl)
    have f37 : A.tmps[37]?.getD undef = .pointer (some ⟨g4, 17, none⟩) := by simpa [Act.eval] using e37
    have eg : A.eval (.tmp 36) = .bool true := hdL 16 36 (by kernel_rfl) (by kernel_rfl) (by kernel_rfl)
    have hc : W.cell? ⟨g4, 17, none⟩ = some (.slice (some ⟨bu, ou, none⟩) 2 cu) := Fr.cell hJ hcu (fun q => q)
    exact light_val (wanted_of rfl (by kernel_rfl) eg) (v := .slice (some ⟨bu, ou, none⟩) 2 cu) (by simp [execOp, go_sem, e37, f37, hc]) hJ rfl
  case o19 =>
    intro A W hv hlen hJ hbase hdL hdH
    have e38 : A.eval (.tmp 38) = .slice (some ⟨bu, ou, none⟩) 2 cu := hdL 18 38 (by kernel_rfl) (by kernel_rfl) (by kernel_rfl)
    have f38 : A.tmps[38]?.getD undef = .slice (some ⟨bu, ou, none⟩) 2 cu := by simpa [Act.eval] using e38
    have eg : A.eval (.tmp 36) = .bool true := hdL 16 36 (by kernel_rfl) (by kernel_rfl) (by kernel_rfl)
    exact light_val (wanted_of rfl (by kernel_rfl) eg) (v := .int .i64 2) (by simp [execOp, go_sem, e38, f38]) hJ rfl
  case o20 =>
    intro A W hv hlen hJ hbase hdL hdH
    have e39 : A.eval (.tmp 39) = .int .i64 2 := hdL 19 39 (by kernel_rfl) (by kernel_rfl) (by kernel_rfl)
    have f39 : A.tmps[39]?.getD undef = .int .i64 2 := by simpa [Act.eval] using e39
    have eg : A.eval (.tmp 36) = .bool true := hdL 16 36 (by kernel_rfl) (by kernel_rfl) (by kernel_rfl)
    exact light_val (wanted_of rfl (by kernel_rfl) eg) (v := .bool true) (by simp [execOp, go_sem, e39, f39]) hJ rfl
  case o21 =>
    intro A W hv hlen hJ hbase hdL hdH
    have e36 : A.eval (.tmp 36) = .bool true := hdL 16 36 (by kernel_rfl) (by kernel_rfl) (by kernel_rfl)
    have f36 : A.tmps[36]?.getD undef = .bool true := by simpa [Act.eval] using e36
    have e40 : A.eval (.tmp 40) = .bool true := hdL 20 40 (by kernel_rfl) (by kernel_rfl) (by kernel_rfl)
    have f40 : A.tmps[40]?.getD undef = .bool true := by simpa [Act.eval] using e40
    exact light_val rfl (v := .bool true) (by simp [execOp, go_sem, e36, f36, e40, f40]) hJ rfl
  case o22 =>
    intro A W hv hlen hJ hbase hdL hdH
    have e41 : A.eval (.tmp 41) = .bool true := hdL 21 41 (by kernel_rfl) (by kernel_rfl) (by kernel_rfl)
    have f41 : A.tmps[41]?.getD undef = .bool true := by simpa [Act.eval] using e41
    exact light_val rfl (v := .bool true) (by simp [execOp, e41, f41]) hJ rfl
  case o23 =>
    intro A W hv hlen hJ hbase hdL hdH
    have e4 : A.eval (.tmp 4) = .pointer (some ⟨g4, 0, none⟩) := hbase 4 (by kernel_rfl)
    have f4 : A.tmps[4]?.getD undef = .pointer (some ⟨g4, 0, none⟩) := by simpa [Act.eval] using e4
    have eg : A.eval (.tmp 42) = .bool true := hdL 22 42 (by kernel_rfl) (by kernel_rfl) (by kernel_rfl)
    exact light_val (wanted_of rfl (by kernel_rfl) eg) (v := .pointer (some ⟨g4, 17, none⟩)) (by simp [execOp, go_sem, e4, f4]) hJ rfl
  case o24 =>
    intro A W hv hlen hJ hbase hdL hdH
    have e43 : A.eval (.tmp 43) = .pointer (some ⟨g4, 17, none⟩) := hdL 23 43 (by kernel_rfl) (by kernel_rfl) (by kernel_rfl)
    have f43 : A.tmps[43]?.getD undef = .pointer (some ⟨g4, 17, none⟩) := by simpa [Act.eval] using e43
    have eg : A.eval (.tmp 42) = .bool true := hdL 22 42 (by kernel_rfl) (by kernel_rfl) (by kernel_rfl)
    have hc : W.cell? ⟨g4, 17, none⟩ = some (.slice (some ⟨bu, ou, none⟩) 2 cu) := Fr.cell hJ hcu (fun q => q)
    exact light_val (wanted_of rfl (by kernel_rfl) eg) (v := .slice (some ⟨bu, ou, none⟩) 2 cu) (by simp [execOp, go_sem, e43, f43, hc]) hJ rfl
  case o25 =>
    intro A W hv hlen hJ hbase hdL hdH
    have e44 : A.eval (.tmp 44) = .slice (some ⟨bu, ou, none⟩) 2 cu := hdL 24 44 (by kernel_rfl) (by kernel_rfl) (by kernel_rfl)
    have f44 : A.tmps[44]?.getD undef = .slice (some ⟨bu, ou, none⟩) 2 cu := by simpa [Act.eval] using e44
    have eg : A.eval (.tmp 42) = .bool true := hdL 22 42 (by kernel_rfl) (by kernel_rfl) (by kernel_rfl)
    have hr := run_idxS (P := Try.prog) (w := W) (sz := 2) 29 43 Try.underlying29 en_size bu ou 2 cu .i64 1 (by decide)
    have ek : A.eval (.const (.int .i64 1)) = .int .i64 1 := rfl
    have hr : (Instr.indexAt 29 (.slice (some ⟨bu, ou, none⟩) 2 cu) (.int .i64 1)).run Try.prog W = .ok (.pointer (some ⟨bu, ou + 1 * 2, none⟩)) W := hr
    exact light_val (wanted_of rfl (by kernel_rfl) eg) (v := .pointer (some ⟨bu, ou + 1 * 2, none⟩)) (by simp [execOp, e44, ek, hr, Result.andThen]) hJ rfl
  case o26 =>
    intro A W hv hlen hJ hbase hdL hdH
    have e45 : A.eval (.tmp 45) = .pointer (some ⟨bu, ou + 1 * 2, none⟩) := hdL 25 45 (by kernel_rfl) (by kernel_rfl) (by kernel_rfl)
    have f45 : A.tmps[45]?.getD undef = .pointer (some ⟨bu, ou + 1 * 2, none⟩) := by simpa [Act.eval] using e45
    have eg : A.eval (.tmp 42) = .bool true := hdL 22 42 (by kernel_rfl) (by kernel_rfl) (by kernel_rfl)
    have hr := run_ldE W bu (ou + 1 * 2) (7, 1) (fun q y hq => Fr.cell hJ (hc1 q y hq) (fun q => q))
    exact light_val (wanted_of rfl (by kernel_rfl) eg) (v := enV (7, 1)) (by simp [execOp, e45, hr, Result.andThen]) hJ rfl
  case o27 =>
    intro A W hv hlen hJ hbase hdL hdH
    have e1 : A.eval (.tmp 1) = .slice (some ⟨gv, 0, none⟩) 2 2 := hbase 1 (by kernel_rfl)
    have f1 : A.tmps[1]?.getD undef = .slice (some ⟨gv, 0, none⟩) 2 2 := by simpa [Act.eval] using e1
    have eg : A.eval (.tmp 42) = .bool true := hdL 22 42 (by kernel_rfl) (by kernel_rfl) (by kernel_rfl)
    exact light_val (wanted_of rfl (by kernel_rfl) eg) (v := .slice (some ⟨gv, 0, none⟩) 2 2) (by simp [execOp, e1, f1]) hJ rfl
  case o28 =>
    intro A W hv hlen hJ hbase hdL hdH
    have e47 : A.eval (.tmp 47) = .slice (some ⟨gv, 0, none⟩) 2 2 := hdL 27 47 (by kernel_rfl) (by kernel_rfl) (by kernel_rfl)
    have f47 : A.tmps[47]?.getD undef = .slice (some ⟨gv, 0, none⟩) 2 2 := by simpa [Act.eval] using e47
    have eg : A.eval (.tmp 42) = .bool true := hdL 22 42 (by kernel_rfl) (by kernel_rfl) (by kernel_rfl)
    have hr := run_idxS (P := Try.prog) (w := W) (sz := 2) 29 43 Try.underlying29 en_size gv 0 2 2 .i64 1 (by decide)
    have ek : A.eval (.const (.int .i64 1)) = .int .i64 1 := rfl
    have hr : (Instr.indexAt 29 (.slice (some ⟨gv, 0, none⟩) 2 2) (.int .i64 1)).run Try.prog W = .ok (.pointer (some ⟨gv, 0 + 1 * 2, none⟩)) W := hr
    exact light_val (wanted_of rfl (by kernel_rfl) eg) (v := .pointer (some ⟨gv, 0 + 1 * 2, none⟩)) (by simp [execOp, e47, ek, hr, Result.andThen]) hJ rfl
  case o29 =>
    intro A W hv hlen hJ hbase hdL hdH
    have e48 : A.eval (.tmp 48) = .pointer (some ⟨gv, 0 + 1 * 2, none⟩) := hdL 28 48 (by kernel_rfl) (by kernel_rfl) (by kernel_rfl)
    have f48 : A.tmps[48]?.getD undef = .pointer (some ⟨gv, 0 + 1 * 2, none⟩) := by simpa [Act.eval] using e48
    have eg : A.eval (.tmp 42) = .bool true := hdL 22 42 (by kernel_rfl) (by kernel_rfl) (by kernel_rfl)
    have hr := run_ldE W gv (0 + 1 * 2) (7, 1) (fun q y hq => Fr.cell hJ (hc2 q y hq) (fun q => q))
    exact light_val (wanted_of rfl (by kernel_rfl) eg) (v := enV (7, 1)) (by simp [execOp, e48, hr, Result.andThen]) hJ rfl
  case o30 =>
    intro A W hv hlen hJ hbase hdL hdH
    have e46 : A.eval (.tmp 46) = enV (7, 1) := hdL 26 46 (by kernel_rfl) (by kernel_rfl) (by kernel_rfl)
    have f46 : A.tmps[46]?.getD undef = enV (7, 1) := by simpa [Act.eval] using e46
    have e49 : A.eval (.tmp 49) = enV (7, 1) := hdL 29 49 (by kernel_rfl) (by kernel_rfl) (by kernel_rfl)
    have f49 : A.tmps[49]?.getD undef = enV (7, 1) := by simpa [Act.eval] using e49
    have eg : A.eval (.tmp 42) = .bool true := hdL 22 42 (by kernel_rfl) (by kernel_rfl) (by kernel_rfl)
    have hr := run_eqE (7, 1) (7, 1) W
    have hg : (eqGuard .eql 43 (.tmp 46) (.tmp 49) (enV (7, 1)) (enV (7, 1))).run Try.prog W = .ok () W := run_eqGuard_agg W _ _ _ _ _ _ en_eqg
    have hr : (binOp .eql 43 (enV (7, 1)) (enV (7, 1))).run Try.prog W = .ok (.bool true) W := hr
    exact light_val (wanted_of rfl (by kernel_rfl) eg) (v := .bool true) (by simp [execOp, e46, e49, hr, hg, Result.andThen]) hJ rfl
  case o31 =>
    intro A W hv hlen hJ hbase hdL hdH
    have e42 : A.eval (.tmp 42) = .bool true := hdL 22 42 (by kernel_rfl) (by kernel_rfl) (by kernel_rfl)
    have f42 : A.tmps[42]?.getD undef = .bool true := by simpa [Act.eval] using e42
    have e50 : A.eval (.tmp 50) = .bool true := hdL 30 50 (by kernel_rfl) (by kernel_rfl) (by kernel_rfl)
    have f50 : A.tmps[50]?.getD undef = .bool true := by simpa [Act.eval] using e50
    exact light_val rfl (v := .bool true) (by simp [execOp, go_sem, e42, f42, e50, f50]) hJ rfl
  case o32 =>
    intro A W hv hlen hJ hbase hdL hdH
    have e51 : A.eval (.tmp 51) = .bool true := hdL 31 51 (by kernel_rfl) (by kernel_rfl) (by kernel_rfl)
    have f51 : A.tmps[51]?.getD undef = .bool true := by simpa [Act.eval] using e51
    exact light_val rfl (v := .bool true) (by simp [execOp, e51, f51]) hJ rfl
  case oe =>
    intro vz W' hv hlen hJ hL' hH
    have x0 := hL' 32 (by decide) (by rfl)
    have x0 : vz 32 = .bool true := x0
    simp only [layL, Nat.reduceAdd, Act.put, List.setIfInBounds_toArray, List.set_cons_zero, List.set_cons_succ]
    clear hL' hH
    generalize vz 0 = y100 at *
    generalize vz 1 = y101 at *
    generalize vz 2 = y102 at *
    generalize vz 3 = y103 at *
    generalize vz 4 = y104 at *
    generalize vz 5 = y105 at *
    generalize vz 6 = y106 at *
    generalize vz 7 = y107 at *
    generalize vz 8 = y108 at *
    generalize vz 9 = y109 at *
    generalize vz 10 = y110 at *
    generalize vz 11 = y111 at *
    generalize vz 12 = y112 at *
    generalize vz 13 = y113 at *
    generalize vz 14 = y114 at *
    generalize vz 15 = y115 at *
    generalize vz 16 = y116 at *
    generalize vz 17 = y117 at *
    generalize vz 18 = y118 at *
    generalize vz 19 = y119 at *
    generalize vz 20 = y120 at *
    generalize vz 21 = y121 at *
    generalize vz 22 = y122 at *
    generalize vz 23 = y123 at *
    generalize vz 24 = y124 at *
    generalize vz 25 = y125 at *
    generalize vz 26 = y126 at *
    generalize vz 27 = y127 at *
    generalize vz 28 = y128 at *
    generalize vz 29 = y129 at *
    generalize vz 30 = y130 at *
    generalize vz 31 = y131 at *
    rw [x0]
    clear x0
    go_wp2
    go_ret
    exact ⟨rfl, F0.thenN hJ⟩
theorem opN_zero : opN (zerB 256) = (nd0, 81) := by
  unfold opN
  rw [show (decN (zerB 256)).right = false by rfl]
  rfl
theorem nd0_right : nd0.right = false := by rfl

set_option maxRecDepth 100000 in
set_option maxHeartbeats 2000000 in
theorem lnames_walk (w : World) : Calls Try.prog 3 #[] w fun e w' => e = .returned (.bool true) ∧ Below w.heap.size w w' := by
  have hpn := fun (w : World) => page_no nd0 nilS w (NdS.none w) nd0_right
  have hop := fun w => open_any (zerB 256) (zerB_len 256) (zerB_byt 256) w
  rw [opN_zero] at hop
  obtain ⟨Z, HZ⟩ : ∃ Z, Hid (zerB 256 = Z) := ⟨_, rfl⟩
  have hZl : Hid (Z.length = 256) := by show _ = _; rw [← HZ.out]; exact zerB_len 256
  rw [HZ.out] at hpn hop
  have hpn : ∀ w, Calls Try.prog 7 #[ndV 0 (zerB 16) nilS] w fun r w' => r = .returned (.tuple #[pgV Z, .int .i64 81]) ∧ Fr noB w w' := hpn
  go_enter Try.func3, Try.ntmps3
  go_wp2_with (first
    | (with_reducible refine at_wpP ?_; refine wpList_bldN rfl _ rfl 0 (zerB 16) nilS [] rfl built_nd0 ?_)
    | (go_at_call 7; go_must (refine (hpn _).mono ?_; rintro e w1 ⟨rfl, f1⟩))
    | (with_reducible refine at_wpP ?_; refine wpList_allocA arr_page rfl rfl ?_; rw [HZ.out]; intro g2 w2 hg2 b2 f2 s2; have l2 := b2.lt; have z2 := f2.size)
    | (with_reducible refine at_wpP ?_; refine at_st 23 _ _ rfl ?_; go_must (refine wpList_storeA arr_page rfl _ _ rfl g2 rfl Z rfl _ b2 hZl.out hZl.out ?_; intro w3 b3 f3; have F3 := f1.thenN (Fr.ownX f2 s2 f3)))
    | (with_reducible refine at_wpP ?_; refine wpList_buildA arr_page rfl rfl ?_; rw [HZ.out])
    | (go_at_call 8; go_must (refine (hop _).mono ?_; rintro e w4 ⟨u, rfl, n4, _, f4⟩; have F4 := F3.thenN f4; obtain ⟨au, nu, cu, rfl⟩ := NdS.sl n4))
    | (with_reducible refine at_wpP ?_; refine wpList_allocN rfl rfl ?_; intro g5 w5 hg5 b5 f5 s5; have l5 := b5.lt; have z5 := f5.size)
    | (with_reducible refine at_wpP ?_; refine at_st 31 _ _ rfl ?_; go_must (refine wpList_stN rfl _ _ rfl g5 rfl 0 (zerB 16) (.slice au nu cu) rfl (zerB_len 16) ⟨_, _, _, rfl⟩ 0 (zerB 16) nilS b5 (zerB_len 16) ?_; intro w6 b6 f6; have F5 := F4.thenN (Fr.ownX f5 s5 f6)))
    | (go_at_call 9; go_must (refine (lalive_any _).mono ?_; rintro e w7 ⟨rfl, f6⟩)))
  go_ret
  exact ⟨rfl, (F5.thenN f6).below⟩
end Go.Proofs.Ythpcfijefcicpaa
/- How a slice of slices of bytes, and an array of two bytes, that came in are opened. -/
namespace Go.Proofs.Ythpcfijefcicpaa
open Go.RowKit Go.Proofs.U Go.ChangeShapes Go.WideShapes Go.ChangeAt

set_option maxRecDepth 100000 in
theorem opened_rows {H : Type} {enc : TypeId × Value → H} {W : World} {base : Nat} {v : Value} {d : DataW H} {p : List MemPlace}
    (hval : Value.okWide Try.prog W .any base 56 v) (h : DataW.Trod enc Try.prog W 0 (fun _ => true) true 56 v d p) : ∃ ls, SlB W v ls := by
  obtain ⟨a, len, cap, rfl⟩ := okWide_slice Try.underlying56 hval
  obtain ⟨fuel, hf⟩ := h
  rcases Deep.open_int_rows Try.underlying56 Try.underlying45 Try.underlying5 (by kernel_rfl) (by kernel_rfl) hf with ⟨hcs, _⟩ | ⟨x, l, c, A, L, C, Z, hcs, _, hl, hm, _, hcell⟩
  · simp [Value.cells] at hcs
    obtain ⟨rfl, rfl, rfl⟩ := hcs
    exact ⟨[], SlB.nil W⟩
  · simp [Value.cells] at hcs
    obtain ⟨rfl, rfl, rfl⟩ := hcs
    have e : ((List.range len).map fun r => (Z r).take (L r)).length = len := by simp
    refine ⟨(List.range len).map fun r => (Z r).take (L r), (List.range len).map fun r => .slice (A r) (L r) (C r), ?_, ?_⟩
    · rw [e]
      refine ⟨some x, cap, rfl, hl, by simp, (fun h => by cases h), fun y hy j u hj => ?_⟩
      cases hy
      have hj1 : j < len := by have := (List.getElem?_eq_some_iff.1 hj).1; simpa using this
      simp [hj1] at hj
      rw [← hj]; exact (hcell j (by omega)).1
    · intro j hj u hu
      have hj1 : j < len := by simpa using hj
      simp [hj1] at hu
      subst hu
      obtain ⟨h1, h2, h3, h4, h5, h6, h7⟩ := hcell j (by omega)
      simp only [List.getElem_map, List.getElem_range]
      have e2 : ((Z j).take (L j)).length = L j := by simp; omega
      refine ⟨?_, fun n hn => h5 n (List.mem_of_mem_take hn)⟩
      rw [e2]
      refine ⟨A j, C j, rfl, h2, by simp; omega, fun hn => h6 hn, fun y hy i u hi => ?_⟩
      have hi1 : i < L j := by have := (List.getElem?_eq_some_iff.1 hi).1; simp at this; omega
      have hi2 : i < (Z j).length := by omega
      have := (h7 y hy).2 i (by omega)
      rw [this]
      rw [List.getElem?_map, List.getElem?_take, if_pos hi1, List.getElem?_eq_getElem hi2] at hi
      simp at hi
      simp [List.getD, hi2, hi]

end Go.Proofs.Ythpcfijefcicpaa
/- How arrays of bytes, and of two numbers, that came in are opened. -/
namespace Go.Proofs.Ythpcfijefcicpaa
open Go.RowKit Go.Proofs.U Go.ChangeShapes Go.WideShapes Go.ChangeAt
set_option linter.unusedSimpArgs false
set_option linter.unusedVariables false
/-- The value of an array of bytes. -/
def IsArr (v : Value) (n : Nat) (p : List Int) : Prop := v = pgV p ∧ p.length = n ∧ Byt p
def numOf : Value → Int
  | .int _ z => z
  | _ => 0
theorem opened_arr {t : TypeId} {n : Nat} (T : ArrT t n) (hC : Try.prog.cellsOf t = n) (hc5 : Try.prog.cellsOf 5 = 1) {H : Type} {enc : TypeId × Value → H} {W : World} {base : Nat} {v : Value} {d : DataW H} {p : List MemPlace}
    (hval : Value.okWide Try.prog W .any base t v) (h : DataW.Trod enc Try.prog W 0 (fun _ => true) true t v d p) : ∃ c, IsArr v n c := by
  simp only [Value.okWide, T.und] at hval
  obtain ⟨cs, rfl, hsz, _⟩ := hval
  rw [hC] at hsz
  obtain ⟨fuel, hf⟩ := h
  obtain ⟨xs, m, _, _, _, hlen, hx⟩ := DataW.trod_array T.und hf
  have hat : ∀ i, i < n → ∃ z : Int, cs.toList[i]? = some (.int .u8 z) ∧ (Lit.int .u8 z).wf = true := by
    intro i hi
    have h0 := hx i hi
    rw [hc5] at h0
    have g0 : xs[i]? = some xs[i] := List.getElem?_eq_getElem (by omega)
    rw [g0] at h0
    obtain ⟨z, e, _, wf⟩ := DataW.trod_int Try.underlying5 h0
    refine ⟨z, ?_, wf⟩
    have e1 : ((cs.toList.drop (i * 1)).take 1)[0]? = some (.int .u8 z) := by
      have : (Value.agg cs).cells.toList = cs.toList := rfl
      rw [this] at e
      rw [e]; rfl
    simpa [List.getElem?_take, List.getElem?_drop] using e1
  have hl : cs.toList.length = n := by simpa using hsz
  refine ⟨cs.toList.map numOf, ?_, by simpa using hsz, ?_⟩
  · have e : pgv (cs.toList.map numOf) = cs.toList := by
      apply List.ext_getElem
      · simp [pgv]
      · intro i h1 h2
        obtain ⟨z, hz, _⟩ := hat i (by omega)
        rw [List.getElem?_eq_getElem h2] at hz
        have hz := Option.some.inj hz
        simp only [pgv, List.getElem_map]
        rw [hz]; rfl
    unfold pgV
    rw [e]
  · intro y hy
    obtain ⟨u, hu, rfl⟩ := List.mem_map.1 hy
    obtain ⟨i, hi, rfl⟩ := List.mem_iff_getElem.1 hu
    obtain ⟨z, hz, wf⟩ := hat i (by omega)
    rw [List.getElem?_eq_getElem hi] at hz
    rw [Option.some.inj hz]; exact wf
theorem opened_page {H : Type} {enc : TypeId × Value → H} {W : World} {base : Nat} {v : Value} {d : DataW H} {p : List MemPlace}
    (hval : Value.okWide Try.prog W .any base 23 v) (h : DataW.Trod enc Try.prog W 0 (fun _ => true) true 23 v d p) : ∃ c, IsArr v 256 c :=
  opened_arr arr_page (by kernel_rfl) (by kernel_rfl) hval h
/-- The value of two numbers. -/
def IsTwo (v : Value) (m : Int × Int) : Prop := v = .agg #[.int .u64 m.1, .int .u64 m.2] ∧ G64 m.1 ∧ G64 m.2
theorem g64_wf {x : Int} (h : (Lit.int .u64 x).wf = true) : G64 x := by
  unfold G64
  simp [Lit.wf, IntKind.min, IntKind.max, IntKind.signed, IntKind.bits] at h; omega
end Go.Proofs.Ythpcfijefcicpaa
