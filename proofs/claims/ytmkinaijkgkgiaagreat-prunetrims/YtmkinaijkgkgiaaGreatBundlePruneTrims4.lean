/- Texts K9, K10, K11, Z0, A1 of the proof of PruneTrims, one behind the other. -/
import Derived.Stop.BytesEq
import Derived.Test.YtmkinaijkgkgiaaGreatRows
import Derived.Test.YtmkinaijkgkgiaaGreatBundlePruneTrims1
import Derived.Test.YtmkinaijkgkgiaaGreatBundlePruneTrims2
import Derived.Test.YtmkinaijkgkgiaaGreatBundlePruneTrims3
/- The program's disk: Read. (Written by k9_gen.py.) -/
namespace Go.Proofs.U
open Go.RowKit
set_option linter.unusedSimpArgs false
set_option linter.unusedVariables false
section
variable {P : Program} {w : World} {ops : Array Oper} {rest : List Oper} {o : Oper} {a : Act} {Q : Exit → Act → World → Prop}
theorem wpList_boxG (hgd : Region.wanted o (yielded ops a.tmps) = true) (t : TypeId) (x : Operand) (ho : o.op = .box t x) (v : Value) (cs : List Value) (hx : a.eval x = v) (hc : v.cells = cs.toArray)
    (h : ∀ g w', Hid (g = w.heap.size) → BxV w' g t cs → Fr noB w w' → w.heap.size ≤ g → wpList P ops Q rest (a.put o.dst (.pointer (some ⟨g, 0, none⟩))) w') : wpList P ops Q (o :: rest) a w := by
  refine wpList_wanted hgd fun K hK => ?_
  have hrun : (execOp a.eval o).run P w = .ok (.value (.pointer (some ⟨w.heap.size, 0, none⟩))) (w.alloc (.cells cs.toArray t)) := by
    simp only [execOp, ho, hx]
    simp [go_sem]
    exact congrArg (fun x => w.alloc (Obj.cells x t)) hc
  unfold Oper.wp
  rw [hrun]
  refine hK _ _ (h w.heap.size _ rfl ?_ ((Fr.refl _ _).alloc _) (Nat.le_refl _))
  show (w.heap.push _)[w.heap.size]? = _
  rw [Array.getElem?_push, if_pos rfl]
theorem wpList_allocG (hgd : Region.wanted o (yielded ops a.tmps) = true) (t : TypeId) (ho : o.op = .alloc t) (z : Value) (zs : List Value) (hz : (P.info? t).map (·.zero) = some (some z)) (hc : z.cells = zs.toArray)
    (h : ∀ g w', Hid (g = w.heap.size) → BxV w' g t zs → Fr noB w w' → w.heap.size ≤ g → wpList P ops Q rest (a.put o.dst (.pointer (some ⟨g, 0, none⟩))) w') : wpList P ops Q (o :: rest) a w := by
  refine wpList_wanted hgd fun K hK => ?_
  obtain ⟨i, hi, hz'⟩ := Option.map_eq_some_iff.1 hz
  unfold Oper.wp
  have hrun : (execOp a.eval o).run P w = .ok (.value (.pointer (some ⟨w.heap.size, 0, none⟩))) (w.alloc (.cells zs.toArray t)) := by
    simp [execOp, ho, go_sem, zeroValue, typeInfo, hi, hz']
    exact congrArg (fun x => w.alloc (Obj.cells x t)) hc
  rw [hrun]
  refine hK _ _ (h w.heap.size _ rfl ?_ ((Fr.refl _ _).alloc _) (Nat.le_refl _))
  show (w.heap.push _)[w.heap.size]? = _
  rw [Array.getElem?_push, if_pos rfl]
end
end Go.Proofs.U
namespace Go.Proofs.YtmkinaijkgkgiaaGreat
open Go.RowKit Go.Shelf Go.Proofs.U Go.Maps
attribute [local go_sem] Oper.semAt_some
set_option linter.unusedSimpArgs false
set_option linter.unusedVariables false

theorem results_two {fn : Func} {p u : Tmp} {ty ty' : TypeId} (h : fn.results = #[.cell p ty, .cell u ty']) (tmps : Array Value) (P : Program) (w : World) :
    (results fn tmps).run P w =
      ((asAddr (tmps.getD p undef)).run P w).andThen fun a w₁ => ((loadVar ty a).run P w₁).andThen fun v w₂ => ((asAddr (tmps.getD u undef)).run P w₂).andThen fun a' w₃ => ((loadVar ty' a').run P w₃).andThen fun v' w₄ => .ok (.tuple #[v, v']) w₄ := by
  simp only [results, h]
  simp [Sem.run_bind, Result.andThen]
theorem errno_zero : (Tryz.prog.info? 34).map (·.zero) = some (some (.int .i64 0)) := by kernel_rfl
theorem errno_size : (Tryz.prog.info? 34).map (·.size) = some 1 := by kernel_rfl
theorem unit_zero (w : World) : (zeroValue 119).run Tryz.prog w = .ok (.agg #[]) w := by kernel_rfl

def readP (X : DSt) (i : Int) : List Int × Int := if inR X.pages.length i then (if X.bad i then (zeroP, 43) else (lastW X.pend i (X.pages.getD i.toNat []), 0)) else (zeroP, 41)
theorem results_pe {fn : Func} {q u : Tmp} (h : fn.results = #[.cell q 96, .cell u 34]) (tmps : Array Value) (w : World) (g g' : Nat) (p : List Int) (e : Int) (hq : tmps.getD q undef = .pointer (some ⟨g, 0, none⟩)) (hu : tmps.getD u undef = .pointer (some ⟨g', 0, none⟩)) (hA : BxV w g 96 (pgv p)) (hp : p.length = 256) (hB : w.cell? ⟨g', 0, none⟩ = some (.int .i64 e)) :
    (results fn tmps).run Tryz.prog w = .ok (.tuple #[pgV p, .int .i64 e]) w := by
  have hr := run_loadVar_mid (P := Tryz.prog) w g 0 96 (pgv p) _ (hA.range 0 _ (by simp)) Tryz.underlying96 rfl (by rw [size_page, pgv_len, hp])
  have hr2 : (loadVar 34 ⟨g', 0, none⟩).run Tryz.prog w = .ok (.int .i64 e) w := by simp [go_sem, hB]
  rw [results_two h, hq, hu]
  simp only [asAddr, Sem.run_pure, Result.andThen_ok, hr, hr2]
  rfl

/-- While it is asked whether the page is bad. -/
def JL (w0 : World) : List Value → World → Prop
  | [], W => W = w0
  | [v], W => W = w0.alloc (.cells #[] 119) ∧ v = ptr w0.heap.size
  | [_, _], W => W = w0.alloc (.cells #[] 119)
  | _, _ => False
theorem JL.fr {w0 : World} : ∀ {hv : List Value} {W : World}, JL w0 hv W → Fr noB w0 W
  | [], _, h => by cases h; exact Fr.refl _ _
  | [_], _, h => by obtain ⟨rfl, _⟩ := h; exact (Fr.refl _ _).alloc _
  | [_, _], _, h => by cases h; exact (Fr.refl _ _).alloc _
  | _ :: _ :: _ :: _, _, h => h.elim
theorem run_stU (w : World) (p : Addr) : (Instr.storeAt 119 (.pointer (some p)) (.agg #[])).run Tryz.prog w = .ok () w := by kernel_rfl
theorem MapI.look {w : World} {m : Nat} {bad : Int → Bool} (h : MapI w m bad) (i : Int) (hi : -9223372036854775808 ≤ i ∧ i ≤ 9223372036854775807) :
    (Instr.lookup 91 (.map (some m)) (.int .i64 i) true).run Tryz.prog w = .ok (.tuple #[.agg #[], .bool (bad i)]) w := by
  obtain ⟨n, D, ho, hh⟩ := h
  obtain ⟨v, ps, hr, hv⟩ := ho.look_ok (t := 91) (e := 119) keyI Tryz.underlying91 (unit_zero w) unitElem_mk (keyOf_int_mk Tryz.underlying3 (WalkArith.wf_i64 hi))
  obtain ⟨rfl, _⟩ := unitElem_inv hv
  rw [hr, hh]
  rfl

theorem ownFrom_frN {β : Type} {S : Nat → Prop} {w₀ : World} {B : Nat} (hB : w₀.heap.size ≤ B) : OwnFrom B (fun (_ : β) W => Fr S w₀ W) :=
  fun _ _ _ _ hs hg hr => hs.grown hg (fun k e hk => by have := (hr k e).1; omega)
/-- Between two rounds of Read. -/
def RI (i : Int) (W0 : World) (pre : List (Int × Wr)) (W : World) : Prop := (∀ x ∈ pre, (x.2.1.1 == i) = false) ∧ Fr noB W0 W
def RX (i : Int) (g4 g5 : Nat) (W0 : World) (c : Code) (pre : List (Int × Wr)) (W : World) : Prop :=
  c = .ret ∧ ∃ pre' x, pre = pre' ++ [x] ∧ (∀ y ∈ pre', (y.2.1.1 == i) = false) ∧ (x.2.1.1 == i) = true ∧ BxV W g4 96 (pgv x.2.1.2) ∧ BxV W g5 34 [.int .i64 0] ∧ Fr (fun k => k = g4 ∨ k = g5) W0 W
theorem RI_own (i : Int) (W0 : World) : OwnFrom W0.heap.size (RI i W0) := fun s W W' row hs hg hr => ⟨hs.1, ownFrom_frN (β := Unit) (Nat.le_refl _) () W W' row hs.2 hg hr⟩
theorem zip2 (a b : Tmp) (t : Array Value) (u v : Value) : (#[a, b].zip #[u, v]).foldl (fun t (x : Tmp × Value) => match x with | (p, v) => t.setIfInBounds p v) t = (t.setIfInBounds a u).setIfInBounds b v := by simp
theorem read_hit (pend : List (Int × List Int)) (i : Int) (p : List Int) (zs : List Wr) (hzs : zs.map (·.1) = pend) {pre pre' : List (Int × Wr)} {x : Int × Wr} (hSp : ∃ k, k ≤ zs.length ∧ pre = uptoL (bkW zs) k) (hpre : pre = pre' ++ [x]) (hno : ∀ y ∈ pre', (y.2.1.1 == i) = false) (hhit : (x.2.1.1 == i) = true) :
    lastW pend i p = x.2.1.2 := by
  obtain ⟨k, hk, rfl⟩ := hSp
  have hlen : k = pre'.length + 1 := by have := congrArg List.length hpre; rw [uptoL_length] at this; simpa using this
  subst hlen
  rw [uptoL_succ] at hpre
  obtain ⟨hp1, hp2⟩ := List.append_inj hpre (by rw [uptoL_length])
  have hx : bkW zs pre'.length = x := by simpa using hp2
  obtain ⟨j, Hj⟩ : ∃ j, zs.length - 1 - pre'.length = j := ⟨_, rfl⟩
  have hj : j < zs.length := by omega
  have hxz : x.2 = zs[j] := by rw [← hx]; unfold bkW; simp only; rw [Hj]; simp [hj]
  have hpj : ∀ (q : Nat) (hq : q < pend.length), pend[q] = (zs[q]'(by rw [← hzs] at hq; simpa using hq)).1 := by
    intro q hq; subst hzs; simp
  have hjl : j < pend.length := by rw [← hzs]; simpa using hj
  have := lastW_hit i p pend j hjl (by rw [hpj j hjl, ← hxz]; exact hhit) (fun q hq hjq => by
    rw [hpj q hq]
    have hqz : q < zs.length := by rw [← hzs] at hq; simpa using hq
    have hmem : bkW zs (zs.length - 1 - q) ∈ pre' := by
      rw [← hp1]; unfold uptoL
      exact List.mem_map.2 ⟨zs.length - 1 - q, by simp; omega, rfl⟩
    have := hno _ hmem
    unfold bkW at this
    rw [show zs.length - 1 - (zs.length - 1 - q) = q by omega] at this
    simpa [hqz] using this)
  rw [this, hpj j hjl, ← hxz]
theorem read_miss (pend : List (Int × List Int)) (i : Int) (p : List Int) (zs : List Wr) (hzs : zs.map (·.1) = pend) (hno : ∀ y ∈ uptoL (bkW zs) zs.length, (y.2.1.1 == i) = false) : lastW pend i p = p := by
  refine lastW_none i p pend (fun x hx => ?_)
  subst hzs
  obtain ⟨z, hz, rfl⟩ := List.mem_map.1 hx
  obtain ⟨q, hq, rfl⟩ := List.mem_iff_getElem.1 hz
  have hmem : bkW zs (zs.length - 1 - q) ∈ uptoL (bkW zs) zs.length := by
    unfold uptoL
    exact List.mem_map.2 ⟨zs.length - 1 - q, by simp; omega, rfl⟩
  have := hno _ hmem
  unfold bkW at this
  rw [show zs.length - 1 - (zs.length - 1 - q) = q by omega] at this
  simpa [hq] using this
/-- While the page is handed back. -/
def JR (w0 : World) (g4 g5 : Nat) (p : List Int) : List Value → World → Prop
  | [], W => W = w0
  | [_], W => BxV W g4 96 (pgv p) ∧ Fr (onB1 g4) w0 W
  | [_, _], W => BxV W g4 96 (pgv p) ∧ BxV W g5 34 [.int .i64 0] ∧ Fr (fun k => k = g4 ∨ k = g5) w0 W
  | _, _ => False
theorem JR.fr {w0 : World} {g4 g5 : Nat} {p : List Int} : ∀ {hv : List Value} {W : World}, JR w0 g4 g5 p hv W → Fr (fun k => k = g4 ∨ k = g5) w0 W
  | [], _, h => by cases h; exact Fr.refl _ _
  | [_], _, h => h.2.mono (fun _ _ q => Or.inl q)
  | [_, _], _, h => h.2.2
  | _ :: _ :: _ :: _, _, h => h.elim
theorem RX_own {i : Int} {g4 g5 : Nat} {W0 : World} (c : Code) (h4 : g4 < W0.heap.size) (h5 : g5 < W0.heap.size) : OwnFrom W0.heap.size (RX i g4 g5 W0 c) := by
  rintro s W W' row ⟨hc, pre', x, h1, h2, h3, h4', h5', h6⟩ hg hr
  refine ⟨hc, pre', x, h1, h2, h3, ?_, ?_, ownFrom_frN (β := Unit) (Nat.le_refl _) () W W' row h6 hg hr⟩
  · exact (hg.block g4 h4'.lt (fun q => by have := (hr g4 q.symm).1; omega)).trans h4'
  · exact (hg.block g5 h5'.lt (fun q => by have := (hr g5 q.symm).1; omega)).trans h5'

set_option maxRecDepth 100000 in
set_option maxHeartbeats 2000000 in
theorem read_no {F : Nat → Prop} {X : DSt} (g : Nat) (i : Int) (w : World) (hD : Disk w F g X) (hin : inR X.pages.length i = false) :
    Calls Tryz.prog 82 #[ptr g, .int .i64 i] w fun r w' => r = .returned (.tuple #[pgV zeroP, .int .i64 41]) ∧ Fr noB w w' := by
  go_enter Tryz.func82, Tryz.ntmps82
  go_wp2_with (first
    | (with_reducible refine at_wpP ?_; refine wpList_boxG rfl 3 _ rfl (.int .i64 i) [.int .i64 i] rfl rfl ?_; intro g3 w3 hg3 b3 f3 s3; have l3 := b3.lt)
    | (with_reducible refine at_wpP ?_; refine wpList_allocP rfl rfl ?_; intro g4 w4 hg4 b4 f4 s4; have l4 := b4.lt; have f4z := f4.size)
    | (with_reducible refine at_wpP ?_; refine wpList_allocG rfl 34 rfl (.int .i64 0) [.int .i64 0] errno_zero rfl ?_; intro g5 w5 hg5 b5 f5 s5; have l5 := b5.lt; have c3 := (b3.fr0 f4).fr0 f5; have c4 := b4.fr0 f5; have F5 := (f3.thenN f4).thenN f5; have f3z := f3.size; have f5z := f5.size; obtain ⟨q3, _⟩ := c3.cell 0 _ rfl)
    | (go_at_call 92; go_must (refine (has_any g i _ (hD.fr0 F5)).mono ?_; rintro e w' ⟨rfl, rfl⟩; rw [hin]))
    | (with_reducible refine at_wpP ?_; refine wpList_buildP rfl rfl ?_)
    | (with_reducible refine at_wpP ?_; refine at_st 96 _ _ rfl ?_; go_must (refine wpList_storeP rfl _ _ rfl g4 rfl zeroP rfl _ c4 zeroP_len zeroP_len ?_; intro w6 b6 f6; have d5 := b5.ne f6 (by omega)))
    | (with_reducible refine at_wpP ?_; refine at_st 34 _ _ rfl ?_; go_must (refine wpList_store1 rfl 34 _ _ rfl g5 0 rfl (.int .i64 41) rfl rfl _ _ d5 errno_size (by simp) ?_; intro w7 b7 f7; have b7 : BxV w7 g5 34 [.int .i64 41] := (by simpa using b7); have d6 := b6.ne f7 (by omega))))
  have F7 := (F5.thenT (S := noB) f6 (fun i hi q => by unfold onB1 at q; omega)).thenT (S := noB) f7 (fun i hi q => by unfold onB1 at q; omega)
  exact bodyPost_ret (v := .tuple #[pgV zeroP, .int .i64 41]) (results_pe Tryz.results82 _ w7 g4 g5 zeroP 41 rfl rfl d6 zeroP_len (b7.cell 0 _ rfl).1) rfl ⟨rfl, F7⟩

set_option maxRecDepth 100000 in
set_option maxHeartbeats 2000000 in
theorem read_bad {F : Nat → Prop} {X : DSt} (g : Nat) (i : Int) (hi : -9223372036854775808 ≤ i ∧ i ≤ 9223372036854775807) (w : World) (hD : Disk w F g X) (hin : inR X.pages.length i = true) (hbad : X.bad i = true) :
    Calls Tryz.prog 82 #[ptr g, .int .i64 i] w fun r w' => r = .returned (.tuple #[pgV zeroP, .int .i64 43]) ∧ Fr noB w w' := by
  go_enter Tryz.func82, Tryz.ntmps82
  go_wp2_with (first
    | (with_reducible refine at_wpP ?_; refine wpList_boxG rfl 3 _ rfl (.int .i64 i) [.int .i64 i] rfl rfl ?_; intro g3 w3 hg3 b3 f3 s3; have l3 := b3.lt)
    | (with_reducible refine at_wpP ?_; refine wpList_allocP rfl rfl ?_; intro g4 w4 hg4 b4 f4 s4; have l4 := b4.lt; have f4z := f4.size)
    | (with_reducible refine at_wpP ?_; refine wpList_allocG rfl 34 rfl (.int .i64 0) [.int .i64 0] errno_zero rfl ?_; intro g5 w5 hg5 b5 f5 s5; have l5 := b5.lt; have c3 := (b3.fr0 f4).fr0 f5; have c4 := b4.fr0 f5; have F5 := (f3.thenN f4).thenN f5; have f3z := f3.size; have f5z := f5.size; obtain ⟨q3, _⟩ := c3.cell 0 _ rfl)
    | (go_at_call 92; go_must (refine (has_any g i _ (hD.fr0 F5)).mono ?_; rintro e w' ⟨rfl, rfl⟩; rw [hin]))
  )
  obtain ⟨v1, m, v3, dk⟩ := (hD.fr0 F5)
  obtain ⟨bd, Hbd⟩ : ∃ b, Hid (X.bad i = b) := ⟨_, rfl⟩
  have k1 : w5.drew.cell? ⟨g, 1, none⟩ = some (.map (some m)) := (dk.bx.cell 1 _ rfl).1
  have q3 : w5.drew.cell? ⟨g3, 0, none⟩ = some (.int .i64 i) := q3
  have hlook : ∀ W, Fr noB w5.drew W → (Instr.lookup 91 (.map (some m)) (.int .i64 i) true).run Tryz.prog W = .ok (.tuple #[.agg #[], .bool bd]) W := by
    intro W hW
    rw [← Hbd.out]
    exact MapI.look ((dk.mp.fr ((Fr.refl noB _).drew) (fun q => q)).fr hW (fun q => q)) i hi
  refine wp_region_chain_lay (by kernel_rfl) [9, 10] [none, none, none, none, none, none, none, none, none, some 0, some 1, none]
    [fun v => v = ptr g, fun v => v = ptr g, fun v => v = .pointer (some ⟨g, 1, none⟩), fun v => v = .map (some m), fun v => v = .int .i64 i, fun v => v = .tuple #[.agg #[], .bool bd], fun v => v = .tuple #[.agg #[], .bool bd], fun v => v = .agg #[], fun v => v = .bool bd, fun _ => True, fun _ => True, fun v => v = .bool bd]
    (JL w5.drew) (rfl) (by kernel_rfl) (by kernel_rfl) (by decide) ⟨?o0, ?o1, ?o2, ?o3, ?o4, ?o5, ?o6, ?o7, ?o8, ?o9, ?o10, ?o11, trivial⟩ ?oe
  case o0 =>
    intro A W hv hlen hJ hbase hdL hdH
    have e0 : A.eval (.tmp 0) = ptr g := hbase 0 (by kernel_rfl)
    have f0 : A.tmps[0]?.getD undef = ptr g := by simpa [Act.eval] using e0
    exact light_val rfl (v := ptr g) (by simp [execOp, e0, f0]) hJ rfl
  case o1 =>
    intro A W hv hlen hJ hbase hdL hdH
    have e16 : A.eval (.tmp 16) = ptr g := hdL 0 16 (by kernel_rfl) (by kernel_rfl) (by kernel_rfl)
    have f16 : A.tmps[16]?.getD undef = ptr g := by simpa [Act.eval] using e16
    exact light_val rfl (v := ptr g) (by simp [execOp, go_sem, e16, f16]) hJ rfl
  case o2 =>
    intro A W hv hlen hJ hbase hdL hdH
    have e17 : A.eval (.tmp 17) = ptr g := hdL 1 17 (by kernel_rfl) (by kernel_rfl) (by kernel_rfl)
    have f17 : A.tmps[17]?.getD undef = ptr g := by simpa [Act.eval] using e17
    exact light_val rfl (v := .pointer (some ⟨g, 1, none⟩)) (by simp [execOp, go_sem, e17, f17]) hJ rfl
  case o3 =>
    intro A W hv hlen hJ hbase hdL hdH
    have e18 : A.eval (.tmp 18) = .pointer (some ⟨g, 1, none⟩) := hdL 2 18 (by kernel_rfl) (by kernel_rfl) (by kernel_rfl)
    have f18 : A.tmps[18]?.getD undef = .pointer (some ⟨g, 1, none⟩) := by simpa [Act.eval] using e18
    have hcW := (JL.fr hJ).cell k1 (fun q => q)
    exact light_val rfl (v := .map (some m)) (by simp [execOp, go_sem, e18, f18, hcW]) hJ rfl
  case o4 =>
    intro A W hv hlen hJ hbase hdL hdH
    have e3 : A.eval (.tmp 3) = .pointer (some ⟨g3, 0, none⟩) := hbase 3 (by kernel_rfl)
    have f3 : A.tmps[3]?.getD undef = .pointer (some ⟨g3, 0, none⟩) := by simpa [Act.eval] using e3
    have hcW := (JL.fr hJ).cell q3 (fun q => q)
    exact light_val rfl (v := .int .i64 i) (by simp [execOp, go_sem, e3, f3, hcW]) hJ rfl
  case o5 =>
    intro A W hv hlen hJ hbase hdL hdH
    have e19 : A.eval (.tmp 19) = .map (some m) := hdL 3 19 (by kernel_rfl) (by kernel_rfl) (by kernel_rfl)
    have f19 : A.tmps[19]?.getD undef = .map (some m) := by simpa [Act.eval] using e19
    have e20 : A.eval (.tmp 20) = .int .i64 i := hdL 4 20 (by kernel_rfl) (by kernel_rfl) (by kernel_rfl)
    have f20 : A.tmps[20]?.getD undef = .int .i64 i := by simpa [Act.eval] using e20
    have hr := hlook W (JL.fr hJ)
    exact light_val rfl (v := .tuple #[.agg #[], .bool bd]) (by simp [execOp, e19, e20, hr, Result.andThen]) hJ rfl
  case o6 =>
    intro A W hv hlen hJ hbase hdL hdH
    have e21 : A.eval (.tmp 21) = .tuple #[.agg #[], .bool bd] := hdL 5 21 (by kernel_rfl) (by kernel_rfl) (by kernel_rfl)
    have f21 : A.tmps[21]?.getD undef = .tuple #[.agg #[], .bool bd] := by simpa [Act.eval] using e21
    exact light_val rfl (v := .tuple #[.agg #[], .bool bd]) (by simp [execOp, e21, f21]) hJ rfl
  case o7 =>
    intro A W hv hlen hJ hbase hdL hdH
    have e15 : A.eval (.tmp 15) = .tuple #[.agg #[], .bool bd] := hdL 6 15 (by kernel_rfl) (by kernel_rfl) (by kernel_rfl)
    have f15 : A.tmps[15]?.getD undef = .tuple #[.agg #[], .bool bd] := by simpa [Act.eval] using e15
    exact light_val rfl (v := .agg #[]) (by simp [execOp, go_sem, e15, f15]) hJ rfl
  case o8 =>
    intro A W hv hlen hJ hbase hdL hdH
    have e15 : A.eval (.tmp 15) = .tuple #[.agg #[], .bool bd] := hdL 6 15 (by kernel_rfl) (by kernel_rfl) (by kernel_rfl)
    have f15 : A.tmps[15]?.getD undef = .tuple #[.agg #[], .bool bd] := by simpa [Act.eval] using e15
    exact light_val rfl (v := .bool bd) (by simp [execOp, go_sem, e15, f15]) hJ rfl
  case o9 =>
    intro A W hv hlen hJ hbase hdL hdH
    obtain rfl : hv = [] := List.eq_nil_of_length_eq_zero hlen
    cases hJ
    exact heavy_val rfl (v := ptr w5.drew.heap.size) (w' := w5.drew.alloc (.cells #[] 119)) (by kernel_rfl) ⟨rfl, rfl⟩
  case o10 =>
    intro A W hv hlen hJ hbase hdL hdH
    have e22 : A.eval (.tmp 22) = .agg #[] := hdL 7 22 (by kernel_rfl) (by kernel_rfl) (by kernel_rfl)
    have f22 : A.tmps[22]?.getD undef = .agg #[] := by simpa [Act.eval] using e22
    obtain ⟨v6, rfl⟩ := List.length_eq_one_iff.1 hlen
    obtain ⟨rfl, rfl⟩ := hJ
    have e6 : A.eval (.tmp 6) = ptr w5.drew.heap.size := by have := hdH 9 6 0 (by kernel_rfl) rfl (by kernel_rfl); simpa using this.symm
    refine heavy_wp rfl ?_
    unfold Oper.wp execOp
    simp only [e6, e22, Sem.run_bind, run_stU, Result.andThen_ok]
    exact ⟨undef, rfl, rfl⟩
  case o11 =>
    intro A W hv hlen hJ hbase hdL hdH
    have e23 : A.eval (.tmp 23) = .bool bd := hdL 8 23 (by kernel_rfl) (by kernel_rfl) (by kernel_rfl)
    have f23 : A.tmps[23]?.getD undef = .bool bd := by simpa [Act.eval] using e23
    exact light_val rfl (v := .bool bd) (by simp [execOp, e23, f23]) hJ rfl
  case oe =>
    intro vs W' hv hlen hJ hL hH
    match hv, hlen with
    | [y1, y2], _ =>
      have hx7 : vs 11 = .bool bd := hL 11 (by rfl) (by rfl)
      have f6 := JL.fr hJ
      simp only [layL, Nat.reduceAdd, Act.put, List.setIfInBounds_toArray, List.set_cons_zero, List.set_cons_succ]
      clear hL hH
      generalize vs 0 = y100 at *
      generalize vs 1 = y101 at *
      generalize vs 2 = y102 at *
      generalize vs 3 = y103 at *
      generalize vs 4 = y104 at *
      generalize vs 5 = y105 at *
      generalize vs 6 = y106 at *
      generalize vs 7 = y107 at *
      generalize vs 8 = y108 at *
      generalize vs 9 = y109 at *
      generalize vs 10 = y110 at *
      generalize vs 11 = y111 at *
      subst hx7
      obtain rfl : bd = true := by rw [← Hbd.out]; exact hbad
      have c4' := (show BxV w5.drew g4 _ _ from c4).fr0 f6
      have c5' := (show BxV w5.drew g5 _ _ from b5).fr0 f6
      have F6 := F5.drew.thenN f6
      go_wp2_with (first
        | (with_reducible refine at_wpP ?_; refine wpList_buildP rfl rfl ?_)
        | (with_reducible refine at_wpP ?_; refine at_st 96 _ _ rfl ?_; go_must (refine wpList_storeP rfl _ _ rfl g4 rfl zeroP rfl _ c4' zeroP_len zeroP_len ?_; intro w6 b6 f7; have d5 := c5'.ne f7 (by omega)))
        | (with_reducible refine at_wpP ?_; refine at_st 34 _ _ rfl ?_; go_must (refine wpList_store1 rfl 34 _ _ rfl g5 0 rfl (.int .i64 43) rfl rfl _ _ d5 errno_size (by simp) ?_; intro w7 b7 f8; have b7 : BxV w7 g5 34 [.int .i64 43] := (by simpa using b7); have d6 := b6.ne f8 (by omega))))
      have F8 := (F6.thenT (S := noB) f7 (fun i hi q => by unfold onB1 at q; omega)).thenT (S := noB) f8 (fun i hi q => by unfold onB1 at q; omega)
      exact bodyPost_ret (v := .tuple #[pgV zeroP, .int .i64 43]) (results_pe Tryz.results82 _ w7 g4 g5 zeroP 43 rfl rfl d6 zeroP_len (b7.cell 0 _ rfl).1) rfl ⟨rfl, F8⟩

set_option maxRecDepth 100000 in
set_option maxHeartbeats 4000000 in
theorem read_good {F : Nat → Prop} {X : DSt} (g : Nat) (i : Int) (hi : -9223372036854775808 ≤ i ∧ i ≤ 9223372036854775807) (w : World) (hDk : Disk w F g X) (hm : X.pend.length ≤ 100000) (hin : inR X.pages.length i = true) (hbad : X.bad i = false) :
    Calls Tryz.prog 82 #[ptr g, .int .i64 i] w fun r w' => r = .returned (.tuple #[pgV (lastW X.pend i (X.pages.getD i.toNat [])), .int .i64 0]) ∧ Fr noB w w' := by
  refine (callsIn_wide (n := 5)).1 ?_
  refine callsIn_of_wp_marks Tryz.func82 rfl trivial ?_ rfl
  simp only [Tryz.ntmps82, List.size_toArray, List.length_cons, List.length_nil, Nat.reduceAdd, Nat.reduceSub, Array.replicate_succ, Array.replicate_zero, List.push_toArray, List.append_toArray, List.nil_append, List.cons_append]
  refine wpIn_wide.2 ?_
  go_wp2_with (first
    | (with_reducible refine at_wpP ?_; refine wpList_boxG rfl 3 _ rfl (.int .i64 i) [.int .i64 i] rfl rfl ?_; intro g3 w3 hg3 b3 f3 s3; have l3 := b3.lt)
    | (with_reducible refine at_wpP ?_; refine wpList_allocP rfl rfl ?_; intro g4 w4 hg4 b4 f4 s4; have l4 := b4.lt; have f4z := f4.size)
    | (with_reducible refine at_wpP ?_; refine wpList_allocG rfl 34 rfl (.int .i64 0) [.int .i64 0] errno_zero rfl ?_; intro g5 w5 hg5 b5 f5 s5; have l5 := b5.lt; have c3 := (b3.fr0 f4).fr0 f5; have c4 := b4.fr0 f5; have F5 := (f3.thenN f4).thenN f5; have f3z := f3.size; have f5z := f5.size; obtain ⟨q3, _⟩ := c3.cell 0 _ rfl)
    | (go_at_call 92; go_must (refine (has_any g i _ (hDk.fr0 F5)).mono ?_; rintro e w' ⟨rfl, rfl⟩; rw [hin]))
  )
  obtain ⟨v1, m, v3, dk⟩ := (hDk.fr0 F5)
  obtain ⟨bd, Hbd⟩ : ∃ b, Hid (X.bad i = b) := ⟨_, rfl⟩
  have k1 : w5.drew.cell? ⟨g, 1, none⟩ = some (.map (some m)) := (dk.bx.cell 1 _ rfl).1
  have q3 : w5.drew.cell? ⟨g3, 0, none⟩ = some (.int .i64 i) := q3
  have hlook : ∀ W, Fr noB w5.drew W → (Instr.lookup 91 (.map (some m)) (.int .i64 i) true).run Tryz.prog W = .ok (.tuple #[.agg #[], .bool bd]) W := by
    intro W hW
    rw [← Hbd.out]
    exact MapI.look ((dk.mp.fr ((Fr.refl noB _).drew) (fun q => q)).fr hW (fun q => q)) i hi
  refine wp_region_chain_lay (by kernel_rfl) [9, 10] [none, none, none, none, none, none, none, none, none, some 0, some 1, none]
    [fun v => v = ptr g, fun v => v = ptr g, fun v => v = .pointer (some ⟨g, 1, none⟩), fun v => v = .map (some m), fun v => v = .int .i64 i, fun v => v = .tuple #[.agg #[], .bool bd], fun v => v = .tuple #[.agg #[], .bool bd], fun v => v = .agg #[], fun v => v = .bool bd, fun _ => True, fun _ => True, fun v => v = .bool bd]
    (JL w5.drew) (rfl) (by kernel_rfl) (by kernel_rfl) (by decide) ⟨?o0, ?o1, ?o2, ?o3, ?o4, ?o5, ?o6, ?o7, ?o8, ?o9, ?o10, ?o11, trivial⟩ ?oe
  case o0 =>
    intro A W hv hlen hJ hbase hdL hdH
    have e0 : A.eval (.tmp 0) = ptr g := hbase 0 (by kernel_rfl)
    have f0 : A.tmps[0]?.getD undef = ptr g := by simpa [Act.eval] using e0
    exact light_val rfl (v := ptr g) (by simp [execOp, e0, f0]) hJ rfl
  case o1 =>
    intro A W hv hlen hJ hbase hdL hdH
    have e16 : A.eval (.tmp 16) = ptr g := hdL 0 16 (by kernel_rfl) (by kernel_rfl) (by kernel_rfl)
    have f16 : A.tmps[16]?.getD undef = ptr g := by simpa [Act.eval] using e16
    exact light_val rfl (v := ptr g) (by simp [execOp, go_sem, e16, f16]) hJ rfl
  case o2 =>
    intro A W hv hlen hJ hbase hdL hdH
    have e17 : A.eval (.tmp 17) = ptr g := hdL 1 17 (by kernel_rfl) (by kernel_rfl) (by kernel_rfl)
    have f17 : A.tmps[17]?.getD undef = ptr g := by simpa [Act.eval] using e17
    exact light_val rfl (v := .pointer (some ⟨g, 1, none⟩)) (by simp [execOp, go_sem, e17, f17]) hJ rfl
  case o3 =>
    intro A W hv hlen hJ hbase hdL hdH
    have e18 : A.eval (.tmp 18) = .pointer (some ⟨g, 1, none⟩) := hdL 2 18 (by kernel_rfl) (by kernel_rfl) (by kernel_rfl)
    have f18 : A.tmps[18]?.getD undef = .pointer (some ⟨g, 1, none⟩) := by simpa [Act.eval] using e18
    have hcW := (JL.fr hJ).cell k1 (fun q => q)
    exact light_val rfl (v := .map (some m)) (by simp [execOp, go_sem, e18, f18, hcW]) hJ rfl
  case o4 =>
    intro A W hv hlen hJ hbase hdL hdH
    have e3 : A.eval (.tmp 3) = .pointer (some ⟨g3, 0, none⟩) := hbase 3 (by kernel_rfl)
    have f3 : A.tmps[3]?.getD undef = .pointer (some ⟨g3, 0, none⟩) := by simpa [Act.eval] using e3
    have hcW := (JL.fr hJ).cell q3 (fun q => q)
    exact light_val rfl (v := .int .i64 i) (by simp [execOp, go_sem, e3, f3, hcW]) hJ rfl
  case o5 =>
    intro A W hv hlen hJ hbase hdL hdH
    have e19 : A.eval (.tmp 19) = .map (some m) := hdL 3 19 (by kernel_rfl) (by kernel_rfl) (by kernel_rfl)
    have f19 : A.tmps[19]?.getD undef = .map (some m) := by simpa [Act.eval] using e19
    have e20 : A.eval (.tmp 20) = .int .i64 i := hdL 4 20 (by kernel_rfl) (by kernel_rfl) (by kernel_rfl)
    have f20 : A.tmps[20]?.getD undef = .int .i64 i := by simpa [Act.eval] using e20
    have hr := hlook W (JL.fr hJ)
    exact light_val rfl (v := .tuple #[.agg #[], .bool bd]) (by simp [execOp, e19, e20, hr, Result.andThen]) hJ rfl
  case o6 =>
    intro A W hv hlen hJ hbase hdL hdH
    have e21 : A.eval (.tmp 21) = .tuple #[.agg #[], .bool bd] := hdL 5 21 (by kernel_rfl) (by kernel_rfl) (by kernel_rfl)
    have f21 : A.tmps[21]?.getD undef = .tuple #[.agg #[], .bool bd] := by simpa [Act.eval] using e21
    exact light_val rfl (v := .tuple #[.agg #[], .bool bd]) (by simp [execOp, e21, f21]) hJ rfl
  case o7 =>
    intro A W hv hlen hJ hbase hdL hdH
    have e15 : A.eval (.tmp 15) = .tuple #[.agg #[], .bool bd] := hdL 6 15 (by kernel_rfl) (by kernel_rfl) (by kernel_rfl)
    have f15 : A.tmps[15]?.getD undef = .tuple #[.agg #[], .bool bd] := by simpa [Act.eval] using e15
    exact light_val rfl (v := .agg #[]) (by simp [execOp, go_sem, e15, f15]) hJ rfl
  case o8 =>
    intro A W hv hlen hJ hbase hdL hdH
    have e15 : A.eval (.tmp 15) = .tuple #[.agg #[], .bool bd] := hdL 6 15 (by kernel_rfl) (by kernel_rfl) (by kernel_rfl)
    have f15 : A.tmps[15]?.getD undef = .tuple #[.agg #[], .bool bd] := by simpa [Act.eval] using e15
    exact light_val rfl (v := .bool bd) (by simp [execOp, go_sem, e15, f15]) hJ rfl
  case o9 =>
    intro A W hv hlen hJ hbase hdL hdH
    obtain rfl : hv = [] := List.eq_nil_of_length_eq_zero hlen
    cases hJ
    exact heavy_val rfl (v := ptr w5.drew.heap.size) (w' := w5.drew.alloc (.cells #[] 119)) (by kernel_rfl) ⟨rfl, rfl⟩
  case o10 =>
    intro A W hv hlen hJ hbase hdL hdH
    have e22 : A.eval (.tmp 22) = .agg #[] := hdL 7 22 (by kernel_rfl) (by kernel_rfl) (by kernel_rfl)
    have f22 : A.tmps[22]?.getD undef = .agg #[] := by simpa [Act.eval] using e22
    obtain ⟨v6, rfl⟩ := List.length_eq_one_iff.1 hlen
    obtain ⟨rfl, rfl⟩ := hJ
    have e6 : A.eval (.tmp 6) = ptr w5.drew.heap.size := by have := hdH 9 6 0 (by kernel_rfl) rfl (by kernel_rfl); simpa using this.symm
    refine heavy_wp rfl ?_
    unfold Oper.wp execOp
    simp only [e6, e22, Sem.run_bind, run_stU, Result.andThen_ok]
    exact ⟨undef, rfl, rfl⟩
  case o11 =>
    intro A W hv hlen hJ hbase hdL hdH
    have e23 : A.eval (.tmp 23) = .bool bd := hdL 8 23 (by kernel_rfl) (by kernel_rfl) (by kernel_rfl)
    have f23 : A.tmps[23]?.getD undef = .bool bd := by simpa [Act.eval] using e23
    exact light_val rfl (v := .bool bd) (by simp [execOp, e23, f23]) hJ rfl
  case oe =>
    intro vs W' hv hlen hJ hL hH
    match hv, hlen with
    | [y1, y2], _ =>
      have hx7 : vs 11 = .bool bd := hL 11 (by rfl) (by rfl)
      have f6 := JL.fr hJ
      simp only [layL, Nat.reduceAdd, Act.put, List.setIfInBounds_toArray, List.set_cons_zero, List.set_cons_succ]
      clear hL hH
      generalize vs 0 = y100 at *
      generalize vs 1 = y101 at *
      generalize vs 2 = y102 at *
      generalize vs 3 = y103 at *
      generalize vs 4 = y104 at *
      generalize vs 5 = y105 at *
      generalize vs 6 = y106 at *
      generalize vs 7 = y107 at *
      generalize vs 8 = y108 at *
      generalize vs 9 = y109 at *
      generalize vs 10 = y110 at *
      generalize vs 11 = y111 at *
      subst hx7
      obtain rfl : bd = false := by rw [← Hbd.out]; exact hbad
      have c3' := (show BxV w5.drew g3 _ _ from c3).fr0 f6
      have c4' := (show BxV w5.drew g4 _ _ from c4).fr0 f6
      have c5' := (show BxV w5.drew g5 _ _ from b5).fr0 f6
      have F6 := F5.drew.thenN f6
      have dk6 := (dk.fr0 ((Fr.refl noB w5).drew)).fr0 f6
      obtain ⟨zs, hzs⟩ := wr_list X.pend (fun x hx => by have := dk.pd.1 x hx; simpa [encW, pgv_len] using this)
      obtain ⟨a3, cp3, rfl⟩ := dk6.pd.opn
      obtain ⟨k0, k1', k2, _, _⟩ := dk6.bx.five
      go_wp2_with (first
        | (go_at_call 98; go_must (refine (bkw_any _ _ _ _).mono ?_; rintro e w7 ⟨rfl, rfl⟩)))
      obtain ⟨W0, hW0⟩ : ∃ W0, W'.alloc (.cells #[.slice a3 X.pend.length cp3] 92) = W0 := ⟨_, rfl⟩
      have hsz0 : W0.heap.size = W'.heap.size + 1 := by rw [← hW0]; simp
      have f70 : Fr noB W' W0 := by rw [← hW0]; exact (Fr.refl _ _).alloc _
      have hbx0 : W0.cell? ⟨W'.heap.size, 0, none⟩ = some (.slice a3 X.pend.length cp3) := by rw [← hW0]; simp
      have hpd0 : OwnR encW 257 150 W0 0 (.slice a3 X.pend.length cp3) (zs.map (·.1)) := by rw [hzs]; exact dk6.pd.fr0 f70
      have d3 := c3'.fr0 f70
      have d4 := c4'.fr0 f70
      have d5 := c5'.fr0 f70
      have dk7 := dk6.fr0 f70
      have F7 := F6.thenN f70
      have hg45 : g4 ≠ g5 := by omega
      have lw5 : w5.drew.heap.size = w5.heap.size := rfl
      have z6 := f6.size
      have hg4W : g4 < W0.heap.size := d4.lt
      have hg5W : g5 < W0.heap.size := d5.lt
      have hg3W : g3 < W0.heap.size := d3.lt
      have hlp : zs.length = X.pend.length := by rw [← hzs]; simp
      have q3' : W0.cell? ⟨g3, 0, none⟩ = some (.int .i64 i) := (d3.cell 0 _ rfl).1
      rw [hW0]
      clear hJ hlook
      refine (wpIn_wide (n := 5)).1 ?_
      refine wpIn_rangeFunc_ownH (F := Fence.wide) rfl (by omega) (gf := 108) (lb := #[.pointer (some ⟨W'.heap.size, 0, none⟩)]) rfl trivial (enters_of Tryz.func108 (by kernel_rfl) rfl)
        (bkw_stops Fence.wide (5 - 1) trivial rfl (by omega) W'.heap.size _ zs (by omega) W0 (by omega) hbx0 hpd0) (fun h k => h.trans k) (fun W l o o' hl ho h1 h2 => belowK_b (w := W0) (Nat.le_refl _) W l o o' hl ho h1 h2) (Below.refl _ _) (fun _ => rfl)
        (RI i W0) (RX i g4 g5 W0) (RI_own i W0) (fun c => RX_own c hg4W hg5W) ⟨by simp, Fr.refl _ _⟩
        (fun x a' W => ∃ gx, BxV W gx 150 (encW x.2.1) ∧ W0.heap.size ≤ gx ∧ a' = { tmps := #[ptr g, Value.int IntKind.i64 i, undef, Value.pointer (some { block := g3, off := 0 }), Value.pointer (some { block := g4, off := 0 }), Value.pointer (some { block := g5, off := 0 }), y109, Value.bool false, undef, .pointer (some ⟨gx, 0, none⟩), ptr g, Value.int IntKind.i64 i, Value.bool true, Value.bool false, undef, y106, y100, y101, y102, y103, y104, y105, y107, y108, Value.bool false, undef, ptr g, Value.pointer (some { block := g, off := 0 }), Value.pointer (some { block := g, off := 2 }), Value.slice a3 X.pend.length cp3, Value.func (Fn.func 108) #[] #[Value.pointer (some { block := W'.heap.size, off := 0 })], .int .i64 x.1, .agg (encW x.2.1).toArray, undef, undef, undef, undef, undef, undef, undef, undef, undef, undef, undef, undef, undef], defers := [] })
        ?hAx ?assign ?body ?done ?stop
      case hAx =>
        intro x a' _ W W1 row hs hg hr
        obtain ⟨gx, hb, hgx, e⟩ := hs
        refine ⟨gx, ?_, hgx, e⟩
        have hb' : W.heap[gx]? = _ := hb
        refine (hg.block gx hb.lt (fun q => ?_)).trans hb
        obtain ⟨_, o, ho, hc⟩ := hr gx q.symm
        rw [hb'] at ho; cases ho; cases hc
      case assign =>
        intro l pre x W K hI hK
        obtain ⟨hI1, hI2⟩ := hI
        have hxl : Hid (x.2.1.2.length = 256) := x.2.2
        have zI := hI2.size
        simp only [encX, zip2, List.setIfInBounds_toArray, List.set_cons_zero, List.set_cons_succ]
        gi_wp2_with (first
          | (refine at_alI 150 rfl ?_; go_must (refine wpListIn_allocV rfl 150 rfl _ pzero_write ?_; intro gx w8 hgx hw8 b8 f8))
          | (refine at_stI 150 _ _ rfl ?_; go_must (refine wpListIn_storeV rfl 150 _ _ rfl gx 0 rfl (encW x.2.1) rfl _ _ b8 (by rw [pwrite_size, encW_len _ hxl.out]) (by rw [encW_len _ hxl.out, encW_len _ zeroP_len]; decide) (encW_one _) ?_; intro w9 b9 f9; rw [putAt_all _ _ (by rw [encW_len _ hxl.out, encW_len _ zeroP_len])] at b9)))
        have F9 : Fr noB W w9 := f8.thenT f9 (fun k hk q => by unfold onB1 at q; omega)
        exact hK _ _ (keepsFrom_of_fr F9 (fun _ _ q => q.elim)) (below_of_fr F9 zI) ⟨hI1, hI2.thenN F9⟩ ⟨gx, b9, by omega, by rw [hgx]⟩
      case body =>
        rintro l pre x a' W hl ⟨r, hr⟩ ⟨hno, hfr⟩ ⟨gx, hbx, hgx, rfl⟩ hlt
        have hxl : Hid (x.2.1.2.length = 256) := x.2.2
        obtain ⟨p1, _⟩ := hbx.cell 0 _ rfl
        have q3w := hfr.cell q3' (fun q => q)
        have zI := hfr.size
        cases hcmp : (x.2.1.1 == i) with
        | false =>
          gi_wp2
          refine ⟨KeepsFrom.refl _ _, Below.refl _ _, ?_, hfr⟩
          intro y hy
          rcases List.mem_append.1 hy with hy | hy
          · exact hno y hy
          · simp at hy; subst hy; exact hcmp
        | true =>
          have e4 := d4.fr0 hfr
          have e5 := d5.fr0 hfr
          have hrl : (Instr.loadAt 96 (.pointer (some ⟨gx, 1, none⟩))).run Tryz.prog W = .ok (pgV x.2.1.2) W := run_loadP W gx 1 x.2.1.2 (hbx.range 1 (pgv x.2.1.2) (by show (pgv x.2.1.2).take (pgv x.2.1.2).length = _; exact List.take_length)) hxl.out
          gi_wp2_with (first
            | (refine at_ldI 96 _ rfl ?_; go_must (refine wpListIn_ld rfl 96 _ rfl _ _ rfl hrl ?_))
            | (refine at_stI 96 _ _ rfl ?_; go_must (refine wpListIn_storeV rfl 96 _ _ rfl g4 0 rfl (pgv x.2.1.2) rfl _ _ e4 (by rw [size_page, pgv_len, hxl.out]) (by rw [pgv_len, pgv_len, hxl.out, zeroP_len]; decide) (pgv_one _) ?_; intro w9 b9 f9; rw [putAt_all _ _ (by rw [pgv_len, pgv_len, hxl.out, zeroP_len])] at b9; have e5' := e5.ne f9 (Ne.symm hg45)))
            | (refine at_stI 34 _ _ rfl ?_; go_must (refine wpListIn_store1 rfl 34 _ _ rfl g5 0 rfl (.int .i64 0) rfl rfl _ _ e5' errno_size (by simp) ?_; intro w10 b10 f10; have b10 : BxV w10 g5 34 [.int .i64 0] := (by simpa using b10); have b9' := b9.ne f10 hg45)))
          have F10 : Fr (fun k => k = g4 ∨ k = g5) W w10 := (f9.mono (fun k _ q => Or.inl q)).trans (f10.mono (fun k _ q => Or.inr q))
          refine ⟨keepsFrom_of_fr F10 (fun k o q hk => ?_), rfl, pre, x, rfl, hno, hcmp, b9', b10, (hfr.mono (fun _ _ q => q.elim)).trans F10⟩
          rcases q with rfl | rfl
          · have e4' : W.heap[_]? = _ := e4; rw [e4'] at hk; cases hk; rfl
          · have e5'' : W.heap[_]? = _ := e5; rw [e5''] at hk; cases hk; rfl
      case done =>
        rintro D ys W hD rfl ⟨hno, hfr⟩ hK
        have hmiss := read_miss X.pend i (X.pages.getD i.toNat []) zs hzs hno
        obtain ⟨j, rfl⟩ : ∃ j : Nat, i = j := ⟨i.toNat, by simp [inR] at hin; omega⟩
        have hj : j < X.pages.length := by simp [inR] at hin; omega
        obtain ⟨p, Hp⟩ : ∃ p, Hid (X.pages.getD j [] = p) := ⟨_, rfl⟩
        have hpj : X.pages[j] = p := by rw [← Hp.out]; simp [List.getD, hj]
        have hdk := (dk7.fr0 hfr).fr0 ((Fr.refl noB W).drew)
        have hpl : p.length = 256 := by have := hdk.st.1 X.pages[j] (by simp); rwa [hpj, pgv_len] at this
        rw [Int.toNat_natCast, Hp.out] at hmiss
        have Hmiss := show Hid _ from hmiss
        clear hmiss
        have hO := hdk.st
        obtain ⟨b, cap', cur, hv1, _, _, _, _, _⟩ := hO.bx (by omega)
        subst hv1
        have hrg := OwnR.rangeK hO j hj
        rw [hpj] at hrg
        have h4 : BxV W.drew g4 96 (pgv zeroP) := d4.fr0 hfr.drew
        have h5 : BxV W.drew g5 34 [.int .i64 0] := d5.fr0 hfr.drew
        have q3w : W.drew.cell? ⟨g3, 0, none⟩ = some (.int .i64 (j : Int)) := hfr.drew.cell q3' (fun q => q)
        have kw0 : W.drew.cell? ⟨g, 0, none⟩ = some (.slice (some ⟨b, 0, none⟩) X.pages.length cap') := (hdk.bx.cell 0 _ rfl).1
        have hgw : g < w.heap.size := hDk.lt
        have hbw : b < w.heap.size := by
          obtain ⟨v1', m', v3', dkw⟩ := hDk
          have e1 := (dkw.fr0 F5).bx
          have e2 := dk.bx
          unfold BxV at e1 e2
          rw [e1] at e2
          simp at e2
          have := (dkw.st.newB b (by rw [e2.1]; rfl)).2
          exact this
        have hgne : g ≠ g4 ∧ g ≠ g5 := by omega
        have hbne : b ≠ g4 ∧ b ≠ g5 := by omega
        have hg3ne : g3 ≠ g4 ∧ g3 ≠ g5 := by omega
        have hst4 : Hid ((Instr.storeAt 96 (.pointer (some ⟨g4, 0, none⟩)) (pgV p)).run Tryz.prog W.drew = .ok () (W.drew.setCells g4 0 (pgv p))) := run_storeAt_mid (P := Tryz.prog) W.drew g4 0 96 (pgv p).toArray (by simpa using h4.thereR 0 (pgv p).length (by rw [pgv_len, pgv_len, hpl, zeroP_len]; decide)) (by rw [size_page]; simp [pgv_len, hpl]) (all_oneCell_toArray (pgv_one p))
        go_wp2
        refine wp_region_chain_lay (by kernel_rfl) [7, 8] [none, none, none, none, none, none, none, some 0, some 1]
          [fun v => v = ptr g, fun v => v = ptr g, fun v => v = .pointer (some ⟨g, 0, none⟩), fun v => v = .slice (some ⟨b, 0, none⟩) X.pages.length cap', fun v => v = .int .i64 (j : Int), fun v => v = .pointer (some ⟨b, j * 256, none⟩), fun v => v = pgV p, fun _ => True, fun _ => True]
          (JR W.drew g4 g5 p) (rfl) (by kernel_rfl) (by kernel_rfl) (by decide) ⟨?o0, ?o1, ?o2, ?o3, ?o4, ?o5, ?o6, ?o7, ?o8, trivial⟩ ?oe
        case o0 =>
          intro A W hv hlen hJ hbase hdL hdH
          have e0 : A.eval (.tmp 0) = ptr g := hbase 0 (by kernel_rfl)
          have f0 : A.tmps[0]?.getD undef = ptr g := by simpa [Act.eval] using e0
          exact light_val rfl (v := ptr g) (by simp [execOp, e0, f0]) hJ rfl
        case o1 =>
          intro A W hv hlen hJ hbase hdL hdH
          have e39 : A.eval (.tmp 39) = ptr g := hdL 0 39 (by kernel_rfl) (by kernel_rfl) (by kernel_rfl)
          have f39 : A.tmps[39]?.getD undef = ptr g := by simpa [Act.eval] using e39
          exact light_val rfl (v := ptr g) (by simp [execOp, go_sem, e39, f39]) hJ rfl
        case o2 =>
          intro A W hv hlen hJ hbase hdL hdH
          have e40 : A.eval (.tmp 40) = ptr g := hdL 1 40 (by kernel_rfl) (by kernel_rfl) (by kernel_rfl)
          have f40 : A.tmps[40]?.getD undef = ptr g := by simpa [Act.eval] using e40
          exact light_val rfl (v := .pointer (some ⟨g, 0, none⟩)) (by simp [execOp, go_sem, e40, f40]) hJ rfl
        case o3 =>
          intro A W hv hlen hJ hbase hdL hdH
          have e41 : A.eval (.tmp 41) = .pointer (some ⟨g, 0, none⟩) := hdL 2 41 (by kernel_rfl) (by kernel_rfl) (by kernel_rfl)
          have f41 : A.tmps[41]?.getD undef = .pointer (some ⟨g, 0, none⟩) := by simpa [Act.eval] using e41
          have hcW := (JR.fr hJ).cell kw0 (fun q => q.elim hgne.1 hgne.2)
          exact light_val rfl (v := .slice (some ⟨b, 0, none⟩) X.pages.length cap') (by simp [execOp, go_sem, e41, f41, hcW]) hJ rfl
        case o4 =>
          intro A W hv hlen hJ hbase hdL hdH
          have e3 : A.eval (.tmp 3) = .pointer (some ⟨g3, 0, none⟩) := hbase 3 (by kernel_rfl)
          have f3 : A.tmps[3]?.getD undef = .pointer (some ⟨g3, 0, none⟩) := by simpa [Act.eval] using e3
          have hcW := (JR.fr hJ).cell q3w (fun q => q.elim hg3ne.1 hg3ne.2)
          exact light_val rfl (v := .int .i64 (j : Int)) (by simp [execOp, go_sem, e3, f3, hcW]) hJ rfl
        case o5 =>
          intro A W hv hlen hJ hbase hdL hdH
          have e42 : A.eval (.tmp 42) = .slice (some ⟨b, 0, none⟩) X.pages.length cap' := hdL 3 42 (by kernel_rfl) (by kernel_rfl) (by kernel_rfl)
          have f42 : A.tmps[42]?.getD undef = .slice (some ⟨b, 0, none⟩) X.pages.length cap' := by simpa [Act.eval] using e42
          have e43 : A.eval (.tmp 43) = .int .i64 (j : Int) := hdL 4 43 (by kernel_rfl) (by kernel_rfl) (by kernel_rfl)
          have f43 : A.tmps[43]?.getD undef = .int .i64 (j : Int) := by simpa [Act.eval] using e43
          have hr := run_idxO (w := W) (P := Tryz.prog) (sz := 256) 90 96 Tryz.underlying90 size_page b X.pages.length cap' .i64 j hj
          exact light_val rfl (v := .pointer (some ⟨b, j * 256, none⟩)) (by simp [execOp, e42, e43, hr, Result.andThen]) hJ rfl
        case o6 =>
          intro A W hv hlen hJ hbase hdL hdH
          have e44 : A.eval (.tmp 44) = .pointer (some ⟨b, j * 256, none⟩) := hdL 5 44 (by kernel_rfl) (by kernel_rfl) (by kernel_rfl)
          have f44 : A.tmps[44]?.getD undef = .pointer (some ⟨b, j * 256, none⟩) := by simpa [Act.eval] using e44
          have hrW : W.rangeAt b (j * 256) (pgv p) := fun q v hq => (JR.fr hJ).cell (hrg q v hq) (fun q => q.elim hbne.1 hbne.2)
          have hr := run_loadP W b (j * 256) p hrW hpl
          exact light_val rfl (v := pgV p) (by simp [execOp, e44, hr, Result.andThen]) hJ rfl
        case o7 =>
          intro A W hv hlen hJ hbase hdL hdH
          have e4 : A.eval (.tmp 4) = .pointer (some ⟨g4, 0, none⟩) := hbase 4 (by kernel_rfl)
          have f4 : A.tmps[4]?.getD undef = .pointer (some ⟨g4, 0, none⟩) := by simpa [Act.eval] using e4
          have e45 : A.eval (.tmp 45) = pgV p := hdL 6 45 (by kernel_rfl) (by kernel_rfl) (by kernel_rfl)
          have f45 : A.tmps[45]?.getD undef = pgV p := by simpa [Act.eval] using e45
          obtain rfl : hv = [] := List.eq_nil_of_length_eq_zero hlen
          cases hJ
          refine heavy_wp rfl ?_
          unfold Oper.wp execOp
          simp only [e4, e45, Sem.run_bind, hst4.out, Result.andThen_ok]
          refine ⟨undef, rfl, ?_, setCells_fr1 _ g4 _ 0⟩
          have hb := setCells_bx (pgv p) 0 _ _ h4 (by rw [pgv_len, pgv_len, hpl, zeroP_len]; decide)
          rw [putAt_all _ _ (by rw [pgv_len, pgv_len, hpl, zeroP_len])] at hb
          exact hb
        case o8 =>
          intro A W hv hlen hJ hbase hdL hdH
          have e5 : A.eval (.tmp 5) = .pointer (some ⟨g5, 0, none⟩) := hbase 5 (by kernel_rfl)
          have f5 : A.tmps[5]?.getD undef = .pointer (some ⟨g5, 0, none⟩) := by simpa [Act.eval] using e5
          obtain ⟨v6, rfl⟩ := List.length_eq_one_iff.1 hlen
          obtain ⟨hb, hf⟩ := hJ
          have h5' := h5.ne hf (Ne.symm hg45)
          have hr := run_st1 (P := Tryz.prog) (off := 0) 34 errno_size (.int .i64 0) rfl _ _ h5' (by simp)
          have ec0 : A.eval (.const (.int .i64 0)) = .int .i64 0 := rfl
          refine heavy_wp rfl ?_
          unfold Oper.wp execOp
          simp only [e5, ec0, Sem.run_bind, hr, Result.andThen_ok]
          have fs : Fr (onB1 g5) W (W.setCell ⟨g5, 0, none⟩ (.int .i64 0)) := Fr.setCell (Fr.refl _ _) _ _ (fun _ => rfl)
          refine ⟨undef, rfl, hb.ne fs hg45, ?_, (hf.mono (fun k _ q => Or.inl q)).trans (fs.mono (fun k _ q => Or.inr q))⟩
          have := h5'.set 0 (.int .i64 0)
          simpa using this
        case oe =>
          intro vs W9 hv hlen hJ hL hH
          match hv, hlen with
          | [y1, y2], _ =>
            obtain ⟨b4f, b5f, hfX⟩ := hJ
            simp only [layL, Nat.reduceAdd, Act.put, List.setIfInBounds_toArray, List.set_cons_zero, List.set_cons_succ]
            clear hL hH
            generalize vs 0 = y200 at *
            generalize vs 1 = y201 at *
            generalize vs 2 = y202 at *
            generalize vs 3 = y203 at *
            generalize vs 4 = y204 at *
            generalize vs 5 = y205 at *
            generalize vs 6 = y206 at *
            generalize vs 7 = y207 at *
            generalize vs 8 = y208 at *
            have hKf : W9.heap[D]? = some (.deferred (some [])) := by
              have hDl : D < W.drew.heap.size := (Array.getElem?_eq_some_iff.1 hK).1
              exact (hfX.block D hDl (fun q => by omega)).trans hK
            go_wp2
            refine ⟨by simp, .inl ⟨_, _, rfl, run_takeDeferred hKf, ?_⟩⟩
            have hDg : Fr (fun k => k = D) W9 (W9.putObj D (.deferred none)) := (Fr.refl _ _).grown (grownBy_putObj' W9 D _) (fun k e _ => by cases e; rfl)
            have b4g := b4f.fr hDg (fun q => by omega)
            have b5g := b5f.fr hDg (fun q => by omega)
            refine ⟨_, results_pe Tryz.results82 _ _ g4 g5 p 0 rfl rfl b4g hpl (b5g.cell 0 _ rfl).1, by rw [Int.toNat_natCast, Hp.out, Hmiss.out], ?_⟩
            have hFX := (F7.thenN hfr).drew.thenT (S := noB) hfX (fun k hk q => by omega)
            exact hFX.thenT hDg (fun k hk q => by have := F7.size; omega)
      case stop =>
        rintro D c pre W hD hSp hX hK
        obtain ⟨rfl, pre', x, hpre, hno, hhit, b4f, b5f, hfX⟩ := hX
        gi_wp2
        refine ⟨by simp, .inl ⟨_, _, rfl, run_takeDeferred hK, ?_⟩⟩
        have hDg : Fr (fun k => k = D) W (W.putObj D (.deferred none)) := (Fr.refl _ _).grown (grownBy_putObj' W D _) (fun k e _ => by cases e; rfl)
        have hl := read_hit X.pend i (X.pages.getD i.toNat []) zs hzs hSp hpre hno hhit
        have b4g := b4f.fr hDg (fun q => by omega)
        have b5g := b5f.fr hDg (fun q => by omega)
        refine ⟨_, results_pe Tryz.results82 _ _ g4 g5 x.2.1.2 0 rfl rfl b4g x.2.2 (b5g.cell 0 _ rfl).1, by rw [hl], ?_⟩
        have hFX := F7.thenT (S := noB) hfX (fun k hk q => by omega)
        exact hFX.thenT hDg (fun k hk q => by have := F7.size; omega)
end Go.Proofs.YtmkinaijkgkgiaaGreat
/- The program's disk: Read in one form; the example that the statements ask first. -/
namespace Go.Proofs.YtmkinaijkgkgiaaGreat
open Go.RowKit Go.Proofs.U
set_option linter.unusedSimpArgs false
set_option linter.unusedVariables false

theorem read_any {F : Nat → Prop} {X : DSt} (g : Nat) (i : Int) (hi : -9223372036854775808 ≤ i ∧ i ≤ 9223372036854775807) (w : World) (hD : Disk w F g X) (hm : X.pend.length ≤ 100000) :
    Calls Tryz.prog 82 #[ptr g, .int .i64 i] w fun r w' => r = .returned (.tuple #[pgV (readP X i).1, .int .i64 (readP X i).2]) ∧ Fr noB w w' := by
  unfold readP
  cases hin : inR X.pages.length i with
  | false => exact read_no g i w hD hin
  | true =>
    cases hb : X.bad i with
    | true => exact read_bad g i hi w hD hin hb
    | false => exact read_good g i hi w hD hm hin hb

theorem Disk.tight {w : World} {F : Nat → Prop} {g : Nat} {X : DSt} (h : Disk w F g X) : Disk w (fun k => F k ∧ k < w.heap.size) g X := h.mono (fun k hk hF => ⟨hF, hk⟩)
end Go.Proofs.YtmkinaijkgkgiaaGreat
/- Pages compared; a disk of ten pages. -/
namespace Go.Proofs.U
open Go.RowKit
section
variable {P : Program} {ops : Array Oper} {Q : Exit → Act → World → Prop} {a : Act} {w : World} {o : Oper} {fs : List (Value → Prop)} {J : List Value → World → Prop} {k : Nat} {hv : List Value}
theorem unwanted_of {j d : Nat} {b : Bool} (hg : o.guard = some (j, b)) (hd : dstAt ops j = some d) (h : a.eval (.tmp d) = .bool (!b)) : Region.wanted o (yielded ops a.tmps) = false := by
  have h1 : a.tmps[d]? = some (.bool (!b)) := by
    have h2 : a.tmps.getD d undef = .bool (!b) := h
    rw [Array.getD_eq_getD_getElem?] at h2
    cases hq : a.tmps[d]? with
    | none => rw [hq] at h2; simp [undef] at h2
    | some v => rw [hq] at h2; simp at h2; rw [h2]
  unfold dstAt at hd
  cases b <;> simp [Region.wanted, hg, yielded, hd, h1]
theorem light_no (hw : Region.wanted o (yielded ops a.tmps) = false) (hF : factL fs k undef) :
    if Region.wanted o (yielded ops a.tmps) = true then o.wp P a w (fun a' w' => ∃ v, a' = a.put o.dst v ∧ J hv w' ∧ factL fs k v) Q else factL fs k undef := by
  rw [hw]; simpa using hF
end
end Go.Proofs.U
namespace Go.Proofs.YtmkinaijkgkgiaaGreat
open Go.RowKit Go.Proofs.U
set_option linter.unusedSimpArgs false
set_option linter.unusedVariables false

theorem all_range_eqI : ∀ (xs ys : List Int), xs.length = ys.length → ((List.range xs.length).all fun i => xs.getD i 0 == ys.getD i 0) = (xs == ys)
  | [], [], _ => rfl
  | x :: xs, y :: ys, h => by
    have ih := all_range_eqI xs ys (by simpa using h)
    rw [List.length_cons, List.range_succ_eq_map, List.all_cons, List.all_map]
    simp only [List.getD_cons_zero, Function.comp_def, List.getD_cons_succ, ih]
    simp [List.cons_beq_cons]
  | [], _ :: _, h => by simp at h
  | _ :: _, [], h => by simp at h

end Go.Proofs.YtmkinaijkgkgiaaGreat
/- Small facts that the texts of several layers share. -/
namespace Go.Proofs.YtmkinaijkgkgiaaGreat
open Go.RowKit Go.Proofs.U
theorem Hid.mk {p : Prop} (h : p) : Hid p := h
theorem info5 : (Tryz.prog.info? 5).map (fun i => (i.zero, i.size, i.bytes)) = some (some (.int .u8 0), 1, 1) := by kernel_rfl
theorem size5 : (Tryz.prog.info? 5).map (·.size) = some 1 := by kernel_rfl
theorem getu (k : IntKind) (l : List Int) (j : Nat) (u : Value) (h : (l.map (Value.int k))[j]? = some u) : u = .int k (l.getD j 0) := by
  simp at h; obtain ⟨x, hx, rfl⟩ := h; simp [List.getD, hx]
theorem u8_bd {x : Int} (h : (Lit.int .u8 x).wf = true) : 0 ≤ x ∧ x < 256 := by
  simp [Lit.wf, IntKind.min, IntKind.max, IntKind.signed, IntKind.bits] at h; omega
end Go.Proofs.YtmkinaijkgkgiaaGreat
/- Contracts of isWidth and allFit of package ends, for every list of at most 10^12 numbers. -/
namespace Go.Proofs.YtmkinaijkgkgiaaGreat
open Go.RowKit Go.Proofs.U

def isW (n : Int) : Bool := n == 1 || n == 2 || n == 4 || n == 8

set_option maxHeartbeats 400000 in
theorem isWidth_any (n : Int) (w : World) :
    Calls Tryz.prog 104 #[.int .i64 n] w fun e w' => e = .returned (.bool (isW n)) ∧ w = w' := by
  go_enter Tryz.func104, Tryz.ntmps104
  go_wp2
  all_goals go_ret
  all_goals refine ⟨?_, rfl⟩
  all_goals simp_all [isW]

theorem size26 : (Tryz.prog.info? 144).map (·.size) = some 1 := by kernel_rfl



def lim (width : Int) : Int := if width = 1 then 256 else if width = 2 then 65536 else if width = 4 then 4294967296 else 18446744073709551616
def fits (width x : Int) : Bool := decide (x < lim width)

theorem u64_bd {x : Int} (h : (Lit.int .u64 x).wf = true) : 0 ≤ x ∧ x < 18446744073709551616 := by
  simp [Lit.wf, IntKind.min, IntKind.max, IntKind.signed, IntKind.bits] at h; omega

theorem all_take_succ (f : Int → Bool) (l : List Int) (k : Nat) (h : k < l.length) : (l.take (k+1)).all f = ((l.take k).all f && f l[k]) := by
  rw [List.take_succ_eq_append_getElem h, List.all_append]; simp

theorem all_of_bad (f : Int → Bool) (l : List Int) (k : Nat) (h : k < l.length) (hf : f l[k] = false) : l.all f = false := by
  rw [List.all_eq_false]; exact ⟨l[k], by simp, by simp [hf]⟩

theorem fits_yes {d x : Int} {width : Int} (_h0 : 0 ≤ x) (hl : lim width = d) (hd : 0 < d) (h : (x / d != 0) = false) : fits width x = true := by
  have h1 : x / d = 0 := by simpa using h
  simp [fits, hl]
  rcases Int.lt_or_le x d with h3 | h3
  · exact h3
  · have := (Int.le_ediv_iff_mul_le hd (a := 1) (b := x)).2 (by omega); omega
theorem fits_no {d x : Int} {width : Int} (h0 : 0 ≤ x) (hl : lim width = d) (h : (x / d != 0) = true) : fits width x = false := by
  have h1 : x / d ≠ 0 := by simpa using h
  simp [fits, hl]
  rcases Int.lt_or_le x d with h3 | h3
  · exact absurd (Int.ediv_eq_zero_of_lt h0 h3) h1
  · exact h3

theorem fits_8 {x : Int} (h : x < 18446744073709551616) : fits 8 x = true := by
  simp [fits, lim, h]
set_option maxHeartbeats 1000000 in
theorem allFit_any (width : Int) (hwd : isW width = true) (vl : Value) (l : List Int) (w : World) (hl : SlI .u64 w vl l) (hm : l.length ≤ 1000000000000) :
    Calls Tryz.prog 105 #[.int .i64 width, vl] w fun e w' => e = .returned (.bool (l.all (fits width))) ∧ w = w' := by
  obtain ⟨a, cap, rfl, hcap⟩ := hl.opn
  have hS := hl.1
  have hwf := hl.2
  have hcase : width = 1 ∨ width = 2 ∨ width = 4 ∨ width = 8 := by simpa [isW, or_assoc] using hwd
  clear hl hwd
  obtain ⟨F, HF⟩ : ∃ F, Hid (F = fits width) := ⟨_, rfl⟩
  rw [← HF.out]
  rcases hcase with rfl | rfl | rfl | rfl
  rotate_left 3
  · go_enter Tryz.func105, Tryz.ntmps105
    go_wp2
    go_loop [9] (fun i => ∃ k : Nat, k ≤ l.length ∧ i = .int .i64 k ∧ Hid ((l.take k).all F = true)) (fun i => l.length - (intOf i).toNat)
    case atStart => exact ⟨0, Nat.zero_le _, rfl, show _ = _ by simp⟩
    case round =>
      obtain ⟨k, hk, rfl, hall⟩ := hrel
      by_cases hlt : k < l.length
      · have hb := u64_bd (hwf l[k] (by simp))
        go_wp2_with (refine wpList_idx1 rfl 145 _ _ rfl 144 Tryz.underlying145 size26 _ _ _ rfl hS _ _ k rfl rfl hlt ?_; intro p u hu hc; obtain rfl := getu _ _ _ _ hu)
        · go_round
          case rel => exact ⟨k + 1, by omega, by go_num, show _ = _ by rw [all_take_succ _ _ _ hlt, hall.out, HF.out, fits_8 hb.2]; rfl⟩
          case measure => simp [intOf]; omega
      · go_wp2
        go_ret
        have e : k = l.length := by omega
        subst e
        have hall := hall.out
        rw [List.take_length] at hall
        exact ⟨by rw [hall]; rfl, rfl⟩
  all_goals
    go_enter Tryz.func105, Tryz.ntmps105
    go_wp2
    go_loop [9] (fun i => ∃ k : Nat, k ≤ l.length ∧ i = .int .i64 k ∧ Hid ((l.take k).all F = true)) (fun i => l.length - (intOf i).toNat)
    case atStart => exact ⟨0, Nat.zero_le _, rfl, show _ = _ by simp⟩
    case round =>
      obtain ⟨k, hk, rfl, hall⟩ := hrel
      by_cases hlt : k < l.length
      · have hb := u64_bd (hwf l[k] (by simp))
        go_wp2_with (refine wpList_idx1 rfl 145 _ _ rfl 144 Tryz.underlying145 size26 _ _ _ rfl hS _ _ k rfl rfl hlt ?_; intro p u hu hc; obtain rfl := getu _ _ _ _ hu)
        · go_ret
          exact ⟨by rw [all_of_bad F l k hlt (by rw [HF.out]; exact fits_no hb.1 rfl ‹_›)]; rfl, rfl⟩
        · go_round
          case rel => exact ⟨k + 1, by omega, by go_num, show _ = _ by rw [all_take_succ _ _ _ hlt, hall.out, HF.out, fits_yes hb.1 rfl (by decide) ‹_›]; rfl⟩
          case measure => simp [intOf]; omega
      · go_wp2
        go_ret
        have e : k = l.length := by omega
        subst e
        have hall := hall.out
        rw [List.take_length] at hall
        exact ⟨by rw [hall]; rfl, rfl⟩
end Go.Proofs.YtmkinaijkgkgiaaGreat
