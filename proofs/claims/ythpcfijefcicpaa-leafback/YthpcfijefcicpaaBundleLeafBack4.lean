/- Texts K9, K10, K11, Z0, A1, A2, A3, A4, A5 of the proof of LeafBack, one behind the other. -/
import Derived.Stop.BytesEq
import Derived.Test.YthpcfijefcicpaaRows
import Derived.Deep.QuietTactic
import Derived.Deep.RegionWith
import Derived.BigRegion
import Derived.RangeFuncNested
import Derived.RangeFuncBound
import Derived.RangeFuncCalls
import Derived.RangeFuncLeaves
import Derived.RangeFuncBox
import Derived.Shelf.Abstract
import Derived.Shelf.RegionOpen
import Derived.OwnWalkIn
import Derived.TacticsInMore
import Derived.LoopNIn
import Derived.LoopIn
import Derived.Test.YthpcfijefcicpaaBundleLeafBack1
import Derived.Test.YthpcfijefcicpaaBundleLeafBack2
import Derived.Test.YthpcfijefcicpaaBundleLeafBack3
/- The program's disk: Read. (Written by k9_gen.py.) -/
namespace Go.Proofs.U
open Go.RowKit
set_option linter.unusedSimpArgs false
set_option linter.unusedVariables false
section
variable {P : Program} {w : World} {ops : Array Oper} {rest : List Oper} {o : Oper} {a : Act} {Q : Exit → Act → World → Prop}
theorem wpList_boxG (hgd : Region.wanted o (yielded ops a.tmps) = true) (t : TypeId) (x : Operand) (ho : o.op = .box t x) (v : Value) (cs : List Value) (hx : a.eval x = v) (hc : v.cells = cs.toArray)
    (h : ∀ g w', Hid (g = w.heap.size) → BxV w' g t cs → Fr noB w w' → w.heap.size ≤ g → wpList P ops Q rest (a.put o.dst (.pointer (some ⟨g, 0, none⟩))) w') : wpList P ops Q (o :: rest) a w := by
  refine wpList_wanted hgd fun K hK => ?_
  have hrun : (execOp a.eval o).run P w = .ok (.value (.pointer (some ⟨w.heap.size, 0, none⟩))) (w.alloc (.cells cs.toArray t)) := by
    simp only [execOp, ho, hx]
    simp [go_sem]
    exact congrArg (fun x => w.alloc (Obj.cells x t)) hc
  unfold Oper.wp
  rw [hrun]
  refine hK _ _ (h w.heap.size _ rfl ?_ ((Fr.refl _ _).alloc _) (Nat.le_refl _))
  show (w.heap.push _)[w.heap.size]? = _
  rw [Array.getElem?_push, if_pos rfl]
theorem wpList_allocG (hgd : Region.wanted o (yielded ops a.tmps) = true) (t : TypeId) (ho : o.op = .alloc t) (z : Value) (zs : List Value) (hz : (P.info? t).map (·.zero) = some (some z)) (hc : z.cells = zs.toArray)
    (h : ∀ g w', Hid (g = w.heap.size) → BxV w' g t zs → Fr noB w w' → w.heap.size ≤ g → wpList P ops Q rest (a.put o.dst (.pointer (some ⟨g, 0, none⟩))) w') : wpList P ops Q (o :: rest) a w := by
  refine wpList_wanted hgd fun K hK => ?_
  obtain ⟨i, hi, hz'⟩ := Option.map_eq_some_iff.1 hz
  unfold Oper.wp
  have hrun : (execOp a.eval o).run P w = .ok (.value (.pointer (some ⟨w.heap.size, 0, none⟩))) (w.alloc (.cells zs.toArray t)) := by
    simp [execOp, ho, go_sem, zeroValue, typeInfo, hi, hz']
    exact congrArg (fun x => w.alloc (Obj.cells x t)) hc
  rw [hrun]
  refine hK _ _ (h w.heap.size _ rfl ?_ ((Fr.refl _ _).alloc _) (Nat.le_refl _))
  show (w.heap.push _)[w.heap.size]? = _
  rw [Array.getElem?_push, if_pos rfl]
end
end Go.Proofs.U
namespace Go.Proofs.Ythpcfijefcicpaa
open Go.RowKit Go.Shelf Go.Proofs.U Go.Maps
attribute [local go_sem] Oper.semAt_some
set_option linter.unusedSimpArgs false
set_option linter.unusedVariables false

theorem results_two {fn : Func} {p u : Tmp} {ty ty' : TypeId} (h : fn.results = #[.cell p ty, .cell u ty']) (tmps : Array Value) (P : Program) (w : World) :
    (results fn tmps).run P w =
      ((asAddr (tmps.getD p undef)).run P w).andThen fun a w₁ => ((loadVar ty a).run P w₁).andThen fun v w₂ => ((asAddr (tmps.getD u undef)).run P w₂).andThen fun a' w₃ => ((loadVar ty' a').run P w₃).andThen fun v' w₄ => .ok (.tuple #[v, v']) w₄ := by
  simp only [results, h]
  simp [Sem.run_bind, Result.andThen]
theorem errno_zero : (Try.prog.info? 24).map (·.zero) = some (some (.int .i64 0)) := by kernel_rfl
theorem errno_size : (Try.prog.info? 24).map (·.size) = some 1 := by kernel_rfl
def readP (X : DSt) (i : Int) : List Int × Int := if inR X.pages.length i then (if X.bad i then (zeroP, 43) else (lastW X.pend i (X.pages.getD i.toNat []), 0)) else (zeroP, 41)
theorem results_pe {fn : Func} {q u : Tmp} (h : fn.results = #[.cell q 23, .cell u 24]) (tmps : Array Value) (w : World) (g g' : Nat) (p : List Int) (e : Int) (hq : tmps.getD q undef = .pointer (some ⟨g, 0, none⟩)) (hu : tmps.getD u undef = .pointer (some ⟨g', 0, none⟩)) (hA : BxV w g 23 (pgv p)) (hp : p.length = 256) (hB : w.cell? ⟨g', 0, none⟩ = some (.int .i64 e)) :
    (results fn tmps).run Try.prog w = .ok (.tuple #[pgV p, .int .i64 e]) w := by
  have hr := run_loadVar_mid (P := Try.prog) w g 0 23 (pgv p) _ (hA.range 0 _ (by simp)) Try.underlying23 rfl (by rw [size_page, pgv_len, hp])
  have hr2 : (loadVar 24 ⟨g', 0, none⟩).run Try.prog w = .ok (.int .i64 e) w := by simp [go_sem, hB]
  rw [results_two h, hq, hu]
  simp only [asAddr, Sem.run_pure, Result.andThen_ok, hr, hr2]
  rfl

theorem ownFrom_frN {β : Type} {S : Nat → Prop} {w₀ : World} {B : Nat} (hB : w₀.heap.size ≤ B) : OwnFrom B (fun (_ : β) W => Fr S w₀ W) :=
  fun _ _ _ _ hs hg hr => hs.grown hg (fun k e hk => by have := (hr k e).1; omega)
/-- Between two rounds of Read. -/
def RI (i : Int) (W0 : World) (pre : List (Int × Wr)) (W : World) : Prop := (∀ x ∈ pre, (x.2.1.1 == i) = false) ∧ Fr noB W0 W
def RX (i : Int) (g4 g5 : Nat) (W0 : World) (c : Code) (pre : List (Int × Wr)) (W : World) : Prop :=
  c = .ret ∧ ∃ pre' x, pre = pre' ++ [x] ∧ (∀ y ∈ pre', (y.2.1.1 == i) = false) ∧ (x.2.1.1 == i) = true ∧ BxV W g4 23 (pgv x.2.1.2) ∧ BxV W g5 24 [.int .i64 0] ∧ Fr (fun k => k = g4 ∨ k = g5) W0 W
theorem RI_own (i : Int) (W0 : World) : OwnFrom W0.heap.size (RI i W0) := fun s W W' row hs hg hr => ⟨hs.1, ownFrom_frN (β := Unit) (Nat.le_refl _) () W W' row hs.2 hg hr⟩
theorem zip2 (a b : Tmp) (t : Array Value) (u v : Value) : (#[a, b].zip #[u, v]).foldl (fun t (x : Tmp × Value) => match x with | (p, v) => t.setIfInBounds p v) t = (t.setIfInBounds a u).setIfInBounds b v := by simp
theorem read_hit (pend : List (Int × List Int)) (i : Int) (p : List Int) (zs : List Wr) (hzs : zs.map (·.1) = pend) {pre pre' : List (Int × Wr)} {x : Int × Wr} (hSp : ∃ k, k ≤ zs.length ∧ pre = uptoL (bkW zs) k) (hpre : pre = pre' ++ [x]) (hno : ∀ y ∈ pre', (y.2.1.1 == i) = false) (hhit : (x.2.1.1 == i) = true) :
    lastW pend i p = x.2.1.2 := by
  obtain ⟨k, hk, rfl⟩ := hSp
  have hlen : k = pre'.length + 1 := by have := congrArg List.length hpre; rw [uptoL_length] at this; simpa using this
  subst hlen
  rw [uptoL_succ] at hpre
  obtain ⟨hp1, hp2⟩ := List.append_inj hpre (by rw [uptoL_length])
  have hx : bkW zs pre'.length = x := by simpa using hp2
  obtain ⟨j, Hj⟩ : ∃ j, zs.length - 1 - pre'.length = j := ⟨_, rfl⟩
  have hj : j < zs.length := by omega
  have hxz : x.2 = zs[j] := by rw [← hx]; unfold bkW; simp only; rw [Hj]; simp [hj]
  have hpj : ∀ (q : Nat) (hq : q < pend.length), pend[q] = (zs[q]'(by rw [← hzs] at hq; simpa using hq)).1 := by
    intro q hq; subst hzs; simp
  have hjl : j < pend.length := by rw [← hzs]; simpa using hj
  have := lastW_hit i p pend j hjl (by rw [hpj j hjl, ← hxz]; exact hhit) (fun q hq hjq => by
    rw [hpj q hq]
    have hqz : q < zs.length := by rw [← hzs] at hq; simpa using hq
    have hmem : bkW zs (zs.length - 1 - q) ∈ pre' := by
      rw [← hp1]; unfold uptoL
      exact List.mem_map.2 ⟨zs.length - 1 - q, by simp; omega, rfl⟩
    have := hno _ hmem
    unfold bkW at this
    rw [show zs.length - 1 - (zs.length - 1 - q) = q by omega] at this
    simpa [hqz] using this)
  rw [this, hpj j hjl, ← hxz]
theorem read_miss (pend : List (Int × List Int)) (i : Int) (p : List Int) (zs : List Wr) (hzs : zs.map (·.1) = pend) (hno : ∀ y ∈ uptoL (bkW zs) zs.length, (y.2.1.1 == i) = false) : lastW pend i p = p := by
  refine lastW_none i p pend (fun x hx => ?_)
  subst hzs
  obtain ⟨z, hz, rfl⟩ := List.mem_map.1 hx
  obtain ⟨q, hq, rfl⟩ := List.mem_iff_getElem.1 hz
  have hmem : bkW zs (zs.length - 1 - q) ∈ uptoL (bkW zs) zs.length := by
    unfold uptoL
    exact List.mem_map.2 ⟨zs.length - 1 - q, by simp; omega, rfl⟩
  have := hno _ hmem
  unfold bkW at this
  rw [show zs.length - 1 - (zs.length - 1 - q) = q by omega] at this
  simpa [hq] using this
/-- While the page is handed back. -/
def JR (w0 : World) (g4 g5 : Nat) (p : List Int) : List Value → World → Prop
  | [], W => W = w0
  | [_], W => BxV W g4 23 (pgv p) ∧ Fr (onB1 g4) w0 W
  | [_, _], W => BxV W g4 23 (pgv p) ∧ BxV W g5 24 [.int .i64 0] ∧ Fr (fun k => k = g4 ∨ k = g5) w0 W
  | _, _ => False
theorem JR.fr {w0 : World} {g4 g5 : Nat} {p : List Int} : ∀ {hv : List Value} {W : World}, JR w0 g4 g5 p hv W → Fr (fun k => k = g4 ∨ k = g5) w0 W
  | [], _, h => by cases h; exact Fr.refl _ _
  | [_], _, h => h.2.mono (fun _ _ q => Or.inl q)
  | [_, _], _, h => h.2.2
  | _ :: _ :: _ :: _, _, h => h.elim
theorem RX_own {i : Int} {g4 g5 : Nat} {W0 : World} (c : Code) (h4 : g4 < W0.heap.size) (h5 : g5 < W0.heap.size) : OwnFrom W0.heap.size (RX i g4 g5 W0 c) := by
  rintro s W W' row ⟨hc, pre', x, h1, h2, h3, h4', h5', h6⟩ hg hr
  refine ⟨hc, pre', x, h1, h2, h3, ?_, ?_, ownFrom_frN (β := Unit) (Nat.le_refl _) () W W' row h6 hg hr⟩
  · exact (hg.block g4 h4'.lt (fun q => by have := (hr g4 q.symm).1; omega)).trans h4'
  · exact (hg.block g5 h5'.lt (fun q => by have := (hr g5 q.symm).1; omega)).trans h5'

end Go.Proofs.Ythpcfijefcicpaa
/- The program's disk: Read in one form; the example that the statements ask first. -/
namespace Go.Proofs.Ythpcfijefcicpaa
open Go.RowKit Go.Proofs.U
set_option linter.unusedSimpArgs false
set_option linter.unusedVariables false

theorem slI_of_slR {w : World} {v : Value} {l : List Int} (h : SlR en8 1 w v l) (hw : ∀ n ∈ l, (Lit.int .u8 n).wf = true) : SlI .u8 w v l := by
  refine ⟨?_, hw⟩
  have := h.2
  rwa [flat_en8] at this
def pgA : List Int := mixS zeroP (List.replicate 256 1) (stayK [3] 0) 8
def X1A : DSt := (newD 3).write 2 (List.replicate 256 1)
theorem alive_read : readP (X1A.crash [3]) 2 = (pgA, 0) := by kernel_rfl

end Go.Proofs.Ythpcfijefcicpaa
/- Pages compared; a disk of ten pages. -/
namespace Go.Proofs.U
open Go.RowKit
section
variable {P : Program} {ops : Array Oper} {Q : Exit → Act → World → Prop} {a : Act} {w : World} {o : Oper} {fs : List (Value → Prop)} {J : List Value → World → Prop} {k : Nat} {hv : List Value}
theorem unwanted_of {j d : Nat} {b : Bool} (hg : o.guard = some (j, b)) (hd : dstAt ops j = some d) (h : a.eval (.tmp d) = .bool (!b)) : Region.wanted o (yielded ops a.tmps) = false := by
  have h1 : a.tmps[d]? = some (.bool (!b)) := by
    have h2 : a.tmps.getD d undef = .bool (!b) := h
    rw [Array.getD_eq_getD_getElem?] at h2
    cases hq : a.tmps[d]? with
    | none => rw [hq] at h2; simp [undef] at h2
    | some v => rw [hq] at h2; simp at h2; rw [h2]
  unfold dstAt at hd
  cases b <;> simp [Region.wanted, hg, yielded, hd, h1]
theorem light_no (hw : Region.wanted o (yielded ops a.tmps) = false) (hF : factL fs k undef) :
    if Region.wanted o (yielded ops a.tmps) = true then o.wp P a w (fun a' w' => ∃ v, a' = a.put o.dst v ∧ J hv w' ∧ factL fs k v) Q else factL fs k undef := by
  rw [hw]; simpa using hF
end
end Go.Proofs.U
namespace Go.Proofs.Ythpcfijefcicpaa
open Go.RowKit Go.Proofs.U
set_option linter.unusedSimpArgs false
set_option linter.unusedVariables false

theorem all_range_eqI : ∀ (xs ys : List Int), xs.length = ys.length → ((List.range xs.length).all fun i => xs.getD i 0 == ys.getD i 0) = (xs == ys)
  | [], [], _ => rfl
  | x :: xs, y :: ys, h => by
    have ih := all_range_eqI xs ys (by simpa using h)
    rw [List.length_cons, List.range_succ_eq_map, List.all_cons, List.all_map]
    simp only [List.getD_cons_zero, Function.comp_def, List.getD_cons_succ, ih]
    simp [List.cons_beq_cons]
  | [], _ :: _, h => by simp at h
  | _ :: _, [], h => by simp at h

theorem run_equalIn_page (w : World) (d : Nat) (xs ys : List Int) (hx : xs.length = 256) (hy : ys.length = 256) :
    (Op.equalIn (d + 2) 23 (pgV xs) (pgV ys)).run Try.prog w = .ok (xs == ys) w := by
  have he : Try.prog.underlying 5 = some (.int .u8) := Try.underlying5
  have ht : Try.prog.underlying 23 = some (.array 256 5) := by kernel_rfl
  have hsz : ∀ w, (sizeOf 5).run Try.prog w = .ok 1 w := fun w => by kernel_rfl
  unfold pgV pgv
  rw [← all_range_eqI xs ys (hx.trans hy.symm), hx, List.range_eq_range', Op.equalIn]
  simp only [Sem.run_bind, run_underlying ht, Result.andThen_ok, hsz, Std.Legacy.Range.forIn_eq_forIn_range', Std.Legacy.Range.size, Nat.sub_zero, Nat.add_sub_cancel, Nat.div_one]
  have hl : ∀ i ∈ List.range' 0 256 1, i < 256 := fun i hi => by simpa using (List.mem_range'_1.1 hi).2
  generalize List.range' 0 256 1 = l at hl ⊢
  induction l with
  | nil => simp
  | cons i l ih =>
    have hi : i < 256 := hl i (by simp)
    have px : (part 5 (xs.map (Value.int .u8)).toArray (i * 1)).run Try.prog w = .ok (.int .u8 (xs.getD i 0)) w := by
      simp [part, isAgg, run_underlying he, List.getD, List.getElem?_eq_getElem (show i < xs.length by omega)]
    have py : (part 5 (ys.map (Value.int .u8)).toArray (i * 1)).run Try.prog w = .ok (.int .u8 (ys.getD i 0)) w := by
      simp [part, isAgg, run_underlying he, List.getD, List.getElem?_eq_getElem (show i < ys.length by omega)]
    have pe : (Op.equalIn (d + 1) 5 (.int .u8 (xs.getD i 0)) (.int .u8 (ys.getD i 0))).run Try.prog w = .ok (xs.getD i 0 == ys.getD i 0) w := by
      rw [run_equalIn_int w d 5 .u8 .u8 _ _ he]
    simp only [List.forIn_cons, Sem.run_bind, px, py, pe, Result.andThen_ok, List.all_cons]
    cases hb : (xs.getD i 0 == ys.getD i 0)
    · simp
    · simp only [Bool.not_true, Bool.false_eq_true, if_false, Sem.run_pure, Result.andThen_ok, Bool.true_and]
      exact ih fun j hj => hl j (by simp [hj])
theorem run_eql_page (w : World) (xs ys : List Int) (hx : xs.length = 256) (hy : ys.length = 256) : (binOp .eql 23 (pgV xs) (pgV ys)).run Try.prog w = .ok (.bool (xs == ys)) w := by
  have := run_equalIn_page w 9998 xs ys hx hy
  unfold pgV at *
  rw [run_eql_struct, this]; rfl
theorem run_neq_page (w : World) (xs ys : List Int) (hx : xs.length = 256) (hy : ys.length = 256) : (binOp .neq 23 (pgV xs) (pgV ys)).run Try.prog w = .ok (.bool (!(xs == ys))) w := by
  have := run_equalIn_page w 9998 xs ys hx hy
  unfold pgV at *
  rw [run_neq_struct, this]; rfl

theorem eqg_type : Try.prog.eqGuardType Try.prog.depth 23 = false := by kernel_rfl
theorem eqg_eql (x y : Operand) (p q : List Int) (w : World) : (eqGuard .eql 23 x y (pgV p) (pgV q)).run Try.prog w = .ok () w := by
  unfold pgV
  simp [eqGuard, eqg_type, go_sem]
theorem eqg_neq (x y : Operand) (p q : List Int) (w : World) : (eqGuard .neq 23 x y (pgV p) (pgV q)).run Try.prog w = .ok () w := by
  unfold pgV
  simp [eqGuard, eqg_type, go_sem]
theorem mixS_all (old new : List Int) (h : new.length = 256) : mixS old new (fun _ => true) 8 = new := by
  apply List.ext_getElem
  · rw [mixS_len, h]
  · intro i h1 h2
    have : i / 32 < 8 := by omega
    simp [mixS, this, List.getD, h2]
end Go.Proofs.Ythpcfijefcicpaa
/- Small facts that the texts of several layers share. -/
namespace Go.Proofs.Ythpcfijefcicpaa
open Go.RowKit Go.Proofs.U
theorem Hid.mk {p : Prop} (h : p) : Hid p := h
theorem info5 : (Try.prog.info? 5).map (fun i => (i.zero, i.size, i.bytes)) = some (some (.int .u8 0), 1, 1) := by kernel_rfl
theorem size5 : (Try.prog.info? 5).map (·.size) = some 1 := by kernel_rfl
theorem getu (k : IntKind) (l : List Int) (j : Nat) (u : Value) (h : (l.map (Value.int k))[j]? = some u) : u = .int k (l.getD j 0) := by
  simp at h; obtain ⟨x, hx, rfl⟩ := h; simp [List.getD, hx]
theorem u8_bd {x : Int} (h : (Lit.int .u8 x).wf = true) : 0 ≤ x ∧ x < 256 := by
  simp [Lit.wf, IntKind.min, IntKind.max, IntKind.signed, IntKind.bits] at h; omega
end Go.Proofs.Ythpcfijefcicpaa
/- Contracts of isWidth and allFit of package ends, for every list of at most 10^12 numbers. -/
namespace Go.Proofs.Ythpcfijefcicpaa
open Go.RowKit Go.Proofs.U

def isW (n : Int) : Bool := n == 1 || n == 2 || n == 4 || n == 8

set_option maxHeartbeats 400000 in
theorem isWidth_any (n : Int) (w : World) :
    Calls Try.prog 31 #[.int .i64 n] w fun e w' => e = .returned (.bool (isW n)) ∧ w = w' := by
  go_enter Try.func31, Try.ntmps31
  go_wp2
  all_goals go_ret
  all_goals refine ⟨?_, rfl⟩
  all_goals simp_all [isW]

theorem size26 : (Try.prog.info? 60).map (·.size) = some 1 := by kernel_rfl



def lim (width : Int) : Int := if width = 1 then 256 else if width = 2 then 65536 else if width = 4 then 4294967296 else 18446744073709551616
def fits (width x : Int) : Bool := decide (x < lim width)

theorem u64_bd {x : Int} (h : (Lit.int .u64 x).wf = true) : 0 ≤ x ∧ x < 18446744073709551616 := by
  simp [Lit.wf, IntKind.min, IntKind.max, IntKind.signed, IntKind.bits] at h; omega

theorem all_take_succ (f : Int → Bool) (l : List Int) (k : Nat) (h : k < l.length) : (l.take (k+1)).all f = ((l.take k).all f && f l[k]) := by
  rw [List.take_succ_eq_append_getElem h, List.all_append]; simp

theorem all_of_bad (f : Int → Bool) (l : List Int) (k : Nat) (h : k < l.length) (hf : f l[k] = false) : l.all f = false := by
  rw [List.all_eq_false]; exact ⟨l[k], by simp, by simp [hf]⟩

theorem fits_yes {d x : Int} {width : Int} (_h0 : 0 ≤ x) (hl : lim width = d) (hd : 0 < d) (h : (x / d != 0) = false) : fits width x = true := by
  have h1 : x / d = 0 := by simpa using h
  simp [fits, hl]
  rcases Int.lt_or_le x d with h3 | h3
  · exact h3
  · have := (Int.le_ediv_iff_mul_le hd (a := 1) (b := x)).2 (by omega); omega
theorem fits_no {d x : Int} {width : Int} (h0 : 0 ≤ x) (hl : lim width = d) (h : (x / d != 0) = true) : fits width x = false := by
  have h1 : x / d ≠ 0 := by simpa using h
  simp [fits, hl]
  rcases Int.lt_or_le x d with h3 | h3
  · exact absurd (Int.ediv_eq_zero_of_lt h0 h3) h1
  · exact h3

theorem fits_8 {x : Int} (h : x < 18446744073709551616) : fits 8 x = true := by
  simp [fits, lim, h]
set_option maxHeartbeats 1000000 in
theorem allFit_any (width : Int) (hwd : isW width = true) (vl : Value) (l : List Int) (w : World) (hl : SlI .u64 w vl l) (hm : l.length ≤ 1000000000000) :
    Calls Try.prog 32 #[.int .i64 width, vl] w fun e w' => e = .returned (.bool (l.all (fits width))) ∧ w = w' := by
  obtain ⟨a, cap, rfl, hcap⟩ := hl.opn
  have hS := hl.1
  have hwf := hl.2
  have hcase : width = 1 ∨ width = 2 ∨ width = 4 ∨ width = 8 := by simpa [isW, or_assoc] using hwd
  clear hl hwd
  obtain ⟨F, HF⟩ : ∃ F, Hid (F = fits width) := ⟨_, rfl⟩
  rw [← HF.out]
  rcases hcase with rfl | rfl | rfl | rfl
  rotate_left 3
  · go_enter Try.func32, Try.ntmps32
    go_wp2
    go_loop [9] (fun i => ∃ k : Nat, k ≤ l.length ∧ i = .int .i64 k ∧ Hid ((l.take k).all F = true)) (fun i => l.length - (intOf i).toNat)
    case atStart => exact ⟨0, Nat.zero_le _, rfl, show _ = _ by simp⟩
    case round =>
      obtain ⟨k, hk, rfl, hall⟩ := hrel
      by_cases hlt : k < l.length
      · have hb := u64_bd (hwf l[k] (by simp))
        go_wp2_with (refine wpList_idx1 rfl 61 _ _ rfl 60 Try.underlying61 size26 _ _ _ rfl hS _ _ k rfl rfl hlt ?_; intro p u hu hc; obtain rfl := getu _ _ _ _ hu)
        · go_round
          case rel => exact ⟨k + 1, by omega, by go_num, show _ = _ by rw [all_take_succ _ _ _ hlt, hall.out, HF.out, fits_8 hb.2]; rfl⟩
          case measure => simp [intOf]; omega
      · go_wp2
        go_ret
        have e : k = l.length := by omega
        subst e
        have hall := hall.out
        rw [List.take_length] at hall
        exact ⟨by rw [hall]; rfl, rfl⟩
  all_goals
    go_enter Try.func32, Try.ntmps32
    go_wp2
    go_loop [9] (fun i => ∃ k : Nat, k ≤ l.length ∧ i = .int .i64 k ∧ Hid ((l.take k).all F = true)) (fun i => l.length - (intOf i).toNat)
    case atStart => exact ⟨0, Nat.zero_le _, rfl, show _ = _ by simp⟩
    case round =>
      obtain ⟨k, hk, rfl, hall⟩ := hrel
      by_cases hlt : k < l.length
      · have hb := u64_bd (hwf l[k] (by simp))
        go_wp2_with (refine wpList_idx1 rfl 61 _ _ rfl 60 Try.underlying61 size26 _ _ _ rfl hS _ _ k rfl rfl hlt ?_; intro p u hu hc; obtain rfl := getu _ _ _ _ hu)
        · go_ret
          exact ⟨by rw [all_of_bad F l k hlt (by rw [HF.out]; exact fits_no hb.1 rfl ‹_›)]; rfl, rfl⟩
        · go_round
          case rel => exact ⟨k + 1, by omega, by go_num, show _ = _ by rw [all_take_succ _ _ _ hlt, hall.out, HF.out, fits_yes hb.1 rfl (by decide) ‹_›]; rfl⟩
          case measure => simp [intOf]; omega
      · go_wp2
        go_ret
        have e : k = l.length := by omega
        subst e
        have hall := hall.out
        rw [List.take_length] at hall
        exact ⟨by rw [hall]; rfl, rfl⟩
end Go.Proofs.Ythpcfijefcicpaa
/- Contract of ends.Put where it answers bytes, for lists of at most 10^12 numbers. -/
namespace Go.Proofs.Ythpcfijefcicpaa
open Go.RowKit Go.Proofs.U


def leB : Nat → Int → List Int
  | 0, _ => []
  | n + 1, x => x % 256 :: leB n (x / 256)
def putB (width : Nat) (l : List Int) : List Int := l.flatMap (leB width)

theorem leB_snoc (q : Nat) (x : Int) (_h : 0 ≤ x) : leB (q + 1) x = leB q x ++ [x / 256 ^ q % 256] := by
  induction q generalizing x with
  | zero => simp [leB]
  | succ q ih =>
    rw [leB, ih (x / 256) (by omega)]
    simp only [leB, List.cons_append]
    rw [Int.ediv_ediv_of_nonneg (by decide), Int.pow_succ, Int.mul_comm]
theorem leB_length (q : Nat) (x : Int) : (leB q x).length = q := by
  induction q generalizing x with
  | zero => rfl
  | succ q ih => simp [leB, ih]
theorem putB_length (W : Nat) (l : List Int) : (putB W l).length = l.length * W := by
  induction l with
  | nil => simp [putB]
  | cons x l ih => simp only [putB, List.flatMap_cons, List.length_append, leB_length, List.length_cons] at *; rw [ih, Nat.add_mul]; omega
theorem putB_take (W : Nat) (l : List Int) (k : Nat) (h : k < l.length) : putB W (l.take (k + 1)) = putB W (l.take k) ++ leB W l[k] := by
  unfold putB; rw [List.take_succ_eq_append_getElem h, List.flatMap_append]; simp
theorem div_step (x : Int) (q : Nat) : x / 256 ^ q / 256 = x / 256 ^ (q + 1) := by
  rw [Int.ediv_ediv_of_nonneg (Int.le_of_lt (Int.pow_pos (by decide))), Int.pow_succ]
theorem div_bd (x : Int) (q : Nat) (h : 0 ≤ x ∧ x < 18446744073709551616) : 0 ≤ x / 256 ^ q ∧ x / 256 ^ q < 18446744073709551616 := by
  have hp : (0 : Int) < 256 ^ q := Int.pow_pos (by decide)
  have h1 := Int.ediv_nonneg h.1 (Int.le_of_lt hp)
  have h2 := Int.ediv_le_self (256 ^ q) h.1
  omega

set_option maxHeartbeats 1000000 in
theorem put_yes (width : Int) (hwd : isW width = true) (vb vl : Value) (bs l : List Int) (w : World) (hb : SlI .u8 w vb bs) (hl : SlI .u64 w vl l) (hbm : bs.length ≤ 1000000000000) (hm : l.length ≤ 1000000000000) (hfit : l.all (fits width) = true) :
    Calls Try.prog 23 #[vb, .int .i64 width, vl] w fun e w' => ∃ v, e = .returned (.tuple #[v, .int .i64 0]) ∧ OwnI .u8 5 w' w.heap.size v (bs ++ putB width.toNat l) ∧ Fr noB w w' := by
  have hw1 : 1 ≤ width ∧ width ≤ 8 := by
    have : width = 1 ∨ width = 2 ∨ width = 4 ∨ width = 8 := by simpa [isW, or_assoc] using hwd
    omega
  obtain ⟨W, rfl⟩ := Int.eq_ofNat_of_zero_le (show 0 ≤ width by omega)
  obtain ⟨a, cap, rfl, hcap⟩ := hb.opn
  obtain ⟨a2, cap2, rfl, hcap2⟩ := hl.opn
  obtain ⟨i5, hi5, hz5, hs5, hy5⟩ := info_parts info5
  have Hwd : Hid (isW (W : Int) = true) := hwd
  have Hfit : Hid (l.all (fits W) = true) := hfit
  clear hwd hfit
  have hmul : (W : Int) * (l.length : Int) ≤ 8000000000000 := by
    have := Int.mul_le_mul (a := (W : Int)) (b := (l.length : Int)) (c := 8) (d := 1000000000000) (by omega) (by omega) (by omega) (by omega)
    omega
  have hmulN : W * l.length ≤ 8000000000000 := by have : ((W * l.length : Nat) : Int) = (W : Int) * (l.length : Int) := by simp
                                                  omega
  have hmul0 : 0 ≤ (W : Int) * (l.length : Int) := Int.mul_nonneg (by omega) (by omega)
  go_enter Try.func23, Try.ntmps23
  go_wp2_with (first | (go_at_call 31; refine (isWidth_any _ _).mono ?_; rintro e w' ⟨rfl, rfl⟩; rw [Hwd.out]) | (go_at_call 32; refine (allFit_any _ Hwd.out _ l _ hl hm).mono ?_; rintro e w' ⟨rfl, rfl⟩; rw [Hfit.out]) | (refine at_make 45 _ _ rfl ?_; go_must (refine wpList_make_own _ rfl _ _ 45 rfl w.heap.size 5 i5 _ 1 Try.underlying45 hi5 hz5 hs5 .i64 .i64 _ (bs.length + W * l.length) rfl rfl (by simp) ?hb2 ?hb3 (Nat.le_refl _) ?_; rotate_left 2; intro w1 hown hgr; have hf1 := Fr.of_grown hgr; have hbS := hb.1.fr0 hf1)) | (at_builtin; go_must (refine wpList_app rfl _ _ 45 rfl w.heap.size 5 _ 1 1 Try.underlying45 info5 rfl (by decide) _ _ _ rfl hown _ _ _ rfl hbS (ones _ _) ?hq1 ?hq2 hf1.size ?_; rotate_left 2; intro v2 w2 hown2 hgr2; have hf2 := hf1.grown hgr2 (owns_new hown))))
  case hb2 => rw [hy5]; omega
  case hb3 => unfold maxLen; omega
  case hq1 => unfold maxLen; omega
  case hq2 => omega
  have ho2 : OwnI .u8 5 w2 w.heap.size v2 bs := OwnI.mk _ hown2 (by simp)
  clear hown2 hgr2 hown hbS hgr
  go_loopw [8, 33] (fun out i wr => ∃ k : Nat, k ≤ l.length ∧ i = .int .i64 k ∧ OwnI .u8 5 wr w.heap.size out (bs ++ putB W (l.take k)) ∧ Fr noB w wr) (fun _ i _ => l.length - (intOf i).toNat)
  case atStart => exact ⟨0, Nat.zero_le _, rfl, by simpa [putB] using ho2, hf2⟩
  case round =>
    obtain ⟨k, hk, rfl, ho, hf⟩ := hrel
    rename_i out _ _
    by_cases hlt : k < l.length
    · have hbd := u64_bd (hl.2 l[k] (by simp))
      have hlS := hl.1.fr0 hf
      go_wp2_with (refine wpList_idx1 rfl 61 _ _ rfl 60 Try.underlying61 size26 _ _ _ rfl hlS _ _ k rfl rfl hlt ?_; intro p u hu hc; obtain rfl := getu _ _ _ _ hu)
      generalize hx : l[k] = x at *
      have HX := Hid.mk hx
      clear hx
      go_loopw [8, 10, 38] (fun out n j wr' => ∃ q : Nat, q ≤ W ∧ j = .int .i64 q ∧ n = .int .u64 (x / 256 ^ q) ∧ OwnI .u8 5 wr' w.heap.size out (bs ++ putB W (l.take k) ++ leB q x) ∧ Fr noB w wr') (fun _ _ j _ => W - (intOf j).toNat)
      case atStart => exact ⟨0, Nat.zero_le _, rfl, by simp, by simpa [leB] using ho, hf⟩
      case round =>
        obtain ⟨q, hq, rfl, rfl, ho', hf'⟩ := hrel
        have hxd := div_bd x q hbd
        generalize hy : x / 256 ^ q = y at *
        have HY := Hid.mk hy
        clear hy
        have hlen : (bs ++ putB W (l.take k) ++ leB q x).length ≤ 9000000000008 := by
          have h9 : k * W ≤ l.length * W := Nat.mul_le_mul_right _ hk
          simp [leB_length, putB_length, Nat.min_eq_left hk]
          rw [Nat.mul_comm l.length W] at h9; omega
        by_cases hqlt : q < W
        · go_wp2_with (at_builtin; go_must (refine wpList_app rfl _ _ 45 rfl w.heap.size 5 _ 1 1 Try.underlying45 info5 rfl (by decide) _ _ _ rfl (owns_alloc ho' _) _ _ _ rfl (Sl_one _ _ _) ?h1 ?hq1 ?hq2 ?hq3 ?_; rotate_left 4; intro v3 w3 hown3 hgr3))
          case h1 => simp [Value.oneCell']
          case hq1 => unfold maxLen; omega
          case hq2 => omega
          case hq3 => have := hf'.size; simp; omega
          have hf3 := (hf'.alloc _).grown hgr3 (owns_new ho')
          go_roundw
          case rel => exact ⟨q + 1, by omega, by go_num, by rw [← div_step, HY.out], OwnI.mk _ hown3 (by rw [leB_snoc q x hbd.1, HY.out]; simp), hf3⟩
          case measure => simp [intOf]; omega
        · go_wp2
          go_roundw
          case rel => exact ⟨k + 1, by omega, by go_num, by have eq : q = W := (by omega); rw [putB_take W l k hlt, HX.out, ← List.append_assoc]; rw [eq] at ho'; exact ho', hf'⟩
          case measure => simp [intOf]; omega
    · go_wp2
      go_ret2
      have e : k = l.length := by omega
      subst e
      simp only [List.take_length] at ho
      exact ⟨_, rfl, ho, hf⟩
end Go.Proofs.Ythpcfijefcicpaa
/- Contracts of ends.Put where it answers ErrWide, of copied, New, Left, Failed and Ended. -/
namespace Go.Proofs.Ythpcfijefcicpaa
open Go.RowKit Go.Proofs.U

set_option maxHeartbeats 1000000 in
theorem put_no (width : Int) (vb vl : Value) (bs l : List Int) (w : World) (hb : SlI .u8 w vb bs) (hl : SlI .u64 w vl l) (hm : l.length ≤ 1000000000000) (hno : (isW width && l.all (fits width)) = false) :
    Calls Try.prog 23 #[vb, .int .i64 width, vl] w fun e w' => e = .returned (.tuple #[.slice none 0 0, .int .i64 11]) ∧ Fr noB w w' := by
  obtain ⟨a, cap, rfl, hcap⟩ := hb.opn
  obtain ⟨a2, cap2, rfl, hcap2⟩ := hl.opn
  cases hwd : isW width with
  | false =>
    have Hwd := Hid.mk hwd
    clear hwd hno
    go_enter Try.func23, Try.ntmps23
    go_wp2_with (first | (go_at_call 31; refine (isWidth_any _ _).mono ?_; rintro e w' ⟨rfl, rfl⟩; rw [Hwd.out]))
    go_ret2
    exact ⟨rfl, Fr.refl _ _⟩
  | true =>
    have Hfit : Hid (l.all (fits width) = false) := by rw [hwd, Bool.true_and] at hno; exact hno
    have Hwd := Hid.mk hwd
    clear hwd hno
    go_enter Try.func23, Try.ntmps23
    go_wp2_with (first | (go_at_call 31; refine (isWidth_any _ _).mono ?_; rintro e w' ⟨rfl, rfl⟩; rw [Hwd.out]) | (go_at_call 32; refine (allFit_any _ Hwd.out _ l _ hl hm).mono ?_; rintro e w' ⟨rfl, rfl⟩; rw [Hfit.out]))
    go_ret2
    exact ⟨rfl, Fr.refl _ _⟩


set_option maxHeartbeats 1000000 in
theorem copied_any (vb : Value) (bs : List Int) (w : World) (hb : SlI .u8 w vb bs) (hbm : bs.length ≤ 1000000000000) :
    Calls Try.prog 33 #[vb] w fun e w' => ∃ v, e = .returned v ∧ OwnI .u8 5 w' w.heap.size v bs ∧ Fr noB w w' := by
  obtain ⟨a, cap, rfl, hcap⟩ := hb.opn
  obtain ⟨i5, hi5, hz5, hs5, hy5⟩ := info_parts info5
  go_enter Try.func33, Try.ntmps33
  go_wp2_with (first | (refine at_make 45 _ _ rfl ?_; go_must (refine wpList_make_full _ rfl _ _ 45 rfl w.heap.size 5 i5 _ 1 Try.underlying45 hi5 hz5 hs5 .i64 .i64 _ _ bs.length rfl rfl rfl rfl ?hb2 ?hb3 (Nat.le_refl _) ?_; rotate_left 2; intro w1 hown hgr; have hf1 := Fr.of_grown hgr; have hbS := hb.1.fr0 hf1)) | (refine wpList_cpy rfl _ _ 45 45 rfl 5 Try.underlying45 size5 w.heap.size 5 _ _ _ rfl hown _ _ _ rfl hbS (ones _ _) ?_; intro w2 hown2 hgr2; have hf2 := hf1.grown hgr2 (owns_new hown)))
  case hb2 => rw [hy5]; omega
  case hb3 => unfold maxLen; omega
  go_ret
  refine ⟨_, rfl, OwnI.mk _ hown2 ?_, hf2⟩
  have := hown.1
  rw [List.take_of_length_le (by simp), List.drop_of_length_le (by omega), List.append_nil]

/-- A reader at v: its bytes l, t of them taken, whether it failed. -/
def Rd (w : World) (b : Nat) (vb : Value) (l : List Int) (t : Nat) (f : Bool) : Prop :=
  w.cell? ⟨b, 0, none⟩ = some vb ∧ w.cell? ⟨b, 1, none⟩ = some (.int .i64 t) ∧ w.cell? ⟨b, 2, none⟩ = some (.bool f) ∧ (∀ i, w.frozen? ⟨b, i, none⟩ = false) ∧ SlI .u8 w vb l ∧ (∀ k, vb.ownBlock = some k → k ≠ b ∧ k < w.heap.size) ∧ t ≤ l.length ∧ l.length ≤ 1000000000000

set_option maxHeartbeats 1000000 in
theorem enew_any (vb : Value) (bs : List Int) (w : World) (hb : SlI .u8 w vb bs) (hbm : bs.length ≤ 1000000000000) :
    Calls Try.prog 24 #[vb] w fun e w' => ∃ b vb, e = .returned (.pointer (some ⟨b, 0, none⟩)) ∧ w.heap.size ≤ b ∧ (∀ k, vb.ownBlock = some k → w.heap.size ≤ k) ∧ Rd w' b vb bs 0 false ∧ Fr noB w w' := by
  obtain ⟨a, cap, rfl, hcap⟩ := hb.opn
  go_enter Try.func24, Try.ntmps24
  go_wp2_with (go_at_call 33; refine (copied_any _ _ _ hb hbm).mono ?_; rintro e w1 ⟨v, rfl, ho, hf⟩; obtain ⟨a3, c3, rfl⟩ := ho.opn)
  go_ret
  refine ⟨_, _, rfl, hf.size, fun k hk => (ho.newB k hk).1, ⟨by simp, by simp, by simp, fun i => by simp, (ho.sl hb.2).fr0 ((Fr.refl _ _).alloc _), fun k hk => ?_, Nat.zero_le _, hbm⟩, hf.alloc _⟩
  have := (ho.newB k hk).2; simp; omega

theorem Rd.fr {S : Nat → Prop} {w w' : World} {b : Nat} {vb : Value} {l : List Int} {t : Nat} {f : Bool} (h : Rd w b vb l t f) (hf : Fr S w w') (hb : ¬ S b) (hs : ∀ k, vb.ownBlock = some k → ¬ S k) : Rd w' b vb l t f := by
  obtain ⟨h0, h1, h2, h3, h4, h5, h6, h7⟩ := h
  exact ⟨hf.cell h0 hb, hf.cell h1 hb, hf.cell h2 hb, fun i => (World.frozen?_of_block (w := w) (hf.block b (World.block_lt_of_cell? w _ h0) hb)).trans (h3 i), h4.fr hf hs, fun k hk => ⟨(h5 k hk).1, Nat.lt_of_lt_of_le (h5 k hk).2 hf.size⟩, h6, h7⟩
theorem Rd.fr0 {w w' : World} {b : Nat} {vb : Value} {l : List Int} {t : Nat} {f : Bool} (h : Rd w b vb l t f) (hf : Fr noB w w') : Rd w' b vb l t f := h.fr hf (fun q => q) (fun _ _ q => q)

set_option maxHeartbeats 1000000 in
theorem left_any (b : Nat) (vb : Value) (l : List Int) (t : Nat) (f : Bool) (w : World) (hr : Rd w b vb l t f) :
    Calls Try.prog 35 #[.pointer (some ⟨b, 0, none⟩)] w fun e w' => e = .returned (.int .i64 ((l.length - t : Nat) : Int)) ∧ Fr noB w w' := by
  obtain ⟨h0, h1, h2, h3, h4, h5, h6, h7⟩ := hr
  obtain ⟨a, cap, rfl, hcap⟩ := h4.opn
  go_enter Try.func35, Try.ntmps35
  go_wp2
  go_quiet (fail)
  go_wp2
  go_ret
  refine ⟨?_, (Fr.refl _ _).drewN _⟩
  simp
  omega

end Go.Proofs.Ythpcfijefcicpaa
/- Contract of (*Reader).Take: where it fails and where it takes. -/
namespace Go.Proofs.Ythpcfijefcicpaa
open Go.RowKit Go.Proofs.U

theorem Rd.nf {w : World} {b : Nat} {vb : Value} {l : List Int} {t : Nat} {f : Bool} (h : Rd w b vb l t f) (i : Nat) : w.frozen? ⟨b, i, none⟩ = false := by
  obtain ⟨h0, h1, h2, h3, _⟩ := h; exact h3 i
/-- The reader's own block. -/
def onB (b : Nat) : Nat → Prop := fun k => k = b

theorem Rd.setF {w : World} {b : Nat} {vb : Value} {l : List Int} {t : Nat} {f : Bool} (h : Rd w b vb l t f) (f' : Bool) : Rd (w.setCell ⟨b, 2, none⟩ (.bool f')) b vb l t f' := by
  obtain ⟨h0, h1, h2, h3, h4, h5, h6, h7⟩ := h
  refine ⟨?_, ?_, ?_, fun i => ?_, h4.fr (S := onB b) ((Fr.refl _ _).setCell _ _ (fun _ => rfl)) (fun k hk q => (h5 k hk).1 q), fun k hk => ⟨(h5 k hk).1, by simpa [World.setCell] using (h5 k hk).2⟩, h6, h7⟩
  · refine (World.cell?_setCell_other (a := ⟨b, 2, none⟩) w _ _ (by simp)).trans ?_; exact h0
  · refine (World.cell?_setCell_other (a := ⟨b, 2, none⟩) w _ _ (by simp)).trans ?_; exact h1
  · exact World.cell?_setCell_same' _ _ _ (by rw [h2]; rfl)
  · rw [World.frozen?_setCell]; exact h3 i

set_option maxHeartbeats 1000000 in
theorem take_no (b : Nat) (vb : Value) (l : List Int) (t : Nat) (f : Bool) (n : Int) (w : World) (hr : Rd w b vb l t f) (hno : f = true ∨ n < 0 ∨ (l.length : Int) - t < n) :
    Calls Try.prog 26 #[.pointer (some ⟨b, 0, none⟩), .int .i64 n] w fun e w' => e = .returned (.slice none 0 0) ∧ Rd w' b vb l t true ∧ Fr (onB b) w w' := by
  have hr0 := hr
  obtain ⟨h0, h1, h2, h3, h4, h5, h6, h7⟩ := hr
  have h3' := h3 2
  by_cases hf : f = true
  · subst hf
    go_enter Try.func26, Try.ntmps26
    go_wp2
    go_ret
    exact ⟨rfl, hr0.setF _, (Fr.refl _ _).setCell _ _ (fun _ => rfl)⟩
  · obtain rfl : f = false := by simpa using hf
    by_cases hn : n < 0
    · go_enter Try.func26, Try.ntmps26
      go_wp2
      go_ret
      exact ⟨rfl, hr0.setF _, (Fr.refl _ _).setCell _ _ (fun _ => rfl)⟩
    · have hlt : ((l.length - t : Nat) : Int) < n := by rcases hno with h | h | h <;> first | exact absurd h hf | omega
      go_enter Try.func26, Try.ntmps26
      go_wp2_with (go_at_call 35; refine (left_any _ _ _ _ _ _ hr0).mono ?_; rintro e w1 ⟨rfl, hf1⟩; have h2' := hf1.cell h2 (fun q => q); have h3'' := (hr0.fr0 hf1).nf 2)
      go_ret
      exact ⟨rfl, (hr0.fr0 hf1).setF _, (hf1.mono (fun _ _ q => q.elim)).setCell _ _ (fun _ => rfl)⟩

theorem take_end {b : Nat} {vb : Value} {l L : List Int} {t n : Nat} {w w1 w2 : World} {v : Value} (hr : Rd w b vb l t false) (hn : n ≤ l.length - t) (hs : w.heap.size ≤ w1.heap.size) (hf : Fr noB w w2) (ho : OwnI .u8 5 w2 w1.heap.size v L) :
    ∃ v', Ending.returned v = .returned v' ∧ OwnI .u8 5 (w2.setCell ⟨b, 1, none⟩ (.int .i64 ((t : Int) + (n : Int)))) w.heap.size v' L ∧ Rd (w2.setCell ⟨b, 1, none⟩ (.int .i64 ((t : Int) + (n : Int)))) b vb l (t + n) false ∧ Fr (onB b) w (w2.setCell ⟨b, 1, none⟩ (.int .i64 ((t : Int) + (n : Int)))) := by
  have hbl : b < w.heap.size := by obtain ⟨h0, _⟩ := hr; exact World.block_lt_of_cell? w _ h0
  have hr2 := hr.fr0 hf
  obtain ⟨h0, h1, h2, h3, h4, h5, h6, h7⟩ := hr2
  refine ⟨v, rfl, (ho.fr (S := onB b) ((Fr.refl _ _).setCell ⟨b, 1, none⟩ _ (fun _ => rfl)) (fun k hk q => ?_)).rebase hs, ⟨?_, ?_, ?_, fun i => ?_, h4.fr (S := onB b) ((Fr.refl _ _).setCell ⟨b, 1, none⟩ _ (fun _ => rfl)) (fun k hk q => (h5 k hk).1 q), fun k hk => ⟨(h5 k hk).1, by simpa [World.setCell] using (h5 k hk).2⟩, by omega, h7⟩, (hf.mono (fun _ _ q => q.elim)).setCell ⟨b, 1, none⟩ _ (fun _ => rfl)⟩
  · have := (ho.newB k hk).1
    unfold onB at q; omega
  · refine (World.cell?_setCell_other (a := ⟨b, 1, none⟩) w2 _ _ (by simp)).trans ?_; exact h0
  · rw [World.cell?_setCell_same' _ _ _ (by rw [h1]; rfl)]; simp
  · refine (World.cell?_setCell_other (a := ⟨b, 1, none⟩) w2 _ _ (by simp)).trans ?_; exact h2
  · rw [World.frozen?_setCell]; exact h3 i

set_option maxHeartbeats 1000000 in
theorem take_yes (b : Nat) (vb : Value) (l : List Int) (t : Nat) (n : Nat) (w : World) (hr : Rd w b vb l t false) (hn : n ≤ l.length - t) :
    Calls Try.prog 26 #[.pointer (some ⟨b, 0, none⟩), .int .i64 n] w fun e w' => ∃ v, e = .returned v ∧ OwnI .u8 5 w' w.heap.size v ((l.drop t).take n) ∧ Rd w' b vb l (t + n) false ∧ Fr (onB b) w w' := by
  have hr0 := hr
  obtain ⟨h0, h1, h2, h3, h4, h5, h6, h7⟩ := hr
  obtain ⟨a, cap, rfl, hcap⟩ := h4.opn
  have h3' := h3 1
  have hlt : (n : Int) ≤ ((l.length - t : Nat) : Int) := by omega
  have hlt2 : ¬ ((l.length - t : Nat) : Int) < (n : Int) := by omega
  have hn0 : ¬ (n : Int) < 0 := by omega
  have hc1 : (t : Int) ≤ (t : Int) + (n : Int) := by omega
  have hc2 : (t : Int) + (n : Int) ≤ (cap : Int) := by omega
  have hwr : IntKind.i64.wrap ((t : Int) + (n : Int)) = (t : Int) + (n : Int) := by simp [IntKind.wrap, IntKind.bits, IntKind.signed]; omega
  have hsub : ((t : Int) + (n : Int)).toNat - t = n := by omega
  obtain ⟨av, cv, hav, Hcut⟩ : ∃ av cv, (∀ h : cap = t, n = 0 ∧ av = a ∧ cv = 0) ∧ (∀ h : ¬ cap = t, av = Option.map (fun x => x.add t) a ∧ cv = cap - t) ∧ ∀ wx, Fr noB w wx → SlI .u8 wx (.slice av n cv) ((l.drop t).take n) := by
    by_cases hct : cap = t
    · exact ⟨a, 0, fun _ => ⟨by omega, rfl, rfl⟩, fun h => absurd hct h, fun wx hf => (h4.fr0 hf).cut t n (by omega) (fun _ => rfl) (fun h => absurd hct h) (by omega)⟩
    · exact ⟨_, _, fun h => absurd h hct, fun _ => ⟨rfl, rfl⟩, fun wx hf => (h4.fr0 hf).cut t n (by omega) (fun h => absurd h hct) (fun _ => rfl) rfl⟩
  obtain ⟨hav2, Hcut⟩ := Hcut
  have hlen : ((l.drop t).take n).length ≤ 1000000000000 := by simp; omega
  generalize hL : (l.drop t).take n = L at *
  clear hL
  by_cases hct : cap = t
  · obtain ⟨hn00, rfl, rfl⟩ := hav hct
    rw [hn00] at Hcut
    clear hav hav2 hn00 hsub
    go_enter Try.func26, Try.ntmps26
    go_wp2_with (go_at_call 35; refine (left_any _ _ _ _ _ _ hr0).mono ?_; rintro e w1 ⟨rfl, hf1⟩; have h0' := hf1.cell h0 (fun q => q); have h1' := hf1.cell h1 (fun q => q); have h2' := hf1.cell h2 (fun q => q))
    go_region_with (go_at_call 33; refine (copied_any _ L _ (Hcut _ hf1.drew) hlen).mono ?_; rintro e w2 ⟨v, rfl, ho, hf2⟩; have hf3 : Fr noB w w2 := hf1.drew.thenN hf2; have q0 := hf3.cell h0 (fun q => q); have q1 := hf3.cell h1 (fun q => q); have q2 := hf3.cell h2 (fun q => q); have q3 := (hr0.fr0 hf3).nf 1)
    all_goals go_wp2
    all_goals go_ret
    all_goals exact take_end hr0 hn hf1.size hf3 ho
  · obtain ⟨rfl, rfl⟩ := hav2 hct
    clear hav hav2
    go_enter Try.func26, Try.ntmps26
    go_wp2_with (go_at_call 35; refine (left_any _ _ _ _ _ _ hr0).mono ?_; rintro e w1 ⟨rfl, hf1⟩; have h0' := hf1.cell h0 (fun q => q); have h1' := hf1.cell h1 (fun q => q); have h2' := hf1.cell h2 (fun q => q))
    go_region_with (go_at_call 33; refine (copied_any _ L _ (Hcut _ hf1.drew) hlen).mono ?_; rintro e w2 ⟨v, rfl, ho, hf2⟩; have hf3 : Fr noB w w2 := hf1.drew.thenN hf2; have q0 := hf3.cell h0 (fun q => q); have q1 := hf3.cell h1 (fun q => q); have q2 := hf3.cell h2 (fun q => q); have q3 := (hr0.fr0 hf3).nf 1)
    all_goals go_wp2
    all_goals go_ret
    all_goals exact take_end hr0 hn hf1.size hf3 ho
end Go.Proofs.Ythpcfijefcicpaa
/- Contract of slices.Backward over bytes, and of Take in one form. -/
namespace Go.Proofs.Ythpcfijefcicpaa
open Go.RowKit Go.Shelf Go.Proofs.U
attribute [local go_sem] Oper.semAt_some

def upto {α : Type} (f : Nat → α) (k : Nat) : List α := (List.range k).map f
theorem upto_succ {α : Type} (f : Nat → α) (k : Nat) : upto f (k + 1) = upto f k ++ [f k] := by simp [upto, List.range_succ]
theorem upto_length {α : Type} (f : Nat → α) (k : Nat) : (upto f k).length = k := by simp [upto]

/-- Below n₀ all blocks but B are as they were. -/
def KB (n₀ B : Nat) (W W' : World) : Prop := ∀ k, k < n₀ → k ≠ B → W'.heap[k]? = W.heap[k]?
theorem KB.refl (n₀ B : Nat) (W : World) : KB n₀ B W W := fun _ _ _ => rfl
theorem KB.t {n₀ B : Nat} {X Y Z : World} (h : KB n₀ B X Y) (k : KB n₀ B Y Z) : KB n₀ B X Z := fun i hi hb => (k i hi hb).trans (h i hi hb)
theorem KB.b {n₀ B : Nat} {w : World} (hn : n₀ ≤ w.heap.size) (W : World) (l : Nat) (o o' : Obj) (hl : w.heap.size ≤ l) (_h : W.heap[l]? = some o) (_ : o.isCells = false) (_ : o.isWalk = false) : KB n₀ B W (W.putObj l o') := fun k hk _ =>
  (grownBy_putObj' W l o').block k (by have := (Array.getElem?_eq_some_iff.1 _h).1; omega) (fun e => by cases e; omega)
theorem KB.cell {n₀ B : Nat} {W W' : World} (h : KB n₀ B W W') {p : Addr} (hp : p.block < n₀) (hb : p.block ≠ B) : W'.cell? p = W.cell? p := World.cell?_of_block (w := W) (h p.block hp hb)

def back (zs : List Int) (j : Nat) : Int × Int := (((zs.length : Int) - 1 - j), zs[zs.length - 1 - j]?.getD 0)

set_option maxRecDepth 100000 in
set_option maxHeartbeats 2000000 in
theorem backward1_in (F : Fence) (n : Nat) (h7 : F.fn 39) (hro : F.round = none) (hn : 1 ≤ n) (l Bs n₀ B b off cap : Nat) (zs : List Int) (hreach : zs.length ≤ 1000000000000) (hb : b < n₀) (hbB : b ≠ B) (hBs : Bs < n₀) (hBsB : Bs ≠ B) (J Jx : List (Int × Int) → World → Prop)
    (hY : ∀ pre x W, J pre W → pre.length < zs.length → YieldAt F (n - 1) Try.prog l #[.int .i64 x.1, .int .u8 x.2] W fun e W' =>
      (e = .returned (.bool true) ∧ J (pre ++ [x]) W' ∧ KB n₀ B W W') ∨ (e = .returned (.bool false) ∧ Jx (pre ++ [x]) W'))
    (W : World) (hc0 : W.cell? ⟨Bs, 0, none⟩ = some (.slice (some ⟨b, off, none⟩) zs.length cap)) (hc : ∀ j, j < zs.length → W.cell? ⟨b, off + j, none⟩ = some (.int .u8 (zs[j]?.getD 0))) (h0 : J [] W) :
    CallsIn F n Try.prog 39 #[.func (.yield l) #[] #[], .pointer (some ⟨Bs, 0, none⟩)] W fun e W' => (∃ v, e = .returned v) ∧
      ((∃ ys, ys = upto (back zs) zs.length ∧ J ys W') ∨ (∃ pre, (∃ k, k ≤ zs.length ∧ pre = upto (back zs) k) ∧ Jx pre W')) := by
  refine callsIn_of_wp Try.func39 rfl h7 ?_ hro
  simp only [Try.ntmps39, List.size_toArray, List.length_cons, List.length_nil, Nat.reduceAdd, Nat.reduceSub, Array.replicate_succ, Array.replicate_zero, List.push_toArray, List.append_toArray, List.nil_append, List.cons_append]
  gi_wp2
  gi_loopw [3] (fun i wr => ∃ k : Nat, k ≤ zs.length ∧ i = .int .i64 ((zs.length : Int) - 1 - k) ∧ J (upto (back zs) k) wr ∧ KB n₀ B W wr)
    (fun i _ => (intOf i + 1).toNat)
  case atStart => exact ⟨0, Nat.zero_le _, by simp, h0, KB.refl _ _ _⟩
  case round =>
    obtain ⟨k, hk, rfl, hJs, hnx⟩ := hrel
    have hc0' := (hnx.cell (p := ⟨Bs, 0, none⟩) hBs hBsB).trans hc0
    by_cases hlt : k < zs.length
    · obtain ⟨fn, tmps, assign, body, hy, hR⟩ := hY _ (back zs k) wr hJs (by rw [upto_length]; exact hlt)
      dsimp only [back] at hy
      have hcx : wr.cell? ⟨b, off + (zs.length - 1 - k), none⟩ = some (.int .u8 (zs[zs.length - 1 - k]?.getD 0)) := (hnx.cell (p := ⟨b, off + (zs.length - 1 - k), none⟩) hb hbB).trans (hc (zs.length - 1 - k) (by omega))
      have hi1 : (0 : Int) ≤ (zs.length : Int) - 1 - k := by omega
      have hi2 : (zs.length : Int) - 1 - k < (zs.length : Int) := by omega
      have hi3 : ((zs.length : Int) - 1 - k).toNat = zs.length - 1 - k := by omega
      gi_wp2
      refine hR.mono ?_
      rintro e W3 (⟨rfl, hJ3, hk3⟩ | ⟨rfl, hJx3⟩)
      · gi_wp2
        go_roundw
        case rel => exact ⟨k + 1, by omega, by go_num, by rw [upto_succ]; exact hJ3, hnx.t hk3⟩
        case measure => simp [intOf]; omega
      · gi_wp2
        refine bodyPost_ret (results_none rfl _ _ _) rfl ?_
        exact ⟨⟨_, rfl⟩, .inr ⟨_, ⟨k + 1, by omega, (upto_succ _ _).symm⟩, hJx3⟩⟩
    · obtain rfl : k = zs.length := by omega
      gi_wp2
      go_end0
      exact ⟨⟨_, rfl⟩, .inl ⟨_, rfl, hJs⟩⟩

set_option maxRecDepth 100000 in
set_option maxHeartbeats 1000000 in
theorem backward1_nil_in (F : Fence) (n : Nat) (h7 : F.fn 39) (hro : F.round = none) (l Bs : Nat) (a : Option Addr) (cap : Nat) (J : List (Int × Int) → World → Prop) (W : World) (hBs : W.cell? ⟨Bs, 0, none⟩ = some (.slice a 0 cap)) (h0 : J [] W) :
    CallsIn F n Try.prog 39 #[.func (.yield l) #[] #[], .pointer (some ⟨Bs, 0, none⟩)] W fun e W' => (∃ v, e = .returned v) ∧ J [] W' := by
  refine callsIn_of_wp Try.func39 rfl h7 ?_ hro
  simp only [Try.ntmps39, List.size_toArray, List.length_cons, List.length_nil, Nat.reduceAdd, Nat.reduceSub, Array.replicate_succ, Array.replicate_zero, List.push_toArray, List.append_toArray, List.nil_append, List.cons_append]
  gi_wp2
  gi_loopw [3] (fun i wr => i = .int .i64 (-1) ∧ J [] wr) (fun _ _ => 0)
  case atStart => exact ⟨rfl, h0⟩
  case round =>
    obtain ⟨rfl, hJs⟩ := hrel
    gi_wp2
    go_end0
    exact ⟨⟨_, rfl⟩, hJs⟩

set_option maxHeartbeats 1000000 in
theorem backward_in (F : Fence) (n : Nat) (h5 : F.fn 37) (hro : F.round = none) (a : Option Addr) (len cap : Nat) (w : World) :
    CallsIn F n Try.prog 37 #[.slice a len cap] w fun e w' => e = .returned (.func (.func 39) #[] #[.pointer (some ⟨w.heap.size, 0, none⟩)]) ∧ w' = w.alloc (.cells #[.slice a len cap] 45) := by
  refine callsIn_of_wp Try.func37 rfl h5 ?_ hro
  simp only [Try.ntmps37, List.size_toArray, List.length_cons, List.length_nil, Nat.reduceAdd, Nat.reduceSub, Array.replicate_succ, Array.replicate_zero, List.push_toArray, List.append_toArray, List.nil_append, List.cons_append]
  gi_wp2
  go_ret
  exact ⟨rfl, rfl⟩

/-- slices.Backward over bytes that lie below n₀, not in block B: for every body that keeps all but B there. -/
theorem backward_stops (F : Fence) (n : Nat) (h7 : F.fn 39) (hro : F.round = none) (hn : 1 ≤ n) (Bs n₀ B : Nat) (sv : Value) (zs : List Int) (hreach : zs.length ≤ 1000000000000) (w : World) (hn₀ : n₀ ≤ w.heap.size) (hBs : Bs < n₀) (hBsB : Bs ≠ B)
    (hc : w.cell? ⟨Bs, 0, none⟩ = some sv) (hI : SlI .u8 w sv zs) (hlt : ∀ k, sv.ownBlock = some k → k < n₀ ∧ k ≠ B) :
    SeqStopsK F n Try.prog 39 #[.pointer (some ⟨Bs, 0, none⟩)] (fun x : Int × Int => #[Value.int .i64 x.1, Value.int .u8 x.2]) (KB n₀ B) (fun ys => ys = upto (back zs) zs.length)
      (fun pre => ∃ k, k ≤ zs.length ∧ pre = upto (back zs) k) zs.length w := fun l J Jx W hW _ _ hY h0 => by
  have hc' := (hW.cell (p := ⟨Bs, 0, none⟩) (Nat.lt_of_lt_of_le hBs hn₀)).trans hc
  have hI' := hI.fr0 (Fr.of_below hW)
  obtain ⟨⟨ao, cap, rfl, hcap, hlen, hnone, hsome⟩, hwf⟩ := hI'
  by_cases hz : zs.length = 0
  · rw [hz] at hc'
    refine (backward1_nil_in F n h7 hro l Bs ao cap J W hc' h0).mono fun e W' ⟨he, hj⟩ => ⟨he, .inl ⟨[], ?_, hj⟩⟩
    simp [upto, hz]
  · cases ao with
    | none => have := hnone rfl; omega
    | some ad =>
      obtain ⟨b, off, sp⟩ := ad
      have hcell := hsome _ rfl
      have hsp : sp = none := by
        have := hcell 0 _ (List.getElem?_eq_getElem (by simp; omega))
        simpa [Addr.add] using World.cell?_spot this
      subst hsp
      obtain ⟨h1, h2⟩ := hlt b rfl
      refine backward1_in F n h7 hro hn l Bs n₀ B b off cap zs hreach h1 h2 hBs hBsB J Jx hY W hc' (fun j hj => ?_) h0
      have := hcell j (.int .u8 (zs[j]?.getD 0)) (by simp [hj])
      rwa [Addr.plain] at this

/-- What Take answers and leaves: the bytes, how many were taken, whether it failed. -/
def tkOk (l : List Int) (t : Nat) (f : Bool) (n : Int) : Bool := !f && decide (0 ≤ n) && decide (n ≤ ((l.length - t : Nat) : Int))
def tkL (l : List Int) (t : Nat) (f : Bool) (n : Int) : List Int := if tkOk l t f n then (l.drop t).take n.toNat else []
def tkT (l : List Int) (t : Nat) (f : Bool) (n : Int) : Nat := if tkOk l t f n then t + n.toNat else t
def tkF (l : List Int) (t : Nat) (f : Bool) (n : Int) : Bool := !tkOk l t f n

theorem take_any (b : Nat) (vb : Value) (l : List Int) (t : Nat) (f : Bool) (n : Int) (w : World) (hr : Rd w b vb l t f) :
    Calls Try.prog 26 #[.pointer (some ⟨b, 0, none⟩), .int .i64 n] w fun e w' => ∃ v, e = .returned v ∧ OwnI .u8 5 w' w.heap.size v (tkL l t f n) ∧ Rd w' b vb l (tkT l t f n) (tkF l t f n) ∧ Fr (onB b) w w' := by
  have ht : t ≤ l.length := by obtain ⟨h0, h1, h2, h3, h4, h5, h6, h7⟩ := hr; exact h6
  cases hk : tkOk l t f n with
  | true =>
    have hk' := hk
    simp [tkOk] at hk
    obtain ⟨⟨rfl, hn0⟩, hn⟩ := hk
    obtain ⟨m, rfl⟩ := Int.eq_ofNat_of_zero_le hn0
    refine (take_yes b vb l t m w hr (by omega)).mono ?_
    rintro e w' ⟨v, rfl, ho, hr', hf⟩
    refine ⟨v, rfl, ?_, ?_, hf⟩
    · simpa [tkL, hk'] using ho
    · simpa [tkT, tkF, hk'] using hr'
  | false =>
    have hk' := hk
    simp [tkOk] at hk
    refine (take_no b vb l t f n w hr ?_).mono ?_
    · by_cases hf : f = true
      · exact .inl hf
      · by_cases hn0 : 0 ≤ n
        · have := hk (by simpa using hf) hn0; omega
        · omega
    · rintro e w' ⟨rfl, hr', hf⟩
      refine ⟨_, rfl, ?_, ?_, hf⟩
      · simpa [tkL, hk'] using OwnI.mk (k := .u8) [] (World.ownsRow_nil w' w.heap.size 5 1) rfl
      · simpa [tkT, tkF, hk'] using hr'
end Go.Proofs.Ythpcfijefcicpaa
