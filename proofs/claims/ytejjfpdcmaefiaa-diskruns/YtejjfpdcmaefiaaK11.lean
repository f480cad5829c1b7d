/- Pages compared; a disk of ten pages. -/
import Derived.Test.YtejjfpdcmaefiaaK10
import Derived.Stop.BytesEq
namespace Go.Proofs.U
open Go.RowKit
section
variable {P : Program} {ops : Array Oper} {Q : Exit → Act → World → Prop} {a : Act} {w : World} {o : Oper} {fs : List (Value → Prop)} {J : List Value → World → Prop} {k : Nat} {hv : List Value}
theorem unwanted_of {j d : Nat} {b : Bool} (hg : o.guard = some (j, b)) (hd : dstAt ops j = some d) (h : a.eval (.tmp d) = .bool (!b)) : Region.wanted o (yielded ops a.tmps) = false := by
  have h1 : a.tmps[d]? = some (.bool (!b)) := by
    have h2 : a.tmps.getD d undef = .bool (!b) := h
    rw [Array.getD_eq_getD_getElem?] at h2
    cases hq : a.tmps[d]? with
    | none => rw [hq] at h2; simp [undef] at h2
    | some v => rw [hq] at h2; simp at h2; rw [h2]
  unfold dstAt at hd
  cases b <;> simp [Region.wanted, hg, yielded, hd, h1]
theorem light_no (hw : Region.wanted o (yielded ops a.tmps) = false) (hF : factL fs k undef) :
    if Region.wanted o (yielded ops a.tmps) = true then o.wp P a w (fun a' w' => ∃ v, a' = a.put o.dst v ∧ J hv w' ∧ factL fs k v) Q else factL fs k undef := by
  rw [hw]; simpa using hF
end
end Go.Proofs.U
namespace Go.Proofs.Ytejjfpdcmaefiaa
open Go.RowKit Go.Proofs.U
set_option linter.unusedSimpArgs false
set_option linter.unusedVariables false

theorem all_range_eqI : ∀ (xs ys : List Int), xs.length = ys.length → ((List.range xs.length).all fun i => xs.getD i 0 == ys.getD i 0) = (xs == ys)
  | [], [], _ => rfl
  | x :: xs, y :: ys, h => by
    have ih := all_range_eqI xs ys (by simpa using h)
    rw [List.length_cons, List.range_succ_eq_map, List.all_cons, List.all_map]
    simp only [List.getD_cons_zero, Function.comp_def, List.getD_cons_succ, ih]
    simp [List.cons_beq_cons]
  | [], _ :: _, h => by simp at h
  | _ :: _, [], h => by simp at h

theorem run_equalIn_page (w : World) (d : Nat) (xs ys : List Int) (hx : xs.length = 256) (hy : ys.length = 256) :
    (Op.equalIn (d + 2) 25 (pgV xs) (pgV ys)).run Try.prog w = .ok (xs == ys) w := by
  have he : Try.prog.underlying 5 = some (.int .u8) := Try.underlying5
  have ht : Try.prog.underlying 25 = some (.array 256 5) := by kernel_rfl
  have hsz : ∀ w, (sizeOf 5).run Try.prog w = .ok 1 w := fun w => by kernel_rfl
  unfold pgV pgv
  rw [← all_range_eqI xs ys (hx.trans hy.symm), hx, List.range_eq_range', Op.equalIn]
  simp only [Sem.run_bind, run_underlying ht, Result.andThen_ok, hsz, Std.Legacy.Range.forIn_eq_forIn_range', Std.Legacy.Range.size, Nat.sub_zero, Nat.add_sub_cancel, Nat.div_one]
  have hl : ∀ i ∈ List.range' 0 256 1, i < 256 := fun i hi => by simpa using (List.mem_range'_1.1 hi).2
  generalize List.range' 0 256 1 = l at hl ⊢
  induction l with
  | nil => simp
  | cons i l ih =>
    have hi : i < 256 := hl i (by simp)
    have px : (part 5 (xs.map (Value.int .u8)).toArray (i * 1)).run Try.prog w = .ok (.int .u8 (xs.getD i 0)) w := by
      simp [part, isAgg, run_underlying he, List.getD, List.getElem?_eq_getElem (show i < xs.length by omega)]
    have py : (part 5 (ys.map (Value.int .u8)).toArray (i * 1)).run Try.prog w = .ok (.int .u8 (ys.getD i 0)) w := by
      simp [part, isAgg, run_underlying he, List.getD, List.getElem?_eq_getElem (show i < ys.length by omega)]
    have pe : (Op.equalIn (d + 1) 5 (.int .u8 (xs.getD i 0)) (.int .u8 (ys.getD i 0))).run Try.prog w = .ok (xs.getD i 0 == ys.getD i 0) w := by
      rw [run_equalIn_int w d 5 .u8 .u8 _ _ he]
    simp only [List.forIn_cons, Sem.run_bind, px, py, pe, Result.andThen_ok, List.all_cons]
    cases hb : (xs.getD i 0 == ys.getD i 0)
    · simp
    · simp only [Bool.not_true, Bool.false_eq_true, if_false, Sem.run_pure, Result.andThen_ok, Bool.true_and]
      exact ih fun j hj => hl j (by simp [hj])
theorem run_eql_page (w : World) (xs ys : List Int) (hx : xs.length = 256) (hy : ys.length = 256) : (binOp .eql 25 (pgV xs) (pgV ys)).run Try.prog w = .ok (.bool (xs == ys)) w := by
  have := run_equalIn_page w 9998 xs ys hx hy
  unfold pgV at *
  rw [run_eql_struct, this]; rfl
theorem run_neq_page (w : World) (xs ys : List Int) (hx : xs.length = 256) (hy : ys.length = 256) : (binOp .neq 25 (pgV xs) (pgV ys)).run Try.prog w = .ok (.bool (!(xs == ys))) w := by
  have := run_equalIn_page w 9998 xs ys hx hy
  unfold pgV at *
  rw [run_neq_struct, this]; rfl

theorem eqg_type : Try.prog.eqGuardType Try.prog.depth 25 = false := by kernel_rfl
theorem eqg_eql (x y : Operand) (p q : List Int) (w : World) : (eqGuard .eql 25 x y (pgV p) (pgV q)).run Try.prog w = .ok () w := by
  unfold pgV
  simp [eqGuard, eqg_type, go_sem]
theorem eqg_neq (x y : Operand) (p q : List Int) (w : World) : (eqGuard .neq 25 x y (pgV p) (pgV q)).run Try.prog w = .ok () w := by
  unfold pgV
  simp [eqGuard, eqg_type, go_sem]
theorem mixS_all (old new : List Int) (h : new.length = 256) : mixS old new (fun _ => true) 8 = new := by
  apply List.ext_getElem
  · rw [mixS_len, h]
  · intro i h1 h2
    have : i / 32 < 8 := by omega
    simp [mixS, this, List.getD, h2]
end Go.Proofs.Ytejjfpdcmaefiaa
