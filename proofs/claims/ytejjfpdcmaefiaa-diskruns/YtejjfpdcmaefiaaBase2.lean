/- More laws of the walk over slices; no condition. -/
import Derived.Test.YtejjfpdcmaefiaaBase
namespace Go.Proofs.U
open Go.RowKit

/-- How many elements: for a loop's measure. -/
def lenV : Value → Nat | .slice _ n _ => n | _ => 0
section
variable {P : Program} {w : World} {ops : Array Oper} {rest : List Oper} {o : Oper} {a : Act} {Q : Exit → Act → World → Prop}

/-- x[:hi]. -/
theorem wpList_cuth (hgd : Region.wanted o (yielded ops a.tmps) = true) (t : TypeId) (x : Operand) (hi : Operand) (ho : o.op = .slice t x none (some hi) none) (e : TypeId) (ht : P.underlying t = some (.slice e)) (sz : Nat) (hsz : (P.info? e).map (·.size) = some sz)
    (ao : Option Addr) (n cap : Nat) (hx : a.eval x = .slice ao n cap) (kh : IntKind) (zh : Int) (j : Nat) (hhi : a.eval hi = .int kh zh) (hzh : zh = (j : Int)) (hj : j ≤ cap)
    (h : wpList P ops Q rest (a.put o.dst (.slice ao j cap)) w) : wpList P ops Q (o :: rest) a w := by
  refine wpList_wanted hgd fun K hK => ?_
  subst hzh
  obtain ⟨ii, hinf, hsz'⟩ := Option.map_eq_some_iff.1 hsz
  have e0 : (ao.map (·.add 0) : Option Addr) = ao := by cases ao <;> rfl
  have hrun : (Instr.sliceAt t (.slice ao n cap) none (some (.int kh (j : Int))) none).run P w = .ok (.slice ao j cap) w := by
    simp [Instr.sliceAt, Instr.slice, Instr.sliceBounds, Instr.sliceBound, asIntOf, run_underlying ht, sizeOf, typeInfo, hinf, go_sem]
    omega
  unfold Oper.wp
  simp [execOp, ho, hx, hhi, hrun, Result.andThen]
  exact hK _ _ h

theorem SlI.takeN {k : IntKind} {w : World} {ao : Option Addr} {n cap : Nat} {l : List Int} (h : SlI k w (.slice ao n cap) l) (m : Nat) (hm : m ≤ l.length) : SlI k w (.slice ao m cap) (l.take m) := by
  have e0 : (ao.map (·.add 0) : Option Addr) = ao := by cases ao <;> rfl
  have := h.cut 0 m (by omega) (ao' := ao) (fun _ => rfl) (fun _ => e0.symm) (c' := cap) rfl
  simpa using this
end
end Go.Proofs.U
