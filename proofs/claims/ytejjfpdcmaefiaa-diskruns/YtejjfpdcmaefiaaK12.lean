/- Pages loaded and compared where a guard asks for it. -/
import Derived.Test.YtejjfpdcmaefiaaOpenD
namespace Go.Proofs.Ytejjfpdcmaefiaa
open Go.RowKit Go.Proofs.U
set_option linter.unusedSimpArgs false
set_option linter.unusedVariables false
section
variable {w : World} {ops : Array Oper} {rest : List Oper} {o : Oper} {a : Act} {Q : Exit → Act → World → Prop}
theorem wpList_loadPw (hgd : Region.wanted o (yielded ops a.tmps) = true) (x : Operand) (ho : o.op = .load 25 x) (g : Nat) (hx : a.eval x = .pointer (some ⟨g, 0, none⟩)) (p : List Int) (hA : BxV w g 25 (pgv p)) (hp : p.length = 256)
    (h : wpList Try.prog ops Q rest (a.put o.dst (pgV p)) w) : wpList Try.prog ops Q (o :: rest) a w := by
  refine wpList_wanted hgd fun K hK => ?_
  have hr := run_loadP w g 0 p (hA.range 0 (pgv p) (by show (pgv p).take (pgv p).length = pgv p; exact List.take_length)) hp
  unfold Oper.wp execOp
  simp only [ho, hx, Sem.run_bind, hr, Result.andThen_ok]
  exact hK _ _ h
theorem at_bin (b : BinOp) (t t' : TypeId) (x y : Operand) (_ho : o.op = .binOp b t x y t') (h : wpList Try.prog ops Q (o :: rest) a w) : wpList Try.prog ops Q (o :: rest) a w := h
theorem wpList_neqP (hgd : Region.wanted o (yielded ops a.tmps) = true) (x y : Operand) (ho : o.op = .binOp .neq 25 x y 25) (p q : List Int) (hx : a.eval x = pgV p) (hy : a.eval y = pgV q) (hp : p.length = 256) (hq : q.length = 256)
    (h : wpList Try.prog ops Q rest (a.put o.dst (.bool (!(p == q)))) w) : wpList Try.prog ops Q (o :: rest) a w := by
  refine wpList_wanted hgd fun K hK => ?_
  have hr := run_neq_page w p q hp hq
  unfold Oper.wp
  simp [execOp, ho, hx, hy, hr, eqg_neq, Result.andThen]
  exact hK _ _ h
end
end Go.Proofs.Ytejjfpdcmaefiaa
