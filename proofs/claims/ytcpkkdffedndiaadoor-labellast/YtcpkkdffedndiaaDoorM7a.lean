/- The greatest label of some, in whichever order: plain facts; and what is known while LabelLast turns its labels. -/
import Derived.Test.YtcpkkdffedndiaaDoorL5
import Derived.Test.YtcpkkdffedndiaaDoorBaseM
namespace Go.Proofs.YtcpkkdffedndiaaDoor
open Go.RowKit Go.Proofs.U
set_option linter.unusedSimpArgs false
set_option linter.unusedVariables false

abbrev leL (x y : Int × Int) : Prop := cmpL x.1 x.2 y.1 y.2 ≤ 0
theorem leL_iff (x y : Int × Int) : leL x y ↔ (x.1 < y.1 ∨ (x.1 = y.1 ∧ x.2 ≤ y.2)) := by
  unfold leL cmpL c1
  repeat' split
  all_goals omega
theorem leL_refl (x : Int × Int) : leL x x := (leL_iff x x).2 (Or.inr ⟨rfl, Int.le_refl _⟩)
theorem leL_trans {x y z : Int × Int} (h1 : leL x y) (h2 : leL y z) : leL x z := by
  rw [leL_iff] at *; omega
theorem leL_anti {x y : Int × Int} (h1 : leL x y) (h2 : leL y x) : x = y := by
  rw [leL_iff] at *
  exact Prod.ext (by omega) (by omega)
theorem upL_ge (c x : Int × Int) : leL c (upL c x) ∧ leL x (upL c x) := by
  unfold upL
  split
  · rename_i h
    refine ⟨?_, leL_refl x⟩
    rw [leL_iff]
    have : ¬ leL x c := by unfold leL; omega
    rw [leL_iff] at this
    omega
  · rename_i h
    exact ⟨leL_refl c, by unfold leL; omega⟩
theorem fold_ge : ∀ (l : List (Int × Int)) (c : Int × Int), leL c (l.foldl upL c) ∧ ∀ x ∈ l, leL x (l.foldl upL c) := by
  intro l
  induction l with
  | nil => intro c; exact ⟨leL_refl c, by simp⟩
  | cons y l ih =>
    intro c
    obtain ⟨h1, h2⟩ := ih (upL c y)
    obtain ⟨h3, h4⟩ := upL_ge c y
    refine ⟨leL_trans h3 h1, fun x hx => ?_⟩
    simp at hx
    rcases hx with rfl | hx
    · exact leL_trans h4 h1
    · exact h2 x hx
theorem fold_mem : ∀ (l : List (Int × Int)) (c : Int × Int), l.foldl upL c = c ∨ l.foldl upL c ∈ l := by
  intro l
  induction l with
  | nil => intro c; exact Or.inl rfl
  | cons y l ih =>
    intro c
    rcases ih (upL c y) with h | h
    · rw [List.foldl_cons, h]
      unfold upL
      split
      · right; simp
      · left; rfl
    · right; simp [h]
theorem last_ge (l : List (Int × Int)) : ∀ x ∈ l, leL x (lastL l) := (fold_ge l (0, 0)).2
theorem last_zero (l : List (Int × Int)) : leL (0, 0) (lastL l) := (fold_ge l (0, 0)).1
theorem last_same {l l' : List (Int × Int)} (h : ∀ x, x ∈ l ↔ x ∈ l') : lastL l = lastL l' := by
  have half : ∀ {l l' : List (Int × Int)}, (∀ x, x ∈ l → x ∈ l') → leL (lastL l) (lastL l') := by
    intro l l' h
    rcases fold_mem l (0, 0) with e | e
    · have : lastL l = (0, 0) := e
      rw [this]; exact last_zero l'
    · exact last_ge l' _ (h _ e)
  exact leL_anti (half fun x hx => (h x).1 hx) (half fun x hx => (h x).2 hx)
theorem last_mem {l : List (Int × Int)} (hU : ∀ x ∈ l, U2 x.1 x.2) (hne : l ≠ []) : lastL l ∈ l := by
  rcases fold_mem l (0, 0) with e | e
  · have e : lastL l = (0, 0) := e
    cases l with
    | nil => exact absurd rfl hne
    | cons y l =>
      have h1 := last_ge (y :: l) y (by simp)
      rw [e, leL_iff] at h1
      have h2 := hU y (by simp)
      have h3 := h2.e0
      have h4 := h2.s0
      have : y = (0, 0) := by
        simp only at h1
        exact Prod.ext (by simp; omega) (by simp; omega)
      rw [e, ← this]; simp
  · exact e
theorem last_turn (l : List (Int × Int)) (t : Nat) : lastL (l.drop t ++ l.take t) = lastL l := by
  apply last_same
  intro x
  rw [List.mem_append, Or.comm, ← List.mem_append, List.take_append_drop]

def JL (w0 : World) (A B : List (Int × Int)) (R : Value) : List Value → World → Prop
  | [], w => Fr noB w0 w
  | [v], w => Fr noB w0 w ∧ w.ownsRow w0.heap.size 24 2 v 0 []
  | [_, v], w => Fr noB w0 w ∧ w.ownsRow w0.heap.size 24 2 v A.length (A.flatMap lc)
  | [_, _, v], w => Fr noB w0 w ∧ w.ownsRow w0.heap.size 24 2 v (A.length + B.length) (A.flatMap lc ++ B.flatMap lc)
  | [_, _, _, v], w => Fr noB w0 w ∧ v = R
  | _, _ => False
theorem JL.fr {w0 : World} {A B : List (Int × Int)} {R : Value} : ∀ {hv : List Value} {w : World}, JL w0 A B R hv w → Fr noB w0 w
  | [], _, h => h
  | [_], _, h => h.1
  | [_, _], _, h => h.1
  | [_, _, _], _, h => h.1
  | [_, _, _, _], _, h => h.1
  | _ :: _ :: _ :: _ :: _ :: _, _, h => h.elim
theorem infoL : (Tryd.prog.info? 24).map (fun i => (i.zero, i.size, i.bytes)) = some (some (.agg #[.int .u32 0, .int .u32 0]), 2, 8) := by kernel_rfl
theorem ones2 (l : List (Int × Int)) : ∀ u ∈ l.flatMap lc, u.oneCell' = true := by
  intro u hu
  simp at hu
  obtain ⟨a, b, _, rfl | rfl⟩ := hu <;> simp [Value.oneCell']
theorem flat_len (l : List (Int × Int)) : (l.flatMap lc).length = l.length * 2 := by
  induction l with
  | nil => rfl
  | cons x l ih => rw [List.flatMap_cons, List.length_append, ih]; simp; omega
theorem flat_cut (l : List (Int × Int)) (i m : Nat) : ((l.flatMap lc).drop (i * 2)).take (m * 2) = ((l.drop i).take m).flatMap lc := by
  induction l generalizing i m with
  | nil => simp
  | cons x l ih =>
    cases i with
    | zero =>
      cases m with
      | zero => simp
      | succ m =>
        have := ih 0 m
        simp only [Nat.zero_mul, List.drop_zero] at this ⊢
        rw [List.take_succ_cons, List.flatMap_cons, List.flatMap_cons, ← this]
        rw [show (m + 1) * 2 = m * 2 + 2 by omega]
        rfl
    | succ i =>
      rw [List.flatMap_cons, List.drop_succ_cons, ← ih i m]
      rw [show (i + 1) * 2 = 2 + i * 2 by omega, ← List.drop_drop]
      rfl
end Go.Proofs.YtcpkkdffedndiaaDoor
