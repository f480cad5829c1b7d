/- Slices whose elements take several cells: what they hold, and the law of an index; no condition. -/
import Derived.Test.YtejjfpdcmaefiaaBase2
namespace Go.Proofs.U
open Go.RowKit

/-- v is a slice of the things l, each of sz cells, told by ec. -/
def SlR {α : Type} (ec : α → List Value) (sz : Nat) (w : World) (v : Value) (l : List α) : Prop := (∀ x ∈ l, (ec x).length = sz) ∧ Sl w sz v l.length (l.flatMap ec)
theorem SlR.fr0 {α : Type} {ec : α → List Value} {sz : Nat} {w w' : World} {v : Value} {l : List α} (h : SlR ec sz w v l) (hf : Fr noB w w') : SlR ec sz w' v l := ⟨h.1, h.2.fr0 hf⟩
theorem SlR.fr {α : Type} {S : Nat → Prop} {ec : α → List Value} {sz : Nat} {w w' : World} {v : Value} {l : List α} (h : SlR ec sz w v l) (hf : Fr S w w') (hs : ∀ k, v.ownBlock = some k → ¬ S k) : SlR ec sz w' v l := ⟨h.1, h.2.fr hf hs⟩
theorem SlR.opn {α : Type} {ec : α → List Value} {sz : Nat} {w : World} {v : Value} {l : List α} (h : SlR ec sz w v l) : ∃ a cap, v = .slice a l.length cap ∧ l.length ≤ cap := by
  obtain ⟨_, a, cap, hv, hl, _⟩ := h; exact ⟨a, cap, hv, hl⟩

theorem flat_at {α : Type} (ec : α → List Value) (sz : Nat) (l : List α) (h : ∀ x ∈ l, (ec x).length = sz) (j : Nat) (hj : j < l.length) (i : Nat) (hi : i < sz) : (l.flatMap ec)[j * sz + i]? = (ec l[j])[i]? := by
  induction l generalizing j with
  | nil => simp at hj
  | cons x l ih =>
    have hx := h x (by simp)
    simp only [List.flatMap_cons]
    cases j with
    | zero => rw [List.getElem?_append_left (by omega)]; simp
    | succ j =>
      rw [List.getElem?_append_right (by rw [hx, Nat.succ_mul]; omega), hx]
      have e : (j + 1) * sz + i - sz = j * sz + i := by rw [Nat.succ_mul]; omega
      rw [e, ih (fun y hy => h y (by simp [hy])) j (by simpa using hj)]
      simp

section
variable {P : Program} {w : World} {ops : Array Oper} {rest : List Oper} {o : Oper} {a : Act} {Q : Exit → Act → World → Prop}

/-- x[i], x a slice of things of several cells: the place of the thing, and its cells. -/
theorem wpList_idxR {α : Type} (hgd : Region.wanted o (yielded ops a.tmps) = true) (t : TypeId) (x i : Operand) (ho : o.op = .indexAddr t x i) (e : TypeId) (ht : P.underlying t = some (.slice e)) (sz : Nat) (hsz : (P.info? e).map (·.size) = some sz)
    (ec : α → List Value) (v : Value) (l : List α) (hx : a.eval x = v) (hS : SlR ec sz w v l) (h0 : 0 < sz) (k : IntKind) (z : Int) (j : Nat) (hi : a.eval i = .int k z) (hz : z = (j : Int)) (hj : j < l.length)
    (h : ∀ b off, v.ownBlock = some b → (∀ q u, (ec l[j])[q]? = some u → w.cell? ⟨b, off + q, none⟩ = some u) → wpList P ops Q rest (a.put o.dst (.pointer (some ⟨b, off, none⟩))) w) : wpList P ops Q (o :: rest) a w := by
  refine wpList_wanted hgd fun K hK => ?_
  obtain ⟨hlen, ao, cap, rfl, hcap, hcl, hnone, hsome⟩ := hS
  cases ao with
  | none => have := hnone rfl; omega
  | some ad =>
    have hcell := hsome ad rfl
    subst hz
    have hjl : j * sz < (l.flatMap ec).length := by rw [hcl]; exact (Nat.mul_lt_mul_right h0).2 hj
    have hc0 := hcell 0 _ (List.getElem?_eq_getElem (Nat.lt_of_le_of_lt (Nat.zero_le _) hjl))
    obtain ⟨b, off, sp⟩ := ad
    have hsp : sp = none := by simpa [Addr.add] using World.cell?_spot hc0
    subst hsp
    obtain ⟨ii, hinf, hsz'⟩ := Option.map_eq_some_iff.1 hsz
    have hrun : (Instr.indexAt t (.slice (some ⟨b, off, none⟩) l.length cap) (.int k (j : Int))).run P w = .ok (.pointer (some ⟨b, off + j * sz, none⟩)) w := by
      have h1 : (0 : Int) ≤ (j : Int) ∧ (j : Int) < (l.length : Int) := by omega
      simp [Instr.indexAt, asIntOf, run_underlying ht, h1, sizeOf, typeInfo, hinf, hsz', go_sem, Addr.plain]
      omega
    unfold Oper.wp
    simp [execOp, ho, hx, hi, hrun, Result.andThen]
    refine hK _ _ (h b (off + j * sz) rfl (fun q u hq => ?_))
    have hlj := hlen l[j] (by simp)
    have hqs : q < sz := by rw [← hlj]; exact (List.getElem?_eq_some_iff.1 hq).1
    have := hcell (j * sz + q) u (by rw [flat_at ec sz l hlen j hj q hqs]; exact hq)
    rwa [Addr.plain, ← Nat.add_assoc] at this
end
end Go.Proofs.U
