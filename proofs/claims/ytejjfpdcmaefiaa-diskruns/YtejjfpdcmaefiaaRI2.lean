/- The law of regions that draw their order, by facts in a list; no condition. -/
import Derived.Test.YtejjfpdcmaefiaaRI
import Derived.Test.YtejjfpdcmaefiaaBase2
namespace Go.Proofs.U
open Go.RowKit
set_option linter.unusedVariables false

/-- What is said of a value, and stays when memory grows. -/
structure MFact where
  p : Value → World → Prop
  mono : ∀ v w w', Fr noB w w' → p v w → p v w'
def MFact.any : MFact := ⟨fun _ _ => True, fun _ _ _ _ h => h⟩
def MFact.is (c : Value) : MFact := ⟨fun v _ => v = c, fun _ _ _ _ h => h⟩
def MFact.sl (k : IntKind) (l : List Int) : MFact := ⟨fun v w => SlI k w v l, fun _ _ _ hf h => h.fr0 hf⟩
def MFact.one (c : Value) : MFact := ⟨fun v w => ∃ g, v = .slice (some ⟨g, 0, none⟩) 1 1 ∧ w.cell? ⟨g, 0, none⟩ = some c, fun _ _ _ hf ⟨g, e, h⟩ => ⟨g, e, hf.cell h (fun q => q)⟩⟩
def factAt (fs : List MFact) (i : Nat) : Value → World → Prop := (fs.getD i MFact.any).p

def notDst (ops : Array Oper) (s : Nat) : Bool := (List.range ops.size).all fun i => dstAt ops i != some s
def depOn (ops : Array Oper) (k j : Nat) : Bool := match ops[k]? with | some o => o.after.any (fun e => e.on == j) | none => false
def regionOk (ops : Array Oper) (n : Nat) : Bool :=
  ((List.range ops.size).all fun i => match ops[i]? with
    | some o => o.after.all (fun e => Region.binds .any e && decide (e.on < i)) && (match o.dst with | some d => decide (d < n) | none => true)
    | none => true) &&
  ((List.range ops.size).all fun i => (List.range ops.size).all fun j => i == j || (dstAt ops i).isNone || dstAt ops i != dstAt ops j)

theorem notDst_spec {ops : Array Oper} {s : Nat} (h : notDst ops s = true) : ∀ i, dstAt ops i ≠ some s := by
  intro i hi
  have hlt : i < ops.size := by
    rcases Nat.lt_or_ge i ops.size with h' | h'
    · exact h'
    · simp [dstAt, Array.getElem?_eq_none h'] at hi
  have := List.all_eq_true.1 h i (by simpa using hlt)
  simp [hi] at this

section
variable {P : Program} {ops : Array Oper} {Q : Exit → Act → World → Prop}

def Hand (P : Program) (ops : Array Oper) (fs : List MFact) (a0 : Act) (w0 : World) (Q : Exit → Act → World → Prop) (k : Nat) (o : Oper) : Prop :=
  ∀ (a : Act) (w : World), Fr noB w0 w → (∀ s, notDst ops s = true → a.eval (.tmp s) = a0.eval (.tmp s)) →
    (∀ j d, depOn ops k j = true → dstAt ops j = some d → factAt fs j (a.eval (.tmp d)) w) →
    if Region.wanted o (yielded ops a.tmps) = true then o.wp P a w (fun a' w' => ∃ v, a' = a.put o.dst v ∧ Fr noB w w' ∧ factAt fs k v w') Q else factAt fs k undef w
def HandAll (P : Program) (ops : Array Oper) (fs : List MFact) (a0 : Act) (w0 : World) (Q : Exit → Act → World → Prop) : Nat → List Oper → Prop
  | _, [] => True
  | k, o :: r => Hand P ops fs a0 w0 Q k o ∧ HandAll P ops fs a0 w0 Q (k + 1) r

theorem handAll_get {fs : List MFact} {a0 : Act} {w0 : World} : ∀ (l : List Oper) (k : Nat), HandAll P ops fs a0 w0 Q k l → ∀ i o, l[i]? = some o → Hand P ops fs a0 w0 Q (k + i) o
  | [], _, _, i, o, ho => by simp at ho
  | x :: l, k, h, 0, o, ho => by simp at ho; subst ho; exact h.1
  | x :: l, k, h, i + 1, o, ho => by
    have := handAll_get l (k + 1) h.2 i o (by simpa using ho)
    rwa [show k + (i + 1) = k + 1 + i by omega]

theorem wp_region_facts {id : Nat} {a0 : Act} {w : World} (hm : P.follows .mixedOrders = true) (fs : List MFact) (hok : regionOk ops a0.tmps.size = true)
    (hob : HandAll P ops fs a0 w.drew Q 0 ops.toList)
    (hend : ∀ a w', Fr noB w.drew w' → a.defers = a0.defers → a.tmps.size = a0.tmps.size → (∀ s, notDst ops s = true → a.eval (.tmp s) = a0.eval (.tmp s)) →
      (∀ i d, dstAt ops i = some d → factAt fs i (a.eval (.tmp d)) w') → Q .normal a w') : (Code.region id ops true).wp P Q a0 w := by
  unfold regionOk at hok
  rw [Bool.and_eq_true] at hok
  have h1 : ∀ (i : Nat) (o : Oper), ops[i]? = some o → (o.after.all (fun e => Region.binds .any e && decide (e.on < i)) && (match o.dst with | some d => decide (d < a0.tmps.size) | none => true)) = true := by
    intro i o ho
    have hlt : i < ops.size := by
      rcases Nat.lt_or_ge i ops.size with h' | h'
      · exact h'
      · rw [Array.getElem?_eq_none h'] at ho; cases ho
    have := List.all_eq_true.1 hok.1 i (by simpa using hlt)
    simpa only [ho] using this
  have inb : ∀ i d, dstAt ops i = some d → i < ops.size := by
    intro i d hd
    rcases Nat.lt_or_ge i ops.size with h' | h'
    · exact h'
    · simp [dstAt, Array.getElem?_eq_none h'] at hd
  refine wp_region_know hm (factAt fs) (fun i v w w' hf h => (fs.getD i MFact.any).mono v w w' hf h) ?_ ?_ ?_ ?_ ?_ ?_
  · intro i o ho e he
    have h2 := h1 i o ho
    rw [Bool.and_eq_true] at h2
    have h3 := Array.all_eq_true_iff_forall_mem.1 h2.1 e he
    rw [Bool.and_eq_true] at h3
    exact h3.1
  · intro i o ho e he
    have h2 := h1 i o ho
    rw [Bool.and_eq_true] at h2
    have h3 := Array.all_eq_true_iff_forall_mem.1 h2.1 e he
    rw [Bool.and_eq_true] at h3
    exact of_decide_eq_true h3.2
  · intro i j d hi hj
    have h2 := List.all_eq_true.1 (List.all_eq_true.1 hok.2 i (by simpa using inb i d hi)) j (by simpa using inb j d hj)
    simp [hi, hj] at h2
    exact h2
  · intro i d hd
    have hlt := inb i d hd
    have ho : ops[i]? = some ops[i] := Array.getElem?_eq_getElem hlt
    have h2 := h1 i _ ho
    rw [Bool.and_eq_true] at h2
    have hdd : ops[i].dst = some d := by simpa [dstAt, ho] using hd
    have h3 := h2.2
    rw [hdd] at h3
    exact of_decide_eq_true h3
  · intro i o ho a w' hfr hdf hbase hdep
    have := handAll_get ops.toList 0 hob i o (by simpa using ho)
    rw [Nat.zero_add] at this
    refine this a w' hfr (fun s hs => hbase s (notDst_spec hs)) (fun j d hj hd => ?_)
    unfold depOn at hj
    rw [ho] at hj
    simp only at hj
    obtain ⟨n, hn, heq⟩ := Array.any_eq_true.1 hj
    have : (o.after[n]).on = j := by simpa using heq
    subst this
    exact hdep _ (Array.getElem_mem hn) d hd
  · intro a w' hfr hdf hsz hbase hall
    exact hend a w' hfr hdf hsz (fun s hs => hbase s (notDst_spec hs)) hall

/-- the frame behind them all. -/
def layL : List Oper → Nat → (Nat → Value) → Act → Act
  | [], _, _, a => a
  | o :: r, i, vs, a => layL r (i + 1) vs (a.put o.dst (vs i))
theorem layL_size (l : List Oper) : ∀ (i : Nat) (vs : Nat → Value) (a : Act), (layL l i vs a).tmps.size = a.tmps.size ∧ (layL l i vs a).defers = a.defers := by
  induction l with
  | nil => intro i vs a; exact ⟨rfl, rfl⟩
  | cons o l ih =>
    intro i vs a
    have := ih (i + 1) vs (a.put o.dst (vs i))
    rw [layL]
    cases hd : o.dst <;> simp [hd, Act.put] at this ⊢ <;> exact this
/-- a frame that has these values where the operations write, and else what was there, is that one. -/
theorem layL_is (b : Act) (l : List Oper) : ∀ (i : Nat) (vs : Nat → Value) (a : Act), a.tmps.size = b.tmps.size → (∀ (j : Nat) (o : Oper) (d : Nat), l[j]? = some o → o.dst = some d → b.eval (.tmp d) = vs (i + j)) →
    (∀ s, b.eval (.tmp s) = a.eval (.tmp s) ∨ ∃ (j : Nat) (o : Oper), l[j]? = some o ∧ o.dst = some s) → ∀ s, (layL l i vs a).eval (.tmp s) = b.eval (.tmp s) := by
  induction l with
  | nil =>
    intro i vs a hsz hv hb s
    rcases hb s with h | ⟨j, o, h, _⟩
    · exact h.symm
    · simp at h
  | cons o l ih =>
    intro i vs a hsz hv hb
    rw [layL]
    refine ih (i + 1) vs _ ?_ (fun j o' d ho hd => ?_) (fun s => ?_)
    · cases hd : o.dst <;> simpa [Act.put] using hsz
    · rw [hv (j + 1) o' d (by simpa using ho) hd]; congr 1; omega
    · by_cases hs : o.dst = some s
      · left
        have h0 := hv 0 o s (by simp) hs
        rw [h0, hs]
        by_cases hlt : s < a.tmps.size
        · simp [Act.put, Act.eval, hlt]
        · have hge : a.tmps.size ≤ s := Nat.le_of_not_lt hlt
          have hb2 : b.eval (.tmp s) = undef := by simp [Act.eval, Array.getElem?_eq_none (show b.tmps.size ≤ s from hsz ▸ hge)]
          rw [← h0, hb2]
          simp [Act.put, Act.eval]
          intro hh; exact absurd hh hlt
      · rcases hb s with h | ⟨j, o', ho', hd'⟩
        · left
          rw [h]
          cases hd : o.dst with
          | none => rfl
          | some d =>
            have hds : d ≠ s := fun e => hs (by rw [hd, e])
            simp [Act.put, Act.eval, hds]
        · cases j with
          | zero => simp at ho'; subst ho'; exact absurd hd' hs
          | succ j => exact Or.inr ⟨j, o', by simpa using ho', hd'⟩

/-- The law: each operation hands what is said of it; so do all, whatever the order. -/
theorem wp_region_lay {id : Nat} {l : List Oper} {a0 : Act} {w : World} (hm : P.follows .mixedOrders = true) (fs : List MFact) (hok : regionOk l.toArray a0.tmps.size = true)
    (hob : HandAll P l.toArray fs a0 w.drew Q 0 l)
    (hend : ∀ (vs : Nat → Value) w', Fr noB w.drew w' → (∀ i, (l[i]?.bind (·.dst)).isSome = true → factAt fs i (vs i) w') → Q .normal (layL l 0 vs a0) w') : (Code.region id l.toArray true).wp P Q a0 w := by
  refine wp_region_facts hm fs hok (by simpa using hob) (fun a w' hfr hdf hsz hbase hall => ?_)
  have hdl : ∀ i, dstAt l.toArray i = l[i]?.bind (·.dst) := fun i => by simp [dstAt]
  have h := hend (fun i => match l[i]?.bind (·.dst) with | some d => a.eval (.tmp d) | none => undef) w' hfr (fun i hi => by
    cases hd : l[i]?.bind (·.dst) with
    | none => rw [hd] at hi; cases hi
    | some d => simpa only [hd] using hall i d (by rw [hdl]; exact hd))
  have e : layL l 0 (fun i => match l[i]?.bind (·.dst) with | some d => a.eval (.tmp d) | none => undef) a0 = a := by
    have h2 := layL_size l 0 (fun i => match l[i]?.bind (·.dst) with | some d => a.eval (.tmp d) | none => undef) a0
    have h3 := layL_is a l 0 (fun i => match l[i]?.bind (·.dst) with | some d => a.eval (.tmp d) | none => undef) a0 hsz.symm (fun j o d ho hd => by simp [ho, hd]) (fun s => by
      cases hn : notDst l.toArray s with
      | true => exact Or.inl (hbase s hn)
      | false =>
        right
        unfold notDst at hn
        rw [List.all_eq_false] at hn
        obtain ⟨j, hj, hq⟩ := hn
        have hd : dstAt l.toArray j = some s := by simpa using hq
        rw [hdl] at hd
        obtain ⟨o, ho, hod⟩ := Option.bind_eq_some_iff.1 hd
        exact ⟨j, o, ho, hod⟩)
    generalize layL l 0 (fun i => match l[i]?.bind (·.dst) with | some d => a.eval (.tmp d) | none => undef) a0 = b at *
    obtain ⟨bt, bd⟩ := b
    obtain ⟨at', ad⟩ := a
    simp only at h2 hsz hdf
    have hd : bd = ad := by rw [h2.2, hdf]
    have ht : bt = at' := by
      apply Array.ext
      · omega
      · intro i hi hi'
        have := h3 i
        simpa [Act.eval, hi, hi'] using this
    rw [hd, ht]
  rwa [e] at h

variable {a : Act} {w : World} {o : Oper} {fs : List MFact} {k : Nat}
theorem hands_val {v : Value} {w' : World} (hw : Region.wanted o (yielded ops a.tmps) = true) (hrun : (execOp a.eval o).run P w = .ok (.value v) w') (hf : Fr noB w w') (hF : factAt fs k v w') :
    if Region.wanted o (yielded ops a.tmps) = true then o.wp P a w (fun a' w' => ∃ v, a' = a.put o.dst v ∧ Fr noB w w' ∧ factAt fs k v w') Q else factAt fs k undef w := by
  rw [if_pos hw]
  unfold Oper.wp
  rw [hrun]
  exact ⟨v, rfl, hf, hF⟩
theorem hands_call {f : FuncId} {args : Array Value} (hw : Region.wanted o (yielded ops a.tmps) = true) (hrun : (execOp a.eval o).run P w = .ok (.enter f args) w)
    (hc : Calls P f args w fun e w' => ∃ v, e = .returned v ∧ Fr noB w w' ∧ factAt fs k v w') :
    if Region.wanted o (yielded ops a.tmps) = true then o.wp P a w (fun a' w' => ∃ v, a' = a.put o.dst v ∧ Fr noB w w' ∧ factAt fs k v w') Q else factAt fs k undef w := by
  rw [if_pos hw]
  unfold Oper.wp
  rw [hrun]
  refine hc.mono ?_
  rintro e w' ⟨v, rfl, hf, hF⟩
  exact ⟨v, rfl, hf, hF⟩
theorem wanted_of {j d : Nat} {b : Bool} (hg : o.guard = some (j, b)) (hd : dstAt ops j = some d) (h : a.eval (.tmp d) = .bool b) : Region.wanted o (yielded ops a.tmps) = true := by
  have h1 : a.tmps[d]? = some (.bool b) := by
    have h2 : a.tmps.getD d undef = .bool b := h
    rw [Array.getD_eq_getD_getElem?] at h2
    cases hq : a.tmps[d]? with
    | none => rw [hq] at h2; simp [undef] at h2
    | some v => rw [hq] at h2; simp at h2; rw [h2]
  unfold dstAt at hd
  simp [Region.wanted, hg, yielded, hd, h1]
end
theorem run_cuth {P : Program} {w : World} (t e : TypeId) (ht : P.underlying t = some (.slice e)) (sz : Nat) (hsz : (P.info? e).map (·.size) = some sz) (ao : Option Addr) (n cap : Nat) (kh : IntKind) (j : Nat) (hj : j ≤ cap) :
    (Instr.sliceAt t (.slice ao n cap) none (some (.int kh (j : Int))) none).run P w = .ok (.slice ao j cap) w := by
  obtain ⟨ii, hinf, hsz'⟩ := Option.map_eq_some_iff.1 hsz
  have e0 : (ao.map (·.add 0) : Option Addr) = ao := by cases ao <;> rfl
  simp [Instr.sliceAt, Instr.slice, Instr.sliceBounds, Instr.sliceBound, asIntOf, run_underlying ht, sizeOf, typeInfo, hinf, go_sem]
  omega
end Go.Proofs.U
