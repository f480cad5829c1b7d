/- Regions that draw their order, whose operations lay new memory alone: whatever the order, if each operation, behind those that it waits for, hands what is said of it; no condition. -/
import Derived.Test.YtejjfpdcmaefiaaBase
import Derived.Orders
namespace Go.Proofs.U
open Go.RowKit
set_option linter.unusedVariables false

section
variable {P : Program} {ops : Array Oper} {Q : Exit → Act → World → Prop} {md : Region.Mode}

/-- What each operation keeps holds at the end, whatever the order. -/
theorem wpAny_inv (I : Array Bool → Act → World → Prop)
    (hstep : ∀ listed a w i, I listed a w → i ∈ Region.ready md ops listed → wpOp P ops Q i (fun a' w' => I (listed.setIfInBounds i true) a' w') a w)
    (hstop : ∀ listed a w, I listed a w → Region.ready md ops listed = [] → Q .normal a w) :
    ∀ (fuel : Nat) (R : List Nat) (listed : Array Bool) (a : Act) (w : World), (∀ i, listed.getD i true = false → i ∈ R) → R.length ≤ fuel → I listed a w → wpAny P md ops Q fuel listed a w := by
  intro fuel
  induction fuel with
  | zero =>
    intro R listed a w hR hl hI
    have hR0 : R = [] := List.eq_nil_of_length_eq_zero (by omega)
    have h0 : Region.ready md ops listed = [] := by
      apply List.eq_nil_iff_forall_not_mem.2
      intro j hj
      have := hR j (mem_ready.1 hj).1
      rw [hR0] at this; cases this
    exact ⟨h0, hstop _ _ _ hI h0⟩
  | succ fuel ih =>
    intro R listed a w hR hl hI
    refine ⟨fun h0 => hstop _ _ _ hI h0, fun i hi => ?_⟩
    refine wpOp_mono (fun a' w' hI' => ?_) (hstep _ _ _ i hI hi)
    have hin := hR i (mem_ready.1 hi).1
    refine ih (R.erase i) _ a' w' ?_ (by rw [List.length_erase_of_mem hin]; have := List.length_pos_of_mem hin; omega) hI'
    intro j hj
    have hlt : i < listed.size := by
      have h1 := (mem_ready.1 hi).1
      rcases Nat.lt_or_ge i listed.size with h' | h'
      · exact h'
      · simp [Array.getElem?_eq_none h'] at h1
    by_cases hji : i = j
    · subst hji
      simp [hlt] at hj
    · refine (List.mem_erase_of_ne (fun e => hji e.symm)).2 (hR j ?_)
      simpa [Array.getElem?_setIfInBounds, hji] using hj

def dstAt (ops : Array Oper) (i : Nat) : Option Nat := (ops[i]?).bind (·.dst)

/-- What is known while the region runs: of each operation that came up what F says of its value. -/
structure Know (ops : Array Oper) (F : Nat → Value → World → Prop) (a0 : Act) (w0 : World) (listed : Array Bool) (a : Act) (w : World) : Prop where
  fr : Fr noB w0 w
  dfr : a.defers = a0.defers
  sz : a.tmps.size = a0.tmps.size
  base : ∀ s, (∀ i, dstAt ops i ≠ some s) → a.tmps.getD s undef = a0.tmps.getD s undef
  fact : ∀ i d, listed.getD i false = true → dstAt ops i = some d → F i (a.tmps.getD d undef) w

/-- What is asked of one operation: behind those that it waits for it hands a value of which F says so. -/
def Hands (P : Program) (ops : Array Oper) (F : Nat → Value → World → Prop) (a0 : Act) (w0 : World) (Q : Exit → Act → World → Prop) (i : Nat) (o : Oper) : Prop :=
  ∀ (a : Act) (w : World), Fr noB w0 w → a.defers = a0.defers → (∀ s, (∀ i, dstAt ops i ≠ some s) → a.eval (.tmp s) = a0.eval (.tmp s)) →
    (∀ e ∈ o.after, ∀ d, dstAt ops e.on = some d → F e.on (a.eval (.tmp d)) w) →
    if Region.wanted o (yielded ops a.tmps) = true then o.wp P a w (fun a' w' => ∃ v, a' = a.put o.dst v ∧ Fr noB w w' ∧ F i v w') Q else F i undef w

theorem wp_region_know {id : Nat} {a0 : Act} {w : World} (hm : P.follows .mixedOrders = true) (F : Nat → Value → World → Prop)
    (hmono : ∀ i v w w', Fr noB w w' → F i v w → F i v w')
    (hbind : ∀ (i : Nat) (o : Oper), ops[i]? = some o → ∀ e ∈ o.after, Region.binds .any e = true)
    (hlow : ∀ (i : Nat) (o : Oper), ops[i]? = some o → ∀ e ∈ o.after, e.on < i)
    (hdist : ∀ i j d, dstAt ops i = some d → dstAt ops j = some d → i = j)
    (hin : ∀ i d, dstAt ops i = some d → d < a0.tmps.size)
    (hob : ∀ (i : Nat) (o : Oper), ops[i]? = some o → Hands P ops F a0 w.drew Q i o)
    (hend : ∀ a w', Fr noB w.drew w' → a.defers = a0.defers → a.tmps.size = a0.tmps.size → (∀ s, (∀ i, dstAt ops i ≠ some s) → a.eval (.tmp s) = a0.eval (.tmp s)) →
      (∀ i d, dstAt ops i = some d → F i (a.eval (.tmp d)) w') → Q .normal a w') : (Code.region id ops true).wp P Q a0 w := by
  refine wp_region_any hm ?_
  show wpAny P .any ops Q ops.size (Array.replicate ops.size false) a0 w.drew
  refine wpAny_inv (fun listed a w' => listed.size = ops.size ∧ Know ops F a0 w.drew listed a w' ∧ ∀ i, listed.getD i false = true → ∀ o, ops[i]? = some o → ∀ e ∈ o.after, listed.getD e.on false = true) ?_ ?_ ops.size (List.range ops.size) _ a0 w.drew ?_ (by simp) ?_
  · rintro listed a w' i ⟨hsz, hK, hcl⟩ hi
    obtain ⟨hun, o, ho, hall⟩ := mem_ready.1 hi
    have hilt : i < listed.size := by
      rcases Nat.lt_or_ge i listed.size with h' | h'
      · exact h'
      · simp [Array.getElem?_eq_none h'] at hun
    have key := hob i o ho a w' hK.fr hK.dfr hK.base (fun e he d hd => hK.fact e.on d (hall e he (hbind i o ho e he)) hd)
    have next : ∀ v w'', Fr noB w' w'' → F i v w'' → (listed.setIfInBounds i true).size = ops.size ∧ Know ops F a0 w.drew (listed.setIfInBounds i true) (a.put o.dst v) w'' ∧ ∀ j, (listed.setIfInBounds i true).getD j false = true → ∀ o, ops[j]? = some o → ∀ e ∈ o.after, (listed.setIfInBounds i true).getD e.on false = true := by
      intro v w'' hf hF
      have lk : ∀ j, listed.getD j false = true → (listed.setIfInBounds i true).getD j false = true := by
        intro j hj
        by_cases hij : i = j
        · subst hij; simp [hilt]
        · simpa [Array.getElem?_setIfInBounds, hij] using hj
      have ldj : ∀ j, (listed.setIfInBounds i true).getD j false = true → j = i ∨ listed.getD j false = true := by
        intro j hj
        by_cases hij : i = j
        · exact Or.inl hij.symm
        · exact Or.inr (by simpa [Array.getElem?_setIfInBounds, hij] using hj)
      have hdo : dstAt ops i = o.dst := by simp [dstAt, ho]
      refine ⟨by simpa using hsz, ⟨hK.fr.trans hf, ?_, ?_, ?_, ?_⟩, ?_⟩
      · cases hd : o.dst <;> simpa [Act.put] using hK.dfr
      · cases hd : o.dst <;> simpa [Act.put] using hK.sz
      · intro s hs
        cases hd : o.dst with
        | none => simpa [Act.put] using hK.base s hs
        | some d =>
          have hds : d ≠ s := fun e => hs i (by rw [hdo, hd, e])
          have := hK.base s hs
          simp only [Act.put, Array.getD_eq_getD_getElem?, Array.getElem?_setIfInBounds, hds, if_false] at this ⊢
          exact this
      · intro j d hj hdj
        rcases ldj j hj with rfl | hj'
        · rw [hdo] at hdj
          have hlt : d < a.tmps.size := by rw [hK.sz]; exact hin j d (by rw [hdo]; exact hdj)
          have : (a.put o.dst v).tmps.getD d undef = v := by
            rw [hdj]
            simp [Act.put, hlt]
          rw [this]; exact hF
        · have hne : o.dst ≠ some d := fun e => by
            have := hdist i j d (by rw [hdo]; exact e) hdj
            subst this
            have h2 : listed.getD i true = listed.getD i false := by simp [hilt]
            rw [h2, hj'] at hun; cases hun
          have h1 := hmono j _ _ _ hf (hK.fact j d hj' hdj)
          have : (a.put o.dst v).tmps.getD d undef = a.tmps.getD d undef := by
            cases hd : o.dst with
            | none => rfl
            | some d' =>
              have hds : d' ≠ d := fun e => hne (by rw [hd, e])
              simp only [Act.put, Array.getD_eq_getD_getElem?, Array.getElem?_setIfInBounds, hds, if_false]
          rw [this]; exact h1
      · intro j hj oj hoj e he
        rcases ldj j hj with rfl | hj'
        · rw [ho] at hoj; cases hoj
          exact lk _ (hall e he (hbind j o ho e he))
        · exact lk _ (hcl j hj' oj hoj e he)
    unfold wpOp
    simp only [ho]
    by_cases hw : Region.wanted o (yielded ops a.tmps) = true
    · rw [if_pos hw] at key ⊢
      refine Or.inl (Oper.wp_mono ?_ key)
      rintro a' w'' ⟨v, rfl, hf, hF⟩
      exact next v w'' hf hF
    · rw [if_neg hw] at key ⊢
      exact next undef w' (Fr.refl _ _) key
  · rintro listed a w' ⟨hsz, hK, hcl⟩ h0
    have hall : ∀ n i, i < n → i < ops.size → listed.getD i false = true := by
      intro n
      induction n with
      | zero => intro i h; omega
      | succ n ihn =>
        intro i hi hlt
        rcases Nat.lt_or_ge i n with hn | hn
        · exact ihn i hn hlt
        · obtain rfl : i = n := by omega
          cases hq : listed.getD i false with
          | true => rfl
          | false =>
            exfalso
            have hls : i < listed.size := by omega
            have ho : ops[i]? = some ops[i] := Array.getElem?_eq_getElem hlt
            have hmem : i ∈ Region.ready .any ops listed := mem_ready.2 ⟨by
              have h2 : listed.getD i true = listed.getD i false := by simp [hls]
              rw [h2]; exact hq, ops[i], ho, fun e he _ => ihn e.on (hlow i _ ho e he) (by have := hlow i _ ho e he; omega)⟩
            rw [h0] at hmem; cases hmem
    refine hend a w' hK.fr hK.dfr hK.sz hK.base (fun i d hd => hK.fact i d ?_ hd)
    have hlt : i < ops.size := by
      rcases Nat.lt_or_ge i ops.size with h' | h'
      · exact h'
      · simp [dstAt, Array.getElem?_eq_none h'] at hd
    exact hall (i + 1) i (by omega) hlt
  · intro i hi
    rcases Nat.lt_or_ge i ops.size with h' | h'
    · simpa using h'
    · simp [h'] at hi
  · refine ⟨by simp, ⟨Fr.refl _ _, rfl, rfl, fun _ _ => rfl, fun i d hl => ?_⟩, fun i hl => ?_⟩
    · exfalso
      rcases Nat.lt_or_ge i ops.size with h' | h' <;> simp [h'] at hl
    · exfalso
      rcases Nat.lt_or_ge i ops.size with h' | h' <;> simp [h'] at hl
end
end Go.Proofs.U
