/- Texts RI, RI2, RI3, RI4, P7, P8, P9 of the proof of PoolClones, one behind the other. -/
import Derived.Orders
import Derived.Test.YtghkpeejogldkaaBundlePoolClones1
import Derived.Test.YtghkpeejogldkaaBundlePoolClones2
/- Regions that draw their order, whose operations lay new memory alone: whatever the order, if each operation, behind those that it waits for, hands what is said of it; no condition. -/
namespace Go.Proofs.U
open Go.RowKit
set_option linter.unusedVariables false

section
variable {P : Program} {ops : Array Oper} {Q : Exit → Act → World → Prop} {md : Region.Mode}

/-- What each operation keeps holds at the end, whatever the order. -/
theorem wpAny_inv (I : Array Bool → Act → World → Prop)
    (hstep : ∀ listed a w i, I listed a w → i ∈ Region.ready md ops listed → wpOp P ops Q i (fun a' w' => I (listed.setIfInBounds i true) a' w') a w)
    (hstop : ∀ listed a w, I listed a w → Region.ready md ops listed = [] → Q .normal a w) :
    ∀ (fuel : Nat) (R : List Nat) (listed : Array Bool) (a : Act) (w : World), (∀ i, listed.getD i true = false → i ∈ R) → R.length ≤ fuel → I listed a w → wpAny P md ops Q fuel listed a w := by
  intro fuel
  induction fuel with
  | zero =>
    intro R listed a w hR hl hI
    have hR0 : R = [] := List.eq_nil_of_length_eq_zero (by omega)
    have h0 : Region.ready md ops listed = [] := by
      apply List.eq_nil_iff_forall_not_mem.2
      intro j hj
      have := hR j (mem_ready.1 hj).1
      rw [hR0] at this; cases this
    exact ⟨h0, hstop _ _ _ hI h0⟩
  | succ fuel ih =>
    intro R listed a w hR hl hI
    refine ⟨fun h0 => hstop _ _ _ hI h0, fun i hi => ?_⟩
    refine wpOp_mono (fun a' w' hI' => ?_) (hstep _ _ _ i hI hi)
    have hin := hR i (mem_ready.1 hi).1
    refine ih (R.erase i) _ a' w' ?_ (by rw [List.length_erase_of_mem hin]; have := List.length_pos_of_mem hin; omega) hI'
    intro j hj
    have hlt : i < listed.size := by
      have h1 := (mem_ready.1 hi).1
      rcases Nat.lt_or_ge i listed.size with h' | h'
      · exact h'
      · simp [Array.getElem?_eq_none h'] at h1
    by_cases hji : i = j
    · subst hji
      simp [hlt] at hj
    · refine (List.mem_erase_of_ne (fun e => hji e.symm)).2 (hR j ?_)
      simpa [Array.getElem?_setIfInBounds, hji] using hj

def dstAt (ops : Array Oper) (i : Nat) : Option Nat := (ops[i]?).bind (·.dst)

/-- What is known while the region runs: of each operation that came up what F says of its value. -/
structure Know (ops : Array Oper) (F : Nat → Value → World → Prop) (a0 : Act) (w0 : World) (listed : Array Bool) (a : Act) (w : World) : Prop where
  fr : Fr noB w0 w
  dfr : a.defers = a0.defers
  sz : a.tmps.size = a0.tmps.size
  base : ∀ s, (∀ i, dstAt ops i ≠ some s) → a.tmps.getD s undef = a0.tmps.getD s undef
  fact : ∀ i d, listed.getD i false = true → dstAt ops i = some d → F i (a.tmps.getD d undef) w

/-- What is asked of one operation: behind those that it waits for it hands a value of which F says so. -/
def Hands (P : Program) (ops : Array Oper) (F : Nat → Value → World → Prop) (a0 : Act) (w0 : World) (Q : Exit → Act → World → Prop) (i : Nat) (o : Oper) : Prop :=
  ∀ (a : Act) (w : World), Fr noB w0 w → a.defers = a0.defers → (∀ s, (∀ i, dstAt ops i ≠ some s) → a.eval (.tmp s) = a0.eval (.tmp s)) →
    (∀ e ∈ o.after, ∀ d, dstAt ops e.on = some d → F e.on (a.eval (.tmp d)) w) →
    if Region.wanted o (yielded ops a.tmps) = true then o.wp P a w (fun a' w' => ∃ v, a' = a.put o.dst v ∧ Fr noB w w' ∧ F i v w') Q else F i undef w

theorem wp_region_know {id : Nat} {a0 : Act} {w : World} (hm : P.follows .mixedOrders = true) (F : Nat → Value → World → Prop)
    (hmono : ∀ i v w w', Fr noB w w' → F i v w → F i v w')
    (hbind : ∀ (i : Nat) (o : Oper), ops[i]? = some o → ∀ e ∈ o.after, Region.binds .any e = true)
    (hlow : ∀ (i : Nat) (o : Oper), ops[i]? = some o → ∀ e ∈ o.after, e.on < i)
    (hdist : ∀ i j d, dstAt ops i = some d → dstAt ops j = some d → i = j)
    (hin : ∀ i d, dstAt ops i = some d → d < a0.tmps.size)
    (hob : ∀ (i : Nat) (o : Oper), ops[i]? = some o → Hands P ops F a0 w.drew Q i o)
    (hend : ∀ a w', Fr noB w.drew w' → a.defers = a0.defers → a.tmps.size = a0.tmps.size → (∀ s, (∀ i, dstAt ops i ≠ some s) → a.eval (.tmp s) = a0.eval (.tmp s)) →
      (∀ i d, dstAt ops i = some d → F i (a.eval (.tmp d)) w') → Q .normal a w') : (Code.region id ops true).wp P Q a0 w := by
  refine wp_region_any hm ?_
  show wpAny P .any ops Q ops.size (Array.replicate ops.size false) a0 w.drew
  refine wpAny_inv (fun listed a w' => listed.size = ops.size ∧ Know ops F a0 w.drew listed a w' ∧ ∀ i, listed.getD i false = true → ∀ o, ops[i]? = some o → ∀ e ∈ o.after, listed.getD e.on false = true) ?_ ?_ ops.size (List.range ops.size) _ a0 w.drew ?_ (by simp) ?_
  · rintro listed a w' i ⟨hsz, hK, hcl⟩ hi
    obtain ⟨hun, o, ho, hall⟩ := mem_ready.1 hi
    have hilt : i < listed.size := by
      rcases Nat.lt_or_ge i listed.size with h' | h'
      · exact h'
      · simp [Array.getElem?_eq_none h'] at hun
    have key := hob i o ho a w' hK.fr hK.dfr hK.base (fun e he d hd => hK.fact e.on d (hall e he (hbind i o ho e he)) hd)
    have next : ∀ v w'', Fr noB w' w'' → F i v w'' → (listed.setIfInBounds i true).size = ops.size ∧ Know ops F a0 w.drew (listed.setIfInBounds i true) (a.put o.dst v) w'' ∧ ∀ j, (listed.setIfInBounds i true).getD j false = true → ∀ o, ops[j]? = some o → ∀ e ∈ o.after, (listed.setIfInBounds i true).getD e.on false = true := by
      intro v w'' hf hF
      have lk : ∀ j, listed.getD j false = true → (listed.setIfInBounds i true).getD j false = true := by
        intro j hj
        by_cases hij : i = j
        · subst hij; simp [hilt]
        · simpa [Array.getElem?_setIfInBounds, hij] using hj
      have ldj : ∀ j, (listed.setIfInBounds i true).getD j false = true → j = i ∨ listed.getD j false = true := by
        intro j hj
        by_cases hij : i = j
        · exact Or.inl hij.symm
        · exact Or.inr (by simpa [Array.getElem?_setIfInBounds, hij] using hj)
      have hdo : dstAt ops i = o.dst := by simp [dstAt, ho]
      refine ⟨by simpa using hsz, ⟨hK.fr.trans hf, ?_, ?_, ?_, ?_⟩, ?_⟩
      · cases hd : o.dst <;> simpa [Act.put] using hK.dfr
      · cases hd : o.dst <;> simpa [Act.put] using hK.sz
      · intro s hs
        cases hd : o.dst with
        | none => simpa [Act.put] using hK.base s hs
        | some d =>
          have hds : d ≠ s := fun e => hs i (by rw [hdo, hd, e])
          have := hK.base s hs
          simp only [Act.put, Array.getD_eq_getD_getElem?, Array.getElem?_setIfInBounds, hds, if_false] at this ⊢
          exact this
      · intro j d hj hdj
        rcases ldj j hj with rfl | hj'
        · rw [hdo] at hdj
          have hlt : d < a.tmps.size := by rw [hK.sz]; exact hin j d (by rw [hdo]; exact hdj)
          have : (a.put o.dst v).tmps.getD d undef = v := by
            rw [hdj]
            simp [Act.put, hlt]
          rw [this]; exact hF
        · have hne : o.dst ≠ some d := fun e => by
            have := hdist i j d (by rw [hdo]; exact e) hdj
            subst this
            have h2 : listed.getD i true = listed.getD i false := by simp [hilt]
            rw [h2, hj'] at hun; cases hun
          have h1 := hmono j _ _ _ hf (hK.fact j d hj' hdj)
          have : (a.put o.dst v).tmps.getD d undef = a.tmps.getD d undef := by
            cases hd : o.dst with
            | none => rfl
            | some d' =>
              have hds : d' ≠ d := fun e => hne (by rw [hd, e])
              simp only [Act.put, Array.getD_eq_getD_getElem?, Array.getElem?_setIfInBounds, hds, if_false]
          rw [this]; exact h1
      · intro j hj oj hoj e he
        rcases ldj j hj with rfl | hj'
        · rw [ho] at hoj; cases hoj
          exact lk _ (hall e he (hbind j o ho e he))
        · exact lk _ (hcl j hj' oj hoj e he)
    unfold wpOp
    simp only [ho]
    by_cases hw : Region.wanted o (yielded ops a.tmps) = true
    · rw [if_pos hw] at key ⊢
      refine Or.inl (Oper.wp_mono ?_ key)
      rintro a' w'' ⟨v, rfl, hf, hF⟩
      exact next v w'' hf hF
    · rw [if_neg hw] at key ⊢
      exact next undef w' (Fr.refl _ _) key
  · rintro listed a w' ⟨hsz, hK, hcl⟩ h0
    have hall : ∀ n i, i < n → i < ops.size → listed.getD i false = true := by
      intro n
      induction n with
      | zero => intro i h; omega
      | succ n ihn =>
        intro i hi hlt
        rcases Nat.lt_or_ge i n with hn | hn
        · exact ihn i hn hlt
        · obtain rfl : i = n := by omega
          cases hq : listed.getD i false with
          | true => rfl
          | false =>
            exfalso
            have hls : i < listed.size := by omega
            have ho : ops[i]? = some ops[i] := Array.getElem?_eq_getElem hlt
            have hmem : i ∈ Region.ready .any ops listed := mem_ready.2 ⟨by
              have h2 : listed.getD i true = listed.getD i false := by simp [hls]
              rw [h2]; exact hq, ops[i], ho, fun e he _ => ihn e.on (hlow i _ ho e he) (by have := hlow i _ ho e he; omega)⟩
            rw [h0] at hmem; cases hmem
    refine hend a w' hK.fr hK.dfr hK.sz hK.base (fun i d hd => hK.fact i d ?_ hd)
    have hlt : i < ops.size := by
      rcases Nat.lt_or_ge i ops.size with h' | h'
      · exact h'
      · simp [dstAt, Array.getElem?_eq_none h'] at hd
    exact hall (i + 1) i (by omega) hlt
  · intro i hi
    rcases Nat.lt_or_ge i ops.size with h' | h'
    · simpa using h'
    · simp [h'] at hi
  · refine ⟨by simp, ⟨Fr.refl _ _, rfl, rfl, fun _ _ => rfl, fun i d hl => ?_⟩, fun i hl => ?_⟩
    · exfalso
      rcases Nat.lt_or_ge i ops.size with h' | h' <;> simp [h'] at hl
    · exfalso
      rcases Nat.lt_or_ge i ops.size with h' | h' <;> simp [h'] at hl
end
end Go.Proofs.U
/- The law of regions that draw their order, by facts in a list; no condition. -/
namespace Go.Proofs.U
open Go.RowKit
set_option linter.unusedVariables false

/-- What is said of a value, and stays when memory grows. -/
structure MFact where
  p : Value → World → Prop
  mono : ∀ v w w', Fr noB w w' → p v w → p v w'
def MFact.any : MFact := ⟨fun _ _ => True, fun _ _ _ _ h => h⟩
def MFact.is (c : Value) : MFact := ⟨fun v _ => v = c, fun _ _ _ _ h => h⟩
def MFact.sl (k : IntKind) (l : List Int) : MFact := ⟨fun v w => SlI k w v l, fun _ _ _ hf h => h.fr0 hf⟩
def MFact.one (c : Value) : MFact := ⟨fun v w => ∃ g, v = .slice (some ⟨g, 0, none⟩) 1 1 ∧ w.cell? ⟨g, 0, none⟩ = some c, fun _ _ _ hf ⟨g, e, h⟩ => ⟨g, e, hf.cell h (fun q => q)⟩⟩
def factAt (fs : List MFact) (i : Nat) : Value → World → Prop := (fs.getD i MFact.any).p

def notDst (ops : Array Oper) (s : Nat) : Bool := (List.range ops.size).all fun i => dstAt ops i != some s
def depOn (ops : Array Oper) (k j : Nat) : Bool := match ops[k]? with | some o => o.after.any (fun e => e.on == j) | none => false
def regionOk (ops : Array Oper) (n : Nat) : Bool :=
  ((List.range ops.size).all fun i => match ops[i]? with
    | some o => o.after.all (fun e => Region.binds .any e && decide (e.on < i)) && (match o.dst with | some d => decide (d < n) | none => true)
    | none => true) &&
  ((List.range ops.size).all fun i => (List.range ops.size).all fun j => i == j || (dstAt ops i).isNone || dstAt ops i != dstAt ops j)

theorem notDst_spec {ops : Array Oper} {s : Nat} (h : notDst ops s = true) : ∀ i, dstAt ops i ≠ some s := by
  intro i hi
  have hlt : i < ops.size := by
    rcases Nat.lt_or_ge i ops.size with h' | h'
    · exact h'
    · simp [dstAt, Array.getElem?_eq_none h'] at hi
  have := List.all_eq_true.1 h i (by simpa using hlt)
  simp [hi] at this

section
variable {P : Program} {ops : Array Oper} {Q : Exit → Act → World → Prop}

def Hand (P : Program) (ops : Array Oper) (fs : List MFact) (a0 : Act) (w0 : World) (Q : Exit → Act → World → Prop) (k : Nat) (o : Oper) : Prop :=
  ∀ (a : Act) (w : World), Fr noB w0 w → (∀ s, notDst ops s = true → a.eval (.tmp s) = a0.eval (.tmp s)) →
    (∀ j d, depOn ops k j = true → dstAt ops j = some d → factAt fs j (a.eval (.tmp d)) w) →
    if Region.wanted o (yielded ops a.tmps) = true then o.wp P a w (fun a' w' => ∃ v, a' = a.put o.dst v ∧ Fr noB w w' ∧ factAt fs k v w') Q else factAt fs k undef w
def HandAll (P : Program) (ops : Array Oper) (fs : List MFact) (a0 : Act) (w0 : World) (Q : Exit → Act → World → Prop) : Nat → List Oper → Prop
  | _, [] => True
  | k, o :: r => Hand P ops fs a0 w0 Q k o ∧ HandAll P ops fs a0 w0 Q (k + 1) r

theorem handAll_get {fs : List MFact} {a0 : Act} {w0 : World} : ∀ (l : List Oper) (k : Nat), HandAll P ops fs a0 w0 Q k l → ∀ i o, l[i]? = some o → Hand P ops fs a0 w0 Q (k + i) o
  | [], _, _, i, o, ho => by simp at ho
  | x :: l, k, h, 0, o, ho => by simp at ho; subst ho; exact h.1
  | x :: l, k, h, i + 1, o, ho => by
    have := handAll_get l (k + 1) h.2 i o (by simpa using ho)
    rwa [show k + (i + 1) = k + 1 + i by omega]

theorem wp_region_facts {id : Nat} {a0 : Act} {w : World} (hm : P.follows .mixedOrders = true) (fs : List MFact) (hok : regionOk ops a0.tmps.size = true)
    (hob : HandAll P ops fs a0 w.drew Q 0 ops.toList)
    (hend : ∀ a w', Fr noB w.drew w' → a.defers = a0.defers → a.tmps.size = a0.tmps.size → (∀ s, notDst ops s = true → a.eval (.tmp s) = a0.eval (.tmp s)) →
      (∀ i d, dstAt ops i = some d → factAt fs i (a.eval (.tmp d)) w') → Q .normal a w') : (Code.region id ops true).wp P Q a0 w := by
  unfold regionOk at hok
  rw [Bool.and_eq_true] at hok
  have h1 : ∀ (i : Nat) (o : Oper), ops[i]? = some o → (o.after.all (fun e => Region.binds .any e && decide (e.on < i)) && (match o.dst with | some d => decide (d < a0.tmps.size) | none => true)) = true := by
    intro i o ho
    have hlt : i < ops.size := by
      rcases Nat.lt_or_ge i ops.size with h' | h'
      · exact h'
      · rw [Array.getElem?_eq_none h'] at ho; cases ho
    have := List.all_eq_true.1 hok.1 i (by simpa using hlt)
    simpa only [ho] using this
  have inb : ∀ i d, dstAt ops i = some d → i < ops.size := by
    intro i d hd
    rcases Nat.lt_or_ge i ops.size with h' | h'
    · exact h'
    · simp [dstAt, Array.getElem?_eq_none h'] at hd
  refine wp_region_know hm (factAt fs) (fun i v w w' hf h => (fs.getD i MFact.any).mono v w w' hf h) ?_ ?_ ?_ ?_ ?_ ?_
  · intro i o ho e he
    have h2 := h1 i o ho
    rw [Bool.and_eq_true] at h2
    have h3 := Array.all_eq_true_iff_forall_mem.1 h2.1 e he
    rw [Bool.and_eq_true] at h3
    exact h3.1
  · intro i o ho e he
    have h2 := h1 i o ho
    rw [Bool.and_eq_true] at h2
    have h3 := Array.all_eq_true_iff_forall_mem.1 h2.1 e he
    rw [Bool.and_eq_true] at h3
    exact of_decide_eq_true h3.2
  · intro i j d hi hj
    have h2 := List.all_eq_true.1 (List.all_eq_true.1 hok.2 i (by simpa using inb i d hi)) j (by simpa using inb j d hj)
    simp [hi, hj] at h2
    exact h2
  · intro i d hd
    have hlt := inb i d hd
    have ho : ops[i]? = some ops[i] := Array.getElem?_eq_getElem hlt
    have h2 := h1 i _ ho
    rw [Bool.and_eq_true] at h2
    have hdd : ops[i].dst = some d := by simpa [dstAt, ho] using hd
    have h3 := h2.2
    rw [hdd] at h3
    exact of_decide_eq_true h3
  · intro i o ho a w' hfr hdf hbase hdep
    have := handAll_get ops.toList 0 hob i o (by simpa using ho)
    rw [Nat.zero_add] at this
    refine this a w' hfr (fun s hs => hbase s (notDst_spec hs)) (fun j d hj hd => ?_)
    unfold depOn at hj
    rw [ho] at hj
    simp only at hj
    obtain ⟨n, hn, heq⟩ := Array.any_eq_true.1 hj
    have : (o.after[n]).on = j := by simpa using heq
    subst this
    exact hdep _ (Array.getElem_mem hn) d hd
  · intro a w' hfr hdf hsz hbase hall
    exact hend a w' hfr hdf hsz (fun s hs => hbase s (notDst_spec hs)) hall

/-- the frame behind them all. -/
def layL : List Oper → Nat → (Nat → Value) → Act → Act
  | [], _, _, a => a
  | o :: r, i, vs, a => layL r (i + 1) vs (a.put o.dst (vs i))
theorem layL_size (l : List Oper) : ∀ (i : Nat) (vs : Nat → Value) (a : Act), (layL l i vs a).tmps.size = a.tmps.size ∧ (layL l i vs a).defers = a.defers := by
  induction l with
  | nil => intro i vs a; exact ⟨rfl, rfl⟩
  | cons o l ih =>
    intro i vs a
    have := ih (i + 1) vs (a.put o.dst (vs i))
    rw [layL]
    cases hd : o.dst <;> simp [hd, Act.put] at this ⊢ <;> exact this
/-- a frame that has these values where the operations write, and else what was there, is that one. -/
theorem layL_is (b : Act) (l : List Oper) : ∀ (i : Nat) (vs : Nat → Value) (a : Act), a.tmps.size = b.tmps.size → (∀ (j : Nat) (o : Oper) (d : Nat), l[j]? = some o → o.dst = some d → b.eval (.tmp d) = vs (i + j)) →
    (∀ s, b.eval (.tmp s) = a.eval (.tmp s) ∨ ∃ (j : Nat) (o : Oper), l[j]? = some o ∧ o.dst = some s) → ∀ s, (layL l i vs a).eval (.tmp s) = b.eval (.tmp s) := by
  induction l with
  | nil =>
    intro i vs a hsz hv hb s
    rcases hb s with h | ⟨j, o, h, _⟩
    · exact h.symm
    · simp at h
  | cons o l ih =>
    intro i vs a hsz hv hb
    rw [layL]
    refine ih (i + 1) vs _ ?_ (fun j o' d ho hd => ?_) (fun s => ?_)
    · cases hd : o.dst <;> simpa [Act.put] using hsz
    · rw [hv (j + 1) o' d (by simpa using ho) hd]; congr 1; omega
    · by_cases hs : o.dst = some s
      · left
        have h0 := hv 0 o s (by simp) hs
        rw [h0, hs]
        by_cases hlt : s < a.tmps.size
        · simp [Act.put, Act.eval, hlt]
        · have hge : a.tmps.size ≤ s := Nat.le_of_not_lt hlt
          have hb2 : b.eval (.tmp s) = undef := by simp [Act.eval, Array.getElem?_eq_none (show b.tmps.size ≤ s from hsz ▸ hge)]
          rw [← h0, hb2]
          simp [Act.put, Act.eval]
          intro hh; exact absurd hh hlt
      · rcases hb s with h | ⟨j, o', ho', hd'⟩
        · left
          rw [h]
          cases hd : o.dst with
          | none => rfl
          | some d =>
            have hds : d ≠ s := fun e => hs (by rw [hd, e])
            simp [Act.put, Act.eval, hds]
        · cases j with
          | zero => simp at ho'; subst ho'; exact absurd hd' hs
          | succ j => exact Or.inr ⟨j, o', by simpa using ho', hd'⟩

/-- The law: each operation hands what is said of it; so do all, whatever the order. -/
theorem wp_region_lay {id : Nat} {l : List Oper} {a0 : Act} {w : World} (hm : P.follows .mixedOrders = true) (fs : List MFact) (hok : regionOk l.toArray a0.tmps.size = true)
    (hob : HandAll P l.toArray fs a0 w.drew Q 0 l)
    (hend : ∀ (vs : Nat → Value) w', Fr noB w.drew w' → (∀ i, (l[i]?.bind (·.dst)).isSome = true → factAt fs i (vs i) w') → Q .normal (layL l 0 vs a0) w') : (Code.region id l.toArray true).wp P Q a0 w := by
  refine wp_region_facts hm fs hok (by simpa using hob) (fun a w' hfr hdf hsz hbase hall => ?_)
  have hdl : ∀ i, dstAt l.toArray i = l[i]?.bind (·.dst) := fun i => by simp [dstAt]
  have h := hend (fun i => match l[i]?.bind (·.dst) with | some d => a.eval (.tmp d) | none => undef) w' hfr (fun i hi => by
    cases hd : l[i]?.bind (·.dst) with
    | none => rw [hd] at hi; cases hi
    | some d => simpa only [hd] using hall i d (by rw [hdl]; exact hd))
  have e : layL l 0 (fun i => match l[i]?.bind (·.dst) with | some d => a.eval (.tmp d) | none => undef) a0 = a := by
    have h2 := layL_size l 0 (fun i => match l[i]?.bind (·.dst) with | some d => a.eval (.tmp d) | none => undef) a0
    have h3 := layL_is a l 0 (fun i => match l[i]?.bind (·.dst) with | some d => a.eval (.tmp d) | none => undef) a0 hsz.symm (fun j o d ho hd => by simp [ho, hd]) (fun s => by
      cases hn : notDst l.toArray s with
      | true => exact Or.inl (hbase s hn)
      | false =>
        right
        unfold notDst at hn
        rw [List.all_eq_false] at hn
        obtain ⟨j, hj, hq⟩ := hn
        have hd : dstAt l.toArray j = some s := by simpa using hq
        rw [hdl] at hd
        obtain ⟨o, ho, hod⟩ := Option.bind_eq_some_iff.1 hd
        exact ⟨j, o, ho, hod⟩)
    generalize layL l 0 (fun i => match l[i]?.bind (·.dst) with | some d => a.eval (.tmp d) | none => undef) a0 = b at *
    obtain ⟨bt, bd⟩ := b
    obtain ⟨at', ad⟩ := a
    simp only at h2 hsz hdf
    have hd : bd = ad := by rw [h2.2, hdf]
    have ht : bt = at' := by
      apply Array.ext
      · omega
      · intro i hi hi'
        have := h3 i
        simpa [Act.eval, hi, hi'] using this
    rw [hd, ht]
  rwa [e] at h

variable {a : Act} {w : World} {o : Oper} {fs : List MFact} {k : Nat}
theorem hands_val {v : Value} {w' : World} (hw : Region.wanted o (yielded ops a.tmps) = true) (hrun : (execOp a.eval o).run P w = .ok (.value v) w') (hf : Fr noB w w') (hF : factAt fs k v w') :
    if Region.wanted o (yielded ops a.tmps) = true then o.wp P a w (fun a' w' => ∃ v, a' = a.put o.dst v ∧ Fr noB w w' ∧ factAt fs k v w') Q else factAt fs k undef w := by
  rw [if_pos hw]
  unfold Oper.wp
  rw [hrun]
  exact ⟨v, rfl, hf, hF⟩
theorem hands_call {f : FuncId} {args : Array Value} (hw : Region.wanted o (yielded ops a.tmps) = true) (hrun : (execOp a.eval o).run P w = .ok (.enter f args) w)
    (hc : Calls P f args w fun e w' => ∃ v, e = .returned v ∧ Fr noB w w' ∧ factAt fs k v w') :
    if Region.wanted o (yielded ops a.tmps) = true then o.wp P a w (fun a' w' => ∃ v, a' = a.put o.dst v ∧ Fr noB w w' ∧ factAt fs k v w') Q else factAt fs k undef w := by
  rw [if_pos hw]
  unfold Oper.wp
  rw [hrun]
  refine hc.mono ?_
  rintro e w' ⟨v, rfl, hf, hF⟩
  exact ⟨v, rfl, hf, hF⟩
theorem wanted_of {j d : Nat} {b : Bool} (hg : o.guard = some (j, b)) (hd : dstAt ops j = some d) (h : a.eval (.tmp d) = .bool b) : Region.wanted o (yielded ops a.tmps) = true := by
  have h1 : a.tmps[d]? = some (.bool b) := by
    have h2 : a.tmps.getD d undef = .bool b := h
    rw [Array.getD_eq_getD_getElem?] at h2
    cases hq : a.tmps[d]? with
    | none => rw [hq] at h2; simp [undef] at h2
    | some v => rw [hq] at h2; simp at h2; rw [h2]
  unfold dstAt at hd
  simp [Region.wanted, hg, yielded, hd, h1]
end
theorem run_cuth {P : Program} {w : World} (t e : TypeId) (ht : P.underlying t = some (.slice e)) (sz : Nat) (hsz : (P.info? e).map (·.size) = some sz) (ao : Option Addr) (n cap : Nat) (kh : IntKind) (j : Nat) (hj : j ≤ cap) :
    (Instr.sliceAt t (.slice ao n cap) none (some (.int kh (j : Int))) none).run P w = .ok (.slice ao j cap) w := by
  obtain ⟨ii, hinf, hsz'⟩ := Option.map_eq_some_iff.1 hsz
  have e0 : (ao.map (·.add 0) : Option Addr) = ao := by cases ao <;> rfl
  simp [Instr.sliceAt, Instr.slice, Instr.sliceBounds, Instr.sliceBound, asIntOf, run_underlying ht, sizeOf, typeInfo, hinf, go_sem]
  omega
end Go.Proofs.U
/- Regions that draw their order, some of whose operations turn memory, each of these waiting for the one before it; no condition. -/
namespace Go.Proofs.U
open Go.RowKit
set_option linter.unusedVariables false

section
variable {P : Program} {ops : Array Oper} {Q : Exit → Act → World → Prop}

/-- What is known while such a region runs: hv are the values of those of hs that came up. -/
structure KnowC (ops : Array Oper) (hs : List Nat) (F : Nat → Value → Prop) (J : List Value → World → Prop) (a0 : Act) (listed : Array Bool) (a : Act) (w : World) (hv : List Value) : Prop where
  len : hv.length ≤ hs.length
  pre : ∀ (k i : Nat), hs[k]? = some i → (listed.getD i false = true ↔ k < hv.length)
  val : ∀ (k i d : Nat) (v : Value), hs[k]? = some i → hv[k]? = some v → dstAt ops i = some d → a.tmps.getD d undef = v
  dfr : a.defers = a0.defers
  sz : a.tmps.size = a0.tmps.size
  base : ∀ s, (∀ i, dstAt ops i ≠ some s) → a.tmps.getD s undef = a0.tmps.getD s undef
  fact : ∀ i d, i ∉ hs → listed.getD i false = true → dstAt ops i = some d → F i (a.tmps.getD d undef)
  inv : J hv w

/-- What is asked of one operation. -/
def HandsC (P : Program) (ops : Array Oper) (hs : List Nat) (F : Nat → Value → Prop) (J : List Value → World → Prop) (a0 : Act) (Q : Exit → Act → World → Prop) (i : Nat) (o : Oper) : Prop :=
  ∀ (a : Act) (w : World) (hv : List Value), hv.length ≤ hs.length → (∀ (p j : Nat) (o' : Oper), hs[p]? = some j → ops[j]? = some o' → (∃ e ∈ o'.after, Region.binds .any e = true ∧ e.on = i) → hv.length ≤ p) → J hv w → (∀ s, (∀ i, dstAt ops i ≠ some s) → a.eval (.tmp s) = a0.eval (.tmp s)) →
    (∀ e ∈ o.after, Region.binds .any e = true → ∀ d, dstAt ops e.on = some d → (e.on ∉ hs → F e.on (a.eval (.tmp d))) ∧ ∀ (k : Nat), hs[k]? = some e.on → hv[k]? = some (a.eval (.tmp d))) →
    (i ∉ hs → if Region.wanted o (yielded ops a.tmps) = true then o.wp P a w (fun a' w' => ∃ v, a' = a.put o.dst v ∧ J hv w' ∧ F i v) Q else F i undef) ∧
    (∀ (k : Nat), hs[k]? = some i → hv.length = k → if Region.wanted o (yielded ops a.tmps) = true then o.wp P a w (fun a' w' => ∃ v, a' = a.put o.dst v ∧ J (hv ++ [v]) w') Q else J (hv ++ [undef]) w)

theorem put_other {a : Act} {o : Oper} {v : Value} {d : Nat} (hne : o.dst ≠ some d) : (a.put o.dst v).tmps.getD d undef = a.tmps.getD d undef := by
  cases hd : o.dst with
  | none => rfl
  | some d' =>
    have hds : d' ≠ d := fun e => hne (by rw [hd, e])
    simp only [Act.put, Array.getD_eq_getD_getElem?, Array.getElem?_setIfInBounds, hds, if_false]
theorem put_same {a : Act} {o : Oper} {v : Value} {d : Nat} (he : o.dst = some d) (hlt : d < a.tmps.size) : (a.put o.dst v).tmps.getD d undef = v := by
  rw [he]; simp [Act.put, hlt]

theorem wp_region_chain {id : Nat} {a0 : Act} {w : World} (hm : P.follows .mixedOrders = true) (hs : List Nat) (F : Nat → Value → Prop) (J : List Value → World → Prop) (hJ : J [] w.drew)
    (hlow : ∀ (i : Nat) (o : Oper), ops[i]? = some o → ∀ e ∈ o.after, Region.binds .any e = true → e.on < i)
    (hdist : ∀ i j d, dstAt ops i = some d → dstAt ops j = some d → i = j)
    (hin : ∀ i d, dstAt ops i = some d → d < a0.tmps.size)
    (hhs : ∀ (k i : Nat), hs[k]? = some i → i < ops.size)
    (hnd : hs.Nodup)
    (hch : ∀ (k i j : Nat) (o : Oper), hs[k]? = some i → hs[k + 1]? = some j → ops[j]? = some o → ∃ e ∈ o.after, Region.binds .any e = true ∧ e.on = i)
    (hob : ∀ (i : Nat) (o : Oper), ops[i]? = some o → HandsC P ops hs F J a0 Q i o)
    (hend : ∀ a w' hv, hv.length = hs.length → J hv w' → a.defers = a0.defers → a.tmps.size = a0.tmps.size → (∀ s, (∀ i, dstAt ops i ≠ some s) → a.eval (.tmp s) = a0.eval (.tmp s)) →
      (∀ i d, i ∉ hs → dstAt ops i = some d → F i (a.eval (.tmp d))) → (∀ (k i d : Nat) (v : Value), hs[k]? = some i → hv[k]? = some v → dstAt ops i = some d → a.eval (.tmp d) = v) → Q .normal a w') : (Code.region id ops true).wp P Q a0 w := by
  have uniq : ∀ (k k' i : Nat), hs[k]? = some i → hs[k']? = some i → k = k' := by
    intro k k' i h1 h2
    obtain ⟨l1, e1⟩ := List.getElem?_eq_some_iff.1 h1
    obtain ⟨l2, e2⟩ := List.getElem?_eq_some_iff.1 h2
    exact (List.getElem_inj hnd).1 (e1.trans e2.symm)
  refine wp_region_any hm ?_
  show wpAny P .any ops Q ops.size (Array.replicate ops.size false) a0 w.drew
  refine wpAny_inv (fun listed a w' => listed.size = ops.size ∧ (∃ hv, KnowC ops hs F J a0 listed a w' hv) ∧ ∀ i, listed.getD i false = true → ∀ o, ops[i]? = some o → ∀ e ∈ o.after, Region.binds .any e = true → listed.getD e.on false = true) ?_ ?_ ops.size (List.range ops.size) _ a0 _ ?_ (by simp) ?_
  · rintro listed a w' i ⟨hsz, ⟨hv, hK⟩, hcl⟩ hi
    obtain ⟨hun, o, ho, hall⟩ := mem_ready.1 hi
    have hilt : i < listed.size := by
      rcases Nat.lt_or_ge i listed.size with h' | h'
      · exact h'
      · simp [Array.getElem?_eq_none h'] at hun
    have hunf : listed.getD i false = false := by
      have h2 : listed.getD i true = listed.getD i false := by simp [hilt]
      rw [← h2]; exact hun
    have hdo : dstAt ops i = o.dst := by simp [dstAt, ho]
    have hdep : ∀ e ∈ o.after, Region.binds .any e = true → ∀ d, dstAt ops e.on = some d → (e.on ∉ hs → F e.on (a.eval (.tmp d))) ∧ ∀ (k : Nat), hs[k]? = some e.on → hv[k]? = some (a.eval (.tmp d)) := by
      intro e he hb d hd
      have hl := hall e he hb
      refine ⟨fun hn => hK.fact e.on d hn hl hd, fun k hk => ?_⟩
      have hlt := (hK.pre k e.on hk).1 hl
      have := hK.val k e.on d hv[k] hk (List.getElem?_eq_getElem hlt) hd
      rw [List.getElem?_eq_getElem hlt, ← this]; rfl
    have hbef : ∀ (p j : Nat) (o' : Oper), hs[p]? = some j → ops[j]? = some o' → (∃ e ∈ o'.after, Region.binds .any e = true ∧ e.on = i) → hv.length ≤ p := by
      intro p j o' hp hj he
      obtain ⟨e, he, hbe, hei⟩ := he
      rcases Nat.lt_or_ge p hv.length with hlt | hge
      · have h1 := hcl j ((hK.pre p j hp).2 hlt) o' hj e he hbe
        rw [hei, hunf] at h1; cases h1
      · exact hge
    have key := hob i o ho a w' hv hK.len hbef hK.inv hK.base hdep
    have lk : ∀ j, listed.getD j false = true → (listed.setIfInBounds i true).getD j false = true := by
      intro j hj
      by_cases hij : i = j
      · subst hij; simp [hilt]
      · simpa [Array.getElem?_setIfInBounds, hij] using hj
    have ldj : ∀ j, (listed.setIfInBounds i true).getD j false = true → j = i ∨ listed.getD j false = true := by
      intro j hj
      by_cases hij : i = j
      · exact Or.inl hij.symm
      · exact Or.inr (by simpa [Array.getElem?_setIfInBounds, hij] using hj)
    have lsame : (listed.setIfInBounds i true).getD i false = true := by simp [hilt]
    have lother : ∀ j, j ≠ i → (listed.setIfInBounds i true).getD j false = listed.getD j false := by
      intro j hj
      simp [Ne.symm hj]
    have closed : ∀ j, (listed.setIfInBounds i true).getD j false = true → ∀ o, ops[j]? = some o → ∀ e ∈ o.after, Region.binds .any e = true → (listed.setIfInBounds i true).getD e.on false = true := by
      intro j hj oj hoj e he hbe
      rcases ldj j hj with rfl | hj'
      · rw [ho] at hoj; cases hoj
        exact lk _ (hall e he hbe)
      · exact lk _ (hcl j hj' oj hoj e he hbe)
    have cdfr : ∀ v, (a.put o.dst v).defers = a0.defers := fun v => by cases hd : o.dst <;> simpa [Act.put] using hK.dfr
    have csz : ∀ v, (a.put o.dst v).tmps.size = a0.tmps.size := fun v => by cases hd : o.dst <;> simpa [Act.put] using hK.sz
    have cbase : ∀ v s, (∀ i, dstAt ops i ≠ some s) → (a.put o.dst v).tmps.getD s undef = a0.tmps.getD s undef := fun v s hs' => by
      rw [put_other (fun e => hs' i (by rw [hdo]; exact e))]; exact hK.base s hs'
    have ne_dst : ∀ j d, j ≠ i → dstAt ops j = some d → o.dst ≠ some d := fun j d hj hd e => hj (hdist j i d hd (by rw [hdo]; exact e))
    unfold wpOp
    simp only [ho]
    by_cases hh : i ∈ hs
    · -- one of the chain
      obtain ⟨k, hk⟩ := List.getElem?_of_mem hh
      have hnk : ¬ k < hv.length := fun h => by have := (hK.pre k i hk).2 h; rw [hunf] at this; cases this
      have hlen : hv.length = k := by
        rcases Nat.eq_zero_or_pos k with h0 | h0
        · omega
        · obtain ⟨k', rfl⟩ : ∃ k', k = k' + 1 := ⟨k - 1, by omega⟩
          obtain ⟨hkl, _⟩ := List.getElem?_eq_some_iff.1 hk
          have hk' : hs[k']? = some (hs[k']'(by omega)) := List.getElem?_eq_getElem (by omega)
          obtain ⟨e, he, hbe, hei⟩ := hch k' _ i o hk' hk ho
          have := (hK.pre k' _ hk').1 (by rw [← hei]; exact hall e he hbe)
          omega
      have hkl : k < hs.length := (List.getElem?_eq_some_iff.1 hk).1
      have next : ∀ v w'', J (hv ++ [v]) w'' → (listed.setIfInBounds i true).size = ops.size ∧ (∃ hv, KnowC ops hs F J a0 (listed.setIfInBounds i true) (a.put o.dst v) w'' hv) ∧ ∀ j, (listed.setIfInBounds i true).getD j false = true → ∀ o, ops[j]? = some o → ∀ e ∈ o.after, Region.binds .any e = true → (listed.setIfInBounds i true).getD e.on false = true := by
        intro v w'' hJ'
        refine ⟨by simpa using hsz, ⟨hv ++ [v], ?_, ?_, ?_, cdfr v, csz v, cbase v, ?_, hJ'⟩, closed⟩
        · simp; omega
        · intro k2 i2 hk2
          by_cases hii : i2 = i
          · subst hii
            have := uniq k2 k i2 hk2 hk
            subst this
            simp [lsame]; omega
          · rw [lother i2 hii, hK.pre k2 i2 hk2]
            have : k2 ≠ k := fun e => hii (by rw [e, hk] at hk2; exact (Option.some.inj hk2).symm)
            simp; omega
        · intro k2 i2 d v2 hk2 hv2 hd2
          by_cases hii : i2 = i
          · subst hii
            have := uniq k2 k i2 hk2 hk
            subst this
            rw [hdo] at hd2
            rw [put_same hd2 (by rw [hK.sz]; exact hin i2 d (by rw [hdo]; exact hd2))]
            rw [List.getElem?_append_right (by omega)] at hv2
            simpa [hlen] using hv2
          · rw [put_other (ne_dst i2 d hii hd2)]
            have hkne : k2 ≠ k := fun e => hii (by rw [e, hk] at hk2; exact (Option.some.inj hk2).symm)
            have hlt2 : k2 < (hv ++ [v]).length := (List.getElem?_eq_some_iff.1 hv2).1
            rw [List.getElem?_append_left (by simp at hlt2; omega)] at hv2
            exact hK.val k2 i2 d v2 hk2 hv2 hd2
        · intro j d hj hl hd
          have hji : j ≠ i := fun e => hj (e ▸ hh)
          rw [put_other (ne_dst j d hji hd)]
          rw [lother j hji] at hl
          exact hK.fact j d hj hl hd
      have key2 := key.2 k hk hlen
      by_cases hw : Region.wanted o (yielded ops a.tmps) = true
      · rw [if_pos hw] at key2 ⊢
        refine Or.inl (Oper.wp_mono ?_ key2)
        rintro a' w'' ⟨v, rfl, hF⟩
        exact next v w'' hF
      · rw [if_neg hw] at key2 ⊢
        exact next undef w' key2
    · have next : ∀ v w'', J hv w'' → F i v → (listed.setIfInBounds i true).size = ops.size ∧ (∃ hv, KnowC ops hs F J a0 (listed.setIfInBounds i true) (a.put o.dst v) w'' hv) ∧ ∀ j, (listed.setIfInBounds i true).getD j false = true → ∀ o, ops[j]? = some o → ∀ e ∈ o.after, Region.binds .any e = true → (listed.setIfInBounds i true).getD e.on false = true := by
        intro v w'' hJ' hF
        refine ⟨by simpa using hsz, ⟨hv, hK.len, ?_, ?_, cdfr v, csz v, cbase v, ?_, hJ'⟩, closed⟩
        · intro k2 i2 hk2
          have hii : i2 ≠ i := fun e => hh (e ▸ List.mem_of_getElem? hk2)
          rw [lother i2 hii]; exact hK.pre k2 i2 hk2
        · intro k2 i2 d v2 hk2 hv2 hd2
          have hii : i2 ≠ i := fun e => hh (e ▸ List.mem_of_getElem? hk2)
          rw [put_other (ne_dst i2 d hii hd2)]
          exact hK.val k2 i2 d v2 hk2 hv2 hd2
        · intro j d hj hl hd
          by_cases hji : j = i
          · subst hji
            rw [hdo] at hd
            rw [put_same hd (by rw [hK.sz]; exact hin j d (by rw [hdo]; exact hd))]
            exact hF
          · rw [put_other (ne_dst j d hji hd)]
            rw [lother j hji] at hl
            exact hK.fact j d hj hl hd
      have key1 := key.1 hh
      by_cases hw : Region.wanted o (yielded ops a.tmps) = true
      · rw [if_pos hw] at key1 ⊢
        refine Or.inl (Oper.wp_mono ?_ key1)
        rintro a' w'' ⟨v, rfl, hJ', hF⟩
        exact next v w'' hJ' hF
      · rw [if_neg hw] at key1 ⊢
        exact next undef w' hK.inv key1
  · rintro listed a w' ⟨hsz, ⟨hv, hK⟩, hcl⟩ h0
    have hall : ∀ n i, i < n → i < ops.size → listed.getD i false = true := by
      intro n
      induction n with
      | zero => intro i h; omega
      | succ n ihn =>
        intro i hi hlt
        rcases Nat.lt_or_ge i n with hn | hn
        · exact ihn i hn hlt
        · obtain rfl : i = n := by omega
          cases hq : listed.getD i false with
          | true => rfl
          | false =>
            exfalso
            have hls : i < listed.size := by omega
            have ho : ops[i]? = some ops[i] := Array.getElem?_eq_getElem hlt
            have hmem : i ∈ Region.ready .any ops listed := mem_ready.2 ⟨by
              have h2 : listed.getD i true = listed.getD i false := by simp [hls]
              rw [h2]; exact hq, ops[i], ho, fun e he hbe => ihn e.on (hlow i _ ho e he hbe) (by have := hlow i _ ho e he hbe; omega)⟩
            rw [h0] at hmem; cases hmem
    have inb : ∀ i d, dstAt ops i = some d → i < ops.size := by
      intro i d hd
      rcases Nat.lt_or_ge i ops.size with h' | h'
      · exact h'
      · simp [dstAt, Array.getElem?_eq_none h'] at hd
    have hfull : hv.length = hs.length := by
      rcases Nat.lt_or_ge hv.length hs.length with h' | h'
      · exfalso
        have hk : hs[hv.length]? = some hs[hv.length] := List.getElem?_eq_getElem h'
        have := (hK.pre _ _ hk).1 (hall _ _ (Nat.lt_succ_self _) (hhs _ _ hk))
        omega
      · have := hK.len; omega
    exact hend a w' hv hfull hK.inv hK.dfr hK.sz hK.base (fun i d hn hd => hK.fact i d hn (hall (i + 1) i (by omega) (inb i d hd)) hd) hK.val
  · intro i hi
    rcases Nat.lt_or_ge i ops.size with h' | h'
    · simpa using h'
    · simp [h'] at hi
  · have nolist : ∀ i, (Array.replicate ops.size false).getD i false = false := fun i => by
      rcases Nat.lt_or_ge i ops.size with h' | h' <;> simp [h']
    refine ⟨by simp, ⟨[], Nat.zero_le _, fun k i hk => ?_, fun k i d v _ h => by simp at h, rfl, rfl, fun _ _ => rfl, fun i d _ hl => ?_, hJ⟩, fun i hl => ?_⟩
    · rw [nolist i]; simp
    · rw [nolist i] at hl; cases hl
    · rw [nolist i] at hl; cases hl
end
end Go.Proofs.U
/- The law of such regions by lists; no condition. -/
namespace Go.Proofs.U
open Go.RowKit
set_option linter.unusedVariables false

def factL (fs : List (Value → Prop)) (i : Nat) : Value → Prop := fs.getD i fun _ => True
def depOnB (ops : Array Oper) (k j : Nat) : Bool := match ops[k]? with | some o => o.after.any (fun e => e.on == j && Region.binds .any e) | none => false
def regionOkB (ops : Array Oper) (n : Nat) : Bool :=
  ((List.range ops.size).all fun i => match ops[i]? with
    | some o => o.after.all (fun e => !Region.binds .any e || decide (e.on < i)) && (match o.dst with | some d => decide (d < n) | none => true)
    | none => true) &&
  ((List.range ops.size).all fun i => (List.range ops.size).all fun j => i == j || (dstAt ops i).isNone || dstAt ops i != dstAt ops j)
def chainOk (ops : Array Oper) (hs : List Nat) (tags : List (Option Nat)) : Bool :=
  decide (tags.length = ops.size) && ((List.range tags.length).all fun i => tags.getD i none == hs.idxOf? i) && (hs.all fun i => decide (i < ops.size)) &&
    ((List.range (hs.length - 1)).all fun k => depOnB ops (hs.getD (k + 1) 0) (hs.getD k 0))

theorem regionOk_parts {ops : Array Oper} {n : Nat} (hok : regionOkB ops n = true) :
    (∀ (i : Nat) (o : Oper), ops[i]? = some o → ∀ e ∈ o.after, Region.binds .any e = true → e.on < i) ∧ (∀ i d, dstAt ops i = some d → d < n) ∧ (∀ i j d, dstAt ops i = some d → dstAt ops j = some d → i = j) := by
  unfold regionOkB at hok
  rw [Bool.and_eq_true] at hok
  have hlto : ∀ (i : Nat) (o : Oper), ops[i]? = some o → i < ops.size := by
    intro i o ho
    rcases Nat.lt_or_ge i ops.size with h' | h'
    · exact h'
    · rw [Array.getElem?_eq_none h'] at ho; cases ho
  have inb : ∀ i d, dstAt ops i = some d → i < ops.size := by
    intro i d hd
    rcases Nat.lt_or_ge i ops.size with h' | h'
    · exact h'
    · simp [dstAt, Array.getElem?_eq_none h'] at hd
  refine ⟨?_, ?_, ?_⟩
  · intro i o ho e he hbe
    have h2 := List.all_eq_true.1 hok.1 i (by simpa using hlto i o ho)
    simp only [ho] at h2
    rw [Bool.and_eq_true] at h2
    have h3 := Array.all_eq_true_iff_forall_mem.1 h2.1 e he
    simpa [hbe] using h3
  · intro i d hd
    have hlt := inb i d hd
    have ho : ops[i]? = some ops[i] := Array.getElem?_eq_getElem hlt
    have h2 := List.all_eq_true.1 hok.1 i (by simpa using hlt)
    have hdd : ops[i].dst = some d := by simpa [dstAt, ho] using hd
    simp only [ho, hdd] at h2
    rw [Bool.and_eq_true] at h2
    exact of_decide_eq_true h2.2
  · intro i j d hi hj
    have h2 := List.all_eq_true.1 (List.all_eq_true.1 hok.2 i (by simpa using inb i d hi)) j (by simpa using inb j d hj)
    simp [hi, hj] at h2
    exact h2

section
variable {P : Program} {ops : Array Oper} {Q : Exit → Act → World → Prop}
def Light (P : Program) (ops : Array Oper) (hs : List Nat) (fs : List (Value → Prop)) (J : List Value → World → Prop) (a0 : Act) (Q : Exit → Act → World → Prop) (k : Nat) (o : Oper) : Prop :=
  ∀ (a : Act) (w : World) (hv : List Value), (hv.length ≤ hs.length ∧ ∀ (p j : Nat), hs[p]? = some j → depOnB ops j k = true → hv.length ≤ p) → J hv w → (∀ s, notDst ops s = true → a.eval (.tmp s) = a0.eval (.tmp s)) →
    (∀ j d, depOnB ops k j = true → hs.contains j = false → dstAt ops j = some d → factL fs j (a.eval (.tmp d))) →
    (∀ (j d p : Nat), depOnB ops k j = true → hs[p]? = some j → dstAt ops j = some d → hv[p]? = some (a.eval (.tmp d))) →
    if Region.wanted o (yielded ops a.tmps) = true then o.wp P a w (fun a' w' => ∃ v, a' = a.put o.dst v ∧ J hv w' ∧ factL fs k v) Q else factL fs k undef
def Heavy (P : Program) (ops : Array Oper) (hs : List Nat) (fs : List (Value → Prop)) (J : List Value → World → Prop) (a0 : Act) (Q : Exit → Act → World → Prop) (p k : Nat) (o : Oper) : Prop :=
  ∀ (a : Act) (w : World) (hv : List Value), hv.length = p → J hv w → (∀ s, notDst ops s = true → a.eval (.tmp s) = a0.eval (.tmp s)) →
    (∀ j d, depOnB ops k j = true → hs.contains j = false → dstAt ops j = some d → factL fs j (a.eval (.tmp d))) →
    (∀ (j d q : Nat), depOnB ops k j = true → hs[q]? = some j → dstAt ops j = some d → hv[q]? = some (a.eval (.tmp d))) →
    if Region.wanted o (yielded ops a.tmps) = true then o.wp P a w (fun a' w' => ∃ v, a' = a.put o.dst v ∧ J (hv ++ [v]) w') Q else J (hv ++ [undef]) w
def HandCAll (P : Program) (ops : Array Oper) (hs : List Nat) (fs : List (Value → Prop)) (J : List Value → World → Prop) (a0 : Act) (Q : Exit → Act → World → Prop) : Nat → List (Option Nat) → List Oper → Prop
  | _, _, [] => True
  | _, [], _ :: _ => False
  | k, none :: ts, o :: r => Light P ops hs fs J a0 Q k o ∧ HandCAll P ops hs fs J a0 Q (k + 1) ts r
  | k, some p :: ts, o :: r => Heavy P ops hs fs J a0 Q p k o ∧ HandCAll P ops hs fs J a0 Q (k + 1) ts r

theorem handCAll_get {hs : List Nat} {fs : List (Value → Prop)} {J : List Value → World → Prop} {a0 : Act} : ∀ (l : List Oper) (ts : List (Option Nat)) (k : Nat), HandCAll P ops hs fs J a0 Q k ts l → ∀ (i : Nat) (o : Oper), l[i]? = some o →
    (ts[i]? = some none ∧ Light P ops hs fs J a0 Q (k + i) o) ∨ ∃ p, ts[i]? = some (some p) ∧ Heavy P ops hs fs J a0 Q p (k + i) o
  | [], _, _, _, i, o, ho => by simp at ho
  | x :: l, [], k, h, _, o, ho => by cases h
  | x :: l, none :: ts, k, h, 0, o, ho => by simp at ho; subst ho; exact Or.inl ⟨rfl, h.1⟩
  | x :: l, some p :: ts, k, h, 0, o, ho => by simp at ho; subst ho; exact Or.inr ⟨p, rfl, h.1⟩
  | x :: l, none :: ts, k, h, i + 1, o, ho => by
    have := handCAll_get l ts (k + 1) h.2 i o (by simpa using ho)
    rwa [show k + 1 + i = k + (i + 1) by omega] at this
  | x :: l, some p :: ts, k, h, i + 1, o, ho => by
    have := handCAll_get l ts (k + 1) h.2 i o (by simpa using ho)
    rwa [show k + 1 + i = k + (i + 1) by omega] at this

theorem wp_region_chain_lay {id : Nat} {l : List Oper} {a0 : Act} {w : World} (hm : P.follows .mixedOrders = true) (hs : List Nat) (tags : List (Option Nat)) (fs : List (Value → Prop)) (J : List Value → World → Prop) (hJ : J [] w.drew)
    (hok : regionOkB l.toArray a0.tmps.size = true) (hck : chainOk l.toArray hs tags = true) (hnd : hs.Nodup)
    (hob : HandCAll P l.toArray hs fs J a0 Q 0 tags l)
    (hend : ∀ (vs : Nat → Value) w' hv, hv.length = hs.length → J hv w' → (∀ i, hs.contains i = false → (l[i]?.bind (·.dst)).isSome = true → factL fs i (vs i)) →
      (∀ (k i : Nat), hs[k]? = some i → (l[i]?.bind (·.dst)).isSome = true → hv[k]? = some (vs i)) → Q .normal (layL l 0 vs a0) w') : (Code.region id l.toArray true).wp P Q a0 w := by
  have hdl : ∀ i, dstAt l.toArray i = l[i]?.bind (·.dst) := fun i => by simp [dstAt]
  obtain ⟨r1, r2, r3⟩ := regionOk_parts hok
  unfold chainOk at hck
  simp only [Bool.and_eq_true, decide_eq_true_eq] at hck
  obtain ⟨⟨⟨c1, c2⟩, c3⟩, c4⟩ := hck
  have htag : ∀ i, i < l.toArray.size → tags[i]? = some (hs.idxOf? i) := by
    intro i hi
    have := List.all_eq_true.1 c2 i (by simp at hi ⊢; simp at c1; omega)
    have hlt : i < tags.length := by omega
    rw [List.getElem?_eq_getElem hlt]
    simpa [List.getD, hlt] using this
  have depIn : ∀ (i j : Nat) (o : Oper) (e : Edge), l.toArray[i]? = some o → e ∈ o.after → Region.binds .any e = true → e.on = j → depOnB l.toArray i j = true := by
    intro i j o e ho he hbe hj
    unfold depOnB
    rw [ho]
    exact Array.any_eq_true.2 (by
      obtain ⟨n, hn, heq⟩ := Array.mem_iff_getElem.1 he
      exact ⟨n, hn, by rw [heq]; simpa [hbe] using hj⟩)
  have depOut : ∀ (i j : Nat) (o : Oper), l.toArray[i]? = some o → depOnB l.toArray i j = true → ∃ e ∈ o.after, Region.binds .any e = true ∧ e.on = j := by
    intro i j o ho hj
    unfold depOnB at hj
    rw [ho] at hj
    simp only at hj
    obtain ⟨n, hn, heq⟩ := Array.any_eq_true.1 hj
    exact ⟨o.after[n], Array.getElem_mem hn, by simpa [and_comm] using heq⟩
  refine wp_region_chain hm hs (factL fs) J hJ r1 r3 r2 ?_ hnd ?_ ?_ ?_
  · intro k i hk
    exact of_decide_eq_true (List.all_eq_true.1 c3 i (List.mem_of_getElem? hk))
  · intro k i j o hk hk1 ho
    have hlt := (List.getElem?_eq_some_iff.1 hk1).1
    have := List.all_eq_true.1 c4 k (by simp; omega)
    have e1 : hs.getD (k + 1) 0 = j := by simp [List.getD, hk1]
    have e2 : hs.getD k 0 = i := by simp [List.getD, hk]
    rw [e1, e2] at this
    exact depOut j i o ho this
  · intro i o ho a w' hv hlen hbef hJv hbase hdep
    have hlt : i < l.toArray.size := by
      rcases Nat.lt_or_ge i l.toArray.size with h' | h'
      · exact h'
      · rw [Array.getElem?_eq_none h'] at ho; cases ho
    have hb' : ∀ s, notDst l.toArray s = true → a.eval (.tmp s) = a0.eval (.tmp s) := fun s hs' => hbase s (notDst_spec hs')
    have hd1 : ∀ j d, depOnB l.toArray i j = true → hs.contains j = false → dstAt l.toArray j = some d → factL fs j (a.eval (.tmp d)) := by
      intro j d hj hc hd
      obtain ⟨e, he, hbe, rfl⟩ := depOut i j o ho hj
      exact (hdep e he hbe d hd).1 (by simpa using hc)
    have hd2 : ∀ (j d p : Nat), depOnB l.toArray i j = true → hs[p]? = some j → dstAt l.toArray j = some d → hv[p]? = some (a.eval (.tmp d)) := by
      intro j d p hj hp hd
      obtain ⟨e, he, hbe, rfl⟩ := depOut i j o ho hj
      exact (hdep e he hbe d hd).2 p hp
    have hg := handCAll_get l tags 0 hob i o (by simpa using ho)
    rw [Nat.zero_add] at hg
    have ht := htag i hlt
    rcases hg with ⟨t1, hL⟩ | ⟨p, t1, hH⟩
    · rw [ht] at t1
      have hni : i ∉ hs := by
        have := Option.some.inj t1
        rwa [List.idxOf?_eq_none_iff] at this
      refine ⟨fun _ => hL a w' hv ⟨hlen, fun p j hp hj => by
        have hjl := of_decide_eq_true (List.all_eq_true.1 c3 j (List.mem_of_getElem? hp))
        obtain ⟨o', ho'⟩ : ∃ o', l.toArray[j]? = some o' := ⟨_, Array.getElem?_eq_getElem hjl⟩
        exact hbef p j o' hp ho' (depOut j i o' ho' hj)⟩ hJv hb' hd1 hd2, fun k hk => absurd (List.mem_of_getElem? hk) hni⟩
    · rw [ht] at t1
      have hp := Option.some.inj t1
      have hpi : hs[p]? = some i := by
        obtain ⟨hpl, hpe, _⟩ := List.idxOf?_eq_some_iff.1 hp
        rw [List.getElem?_eq_getElem hpl, hpe]
      refine ⟨fun hn => absurd (List.mem_of_getElem? hpi) hn, fun k hk hl => ?_⟩
      obtain ⟨l1, e1⟩ := List.getElem?_eq_some_iff.1 hk
      obtain ⟨l2, e2⟩ := List.getElem?_eq_some_iff.1 hpi
      have hkp : k = p := (List.getElem_inj hnd).1 (e1.trans e2.symm)
      subst hkp
      exact hH a w' hv hl hJv hb' hd1 hd2
  · intro a w' hv hlen hJv hdf hsz hbase hall hval
    have h := hend (fun i => match l[i]?.bind (·.dst) with | some d => a.eval (.tmp d) | none => undef) w' hv hlen hJv (fun i hc hi => by
      cases hd : l[i]?.bind (·.dst) with
      | none => rw [hd] at hi; cases hi
      | some d => simpa only [hd] using hall i d (by simpa using hc) (by rw [hdl]; exact hd)) (fun k i hk hi => by
      cases hd : l[i]?.bind (·.dst) with
      | none => rw [hd] at hi; cases hi
      | some d =>
        have hkl := (List.getElem?_eq_some_iff.1 hk).1
        have hkv : hv[k]? = some hv[k] := List.getElem?_eq_getElem (by omega)
        rw [hkv, ← hval k i d hv[k] hk hkv (by rw [hdl]; exact hd)])
    have e : layL l 0 (fun i => match l[i]?.bind (·.dst) with | some d => a.eval (.tmp d) | none => undef) a0 = a := by
      have h2 := layL_size l 0 (fun i => match l[i]?.bind (·.dst) with | some d => a.eval (.tmp d) | none => undef) a0
      have h3 := layL_is a l 0 (fun i => match l[i]?.bind (·.dst) with | some d => a.eval (.tmp d) | none => undef) a0 hsz.symm (fun j o d ho hd => by simp [ho, hd]) (fun s => by
        cases hn : notDst l.toArray s with
        | true => exact Or.inl (hbase s (notDst_spec hn))
        | false =>
          right
          unfold notDst at hn
          rw [List.all_eq_false] at hn
          obtain ⟨j, hj, hq⟩ := hn
          have hd : dstAt l.toArray j = some s := by simpa using hq
          rw [hdl] at hd
          obtain ⟨o, ho, hod⟩ := Option.bind_eq_some_iff.1 hd
          exact ⟨j, o, ho, hod⟩)
      generalize layL l 0 (fun i => match l[i]?.bind (·.dst) with | some d => a.eval (.tmp d) | none => undef) a0 = b at *
      obtain ⟨bt, bd⟩ := b
      obtain ⟨at', ad⟩ := a
      simp only at h2 hsz hdf
      have hd : bd = ad := by rw [h2.2, hdf]
      have ht : bt = at' := by
        apply Array.ext
        · omega
        · intro i hi hi'
          have := h3 i
          simpa [Act.eval, hi, hi'] using this
      rw [hd, ht]
    rwa [e] at h

variable {a : Act} {w : World} {o : Oper} {hs : List Nat} {fs : List (Value → Prop)} {J : List Value → World → Prop} {k : Nat} {hv : List Value}
theorem light_val {v : Value} (hw : Region.wanted o (yielded ops a.tmps) = true) (hrun : (execOp a.eval o).run P w = .ok (.value v) w) (hJ : J hv w) (hF : factL fs k v) :
    if Region.wanted o (yielded ops a.tmps) = true then o.wp P a w (fun a' w' => ∃ v, a' = a.put o.dst v ∧ J hv w' ∧ factL fs k v) Q else factL fs k undef := by
  rw [if_pos hw]
  unfold Oper.wp
  rw [hrun]
  exact ⟨v, rfl, hJ, hF⟩
theorem heavy_val {v : Value} {w' : World} (hw : Region.wanted o (yielded ops a.tmps) = true) (hrun : (execOp a.eval o).run P w = .ok (.value v) w') (hJ : J (hv ++ [v]) w') :
    if Region.wanted o (yielded ops a.tmps) = true then o.wp P a w (fun a' w' => ∃ v, a' = a.put o.dst v ∧ J (hv ++ [v]) w') Q else J (hv ++ [undef]) w := by
  rw [if_pos hw]
  unfold Oper.wp
  rw [hrun]
  exact ⟨v, rfl, hJ⟩
theorem heavy_wp (hw : Region.wanted o (yielded ops a.tmps) = true) (h : o.wp P a w (fun a' w' => ∃ v, a' = a.put o.dst v ∧ J (hv ++ [v]) w') Q) :
    if Region.wanted o (yielded ops a.tmps) = true then o.wp P a w (fun a' w' => ∃ v, a' = a.put o.dst v ∧ J (hv ++ [v]) w') Q else J (hv ++ [undef]) w := by
  rw [if_pos hw]; exact h
theorem heavy_call {f : FuncId} {args : Array Value} (hw : Region.wanted o (yielded ops a.tmps) = true) (hrun : (execOp a.eval o).run P w = .ok (.enter f args) w)
    (hc : Calls P f args w fun e w' => ∃ v, e = .returned v ∧ J (hv ++ [v]) w') :
    if Region.wanted o (yielded ops a.tmps) = true then o.wp P a w (fun a' w' => ∃ v, a' = a.put o.dst v ∧ J (hv ++ [v]) w') Q else J (hv ++ [undef]) w := by
  rw [if_pos hw]
  unfold Oper.wp
  rw [hrun]
  refine hc.mono ?_
  rintro e w' ⟨v, rfl, hJ⟩
  exact ⟨v, rfl, hJ⟩
end
end Go.Proofs.U
/- The document's disk: settle. -/
namespace Go.Proofs.Ytghkpeejogldkaa
open Go.RowKit Go.Proofs.U
set_option linter.unusedSimpArgs false
set_option linter.unusedVariables false

/-- keep[k]: its place, and what lies there. -/
theorem run_idxI {w w0 : World} {ka : Option Addr} {kc : Nat} {keep : List Int} (hS : SlI .u8 w0 (.slice ka keep.length kc) keep) (k : Nat) (hk : k < keep.length) {g : Nat} (hg : ∀ b, (Value.slice ka keep.length kc).ownBlock = some b → b ≠ g) :
    ∃ kb ko, (Instr.indexAt 60 (.slice ka keep.length kc) (.int .i64 (k : Int))).run Try.prog w = .ok (.pointer (some ⟨kb, ko, none⟩)) w ∧ w0.cell? ⟨kb, ko, none⟩ = some (.int .u8 (keep.getD k 0)) ∧ kb ≠ g := by
  obtain ⟨⟨a0, cap0, hv, h1, h2, h3, h4⟩, _⟩ := hS
  cases hv
  cases ka with
  | none => have := h3 rfl; omega
  | some ad =>
    have hc := h4 ad rfl k (.int .u8 (keep.getD k 0)) (by simp [List.getD, hk])
    obtain ⟨b, off, sp⟩ := ad
    have hc0 := h4 _ rfl 0 (.int .u8 (keep.getD 0 0)) (by simp [List.getD, show 0 < keep.length by omega])
    have hsp : sp = none := by simpa [Addr.add] using World.cell?_spot hc0
    subst hsp
    refine ⟨b, off + k, ?_, by rwa [Addr.plain] at hc, hg b rfl⟩
    have h5 : (0 : Int) ≤ (k : Int) ∧ (k : Int) < (keep.length : Int) := by omega
    obtain ⟨ii, hinf, hsz'⟩ := Option.map_eq_some_iff.1 size_u8
    simp [Instr.indexAt, asIntOf, run_underlying Try.underlying60, h5, sizeOf, typeInfo, hinf, hsz', go_sem, Addr.plain]
    omega

theorem SlI.old {k : IntKind} {w : World} {v : Value} {l : List Int} (h : SlI k w v l) (b : Nat) (hb : v.ownBlock = some b) (hl : 0 < l.length) : b < w.heap.size := by
  obtain ⟨⟨a0, cap0, rfl, h1, h2, h3, h4⟩, _⟩ := h
  cases a0 with
  | none => simp [Value.ownBlock] at hb
  | some ad =>
    have hc := h4 ad rfl 0 (.int k (l.getD 0 0)) (by simp [List.getD, hl])
    have := World.block_lt_of_cell? w _ hc
    simp [Value.ownBlock] at hb
    subst hb
    simpa [Addr.add] using this
/-- One write settled, under a byte of keep. -/
def setl1 (pend : List (Int × List Int)) (keep : List Int) (ps : List (List Int)) (j : Nat) : List (List Int) :=
  if j < keep.length then ps.set (pend.getD j (0, [])).1.toNat (mixK (ps.getD (pend.getD j (0, [])).1.toNat []) (pend.getD j (0, [])).2 (keep.getD j 0) 256) else ps
def setlK (pages : List (List Int)) (pend : List (Int × List Int)) (keep : List Int) (k : Nat) : List (List Int) := (List.range k).foldl (setl1 pend keep) pages
theorem setlK_succ (pages : List (List Int)) (pend : List (Int × List Int)) (keep : List Int) (k : Nat) : setlK pages pend keep (k + 1) = setl1 pend keep (setlK pages pend keep k) k := by
  unfold setlK; rw [List.range_succ, List.foldl_append]; rfl
theorem setlK_len (pages : List (List Int)) (pend : List (Int × List Int)) (keep : List Int) (k : Nat) : (setlK pages pend keep k).length = pages.length := by
  induction k with
  | zero => rfl
  | succ k ih => rw [setlK_succ]; unfold setl1; split <;> simp [ih]

end Go.Proofs.Ytghkpeejogldkaa
/- The document's disk: Crash and Sync. -/
namespace Go.Proofs.Ytghkpeejogldkaa
open Go.RowKit Go.Proofs.U
set_option linter.unusedSimpArgs false
set_option linter.unusedVariables false

abbrev en8 (z : Int) : List Value := [Value.int .u8 z]
theorem info_u8 : (Try.prog.info? 5).map (fun i => (i.zero, i.size)) = some (some (.int .u8 0), 1) := by kernel_rfl
theorem info_u8b : (Try.prog.info? 5).map (fun i => (i.zero, i.size, i.bytes)) = some (some (.int .u8 0), 1, 1) := by kernel_rfl
theorem flat_en8 (l : List Int) : l.flatMap en8 = l.map (Value.int .u8) := by
  induction l with
  | nil => rfl
  | cons x l ih => rw [List.flatMap_cons, ih]; rfl
theorem slI_of_ownR {e : TypeId} {w : World} {base : Nat} {v : Value} {l : List Int} (h : OwnR en8 1 e w base v l) (hw : ∀ n ∈ l, (Lit.int .u8 n).wf = true) : SlI .u8 w v l := ⟨by rw [← flat_en8]; exact h.sl.2, hw⟩

end Go.Proofs.Ytghkpeejogldkaa
/- The document's disk: New. -/
namespace Go.Proofs.Ytghkpeejogldkaa
open Go.RowKit Go.Proofs.U
set_option linter.unusedSimpArgs false
set_option linter.unusedVariables false

def newN (n : Int) : Nat := min n.toNat 244
theorem info_bool2 : (Try.prog.info? 4).map (fun i => (i.zero, i.size)) = some (some (.bool false), 1) := by kernel_rfl
end Go.Proofs.Ytghkpeejogldkaa
