/- Texts BD, P6, RI, RI2, RI3, RI4, P7, P9, K1 of the proof of PruneTrims, one behind the other. -/
import Derived.Laws.Tables
import Derived.Orders
import Derived.Maps.OwnSet
import Derived.Maps.Range
import Derived.Test.YtmkinaijkgkgiaaGreatBundlePruneTrims1
/- Values of several cells, put together out of parts; a row of one of them; no condition. -/
namespace Go.Proofs.U
open Go.RowKit
set_option linter.unusedSimpArgs false
set_option linter.unusedVariables false

theorem zip_put (off : Nat) : ∀ (ds : List Value) (k : Nat) (cells : List Value), off + k + ds.length ≤ cells.length →
    (ds.zipIdx k).foldl (fun (cs : Array Value) x => cs.setIfInBounds (off + x.2) x.1) cells.toArray = (putAt cells (off + k) ds).toArray := by
  intro ds
  induction ds with
  | nil => intro k cells _; rw [putAt_nil]; rfl
  | cons d ds ih =>
    intro k cells h
    simp at h
    rw [List.zipIdx_cons, List.foldl_cons]
    simp only [List.setIfInBounds_toArray]
    rw [ih (k + 1) (cells.set (off + k) d) (by simp; omega), ← putAt_cons cells (off + k) d ds (by omega)]
    rfl
theorem fill_put (place : Nat → Option (Nat × Nat)) (cells : List Value) (k off sz : Nat) (v : Value) (ds : List Value) (hv : v.cells = ds.toArray) (hp : place k = some (off, sz)) (hs : ds.length = sz) (hl : off + sz ≤ cells.length) (rest : List (Nat × Value)) :
    Instr.fill place cells.toArray ((k, v) :: rest) = Instr.fill place (putAt cells off ds).toArray rest := by
  have hz : Array.foldl (fun (cs : Array Value) x => cs.setIfInBounds (off + x.2) x.1) cells.toArray ds.toArray.zipIdx = (putAt cells off ds).toArray := by
    have := zip_put off ds 0 cells (by omega)
    rw [Nat.add_zero] at this
    rw [← this]
    simp
  conv => lhs; unfold Instr.fill
  simp only [hp, hv]
  rw [if_neg (by simp; omega)]
  exact congrArg (fun z => Instr.fill place z rest) hz
theorem built_struct {P : Program} (t : TypeId) (fields : Array Field) (hu : P.underlying t = some (.struct fields)) (zs : List Value) (hz : (P.info? t).map (·.zero) = some (some (.agg zs.toArray))) (places : List (Nat × Nat))
    (hp : fields.toList.mapM (fun f => (P.info? f.type).map fun i => (f.offset, i.size)) = some places) (parts : List (Nat × Value)) : P.built t parts = Instr.fill (places.toArray[·]?) zs.toArray parts := by
  obtain ⟨i, hi, hz'⟩ := Option.map_eq_some_iff.1 hz
  unfold Program.built
  rw [hi, hu]
  simp only [hz', hp, Value.cells]

section
variable {α : Type} {ec : α → List Value} {sz : Nat} {w : World} {P : Program} {ops : Array Oper} {rest : List Oper} {o : Oper} {a : Act} {Q : Exit → Act → World → Prop}
/-- []T{y}: a row of one element, its block a letter. -/
theorem wpList_mk1 (hgd : Region.wanted o (yielded ops a.tmps) = true) (t : TypeId) (y : Operand) (ho : o.op = .buildSlice t 1 #[(0, y)]) (e : TypeId) (ht : P.underlying t = some (.slice e)) (z : Value) (hinfo : (P.info? e).map (fun i => (i.zero, i.size)) = some (some z, sz)) (hsz : 0 < sz) (hbig : sz ≤ 16777216)
    (x : α) (V : Value) (hy : a.eval y = V) (hV : V.cells = (ec x).toArray) (hx : (ec x).length = sz)
    (h : ∀ g w', SlR ec sz w' (.slice (some ⟨g, 0, none⟩) 1 1) [x] → Fr noB w w' → w.heap.size ≤ g → g < w'.heap.size → wpList P ops Q rest (a.put o.dst (.slice (some ⟨g, 0, none⟩) 1 1)) w') : wpList P ops Q (o :: rest) a w := by
  refine wpList_wanted hgd fun K hK => ?_
  obtain ⟨ii, hinf, hq⟩ := Option.map_eq_some_iff.1 hinfo
  simp only [Prod.mk.injEq] at hq
  have hfill : ∀ X : Array Value, X.size = sz → Instr.fill (fun i => some (i * sz, sz)) X [(0, V)] = some (ec x).toArray := by
    intro X hX
    have h1 := fill_put (fun i => some (i * sz, sz)) X.toList 0 0 sz V (ec x) hV (by simp) hx (by rw [Array.length_toList, hX]; omega) []
    have e1 : X.toList.toArray = X := by simp
    rw [e1] at h1
    rw [h1, putAt_all _ _ (by rw [hx, ← hX]; exact Array.length_toList.symm)]
    rfl
  have hbs : (Instr.buildSlice t 1 #[(0, V)]).run P w = .ok (.slice (some ⟨w.heap.size, 0, none⟩) 1 1) (w.alloc (.cells (ec x).toArray e)) := by
    have hne : ¬ sz = 0 := by omega
    have hnb : ¬ 16777216 < sz := by omega
    have hf := hfill ((Array.range sz).map (fun k => z.cells[k % z.cells.size]!)) (by simp)
    unfold Instr.buildSlice
    simp [run_underlying ht, sizeOf, typeInfo, zeroValue, hinf, hq.1, hq.2, hne, hnb, hf, Sem.run_bind, Result.andThen]
    simp [go_sem]
  have hrun : (execOp a.eval o).run P w = .ok (.value (.slice (some ⟨w.heap.size, 0, none⟩) 1 1)) (w.alloc (.cells (ec x).toArray e)) := by
    simp only [execOp, ho]
    simp [hy, hbs, Result.andThen]
  unfold Oper.wp
  rw [hrun]
  refine hK _ _ (h w.heap.size _ ⟨?_, ?_⟩ ((Fr.refl _ _).alloc _) (Nat.le_refl _) (by simp))
  · intro y hy; simp at hy; subst hy; exact hx
  · refine ⟨some ⟨w.heap.size, 0, none⟩, 1, rfl, Nat.le_refl _, by simp [hx], (fun h => by cases h), fun ad had j u hj => ?_⟩
    cases had
    have hj' : (ec x)[j]? = some u := by simpa using hj
    rw [Addr.plain, Nat.zero_add, World.cell?_alloc_new]
    simpa using hj'
end
end Go.Proofs.U
/- The document's disk: Put. -/
namespace Go.Proofs.YtmkinaijkgkgiaaGreat
open Go.RowKit Go.Proofs.U
set_option linter.unusedSimpArgs false
set_option linter.unusedVariables false

theorem encW_len (x : Int × List Int) (h : x.2.length = 256) : (encW x).length = 257 := by simp [encW, pgv_len, h]
theorem encW_one (x : Int × List Int) : ∀ u ∈ encW x, u.oneCell' = true := by
  intro u hu
  rcases List.mem_cons.1 hu with rfl | hu
  · rfl
  · exact pgv_one _ u hu
section
variable {w : World} {ops : Array Oper} {rest : List Oper} {o : Oper} {a : Act} {Q : Exit → Act → World → Prop}
end

end Go.Proofs.YtmkinaijkgkgiaaGreat
/- Regions that draw their order, whose operations lay new memory alone: whatever the order, if each operation, behind those that it waits for, hands what is said of it; no condition. -/
namespace Go.Proofs.U
open Go.RowKit
set_option linter.unusedVariables false

section
variable {P : Program} {ops : Array Oper} {Q : Exit → Act → World → Prop} {md : Region.Mode}

/-- What each operation keeps holds at the end, whatever the order. -/
theorem wpAny_inv (I : Array Bool → Act → World → Prop)
    (hstep : ∀ listed a w i, I listed a w → i ∈ Region.ready md ops listed → wpOp P ops Q i (fun a' w' => I (listed.setIfInBounds i true) a' w') a w)
    (hstop : ∀ listed a w, I listed a w → Region.ready md ops listed = [] → Q .normal a w) :
    ∀ (fuel : Nat) (R : List Nat) (listed : Array Bool) (a : Act) (w : World), (∀ i, listed.getD i true = false → i ∈ R) → R.length ≤ fuel → I listed a w → wpAny P md ops Q fuel listed a w := by
  intro fuel
  induction fuel with
  | zero =>
    intro R listed a w hR hl hI
    have hR0 : R = [] := List.eq_nil_of_length_eq_zero (by omega)
    have h0 : Region.ready md ops listed = [] := by
      apply List.eq_nil_iff_forall_not_mem.2
      intro j hj
      have := hR j (mem_ready.1 hj).1
      rw [hR0] at this; cases this
    exact ⟨h0, hstop _ _ _ hI h0⟩
  | succ fuel ih =>
    intro R listed a w hR hl hI
    refine ⟨fun h0 => hstop _ _ _ hI h0, fun i hi => ?_⟩
    refine wpOp_mono (fun a' w' hI' => ?_) (hstep _ _ _ i hI hi)
    have hin := hR i (mem_ready.1 hi).1
    refine ih (R.erase i) _ a' w' ?_ (by rw [List.length_erase_of_mem hin]; have := List.length_pos_of_mem hin; omega) hI'
    intro j hj
    have hlt : i < listed.size := by
      have h1 := (mem_ready.1 hi).1
      rcases Nat.lt_or_ge i listed.size with h' | h'
      · exact h'
      · simp [Array.getElem?_eq_none h'] at h1
    by_cases hji : i = j
    · subst hji
      simp [hlt] at hj
    · refine (List.mem_erase_of_ne (fun e => hji e.symm)).2 (hR j ?_)
      simpa [Array.getElem?_setIfInBounds, hji] using hj

def dstAt (ops : Array Oper) (i : Nat) : Option Nat := (ops[i]?).bind (·.dst)

/-- What is known while the region runs: of each operation that came up what F says of its value. -/
structure Know (ops : Array Oper) (F : Nat → Value → World → Prop) (a0 : Act) (w0 : World) (listed : Array Bool) (a : Act) (w : World) : Prop where
  fr : Fr noB w0 w
  dfr : a.defers = a0.defers
  sz : a.tmps.size = a0.tmps.size
  base : ∀ s, (∀ i, dstAt ops i ≠ some s) → a.tmps.getD s undef = a0.tmps.getD s undef
  fact : ∀ i d, listed.getD i false = true → dstAt ops i = some d → F i (a.tmps.getD d undef) w

end
end Go.Proofs.U
/- The law of regions that draw their order, by facts in a list; no condition. -/
namespace Go.Proofs.U
open Go.RowKit
set_option linter.unusedVariables false

/-- What is said of a value, and stays when memory grows. -/
structure MFact where
  p : Value → World → Prop
  mono : ∀ v w w', Fr noB w w' → p v w → p v w'
def MFact.any : MFact := ⟨fun _ _ => True, fun _ _ _ _ h => h⟩
def MFact.is (c : Value) : MFact := ⟨fun v _ => v = c, fun _ _ _ _ h => h⟩
def MFact.sl (k : IntKind) (l : List Int) : MFact := ⟨fun v w => SlI k w v l, fun _ _ _ hf h => h.fr0 hf⟩
def MFact.one (c : Value) : MFact := ⟨fun v w => ∃ g, v = .slice (some ⟨g, 0, none⟩) 1 1 ∧ w.cell? ⟨g, 0, none⟩ = some c, fun _ _ _ hf ⟨g, e, h⟩ => ⟨g, e, hf.cell h (fun q => q)⟩⟩
def notDst (ops : Array Oper) (s : Nat) : Bool := (List.range ops.size).all fun i => dstAt ops i != some s
theorem notDst_spec {ops : Array Oper} {s : Nat} (h : notDst ops s = true) : ∀ i, dstAt ops i ≠ some s := by
  intro i hi
  have hlt : i < ops.size := by
    rcases Nat.lt_or_ge i ops.size with h' | h'
    · exact h'
    · simp [dstAt, Array.getElem?_eq_none h'] at hi
  have := List.all_eq_true.1 h i (by simpa using hlt)
  simp [hi] at this

section
variable {P : Program} {ops : Array Oper} {Q : Exit → Act → World → Prop}

/-- the frame behind them all. -/
def layL : List Oper → Nat → (Nat → Value) → Act → Act
  | [], _, _, a => a
  | o :: r, i, vs, a => layL r (i + 1) vs (a.put o.dst (vs i))
theorem layL_size (l : List Oper) : ∀ (i : Nat) (vs : Nat → Value) (a : Act), (layL l i vs a).tmps.size = a.tmps.size ∧ (layL l i vs a).defers = a.defers := by
  induction l with
  | nil => intro i vs a; exact ⟨rfl, rfl⟩
  | cons o l ih =>
    intro i vs a
    have := ih (i + 1) vs (a.put o.dst (vs i))
    rw [layL]
    cases hd : o.dst <;> simp [hd, Act.put] at this ⊢ <;> exact this
/-- a frame that has these values where the operations write, and else what was there, is that one. -/
theorem layL_is (b : Act) (l : List Oper) : ∀ (i : Nat) (vs : Nat → Value) (a : Act), a.tmps.size = b.tmps.size → (∀ (j : Nat) (o : Oper) (d : Nat), l[j]? = some o → o.dst = some d → b.eval (.tmp d) = vs (i + j)) →
    (∀ s, b.eval (.tmp s) = a.eval (.tmp s) ∨ ∃ (j : Nat) (o : Oper), l[j]? = some o ∧ o.dst = some s) → ∀ s, (layL l i vs a).eval (.tmp s) = b.eval (.tmp s) := by
  induction l with
  | nil =>
    intro i vs a hsz hv hb s
    rcases hb s with h | ⟨j, o, h, _⟩
    · exact h.symm
    · simp at h
  | cons o l ih =>
    intro i vs a hsz hv hb
    rw [layL]
    refine ih (i + 1) vs _ ?_ (fun j o' d ho hd => ?_) (fun s => ?_)
    · cases hd : o.dst <;> simpa [Act.put] using hsz
    · rw [hv (j + 1) o' d (by simpa using ho) hd]; congr 1; omega
    · by_cases hs : o.dst = some s
      · left
        have h0 := hv 0 o s (by simp) hs
        rw [h0, hs]
        by_cases hlt : s < a.tmps.size
        · simp [Act.put, Act.eval, hlt]
        · have hge : a.tmps.size ≤ s := Nat.le_of_not_lt hlt
          have hb2 : b.eval (.tmp s) = undef := by simp [Act.eval, Array.getElem?_eq_none (show b.tmps.size ≤ s from hsz ▸ hge)]
          rw [← h0, hb2]
          simp [Act.put, Act.eval]
          intro hh; exact absurd hh hlt
      · rcases hb s with h | ⟨j, o', ho', hd'⟩
        · left
          rw [h]
          cases hd : o.dst with
          | none => rfl
          | some d =>
            have hds : d ≠ s := fun e => hs (by rw [hd, e])
            simp [Act.put, Act.eval, hds]
        · cases j with
          | zero => simp at ho'; subst ho'; exact absurd hd' hs
          | succ j => exact Or.inr ⟨j, o', by simpa using ho', hd'⟩

variable {a : Act} {w : World} {o : Oper} {fs : List MFact} {k : Nat}
theorem wanted_of {j d : Nat} {b : Bool} (hg : o.guard = some (j, b)) (hd : dstAt ops j = some d) (h : a.eval (.tmp d) = .bool b) : Region.wanted o (yielded ops a.tmps) = true := by
  have h1 : a.tmps[d]? = some (.bool b) := by
    have h2 : a.tmps.getD d undef = .bool b := h
    rw [Array.getD_eq_getD_getElem?] at h2
    cases hq : a.tmps[d]? with
    | none => rw [hq] at h2; simp [undef] at h2
    | some v => rw [hq] at h2; simp at h2; rw [h2]
  unfold dstAt at hd
  simp [Region.wanted, hg, yielded, hd, h1]
end
end Go.Proofs.U
/- Regions that draw their order, some of whose operations turn memory, each of these waiting for the one before it; no condition. -/
namespace Go.Proofs.U
open Go.RowKit
set_option linter.unusedVariables false

section
variable {P : Program} {ops : Array Oper} {Q : Exit → Act → World → Prop}

/-- What is known while such a region runs: hv are the values of those of hs that came up. -/
structure KnowC (ops : Array Oper) (hs : List Nat) (F : Nat → Value → Prop) (J : List Value → World → Prop) (a0 : Act) (listed : Array Bool) (a : Act) (w : World) (hv : List Value) : Prop where
  len : hv.length ≤ hs.length
  pre : ∀ (k i : Nat), hs[k]? = some i → (listed.getD i false = true ↔ k < hv.length)
  val : ∀ (k i d : Nat) (v : Value), hs[k]? = some i → hv[k]? = some v → dstAt ops i = some d → a.tmps.getD d undef = v
  dfr : a.defers = a0.defers
  sz : a.tmps.size = a0.tmps.size
  base : ∀ s, (∀ i, dstAt ops i ≠ some s) → a.tmps.getD s undef = a0.tmps.getD s undef
  fact : ∀ i d, i ∉ hs → listed.getD i false = true → dstAt ops i = some d → F i (a.tmps.getD d undef)
  inv : J hv w

/-- What is asked of one operation. -/
def HandsC (P : Program) (ops : Array Oper) (hs : List Nat) (F : Nat → Value → Prop) (J : List Value → World → Prop) (a0 : Act) (Q : Exit → Act → World → Prop) (i : Nat) (o : Oper) : Prop :=
  ∀ (a : Act) (w : World) (hv : List Value), hv.length ≤ hs.length → (∀ (p j : Nat) (o' : Oper), hs[p]? = some j → ops[j]? = some o' → (∃ e ∈ o'.after, Region.binds .any e = true ∧ e.on = i) → hv.length ≤ p) → J hv w → (∀ s, (∀ i, dstAt ops i ≠ some s) → a.eval (.tmp s) = a0.eval (.tmp s)) →
    (∀ e ∈ o.after, Region.binds .any e = true → ∀ d, dstAt ops e.on = some d → (e.on ∉ hs → F e.on (a.eval (.tmp d))) ∧ ∀ (k : Nat), hs[k]? = some e.on → hv[k]? = some (a.eval (.tmp d))) →
    (i ∉ hs → if Region.wanted o (yielded ops a.tmps) = true then o.wp P a w (fun a' w' => ∃ v, a' = a.put o.dst v ∧ J hv w' ∧ F i v) Q else F i undef) ∧
    (∀ (k : Nat), hs[k]? = some i → hv.length = k → if Region.wanted o (yielded ops a.tmps) = true then o.wp P a w (fun a' w' => ∃ v, a' = a.put o.dst v ∧ J (hv ++ [v]) w') Q else J (hv ++ [undef]) w)

theorem put_other {a : Act} {o : Oper} {v : Value} {d : Nat} (hne : o.dst ≠ some d) : (a.put o.dst v).tmps.getD d undef = a.tmps.getD d undef := by
  cases hd : o.dst with
  | none => rfl
  | some d' =>
    have hds : d' ≠ d := fun e => hne (by rw [hd, e])
    simp only [Act.put, Array.getD_eq_getD_getElem?, Array.getElem?_setIfInBounds, hds, if_false]
theorem put_same {a : Act} {o : Oper} {v : Value} {d : Nat} (he : o.dst = some d) (hlt : d < a.tmps.size) : (a.put o.dst v).tmps.getD d undef = v := by
  rw [he]; simp [Act.put, hlt]

theorem wp_region_chain {id : Nat} {a0 : Act} {w : World} (hm : P.follows .mixedOrders = true) (hs : List Nat) (F : Nat → Value → Prop) (J : List Value → World → Prop) (hJ : J [] w.drew)
    (hlow : ∀ (i : Nat) (o : Oper), ops[i]? = some o → ∀ e ∈ o.after, Region.binds .any e = true → e.on < i)
    (hdist : ∀ i j d, dstAt ops i = some d → dstAt ops j = some d → i = j)
    (hin : ∀ i d, dstAt ops i = some d → d < a0.tmps.size)
    (hhs : ∀ (k i : Nat), hs[k]? = some i → i < ops.size)
    (hnd : hs.Nodup)
    (hch : ∀ (k i j : Nat) (o : Oper), hs[k]? = some i → hs[k + 1]? = some j → ops[j]? = some o → ∃ e ∈ o.after, Region.binds .any e = true ∧ e.on = i)
    (hob : ∀ (i : Nat) (o : Oper), ops[i]? = some o → HandsC P ops hs F J a0 Q i o)
    (hend : ∀ a w' hv, hv.length = hs.length → J hv w' → a.defers = a0.defers → a.tmps.size = a0.tmps.size → (∀ s, (∀ i, dstAt ops i ≠ some s) → a.eval (.tmp s) = a0.eval (.tmp s)) →
      (∀ i d, i ∉ hs → dstAt ops i = some d → F i (a.eval (.tmp d))) → (∀ (k i d : Nat) (v : Value), hs[k]? = some i → hv[k]? = some v → dstAt ops i = some d → a.eval (.tmp d) = v) → Q .normal a w') : (Code.region id ops true).wp P Q a0 w := by
  have uniq : ∀ (k k' i : Nat), hs[k]? = some i → hs[k']? = some i → k = k' := by
    intro k k' i h1 h2
    obtain ⟨l1, e1⟩ := List.getElem?_eq_some_iff.1 h1
    obtain ⟨l2, e2⟩ := List.getElem?_eq_some_iff.1 h2
    exact (List.getElem_inj hnd).1 (e1.trans e2.symm)
  refine wp_region_any hm ?_
  show wpAny P .any ops Q ops.size (Array.replicate ops.size false) a0 w.drew
  refine wpAny_inv (fun listed a w' => listed.size = ops.size ∧ (∃ hv, KnowC ops hs F J a0 listed a w' hv) ∧ ∀ i, listed.getD i false = true → ∀ o, ops[i]? = some o → ∀ e ∈ o.after, Region.binds .any e = true → listed.getD e.on false = true) ?_ ?_ ops.size (List.range ops.size) _ a0 _ ?_ (by simp) ?_
  · rintro listed a w' i ⟨hsz, ⟨hv, hK⟩, hcl⟩ hi
    obtain ⟨hun, o, ho, hall⟩ := mem_ready.1 hi
    have hilt : i < listed.size := by
      rcases Nat.lt_or_ge i listed.size with h' | h'
      · exact h'
      · simp [Array.getElem?_eq_none h'] at hun
    have hunf : listed.getD i false = false := by
      have h2 : listed.getD i true = listed.getD i false := by simp [hilt]
      rw [← h2]; exact hun
    have hdo : dstAt ops i = o.dst := by simp [dstAt, ho]
    have hdep : ∀ e ∈ o.after, Region.binds .any e = true → ∀ d, dstAt ops e.on = some d → (e.on ∉ hs → F e.on (a.eval (.tmp d))) ∧ ∀ (k : Nat), hs[k]? = some e.on → hv[k]? = some (a.eval (.tmp d)) := by
      intro e he hb d hd
      have hl := hall e he hb
      refine ⟨fun hn => hK.fact e.on d hn hl hd, fun k hk => ?_⟩
      have hlt := (hK.pre k e.on hk).1 hl
      have := hK.val k e.on d hv[k] hk (List.getElem?_eq_getElem hlt) hd
      rw [List.getElem?_eq_getElem hlt, ← this]; rfl
    have hbef : ∀ (p j : Nat) (o' : Oper), hs[p]? = some j → ops[j]? = some o' → (∃ e ∈ o'.after, Region.binds .any e = true ∧ e.on = i) → hv.length ≤ p := by
      intro p j o' hp hj he
      obtain ⟨e, he, hbe, hei⟩ := he
      rcases Nat.lt_or_ge p hv.length with hlt | hge
      · have h1 := hcl j ((hK.pre p j hp).2 hlt) o' hj e he hbe
        rw [hei, hunf] at h1; cases h1
      · exact hge
    have key := hob i o ho a w' hv hK.len hbef hK.inv hK.base hdep
    have lk : ∀ j, listed.getD j false = true → (listed.setIfInBounds i true).getD j false = true := by
      intro j hj
      by_cases hij : i = j
      · subst hij; simp [hilt]
      · simpa [Array.getElem?_setIfInBounds, hij] using hj
    have ldj : ∀ j, (listed.setIfInBounds i true).getD j false = true → j = i ∨ listed.getD j false = true := by
      intro j hj
      by_cases hij : i = j
      · exact Or.inl hij.symm
      · exact Or.inr (by simpa [Array.getElem?_setIfInBounds, hij] using hj)
    have lsame : (listed.setIfInBounds i true).getD i false = true := by simp [hilt]
    have lother : ∀ j, j ≠ i → (listed.setIfInBounds i true).getD j false = listed.getD j false := by
      intro j hj
      simp [Ne.symm hj]
    have closed : ∀ j, (listed.setIfInBounds i true).getD j false = true → ∀ o, ops[j]? = some o → ∀ e ∈ o.after, Region.binds .any e = true → (listed.setIfInBounds i true).getD e.on false = true := by
      intro j hj oj hoj e he hbe
      rcases ldj j hj with rfl | hj'
      · rw [ho] at hoj; cases hoj
        exact lk _ (hall e he hbe)
      · exact lk _ (hcl j hj' oj hoj e he hbe)
    have cdfr : ∀ v, (a.put o.dst v).defers = a0.defers := fun v => by cases hd : o.dst <;> simpa [Act.put] using hK.dfr
    have csz : ∀ v, (a.put o.dst v).tmps.size = a0.tmps.size := fun v => by cases hd : o.dst <;> simpa [Act.put] using hK.sz
    have cbase : ∀ v s, (∀ i, dstAt ops i ≠ some s) → (a.put o.dst v).tmps.getD s undef = a0.tmps.getD s undef := fun v s hs' => by
      rw [put_other (fun e => hs' i (by rw [hdo]; exact e))]; exact hK.base s hs'
    have ne_dst : ∀ j d, j ≠ i → dstAt ops j = some d → o.dst ≠ some d := fun j d hj hd e => hj (hdist j i d hd (by rw [hdo]; exact e))
    unfold wpOp
    simp only [ho]
    by_cases hh : i ∈ hs
    · -- one of the chain
      obtain ⟨k, hk⟩ := List.getElem?_of_mem hh
      have hnk : ¬ k < hv.length := fun h => by have := (hK.pre k i hk).2 h; rw [hunf] at this; cases this
      have hlen : hv.length = k := by
        rcases Nat.eq_zero_or_pos k with h0 | h0
        · omega
        · obtain ⟨k', rfl⟩ : ∃ k', k = k' + 1 := ⟨k - 1, by omega⟩
          obtain ⟨hkl, _⟩ := List.getElem?_eq_some_iff.1 hk
          have hk' : hs[k']? = some (hs[k']'(by omega)) := List.getElem?_eq_getElem (by omega)
          obtain ⟨e, he, hbe, hei⟩ := hch k' _ i o hk' hk ho
          have := (hK.pre k' _ hk').1 (by rw [← hei]; exact hall e he hbe)
          omega
      have hkl : k < hs.length := (List.getElem?_eq_some_iff.1 hk).1
      have next : ∀ v w'', J (hv ++ [v]) w'' → (listed.setIfInBounds i true).size = ops.size ∧ (∃ hv, KnowC ops hs F J a0 (listed.setIfInBounds i true) (a.put o.dst v) w'' hv) ∧ ∀ j, (listed.setIfInBounds i true).getD j false = true → ∀ o, ops[j]? = some o → ∀ e ∈ o.after, Region.binds .any e = true → (listed.setIfInBounds i true).getD e.on false = true := by
        intro v w'' hJ'
        refine ⟨by simpa using hsz, ⟨hv ++ [v], ?_, ?_, ?_, cdfr v, csz v, cbase v, ?_, hJ'⟩, closed⟩
        · simp; omega
        · intro k2 i2 hk2
          by_cases hii : i2 = i
          · subst hii
            have := uniq k2 k i2 hk2 hk
            subst this
            simp [lsame]; omega
          · rw [lother i2 hii, hK.pre k2 i2 hk2]
            have : k2 ≠ k := fun e => hii (by rw [e, hk] at hk2; exact (Option.some.inj hk2).symm)
            simp; omega
        · intro k2 i2 d v2 hk2 hv2 hd2
          by_cases hii : i2 = i
          · subst hii
            have := uniq k2 k i2 hk2 hk
            subst this
            rw [hdo] at hd2
            rw [put_same hd2 (by rw [hK.sz]; exact hin i2 d (by rw [hdo]; exact hd2))]
            rw [List.getElem?_append_right (by omega)] at hv2
            simpa [hlen] using hv2
          · rw [put_other (ne_dst i2 d hii hd2)]
            have hkne : k2 ≠ k := fun e => hii (by rw [e, hk] at hk2; exact (Option.some.inj hk2).symm)
            have hlt2 : k2 < (hv ++ [v]).length := (List.getElem?_eq_some_iff.1 hv2).1
            rw [List.getElem?_append_left (by simp at hlt2; omega)] at hv2
            exact hK.val k2 i2 d v2 hk2 hv2 hd2
        · intro j d hj hl hd
          have hji : j ≠ i := fun e => hj (e ▸ hh)
          rw [put_other (ne_dst j d hji hd)]
          rw [lother j hji] at hl
          exact hK.fact j d hj hl hd
      have key2 := key.2 k hk hlen
      by_cases hw : Region.wanted o (yielded ops a.tmps) = true
      · rw [if_pos hw] at key2 ⊢
        refine Or.inl (Oper.wp_mono ?_ key2)
        rintro a' w'' ⟨v, rfl, hF⟩
        exact next v w'' hF
      · rw [if_neg hw] at key2 ⊢
        exact next undef w' key2
    · have next : ∀ v w'', J hv w'' → F i v → (listed.setIfInBounds i true).size = ops.size ∧ (∃ hv, KnowC ops hs F J a0 (listed.setIfInBounds i true) (a.put o.dst v) w'' hv) ∧ ∀ j, (listed.setIfInBounds i true).getD j false = true → ∀ o, ops[j]? = some o → ∀ e ∈ o.after, Region.binds .any e = true → (listed.setIfInBounds i true).getD e.on false = true := by
        intro v w'' hJ' hF
        refine ⟨by simpa using hsz, ⟨hv, hK.len, ?_, ?_, cdfr v, csz v, cbase v, ?_, hJ'⟩, closed⟩
        · intro k2 i2 hk2
          have hii : i2 ≠ i := fun e => hh (e ▸ List.mem_of_getElem? hk2)
          rw [lother i2 hii]; exact hK.pre k2 i2 hk2
        · intro k2 i2 d v2 hk2 hv2 hd2
          have hii : i2 ≠ i := fun e => hh (e ▸ List.mem_of_getElem? hk2)
          rw [put_other (ne_dst i2 d hii hd2)]
          exact hK.val k2 i2 d v2 hk2 hv2 hd2
        · intro j d hj hl hd
          by_cases hji : j = i
          · subst hji
            rw [hdo] at hd
            rw [put_same hd (by rw [hK.sz]; exact hin j d (by rw [hdo]; exact hd))]
            exact hF
          · rw [put_other (ne_dst j d hji hd)]
            rw [lother j hji] at hl
            exact hK.fact j d hj hl hd
      have key1 := key.1 hh
      by_cases hw : Region.wanted o (yielded ops a.tmps) = true
      · rw [if_pos hw] at key1 ⊢
        refine Or.inl (Oper.wp_mono ?_ key1)
        rintro a' w'' ⟨v, rfl, hJ', hF⟩
        exact next v w'' hJ' hF
      · rw [if_neg hw] at key1 ⊢
        exact next undef w' hK.inv key1
  · rintro listed a w' ⟨hsz, ⟨hv, hK⟩, hcl⟩ h0
    have hall : ∀ n i, i < n → i < ops.size → listed.getD i false = true := by
      intro n
      induction n with
      | zero => intro i h; omega
      | succ n ihn =>
        intro i hi hlt
        rcases Nat.lt_or_ge i n with hn | hn
        · exact ihn i hn hlt
        · obtain rfl : i = n := by omega
          cases hq : listed.getD i false with
          | true => rfl
          | false =>
            exfalso
            have hls : i < listed.size := by omega
            have ho : ops[i]? = some ops[i] := Array.getElem?_eq_getElem hlt
            have hmem : i ∈ Region.ready .any ops listed := mem_ready.2 ⟨by
              have h2 : listed.getD i true = listed.getD i false := by simp [hls]
              rw [h2]; exact hq, ops[i], ho, fun e he hbe => ihn e.on (hlow i _ ho e he hbe) (by have := hlow i _ ho e he hbe; omega)⟩
            rw [h0] at hmem; cases hmem
    have inb : ∀ i d, dstAt ops i = some d → i < ops.size := by
      intro i d hd
      rcases Nat.lt_or_ge i ops.size with h' | h'
      · exact h'
      · simp [dstAt, Array.getElem?_eq_none h'] at hd
    have hfull : hv.length = hs.length := by
      rcases Nat.lt_or_ge hv.length hs.length with h' | h'
      · exfalso
        have hk : hs[hv.length]? = some hs[hv.length] := List.getElem?_eq_getElem h'
        have := (hK.pre _ _ hk).1 (hall _ _ (Nat.lt_succ_self _) (hhs _ _ hk))
        omega
      · have := hK.len; omega
    exact hend a w' hv hfull hK.inv hK.dfr hK.sz hK.base (fun i d hn hd => hK.fact i d hn (hall (i + 1) i (by omega) (inb i d hd)) hd) hK.val
  · intro i hi
    rcases Nat.lt_or_ge i ops.size with h' | h'
    · simpa using h'
    · simp [h'] at hi
  · have nolist : ∀ i, (Array.replicate ops.size false).getD i false = false := fun i => by
      rcases Nat.lt_or_ge i ops.size with h' | h' <;> simp [h']
    refine ⟨by simp, ⟨[], Nat.zero_le _, fun k i hk => ?_, fun k i d v _ h => by simp at h, rfl, rfl, fun _ _ => rfl, fun i d _ hl => ?_, hJ⟩, fun i hl => ?_⟩
    · rw [nolist i]; simp
    · rw [nolist i] at hl; cases hl
    · rw [nolist i] at hl; cases hl
end
end Go.Proofs.U
/- The law of such regions by lists; no condition. -/
namespace Go.Proofs.U
open Go.RowKit
set_option linter.unusedVariables false

def factL (fs : List (Value → Prop)) (i : Nat) : Value → Prop := fs.getD i fun _ => True
def depOnB (ops : Array Oper) (k j : Nat) : Bool := match ops[k]? with | some o => o.after.any (fun e => e.on == j && Region.binds .any e) | none => false
def regionOkB (ops : Array Oper) (n : Nat) : Bool :=
  ((List.range ops.size).all fun i => match ops[i]? with
    | some o => o.after.all (fun e => !Region.binds .any e || decide (e.on < i)) && (match o.dst with | some d => decide (d < n) | none => true)
    | none => true) &&
  ((List.range ops.size).all fun i => (List.range ops.size).all fun j => i == j || (dstAt ops i).isNone || dstAt ops i != dstAt ops j)
def chainOk (ops : Array Oper) (hs : List Nat) (tags : List (Option Nat)) : Bool :=
  decide (tags.length = ops.size) && ((List.range tags.length).all fun i => tags.getD i none == hs.idxOf? i) && (hs.all fun i => decide (i < ops.size)) &&
    ((List.range (hs.length - 1)).all fun k => depOnB ops (hs.getD (k + 1) 0) (hs.getD k 0))

theorem regionOk_parts {ops : Array Oper} {n : Nat} (hok : regionOkB ops n = true) :
    (∀ (i : Nat) (o : Oper), ops[i]? = some o → ∀ e ∈ o.after, Region.binds .any e = true → e.on < i) ∧ (∀ i d, dstAt ops i = some d → d < n) ∧ (∀ i j d, dstAt ops i = some d → dstAt ops j = some d → i = j) := by
  unfold regionOkB at hok
  rw [Bool.and_eq_true] at hok
  have hlto : ∀ (i : Nat) (o : Oper), ops[i]? = some o → i < ops.size := by
    intro i o ho
    rcases Nat.lt_or_ge i ops.size with h' | h'
    · exact h'
    · rw [Array.getElem?_eq_none h'] at ho; cases ho
  have inb : ∀ i d, dstAt ops i = some d → i < ops.size := by
    intro i d hd
    rcases Nat.lt_or_ge i ops.size with h' | h'
    · exact h'
    · simp [dstAt, Array.getElem?_eq_none h'] at hd
  refine ⟨?_, ?_, ?_⟩
  · intro i o ho e he hbe
    have h2 := List.all_eq_true.1 hok.1 i (by simpa using hlto i o ho)
    simp only [ho] at h2
    rw [Bool.and_eq_true] at h2
    have h3 := Array.all_eq_true_iff_forall_mem.1 h2.1 e he
    simpa [hbe] using h3
  · intro i d hd
    have hlt := inb i d hd
    have ho : ops[i]? = some ops[i] := Array.getElem?_eq_getElem hlt
    have h2 := List.all_eq_true.1 hok.1 i (by simpa using hlt)
    have hdd : ops[i].dst = some d := by simpa [dstAt, ho] using hd
    simp only [ho, hdd] at h2
    rw [Bool.and_eq_true] at h2
    exact of_decide_eq_true h2.2
  · intro i j d hi hj
    have h2 := List.all_eq_true.1 (List.all_eq_true.1 hok.2 i (by simpa using inb i d hi)) j (by simpa using inb j d hj)
    simp [hi, hj] at h2
    exact h2

section
variable {P : Program} {ops : Array Oper} {Q : Exit → Act → World → Prop}
def Light (P : Program) (ops : Array Oper) (hs : List Nat) (fs : List (Value → Prop)) (J : List Value → World → Prop) (a0 : Act) (Q : Exit → Act → World → Prop) (k : Nat) (o : Oper) : Prop :=
  ∀ (a : Act) (w : World) (hv : List Value), (hv.length ≤ hs.length ∧ ∀ (p j : Nat), hs[p]? = some j → depOnB ops j k = true → hv.length ≤ p) → J hv w → (∀ s, notDst ops s = true → a.eval (.tmp s) = a0.eval (.tmp s)) →
    (∀ j d, depOnB ops k j = true → hs.contains j = false → dstAt ops j = some d → factL fs j (a.eval (.tmp d))) →
    (∀ (j d p : Nat), depOnB ops k j = true → hs[p]? = some j → dstAt ops j = some d → hv[p]? = some (a.eval (.tmp d))) →
    if Region.wanted o (yielded ops a.tmps) = true then o.wp P a w (fun a' w' => ∃ v, a' = a.put o.dst v ∧ J hv w' ∧ factL fs k v) Q else factL fs k undef
def Heavy (P : Program) (ops : Array Oper) (hs : List Nat) (fs : List (Value → Prop)) (J : List Value → World → Prop) (a0 : Act) (Q : Exit → Act → World → Prop) (p k : Nat) (o : Oper) : Prop :=
  ∀ (a : Act) (w : World) (hv : List Value), hv.length = p → J hv w → (∀ s, notDst ops s = true → a.eval (.tmp s) = a0.eval (.tmp s)) →
    (∀ j d, depOnB ops k j = true → hs.contains j = false → dstAt ops j = some d → factL fs j (a.eval (.tmp d))) →
    (∀ (j d q : Nat), depOnB ops k j = true → hs[q]? = some j → dstAt ops j = some d → hv[q]? = some (a.eval (.tmp d))) →
    if Region.wanted o (yielded ops a.tmps) = true then o.wp P a w (fun a' w' => ∃ v, a' = a.put o.dst v ∧ J (hv ++ [v]) w') Q else J (hv ++ [undef]) w
def HandCAll (P : Program) (ops : Array Oper) (hs : List Nat) (fs : List (Value → Prop)) (J : List Value → World → Prop) (a0 : Act) (Q : Exit → Act → World → Prop) : Nat → List (Option Nat) → List Oper → Prop
  | _, _, [] => True
  | _, [], _ :: _ => False
  | k, none :: ts, o :: r => Light P ops hs fs J a0 Q k o ∧ HandCAll P ops hs fs J a0 Q (k + 1) ts r
  | k, some p :: ts, o :: r => Heavy P ops hs fs J a0 Q p k o ∧ HandCAll P ops hs fs J a0 Q (k + 1) ts r

theorem handCAll_get {hs : List Nat} {fs : List (Value → Prop)} {J : List Value → World → Prop} {a0 : Act} : ∀ (l : List Oper) (ts : List (Option Nat)) (k : Nat), HandCAll P ops hs fs J a0 Q k ts l → ∀ (i : Nat) (o : Oper), l[i]? = some o →
    (ts[i]? = some none ∧ Light P ops hs fs J a0 Q (k + i) o) ∨ ∃ p, ts[i]? = some (some p) ∧ Heavy P ops hs fs J a0 Q p (k + i) o
  | [], _, _, _, i, o, ho => by simp at ho
  | x :: l, [], k, h, _, o, ho => by cases h
  | x :: l, none :: ts, k, h, 0, o, ho => by simp at ho; subst ho; exact Or.inl ⟨rfl, h.1⟩
  | x :: l, some p :: ts, k, h, 0, o, ho => by simp at ho; subst ho; exact Or.inr ⟨p, rfl, h.1⟩
  | x :: l, none :: ts, k, h, i + 1, o, ho => by
    have := handCAll_get l ts (k + 1) h.2 i o (by simpa using ho)
    rwa [show k + 1 + i = k + (i + 1) by omega] at this
  | x :: l, some p :: ts, k, h, i + 1, o, ho => by
    have := handCAll_get l ts (k + 1) h.2 i o (by simpa using ho)
    rwa [show k + 1 + i = k + (i + 1) by omega] at this

theorem wp_region_chain_lay {id : Nat} {l : List Oper} {a0 : Act} {w : World} (hm : P.follows .mixedOrders = true) (hs : List Nat) (tags : List (Option Nat)) (fs : List (Value → Prop)) (J : List Value → World → Prop) (hJ : J [] w.drew)
    (hok : regionOkB l.toArray a0.tmps.size = true) (hck : chainOk l.toArray hs tags = true) (hnd : hs.Nodup)
    (hob : HandCAll P l.toArray hs fs J a0 Q 0 tags l)
    (hend : ∀ (vs : Nat → Value) w' hv, hv.length = hs.length → J hv w' → (∀ i, hs.contains i = false → (l[i]?.bind (·.dst)).isSome = true → factL fs i (vs i)) →
      (∀ (k i : Nat), hs[k]? = some i → (l[i]?.bind (·.dst)).isSome = true → hv[k]? = some (vs i)) → Q .normal (layL l 0 vs a0) w') : (Code.region id l.toArray true).wp P Q a0 w := by
  have hdl : ∀ i, dstAt l.toArray i = l[i]?.bind (·.dst) := fun i => by simp [dstAt]
  obtain ⟨r1, r2, r3⟩ := regionOk_parts hok
  unfold chainOk at hck
  simp only [Bool.and_eq_true, decide_eq_true_eq] at hck
  obtain ⟨⟨⟨c1, c2⟩, c3⟩, c4⟩ := hck
  have htag : ∀ i, i < l.toArray.size → tags[i]? = some (hs.idxOf? i) := by
    intro i hi
    have := List.all_eq_true.1 c2 i (by simp at hi ⊢; simp at c1; omega)
    have hlt : i < tags.length := by omega
    rw [List.getElem?_eq_getElem hlt]
    simpa [List.getD, hlt] using this
  have depIn : ∀ (i j : Nat) (o : Oper) (e : Edge), l.toArray[i]? = some o → e ∈ o.after → Region.binds .any e = true → e.on = j → depOnB l.toArray i j = true := by
    intro i j o e ho he hbe hj
    unfold depOnB
    rw [ho]
    exact Array.any_eq_true.2 (by
      obtain ⟨n, hn, heq⟩ := Array.mem_iff_getElem.1 he
      exact ⟨n, hn, by rw [heq]; simpa [hbe] using hj⟩)
  have depOut : ∀ (i j : Nat) (o : Oper), l.toArray[i]? = some o → depOnB l.toArray i j = true → ∃ e ∈ o.after, Region.binds .any e = true ∧ e.on = j := by
    intro i j o ho hj
    unfold depOnB at hj
    rw [ho] at hj
    simp only at hj
    obtain ⟨n, hn, heq⟩ := Array.any_eq_true.1 hj
    exact ⟨o.after[n], Array.getElem_mem hn, by simpa [and_comm] using heq⟩
  refine wp_region_chain hm hs (factL fs) J hJ r1 r3 r2 ?_ hnd ?_ ?_ ?_
  · intro k i hk
    exact of_decide_eq_true (List.all_eq_true.1 c3 i (List.mem_of_getElem? hk))
  · intro k i j o hk hk1 ho
    have hlt := (List.getElem?_eq_some_iff.1 hk1).1
    have := List.all_eq_true.1 c4 k (by simp; omega)
    have e1 : hs.getD (k + 1) 0 = j := by simp [List.getD, hk1]
    have e2 : hs.getD k 0 = i := by simp [List.getD, hk]
    rw [e1, e2] at this
    exact depOut j i o ho this
  · intro i o ho a w' hv hlen hbef hJv hbase hdep
    have hlt : i < l.toArray.size := by
      rcases Nat.lt_or_ge i l.toArray.size with h' | h'
      · exact h'
      · rw [Array.getElem?_eq_none h'] at ho; cases ho
    have hb' : ∀ s, notDst l.toArray s = true → a.eval (.tmp s) = a0.eval (.tmp s) := fun s hs' => hbase s (notDst_spec hs')
    have hd1 : ∀ j d, depOnB l.toArray i j = true → hs.contains j = false → dstAt l.toArray j = some d → factL fs j (a.eval (.tmp d)) := by
      intro j d hj hc hd
      obtain ⟨e, he, hbe, rfl⟩ := depOut i j o ho hj
      exact (hdep e he hbe d hd).1 (by simpa using hc)
    have hd2 : ∀ (j d p : Nat), depOnB l.toArray i j = true → hs[p]? = some j → dstAt l.toArray j = some d → hv[p]? = some (a.eval (.tmp d)) := by
      intro j d p hj hp hd
      obtain ⟨e, he, hbe, rfl⟩ := depOut i j o ho hj
      exact (hdep e he hbe d hd).2 p hp
    have hg := handCAll_get l tags 0 hob i o (by simpa using ho)
    rw [Nat.zero_add] at hg
    have ht := htag i hlt
    rcases hg with ⟨t1, hL⟩ | ⟨p, t1, hH⟩
    · rw [ht] at t1
      have hni : i ∉ hs := by
        have := Option.some.inj t1
        rwa [List.idxOf?_eq_none_iff] at this
      refine ⟨fun _ => hL a w' hv ⟨hlen, fun p j hp hj => by
        have hjl := of_decide_eq_true (List.all_eq_true.1 c3 j (List.mem_of_getElem? hp))
        obtain ⟨o', ho'⟩ : ∃ o', l.toArray[j]? = some o' := ⟨_, Array.getElem?_eq_getElem hjl⟩
        exact hbef p j o' hp ho' (depOut j i o' ho' hj)⟩ hJv hb' hd1 hd2, fun k hk => absurd (List.mem_of_getElem? hk) hni⟩
    · rw [ht] at t1
      have hp := Option.some.inj t1
      have hpi : hs[p]? = some i := by
        obtain ⟨hpl, hpe, _⟩ := List.idxOf?_eq_some_iff.1 hp
        rw [List.getElem?_eq_getElem hpl, hpe]
      refine ⟨fun hn => absurd (List.mem_of_getElem? hpi) hn, fun k hk hl => ?_⟩
      obtain ⟨l1, e1⟩ := List.getElem?_eq_some_iff.1 hk
      obtain ⟨l2, e2⟩ := List.getElem?_eq_some_iff.1 hpi
      have hkp : k = p := (List.getElem_inj hnd).1 (e1.trans e2.symm)
      subst hkp
      exact hH a w' hv hl hJv hb' hd1 hd2
  · intro a w' hv hlen hJv hdf hsz hbase hall hval
    have h := hend (fun i => match l[i]?.bind (·.dst) with | some d => a.eval (.tmp d) | none => undef) w' hv hlen hJv (fun i hc hi => by
      cases hd : l[i]?.bind (·.dst) with
      | none => rw [hd] at hi; cases hi
      | some d => simpa only [hd] using hall i d (by simpa using hc) (by rw [hdl]; exact hd)) (fun k i hk hi => by
      cases hd : l[i]?.bind (·.dst) with
      | none => rw [hd] at hi; cases hi
      | some d =>
        have hkl := (List.getElem?_eq_some_iff.1 hk).1
        have hkv : hv[k]? = some hv[k] := List.getElem?_eq_getElem (by omega)
        rw [hkv, ← hval k i d hv[k] hk hkv (by rw [hdl]; exact hd)])
    have e : layL l 0 (fun i => match l[i]?.bind (·.dst) with | some d => a.eval (.tmp d) | none => undef) a0 = a := by
      have h2 := layL_size l 0 (fun i => match l[i]?.bind (·.dst) with | some d => a.eval (.tmp d) | none => undef) a0
      have h3 := layL_is a l 0 (fun i => match l[i]?.bind (·.dst) with | some d => a.eval (.tmp d) | none => undef) a0 hsz.symm (fun j o d ho hd => by simp [ho, hd]) (fun s => by
        cases hn : notDst l.toArray s with
        | true => exact Or.inl (hbase s (notDst_spec hn))
        | false =>
          right
          unfold notDst at hn
          rw [List.all_eq_false] at hn
          obtain ⟨j, hj, hq⟩ := hn
          have hd : dstAt l.toArray j = some s := by simpa using hq
          rw [hdl] at hd
          obtain ⟨o, ho, hod⟩ := Option.bind_eq_some_iff.1 hd
          exact ⟨j, o, ho, hod⟩)
      generalize layL l 0 (fun i => match l[i]?.bind (·.dst) with | some d => a.eval (.tmp d) | none => undef) a0 = b at *
      obtain ⟨bt, bd⟩ := b
      obtain ⟨at', ad⟩ := a
      simp only at h2 hsz hdf
      have hd : bd = ad := by rw [h2.2, hdf]
      have ht : bt = at' := by
        apply Array.ext
        · omega
        · intro i hi hi'
          have := h3 i
          simpa [Act.eval, hi, hi'] using this
      rw [hd, ht]
    rwa [e] at h

variable {a : Act} {w : World} {o : Oper} {hs : List Nat} {fs : List (Value → Prop)} {J : List Value → World → Prop} {k : Nat} {hv : List Value}
theorem light_val {v : Value} (hw : Region.wanted o (yielded ops a.tmps) = true) (hrun : (execOp a.eval o).run P w = .ok (.value v) w) (hJ : J hv w) (hF : factL fs k v) :
    if Region.wanted o (yielded ops a.tmps) = true then o.wp P a w (fun a' w' => ∃ v, a' = a.put o.dst v ∧ J hv w' ∧ factL fs k v) Q else factL fs k undef := by
  rw [if_pos hw]
  unfold Oper.wp
  rw [hrun]
  exact ⟨v, rfl, hJ, hF⟩
theorem heavy_val {v : Value} {w' : World} (hw : Region.wanted o (yielded ops a.tmps) = true) (hrun : (execOp a.eval o).run P w = .ok (.value v) w') (hJ : J (hv ++ [v]) w') :
    if Region.wanted o (yielded ops a.tmps) = true then o.wp P a w (fun a' w' => ∃ v, a' = a.put o.dst v ∧ J (hv ++ [v]) w') Q else J (hv ++ [undef]) w := by
  rw [if_pos hw]
  unfold Oper.wp
  rw [hrun]
  exact ⟨v, rfl, hJ⟩
theorem heavy_wp (hw : Region.wanted o (yielded ops a.tmps) = true) (h : o.wp P a w (fun a' w' => ∃ v, a' = a.put o.dst v ∧ J (hv ++ [v]) w') Q) :
    if Region.wanted o (yielded ops a.tmps) = true then o.wp P a w (fun a' w' => ∃ v, a' = a.put o.dst v ∧ J (hv ++ [v]) w') Q else J (hv ++ [undef]) w := by
  rw [if_pos hw]; exact h
theorem heavy_call {f : FuncId} {args : Array Value} (hw : Region.wanted o (yielded ops a.tmps) = true) (hrun : (execOp a.eval o).run P w = .ok (.enter f args) w)
    (hc : Calls P f args w fun e w' => ∃ v, e = .returned v ∧ J (hv ++ [v]) w') :
    if Region.wanted o (yielded ops a.tmps) = true then o.wp P a w (fun a' w' => ∃ v, a' = a.put o.dst v ∧ J (hv ++ [v]) w') Q else J (hv ++ [undef]) w := by
  rw [if_pos hw]
  unfold Oper.wp
  rw [hrun]
  refine hc.mono ?_
  rintro e w' ⟨v, rfl, hJ⟩
  exact ⟨v, rfl, hJ⟩
end
end Go.Proofs.U
/- The document's disk: settle. -/
namespace Go.Proofs.YtmkinaijkgkgiaaGreat
open Go.RowKit Go.Proofs.U
set_option linter.unusedSimpArgs false
set_option linter.unusedVariables false

theorem run_loadP (w : World) (b off : Nat) (p : List Int) (hc : w.rangeAt b off (pgv p)) (hp : p.length = 256) : (Instr.loadAt 96 (.pointer (some ⟨b, off, none⟩))).run Tryz.prog w = .ok (pgV p) w := by
  simp only [Instr.loadAt, Instr.sureAddr, Sem.run_bind, Sem.run_pure, Result.andThen_ok, run_loadVar_mid w b off 96 (pgv p) _ hc Tryz.underlying96 rfl (by rw [size_page, pgv_len, hp])]
  rfl
theorem SlI.old {k : IntKind} {w : World} {v : Value} {l : List Int} (h : SlI k w v l) (b : Nat) (hb : v.ownBlock = some b) (hl : 0 < l.length) : b < w.heap.size := by
  obtain ⟨⟨a0, cap0, rfl, h1, h2, h3, h4⟩, _⟩ := h
  cases a0 with
  | none => simp [Value.ownBlock] at hb
  | some ad =>
    have hc := h4 ad rfl 0 (.int k (l.getD 0 0)) (by simp [List.getD, hl])
    have := World.block_lt_of_cell? w _ hc
    simp [Value.ownBlock] at hb
    subst hb
    simpa [Addr.add] using this
theorem info_page : (Tryz.prog.info? 96).map (fun i => (i.zero, i.size, i.bytes)) = some (some (.agg (pgv zeroP).toArray), 256, 256) := by kernel_rfl
end Go.Proofs.YtmkinaijkgkgiaaGreat
/- The document's disk: New. -/
namespace Go.Proofs.YtmkinaijkgkgiaaGreat
open Go.RowKit Go.Proofs.U
set_option linter.unusedSimpArgs false
set_option linter.unusedVariables false

def newN (n : Int) : Nat := min n.toNat 244
end Go.Proofs.YtmkinaijkgkgiaaGreat
/- The program's disk: what it is in memory; has, Len, Down, Cut, act. -/
namespace Go.Proofs.YtmkinaijkgkgiaaGreat
open Go.RowKit Go.Proofs.U Go.Maps
set_option linter.unusedSimpArgs false
set_option linter.unusedVariables false

/-- What a disk holds. -/
structure DSt where
  pages : List (List Int)
  bad : Int → Bool
  pend : List (Int × List Int)
  down : Bool
  left : Int

abbrev pdL (v1 : Value) (m : Nat) (v3 : Value) (d : Bool) (l : Int) : List Value := [v1, .map (some m), v3, .bool d, .int .i64 l]
def badK (bad : Int → Bool) : Lit → Bool
  | .int .i64 x => bad x
  | _ => false
/-- Block m is a map whose keys are those that are bad. -/
def MapI (w : World) (m : Nat) (bad : Int → Bool) : Prop := ∃ (n : Nat) (D : DataW Unit), w.ownsMap Tryz.prog 3 unitElem m n D ∧ ∀ kl, Maps.has D kl = badK bad kl
theorem MapI.lt {w : World} {m : Nat} {bad : Int → Bool} (h : MapI w m bad) : m < w.heap.size := by
  obtain ⟨n, D, h, _⟩ := h; exact h.lt
theorem MapI.fr {S : Nat → Prop} {w w' : World} {m : Nat} {bad : Int → Bool} (h : MapI w m bad) (f : Fr S w w') (hs : ¬ S m) : MapI w' m bad := by
  have hl := h.lt
  obtain ⟨n, D, ⟨es, clock, hb, h1, h2, h3⟩, h4⟩ := h
  exact ⟨n, D, ⟨es, clock, (f.block m hl hs).trans hb, h1, h2, h3⟩, h4⟩
theorem MapI.notCells {w : World} {m : Nat} {bad : Int → Bool} (h : MapI w m bad) {cs : Array Value} {t : TypeId} {o : Nat × Nat} : w.heap[m]? ≠ some (.cells cs t o) := by
  obtain ⟨n, D, ⟨es, clock, hb, h1, h2, h3⟩, h4⟩ := h
  rw [hb]; simp
theorem keyI : Keyed Tryz.prog 3 := int_keyed Tryz.underlying3

theorem ints_length : ∀ (n : Nat) (l : List Int), l.Pairwise (· ≠ ·) → (∀ x ∈ l, 0 ≤ x ∧ x < (n : Int)) → l.length ≤ n
  | 0, l, _, h => by
    cases l with
    | nil => simp
    | cons x l => have := h x (by simp); omega
  | n + 1, l, hp, h => by
    have h1 : (l.filter (fun x => x != (n : Int))).length ≤ n := by
      refine ints_length n _ (hp.sublist List.filter_sublist) ?_
      intro x hx
      have h2 := List.mem_filter.1 hx
      have h3 := h x h2.1
      have h4 : x ≠ (n : Int) := by simpa using h2.2
      omega
    have h2 : l.length ≤ (l.filter (fun x => x != (n : Int))).length + 1 := by
      clear h1 h
      induction l with
      | nil => simp
      | cons x l ih =>
        have hp' := List.pairwise_cons.1 hp
        by_cases hx : x = (n : Int)
        · subst hx
          have : l.filter (fun x => x != (n : Int)) = l := by
            rw [List.filter_eq_self]
            intro y hy
            have := hp'.1 y hy
            simpa using fun e => this e.symm
          simp [this]
        · have := ih hp'.2
          simp [List.filter_cons, hx]; omega
    omega

/-- As many keys as can be. -/
theorem MapI.tight {w : World} {m : Nat} {bad : Int → Bool} {N : Nat} (h : MapI w m bad) (hb : ∀ x, bad x = true → 0 ≤ x ∧ x < (N : Int)) :
    ∃ (D : DataW Unit), w.ownsMap Tryz.prog 3 unitElem m N D ∧ ∀ kl, Maps.has D kl = badK bad kl := by
  obtain ⟨n, D, ho, hh⟩ := h
  have hent := ho.entries keyI
  obtain ⟨es, clock, hm, hF, hn, hD⟩ := ho
  have hlen : es.size ≤ N := by
    obtain ⟨ds, hds, hpw, hkey⟩ := hent
    have e1 : ds.length = es.size := by
      have : DataW.map ds = .map ((es.toList.map (WideElems.rg Tryz.prog 3 unitElem)).foldr DataW.insert []) := by rw [← hds, ← hD]
      injection this with this
      rw [this, length_read]
    rw [← e1]
    have hk : ∀ p ∈ ds, ∃ x, p.1 = .int .i64 x ∧ 0 ≤ x ∧ x < (N : Int) := by
      intro p hp
      have h1 : Maps.has D p.1 = true := by
        rw [hds, has_eq, List.any_eq_true]
        exact ⟨p, hp, WideAt.sameKey_self (hkey p hp)⟩
      rw [hh] at h1
      unfold badK at h1
      split at h1
      · rename_i x hx; exact ⟨x, hx, hb x h1⟩
      · simp at h1
    have h2 := ints_length N (ds.map fun p => match p.1 with | .int .i64 x => x | _ => 0) ?_ ?_
    · simpa using h2
    · rw [List.pairwise_map]
      refine hpw.imp_of_mem ?_
      intro p q hp hq hne
      obtain ⟨x, hx, _⟩ := hk p hp
      obtain ⟨y, hy, _⟩ := hk q hq
      rw [hx, hy]
      intro e
      simp only at e
      exact hne (by rw [hx, hy, e])
    · intro z hz
      obtain ⟨p, hp, rfl⟩ := List.mem_map.1 hz
      obtain ⟨x, hx, hr⟩ := hk p hp
      rw [hx]; exact hr
  exact ⟨D, ⟨es, clock, hm, hF, hlen, hD⟩, hh⟩

structure DK (w : World) (F : Nat → Prop) (g : Nat) (X : DSt) (v1 : Value) (m : Nat) (v3 : Value) : Prop where
  bx : BxV w g 94 (pdL v1 m v3 X.down X.left)
  st : OwnR pgv 256 96 w 0 v1 X.pages
  mp : MapI w m X.bad
  pd : OwnR encW 257 150 w 0 v3 X.pend
  fg : F g
  fm : F m
  f1 : ∀ k, v1.ownBlock = some k → F k
  f3 : ∀ k, v3.ownBlock = some k → F k
  lft : -9223372036854775808 ≤ X.left ∧ X.left ≤ 9223372036854775807
  len : X.pages.length ≤ 244
  bin : ∀ x, X.bad x = true → 0 ≤ x ∧ x < (X.pages.length : Int)
  pin : ∀ x ∈ X.pend, 0 ≤ x.1 ∧ x.1 < (X.pages.length : Int)
/-- A disk lies at g, in the blocks F, and holds X. -/
def Disk (w : World) (F : Nat → Prop) (g : Nat) (X : DSt) : Prop := ∃ v1 m v3, DK w F g X v1 m v3

section
variable {w w' : World} {F S : Nat → Prop} {g m : Nat} {X : DSt} {v1 v3 : Value}
theorem OwnR.blk {α : Type} {ec : α → List Value} {sz : Nat} {e : TypeId} {base : Nat} {v : Value} {l : List α} (h : OwnR ec sz e w base v l) : ∀ q, v.ownBlock = some q → ∃ cs, w.heap[q]? = some (.cells cs e (0, 0)) := by
  intro q hq
  rcases h.2.2 with ⟨rfl, _⟩ | ⟨g, cap, cur, rfl, _, h2, _⟩
  · simp [Value.ownBlock] at hq
  · simp [Value.ownBlock] at hq
    subst hq; exact ⟨cur, h2⟩
theorem DK.g1 (h : DK w F g X v1 m v3) : ∀ k, v1.ownBlock = some k → k ≠ g := by
  intro k hk e; subst e
  obtain ⟨cs, hc⟩ := OwnR.blk h.st k hk
  have := h.bx; unfold BxV at this; rw [hc] at this; simp at this
theorem DK.g3 (h : DK w F g X v1 m v3) : ∀ k, v3.ownBlock = some k → k ≠ g := by
  intro k hk e; subst e
  obtain ⟨cs, hc⟩ := OwnR.blk h.pd k hk
  have := h.bx; unfold BxV at this; rw [hc] at this; simp at this
theorem DK.gm (h : DK w F g X v1 m v3) : m ≠ g := by
  intro e; subst e; exact h.mp.notCells h.bx
theorem DK.m1 (h : DK w F g X v1 m v3) : ∀ k, v1.ownBlock = some k → k ≠ m := by
  intro k hk e; subst e
  obtain ⟨cs, hc⟩ := OwnR.blk h.st k hk
  exact h.mp.notCells hc
theorem DK.m3 (h : DK w F g X v1 m v3) : ∀ k, v3.ownBlock = some k → k ≠ m := by
  intro k hk e; subst e
  obtain ⟨cs, hc⟩ := OwnR.blk h.pd k hk
  exact h.mp.notCells hc
theorem DK.k13 (h : DK w F g X v1 m v3) : ∀ k, v1.ownBlock = some k → v3.ownBlock = some k → False := OwnR.apart h.st h.pd (by decide)
theorem DK.mono {G : Nat → Prop} (h : DK w F g X v1 m v3) (hG : ∀ k, k < w.heap.size → F k → G k) : DK w G g X v1 m v3 :=
  { h with fg := hG _ h.bx.lt h.fg, fm := hG _ h.mp.lt h.fm, f1 := fun k hk => hG _ (h.st.newB k hk).2 (h.f1 k hk), f3 := fun k hk => hG _ (h.pd.newB k hk).2 (h.f3 k hk) }
theorem DK.fr (h : DK w F g X v1 m v3) (f : Fr S w w') (hs : ∀ k, k < w.heap.size → F k → ¬ S k) : DK w' F g X v1 m v3 :=
  { h with bx := h.bx.fr f (hs _ h.bx.lt h.fg), mp := h.mp.fr f (hs _ h.mp.lt h.fm), st := h.st.fr f (fun k hk => hs _ (h.st.newB k hk).2 (h.f1 k hk)), pd := h.pd.fr f (fun k hk => hs _ (h.pd.newB k hk).2 (h.f3 k hk)) }
theorem DK.fr0 (h : DK w F g X v1 m v3) (f : Fr noB w w') : DK w' F g X v1 m v3 := h.fr f (fun _ _ _ q => q)
/-- down and left turned. -/
theorem DK.put (h : DK w F g X v1 m v3) {d : Bool} {l : Int} (f : Fr (onB1 g) w w') (hb : BxV w' g 94 (pdL v1 m v3 d l)) (hl : -9223372036854775808 ≤ l ∧ l ≤ 9223372036854775807) : DK w' F g { X with down := d, left := l } v1 m v3 :=
  { h with bx := hb, mp := h.mp.fr f (fun q => h.gm q), st := h.st.ne f h.g1, pd := h.pd.ne f h.g3, lft := hl }
theorem Disk.mono {G : Nat → Prop} (h : Disk w F g X) (hG : ∀ k, k < w.heap.size → F k → G k) : Disk w G g X := by
  obtain ⟨v1, m, v3, h⟩ := h; exact ⟨v1, m, v3, h.mono hG⟩
theorem Disk.fr (h : Disk w F g X) (f : Fr S w w') (hs : ∀ k, k < w.heap.size → F k → ¬ S k) : Disk w' F g X := by
  obtain ⟨v1, m, v3, h⟩ := h; exact ⟨v1, m, v3, h.fr f hs⟩
theorem Disk.fr0 (h : Disk w F g X) (f : Fr noB w w') : Disk w' F g X := h.fr f (fun _ _ _ q => q)
theorem Disk.lt (h : Disk w F g X) : g < w.heap.size := by
  obtain ⟨v1, m, v3, h⟩ := h; exact h.bx.lt
theorem onB1_F (h : F g) (f : Fr (onB1 g) w w') : Fr F w w' := f.mono (fun k _ q => by unfold onB1 at q; exact q ▸ h)
end
theorem _root_.Go.Proofs.U.BxV.five {w : World} {g : Nat} {t : TypeId} {x0 x1 x2 x3 x4 : Value} (h : BxV w g t [x0, x1, x2, x3, x4]) :
    (w.cell? ⟨g, 0, none⟩ = some x0 ∧ w.cell? ⟨g, 1, none⟩ = some x1 ∧ w.cell? ⟨g, 2, none⟩ = some x2 ∧ w.cell? ⟨g, 3, none⟩ = some x3 ∧ w.cell? ⟨g, 4, none⟩ = some x4) :=
  ⟨(h.cell 0 _ rfl).1, (h.cell 1 _ rfl).1, (h.cell 2 _ rfl).1, (h.cell 3 _ rfl).1, (h.cell 4 _ rfl).1⟩

abbrev ptr (g : Nat) : Value := .pointer (some ⟨g, 0, none⟩)

theorem has_any {F : Nat → Prop} {X : DSt} (g : Nat) (i : Int) (w : World) (h : Disk w F g X) :
    Calls Tryz.prog 92 #[ptr g, .int .i64 i] w fun r w' => r = .returned (.bool (inR X.pages.length i)) ∧ w = w' := by
  obtain ⟨v1, m, v3, h⟩ := h
  obtain ⟨a1, c1, rfl⟩ := h.st.opn
  obtain ⟨k0, k1, k2, k3, k4⟩ := h.bx.five
  clear h
  by_cases h0 : 0 ≤ i
  · go_enter Tryz.func92, Tryz.ntmps92
    go_wp2
    go_ret
    exact ⟨by simp [h0, inR], rfl⟩
  · have h1 : decide (0 ≤ i) = false := by simpa using h0
    go_enter Tryz.func92, Tryz.ntmps92
    go_wp2
    go_ret
    exact ⟨by simp [inR, h1], rfl⟩

/-- What an act does: left, down, error. -/
def actP (l : Int) (d : Bool) : Int × Bool × Int := if d || l == 0 then (l, true, 42) else (if l > 0 then l - 1 else l, d, 0)
def DSt.act (X : DSt) : DSt := { X with left := (actP X.left X.down).1, down := (actP X.left X.down).2.1 }
def DSt.actE (X : DSt) : Int := (actP X.left X.down).2.2

theorem act_any {F : Nat → Prop} {X : DSt} (g : Nat) (w : World) (h : Disk w F g X) :
    Calls Tryz.prog 93 #[ptr g] w fun r w' => r = .returned (.int .i64 X.actE) ∧ Disk w' F g X.act ∧ Fr F w w' := by
  obtain ⟨v1, m, v3, h⟩ := h
  have hbx := h.bx
  obtain ⟨pages, bad, pend, d, l⟩ := X
  have hlft := h.lft
  simp only [DSt.actE, DSt.act] at *
  by_cases h0 : l = 0
  · subst h0
    obtain ⟨k0, k1, k2, k3, k4⟩ := hbx.five
    have hr : actP 0 d = (0, true, 42) := by simp [actP]
    rw [hr]
    go_enter Tryz.func93, Tryz.ntmps93
    go_wp2_with (first
      | (with_reducible refine at_wpP ?_; refine at_st 4 _ _ rfl ?_; go_must (refine wpList_store1 rfl 4 _ _ rfl g 3 rfl (.bool true) rfl rfl _ _ hbx size_bool (by simp) ?_; intro w1 b1 f1; have b1 : BxV w1 g 94 (pdL v1 m v3 true 0) := (by simpa using b1); obtain ⟨q0, q1, q2, q3, q4⟩ := b1.five)))
    go_ret
    exact ⟨rfl, ⟨v1, m, v3, h.put f1 b1 (by decide)⟩, onB1_F h.fg f1⟩
  · have hb : (l == 0) = false := by simpa using h0
    obtain ⟨k0, k1, k2, k3, k4⟩ := hbx.five
    cases d with
    | true =>
      have hr : actP l true = (l, true, 42) := by simp [actP]
      rw [hr]
      go_enter Tryz.func93, Tryz.ntmps93
      go_wp2
      go_ret
      exact ⟨rfl, ⟨v1, m, v3, h⟩, Fr.refl _ _⟩
    | false =>
      by_cases hp : 0 < l
      · have hr : actP l false = (l - 1, false, 0) := by simp [actP, hb, hp]
        rw [hr]
        go_enter Tryz.func93, Tryz.ntmps93
        go_wp2_with (first
          | (with_reducible refine at_wpP ?_; refine at_st 3 _ _ rfl ?_; go_must (refine wpList_store1 rfl 3 _ _ rfl g 4 rfl (.int .i64 (l - 1)) rfl rfl _ _ hbx size_int (by simp) ?_; intro w1 b1 f1; have b1 : BxV w1 g 94 (pdL v1 m v3 false (l - 1)) := (by simpa using b1))))
        go_ret
        exact ⟨rfl, ⟨v1, m, v3, h.put f1 b1 (by omega)⟩, onB1_F h.fg f1⟩
      · have hr : actP l false = (l, false, 0) := by simp [actP, hb, hp]
        rw [hr]
        go_enter Tryz.func93, Tryz.ntmps93
        go_wp2
        go_ret
        exact ⟨rfl, ⟨v1, m, v3, h⟩, Fr.refl _ _⟩
end Go.Proofs.YtmkinaijkgkgiaaGreat
