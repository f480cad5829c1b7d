/- Texts RI3, RI4, P7 of the proof of RootRuns, one behind the other. -/
import Derived.Test.YtijgfojnppcbjaaBundleRootRuns1
import Derived.Test.YtijgfojnppcbjaaBundleRootRuns2
import Derived.Test.YtijgfojnppcbjaaBundleRootRuns3
/- Regions that draw their order, some of whose operations turn memory, each of these waiting for the one before it; no condition. -/
namespace Go.Proofs.U
open Go.RowKit
set_option linter.unusedVariables false

section
variable {P : Program} {ops : Array Oper} {Q : Exit → Act → World → Prop}

/-- What is known while such a region runs: hv are the values of those of hs that came up. -/
structure KnowC (ops : Array Oper) (hs : List Nat) (F : Nat → Value → Prop) (J : List Value → World → Prop) (a0 : Act) (listed : Array Bool) (a : Act) (w : World) (hv : List Value) : Prop where
  len : hv.length ≤ hs.length
  pre : ∀ (k i : Nat), hs[k]? = some i → (listed.getD i false = true ↔ k < hv.length)
  val : ∀ (k i d : Nat) (v : Value), hs[k]? = some i → hv[k]? = some v → dstAt ops i = some d → a.tmps.getD d undef = v
  dfr : a.defers = a0.defers
  sz : a.tmps.size = a0.tmps.size
  base : ∀ s, (∀ i, dstAt ops i ≠ some s) → a.tmps.getD s undef = a0.tmps.getD s undef
  fact : ∀ i d, i ∉ hs → listed.getD i false = true → dstAt ops i = some d → F i (a.tmps.getD d undef)
  inv : J hv w

/-- What is asked of one operation. -/
def HandsC (P : Program) (ops : Array Oper) (hs : List Nat) (F : Nat → Value → Prop) (J : List Value → World → Prop) (a0 : Act) (Q : Exit → Act → World → Prop) (i : Nat) (o : Oper) : Prop :=
  ∀ (a : Act) (w : World) (hv : List Value), hv.length ≤ hs.length → (∀ (p j : Nat) (o' : Oper), hs[p]? = some j → ops[j]? = some o' → (∃ e ∈ o'.after, Region.binds .any e = true ∧ e.on = i) → hv.length ≤ p) → J hv w → (∀ s, (∀ i, dstAt ops i ≠ some s) → a.eval (.tmp s) = a0.eval (.tmp s)) →
    (∀ e ∈ o.after, Region.binds .any e = true → ∀ d, dstAt ops e.on = some d → (e.on ∉ hs → F e.on (a.eval (.tmp d))) ∧ ∀ (k : Nat), hs[k]? = some e.on → hv[k]? = some (a.eval (.tmp d))) →
    (i ∉ hs → if Region.wanted o (yielded ops a.tmps) = true then o.wp P a w (fun a' w' => ∃ v, a' = a.put o.dst v ∧ J hv w' ∧ F i v) Q else F i undef) ∧
    (∀ (k : Nat), hs[k]? = some i → hv.length = k → if Region.wanted o (yielded ops a.tmps) = true then o.wp P a w (fun a' w' => ∃ v, a' = a.put o.dst v ∧ J (hv ++ [v]) w') Q else J (hv ++ [undef]) w)

theorem put_other {a : Act} {o : Oper} {v : Value} {d : Nat} (hne : o.dst ≠ some d) : (a.put o.dst v).tmps.getD d undef = a.tmps.getD d undef := by
  cases hd : o.dst with
  | none => rfl
  | some d' =>
    have hds : d' ≠ d := fun e => hne (by rw [hd, e])
    simp only [Act.put, Array.getD_eq_getD_getElem?, Array.getElem?_setIfInBounds, hds, if_false]
theorem put_same {a : Act} {o : Oper} {v : Value} {d : Nat} (he : o.dst = some d) (hlt : d < a.tmps.size) : (a.put o.dst v).tmps.getD d undef = v := by
  rw [he]; simp [Act.put, hlt]

theorem wp_region_chain {id : Nat} {a0 : Act} {w : World} (hm : P.follows .mixedOrders = true) (hs : List Nat) (F : Nat → Value → Prop) (J : List Value → World → Prop) (hJ : J [] w.drew)
    (hlow : ∀ (i : Nat) (o : Oper), ops[i]? = some o → ∀ e ∈ o.after, Region.binds .any e = true → e.on < i)
    (hdist : ∀ i j d, dstAt ops i = some d → dstAt ops j = some d → i = j)
    (hin : ∀ i d, dstAt ops i = some d → d < a0.tmps.size)
    (hhs : ∀ (k i : Nat), hs[k]? = some i → i < ops.size)
    (hnd : hs.Nodup)
    (hch : ∀ (k i j : Nat) (o : Oper), hs[k]? = some i → hs[k + 1]? = some j → ops[j]? = some o → ∃ e ∈ o.after, Region.binds .any e = true ∧ e.on = i)
    (hob : ∀ (i : Nat) (o : Oper), ops[i]? = some o → HandsC P ops hs F J a0 Q i o)
    (hend : ∀ a w' hv, hv.length = hs.length → J hv w' → a.defers = a0.defers → a.tmps.size = a0.tmps.size → (∀ s, (∀ i, dstAt ops i ≠ some s) → a.eval (.tmp s) = a0.eval (.tmp s)) →
      (∀ i d, i ∉ hs → dstAt ops i = some d → F i (a.eval (.tmp d))) → (∀ (k i d : Nat) (v : Value), hs[k]? = some i → hv[k]? = some v → dstAt ops i = some d → a.eval (.tmp d) = v) → Q .normal a w') : (Code.region id ops true).wp P Q a0 w := by
  have uniq : ∀ (k k' i : Nat), hs[k]? = some i → hs[k']? = some i → k = k' := by
    intro k k' i h1 h2
    obtain ⟨l1, e1⟩ := List.getElem?_eq_some_iff.1 h1
    obtain ⟨l2, e2⟩ := List.getElem?_eq_some_iff.1 h2
    exact (List.getElem_inj hnd).1 (e1.trans e2.symm)
  refine wp_region_any hm ?_
  show wpAny P .any ops Q ops.size (Array.replicate ops.size false) a0 w.drew
  refine wpAny_inv (fun listed a w' => listed.size = ops.size ∧ (∃ hv, KnowC ops hs F J a0 listed a w' hv) ∧ ∀ i, listed.getD i false = true → ∀ o, ops[i]? = some o → ∀ e ∈ o.after, Region.binds .any e = true → listed.getD e.on false = true) ?_ ?_ ops.size (List.range ops.size) _ a0 _ ?_ (by simp) ?_
  · rintro listed a w' i ⟨hsz, ⟨hv, hK⟩, hcl⟩ hi
    obtain ⟨hun, o, ho, hall⟩ := mem_ready.1 hi
    have hilt : i < listed.size := by
      rcases Nat.lt_or_ge i listed.size with h' | h'
      · exact h'
      · simp [Array.getElem?_eq_none h'] at hun
    have hunf : listed.getD i false = false := by
      have h2 : listed.getD i true = listed.getD i false := by simp [hilt]
      rw [← h2]; exact hun
    have hdo : dstAt ops i = o.dst := by simp [dstAt, ho]
    have hdep : ∀ e ∈ o.after, Region.binds .any e = true → ∀ d, dstAt ops e.on = some d → (e.on ∉ hs → F e.on (a.eval (.tmp d))) ∧ ∀ (k : Nat), hs[k]? = some e.on → hv[k]? = some (a.eval (.tmp d)) := by
      intro e he hb d hd
      have hl := hall e he hb
      refine ⟨fun hn => hK.fact e.on d hn hl hd, fun k hk => ?_⟩
      have hlt := (hK.pre k e.on hk).1 hl
      have := hK.val k e.on d hv[k] hk (List.getElem?_eq_getElem hlt) hd
      rw [List.getElem?_eq_getElem hlt, ← this]; rfl
    have hbef : ∀ (p j : Nat) (o' : Oper), hs[p]? = some j → ops[j]? = some o' → (∃ e ∈ o'.after, Region.binds .any e = true ∧ e.on = i) → hv.length ≤ p := by
      intro p j o' hp hj he
      obtain ⟨e, he, hbe, hei⟩ := he
      rcases Nat.lt_or_ge p hv.length with hlt | hge
      · have h1 := hcl j ((hK.pre p j hp).2 hlt) o' hj e he hbe
        rw [hei, hunf] at h1; cases h1
      · exact hge
    have key := hob i o ho a w' hv hK.len hbef hK.inv hK.base hdep
    have lk : ∀ j, listed.getD j false = true → (listed.setIfInBounds i true).getD j false = true := by
      intro j hj
      by_cases hij : i = j
      · subst hij; simp [hilt]
      · simpa [Array.getElem?_setIfInBounds, hij] using hj
    have ldj : ∀ j, (listed.setIfInBounds i true).getD j false = true → j = i ∨ listed.getD j false = true := by
      intro j hj
      by_cases hij : i = j
      · exact Or.inl hij.symm
      · exact Or.inr (by simpa [Array.getElem?_setIfInBounds, hij] using hj)
    have lsame : (listed.setIfInBounds i true).getD i false = true := by simp [hilt]
    have lother : ∀ j, j ≠ i → (listed.setIfInBounds i true).getD j false = listed.getD j false := by
      intro j hj
      simp [Ne.symm hj]
    have closed : ∀ j, (listed.setIfInBounds i true).getD j false = true → ∀ o, ops[j]? = some o → ∀ e ∈ o.after, Region.binds .any e = true → (listed.setIfInBounds i true).getD e.on false = true := by
      intro j hj oj hoj e he hbe
      rcases ldj j hj with rfl | hj'
      · rw [ho] at hoj; cases hoj
        exact lk _ (hall e he hbe)
      · exact lk _ (hcl j hj' oj hoj e he hbe)
    have cdfr : ∀ v, (a.put o.dst v).defers = a0.defers := fun v => by cases hd : o.dst <;> simpa [Act.put] using hK.dfr
    have csz : ∀ v, (a.put o.dst v).tmps.size = a0.tmps.size := fun v => by cases hd : o.dst <;> simpa [Act.put] using hK.sz
    have cbase : ∀ v s, (∀ i, dstAt ops i ≠ some s) → (a.put o.dst v).tmps.getD s undef = a0.tmps.getD s undef := fun v s hs' => by
      rw [put_other (fun e => hs' i (by rw [hdo]; exact e))]; exact hK.base s hs'
    have ne_dst : ∀ j d, j ≠ i → dstAt ops j = some d → o.dst ≠ some d := fun j d hj hd e => hj (hdist j i d hd (by rw [hdo]; exact e))
    unfold wpOp
    simp only [ho]
    by_cases hh : i ∈ hs
    · -- one of the chain
      obtain ⟨k, hk⟩ := List.getElem?_of_mem hh
      have hnk : ¬ k < hv.length := fun h => by have := (hK.pre k i hk).2 h; rw [hunf] at this; cases this
      have hlen : hv.length = k := by
        rcases Nat.eq_zero_or_pos k with h0 | h0
        · omega
        · obtain ⟨k', rfl⟩ : ∃ k', k = k' + 1 := ⟨k - 1, by omega⟩
          obtain ⟨hkl, _⟩ := List.getElem?_eq_some_iff.1 hk
          have hk' : hs[k']? = some (hs[k']'(by omega)) := List.getElem?_eq_getElem (by omega)
          obtain ⟨e, he, hbe, hei⟩ := hch k' _ i o hk' hk ho
          have := (hK.pre k' _ hk').1 (by rw [← hei]; exact hall e he hbe)
          omega
      have hkl : k < hs.length := (List.getElem?_eq_some_iff.1 hk).1
      have next : ∀ v w'', J (hv ++ [v]) w'' → (listed.setIfInBounds i true).size = ops.size ∧ (∃ hv, KnowC ops hs F J a0 (listed.setIfInBounds i true) (a.put o.dst v) w'' hv) ∧ ∀ j, (listed.setIfInBounds i true).getD j false = true → ∀ o, ops[j]? = some o → ∀ e ∈ o.after, Region.binds .any e = true → (listed.setIfInBounds i true).getD e.on false = true := by
        intro v w'' hJ'
        refine ⟨by simpa using hsz, ⟨hv ++ [v], ?_, ?_, ?_, cdfr v, csz v, cbase v, ?_, hJ'⟩, closed⟩
        · simp; omega
        · intro k2 i2 hk2
          by_cases hii : i2 = i
          · subst hii
            have := uniq k2 k i2 hk2 hk
            subst this
            simp [lsame]; omega
          · rw [lother i2 hii, hK.pre k2 i2 hk2]
            have : k2 ≠ k := fun e => hii (by rw [e, hk] at hk2; exact (Option.some.inj hk2).symm)
            simp; omega
        · intro k2 i2 d v2 hk2 hv2 hd2
          by_cases hii : i2 = i
          · subst hii
            have := uniq k2 k i2 hk2 hk
            subst this
            rw [hdo] at hd2
            rw [put_same hd2 (by rw [hK.sz]; exact hin i2 d (by rw [hdo]; exact hd2))]
            rw [List.getElem?_append_right (by omega)] at hv2
            simpa [hlen] using hv2
          · rw [put_other (ne_dst i2 d hii hd2)]
            have hkne : k2 ≠ k := fun e => hii (by rw [e, hk] at hk2; exact (Option.some.inj hk2).symm)
            have hlt2 : k2 < (hv ++ [v]).length := (List.getElem?_eq_some_iff.1 hv2).1
            rw [List.getElem?_append_left (by simp at hlt2; omega)] at hv2
            exact hK.val k2 i2 d v2 hk2 hv2 hd2
        · intro j d hj hl hd
          have hji : j ≠ i := fun e => hj (e ▸ hh)
          rw [put_other (ne_dst j d hji hd)]
          rw [lother j hji] at hl
          exact hK.fact j d hj hl hd
      have key2 := key.2 k hk hlen
      by_cases hw : Region.wanted o (yielded ops a.tmps) = true
      · rw [if_pos hw] at key2 ⊢
        refine Or.inl (Oper.wp_mono ?_ key2)
        rintro a' w'' ⟨v, rfl, hF⟩
        exact next v w'' hF
      · rw [if_neg hw] at key2 ⊢
        exact next undef w' key2
    · have next : ∀ v w'', J hv w'' → F i v → (listed.setIfInBounds i true).size = ops.size ∧ (∃ hv, KnowC ops hs F J a0 (listed.setIfInBounds i true) (a.put o.dst v) w'' hv) ∧ ∀ j, (listed.setIfInBounds i true).getD j false = true → ∀ o, ops[j]? = some o → ∀ e ∈ o.after, Region.binds .any e = true → (listed.setIfInBounds i true).getD e.on false = true := by
        intro v w'' hJ' hF
        refine ⟨by simpa using hsz, ⟨hv, hK.len, ?_, ?_, cdfr v, csz v, cbase v, ?_, hJ'⟩, closed⟩
        · intro k2 i2 hk2
          have hii : i2 ≠ i := fun e => hh (e ▸ List.mem_of_getElem? hk2)
          rw [lother i2 hii]; exact hK.pre k2 i2 hk2
        · intro k2 i2 d v2 hk2 hv2 hd2
          have hii : i2 ≠ i := fun e => hh (e ▸ List.mem_of_getElem? hk2)
          rw [put_other (ne_dst i2 d hii hd2)]
          exact hK.val k2 i2 d v2 hk2 hv2 hd2
        · intro j d hj hl hd
          by_cases hji : j = i
          · subst hji
            rw [hdo] at hd
            rw [put_same hd (by rw [hK.sz]; exact hin j d (by rw [hdo]; exact hd))]
            exact hF
          · rw [put_other (ne_dst j d hji hd)]
            rw [lother j hji] at hl
            exact hK.fact j d hj hl hd
      have key1 := key.1 hh
      by_cases hw : Region.wanted o (yielded ops a.tmps) = true
      · rw [if_pos hw] at key1 ⊢
        refine Or.inl (Oper.wp_mono ?_ key1)
        rintro a' w'' ⟨v, rfl, hJ', hF⟩
        exact next v w'' hJ' hF
      · rw [if_neg hw] at key1 ⊢
        exact next undef w' hK.inv key1
  · rintro listed a w' ⟨hsz, ⟨hv, hK⟩, hcl⟩ h0
    have hall : ∀ n i, i < n → i < ops.size → listed.getD i false = true := by
      intro n
      induction n with
      | zero => intro i h; omega
      | succ n ihn =>
        intro i hi hlt
        rcases Nat.lt_or_ge i n with hn | hn
        · exact ihn i hn hlt
        · obtain rfl : i = n := by omega
          cases hq : listed.getD i false with
          | true => rfl
          | false =>
            exfalso
            have hls : i < listed.size := by omega
            have ho : ops[i]? = some ops[i] := Array.getElem?_eq_getElem hlt
            have hmem : i ∈ Region.ready .any ops listed := mem_ready.2 ⟨by
              have h2 : listed.getD i true = listed.getD i false := by simp [hls]
              rw [h2]; exact hq, ops[i], ho, fun e he hbe => ihn e.on (hlow i _ ho e he hbe) (by have := hlow i _ ho e he hbe; omega)⟩
            rw [h0] at hmem; cases hmem
    have inb : ∀ i d, dstAt ops i = some d → i < ops.size := by
      intro i d hd
      rcases Nat.lt_or_ge i ops.size with h' | h'
      · exact h'
      · simp [dstAt, Array.getElem?_eq_none h'] at hd
    have hfull : hv.length = hs.length := by
      rcases Nat.lt_or_ge hv.length hs.length with h' | h'
      · exfalso
        have hk : hs[hv.length]? = some hs[hv.length] := List.getElem?_eq_getElem h'
        have := (hK.pre _ _ hk).1 (hall _ _ (Nat.lt_succ_self _) (hhs _ _ hk))
        omega
      · have := hK.len; omega
    exact hend a w' hv hfull hK.inv hK.dfr hK.sz hK.base (fun i d hn hd => hK.fact i d hn (hall (i + 1) i (by omega) (inb i d hd)) hd) hK.val
  · intro i hi
    rcases Nat.lt_or_ge i ops.size with h' | h'
    · simpa using h'
    · simp [h'] at hi
  · have nolist : ∀ i, (Array.replicate ops.size false).getD i false = false := fun i => by
      rcases Nat.lt_or_ge i ops.size with h' | h' <;> simp [h']
    refine ⟨by simp, ⟨[], Nat.zero_le _, fun k i hk => ?_, fun k i d v _ h => by simp at h, rfl, rfl, fun _ _ => rfl, fun i d _ hl => ?_, hJ⟩, fun i hl => ?_⟩
    · rw [nolist i]; simp
    · rw [nolist i] at hl; cases hl
    · rw [nolist i] at hl; cases hl
end
end Go.Proofs.U
/- The law of such regions by lists; no condition. -/
namespace Go.Proofs.U
open Go.RowKit
set_option linter.unusedVariables false

def factL (fs : List (Value → Prop)) (i : Nat) : Value → Prop := fs.getD i fun _ => True
def depOnB (ops : Array Oper) (k j : Nat) : Bool := match ops[k]? with | some o => o.after.any (fun e => e.on == j && Region.binds .any e) | none => false
def regionOkB (ops : Array Oper) (n : Nat) : Bool :=
  ((List.range ops.size).all fun i => match ops[i]? with
    | some o => o.after.all (fun e => !Region.binds .any e || decide (e.on < i)) && (match o.dst with | some d => decide (d < n) | none => true)
    | none => true) &&
  ((List.range ops.size).all fun i => (List.range ops.size).all fun j => i == j || (dstAt ops i).isNone || dstAt ops i != dstAt ops j)
def chainOk (ops : Array Oper) (hs : List Nat) (tags : List (Option Nat)) : Bool :=
  decide (tags.length = ops.size) && ((List.range tags.length).all fun i => tags.getD i none == hs.idxOf? i) && (hs.all fun i => decide (i < ops.size)) &&
    ((List.range (hs.length - 1)).all fun k => depOnB ops (hs.getD (k + 1) 0) (hs.getD k 0))

theorem regionOk_parts {ops : Array Oper} {n : Nat} (hok : regionOkB ops n = true) :
    (∀ (i : Nat) (o : Oper), ops[i]? = some o → ∀ e ∈ o.after, Region.binds .any e = true → e.on < i) ∧ (∀ i d, dstAt ops i = some d → d < n) ∧ (∀ i j d, dstAt ops i = some d → dstAt ops j = some d → i = j) := by
  unfold regionOkB at hok
  rw [Bool.and_eq_true] at hok
  have hlto : ∀ (i : Nat) (o : Oper), ops[i]? = some o → i < ops.size := by
    intro i o ho
    rcases Nat.lt_or_ge i ops.size with h' | h'
    · exact h'
    · rw [Array.getElem?_eq_none h'] at ho; cases ho
  have inb : ∀ i d, dstAt ops i = some d → i < ops.size := by
    intro i d hd
    rcases Nat.lt_or_ge i ops.size with h' | h'
    · exact h'
    · simp [dstAt, Array.getElem?_eq_none h'] at hd
  refine ⟨?_, ?_, ?_⟩
  · intro i o ho e he hbe
    have h2 := List.all_eq_true.1 hok.1 i (by simpa using hlto i o ho)
    simp only [ho] at h2
    rw [Bool.and_eq_true] at h2
    have h3 := Array.all_eq_true_iff_forall_mem.1 h2.1 e he
    simpa [hbe] using h3
  · intro i d hd
    have hlt := inb i d hd
    have ho : ops[i]? = some ops[i] := Array.getElem?_eq_getElem hlt
    have h2 := List.all_eq_true.1 hok.1 i (by simpa using hlt)
    have hdd : ops[i].dst = some d := by simpa [dstAt, ho] using hd
    simp only [ho, hdd] at h2
    rw [Bool.and_eq_true] at h2
    exact of_decide_eq_true h2.2
  · intro i j d hi hj
    have h2 := List.all_eq_true.1 (List.all_eq_true.1 hok.2 i (by simpa using inb i d hi)) j (by simpa using inb j d hj)
    simp [hi, hj] at h2
    exact h2

section
variable {P : Program} {ops : Array Oper} {Q : Exit → Act → World → Prop}
def Light (P : Program) (ops : Array Oper) (hs : List Nat) (fs : List (Value → Prop)) (J : List Value → World → Prop) (a0 : Act) (Q : Exit → Act → World → Prop) (k : Nat) (o : Oper) : Prop :=
  ∀ (a : Act) (w : World) (hv : List Value), (hv.length ≤ hs.length ∧ ∀ (p j : Nat), hs[p]? = some j → depOnB ops j k = true → hv.length ≤ p) → J hv w → (∀ s, notDst ops s = true → a.eval (.tmp s) = a0.eval (.tmp s)) →
    (∀ j d, depOnB ops k j = true → hs.contains j = false → dstAt ops j = some d → factL fs j (a.eval (.tmp d))) →
    (∀ (j d p : Nat), depOnB ops k j = true → hs[p]? = some j → dstAt ops j = some d → hv[p]? = some (a.eval (.tmp d))) →
    if Region.wanted o (yielded ops a.tmps) = true then o.wp P a w (fun a' w' => ∃ v, a' = a.put o.dst v ∧ J hv w' ∧ factL fs k v) Q else factL fs k undef
def Heavy (P : Program) (ops : Array Oper) (hs : List Nat) (fs : List (Value → Prop)) (J : List Value → World → Prop) (a0 : Act) (Q : Exit → Act → World → Prop) (p k : Nat) (o : Oper) : Prop :=
  ∀ (a : Act) (w : World) (hv : List Value), hv.length = p → J hv w → (∀ s, notDst ops s = true → a.eval (.tmp s) = a0.eval (.tmp s)) →
    (∀ j d, depOnB ops k j = true → hs.contains j = false → dstAt ops j = some d → factL fs j (a.eval (.tmp d))) →
    (∀ (j d q : Nat), depOnB ops k j = true → hs[q]? = some j → dstAt ops j = some d → hv[q]? = some (a.eval (.tmp d))) →
    if Region.wanted o (yielded ops a.tmps) = true then o.wp P a w (fun a' w' => ∃ v, a' = a.put o.dst v ∧ J (hv ++ [v]) w') Q else J (hv ++ [undef]) w
def HandCAll (P : Program) (ops : Array Oper) (hs : List Nat) (fs : List (Value → Prop)) (J : List Value → World → Prop) (a0 : Act) (Q : Exit → Act → World → Prop) : Nat → List (Option Nat) → List Oper → Prop
  | _, _, [] => True
  | _, [], _ :: _ => False
  | k, none :: ts, o :: r => Light P ops hs fs J a0 Q k o ∧ HandCAll P ops hs fs J a0 Q (k + 1) ts r
  | k, some p :: ts, o :: r => Heavy P ops hs fs J a0 Q p k o ∧ HandCAll P ops hs fs J a0 Q (k + 1) ts r

theorem handCAll_get {hs : List Nat} {fs : List (Value → Prop)} {J : List Value → World → Prop} {a0 : Act} : ∀ (l : List Oper) (ts : List (Option Nat)) (k : Nat), HandCAll P ops hs fs J a0 Q k ts l → ∀ (i : Nat) (o : Oper), l[i]? = some o →
    (ts[i]? = some none ∧ Light P ops hs fs J a0 Q (k + i) o) ∨ ∃ p, ts[i]? = some (some p) ∧ Heavy P ops hs fs J a0 Q p (k + i) o
  | [], _, _, _, i, o, ho => by simp at ho
  | x :: l, [], k, h, _, o, ho => by cases h
  | x :: l, none :: ts, k, h, 0, o, ho => by simp at ho; subst ho; exact Or.inl ⟨rfl, h.1⟩
  | x :: l, some p :: ts, k, h, 0, o, ho => by simp at ho; subst ho; exact Or.inr ⟨p, rfl, h.1⟩
  | x :: l, none :: ts, k, h, i + 1, o, ho => by
    have := handCAll_get l ts (k + 1) h.2 i o (by simpa using ho)
    rwa [show k + 1 + i = k + (i + 1) by omega] at this
  | x :: l, some p :: ts, k, h, i + 1, o, ho => by
    have := handCAll_get l ts (k + 1) h.2 i o (by simpa using ho)
    rwa [show k + 1 + i = k + (i + 1) by omega] at this

theorem wp_region_chain_lay {id : Nat} {l : List Oper} {a0 : Act} {w : World} (hm : P.follows .mixedOrders = true) (hs : List Nat) (tags : List (Option Nat)) (fs : List (Value → Prop)) (J : List Value → World → Prop) (hJ : J [] w.drew)
    (hok : regionOkB l.toArray a0.tmps.size = true) (hck : chainOk l.toArray hs tags = true) (hnd : hs.Nodup)
    (hob : HandCAll P l.toArray hs fs J a0 Q 0 tags l)
    (hend : ∀ (vs : Nat → Value) w' hv, hv.length = hs.length → J hv w' → (∀ i, hs.contains i = false → (l[i]?.bind (·.dst)).isSome = true → factL fs i (vs i)) →
      (∀ (k i : Nat), hs[k]? = some i → (l[i]?.bind (·.dst)).isSome = true → hv[k]? = some (vs i)) → Q .normal (layL l 0 vs a0) w') : (Code.region id l.toArray true).wp P Q a0 w := by
  have hdl : ∀ i, dstAt l.toArray i = l[i]?.bind (·.dst) := fun i => by simp [dstAt]
  obtain ⟨r1, r2, r3⟩ := regionOk_parts hok
  unfold chainOk at hck
  simp only [Bool.and_eq_true, decide_eq_true_eq] at hck
  obtain ⟨⟨⟨c1, c2⟩, c3⟩, c4⟩ := hck
  have htag : ∀ i, i < l.toArray.size → tags[i]? = some (hs.idxOf? i) := by
    intro i hi
    have := List.all_eq_true.1 c2 i (by simp at hi ⊢; simp at c1; omega)
    have hlt : i < tags.length := by omega
    rw [List.getElem?_eq_getElem hlt]
    simpa [List.getD, hlt] using this
  have depIn : ∀ (i j : Nat) (o : Oper) (e : Edge), l.toArray[i]? = some o → e ∈ o.after → Region.binds .any e = true → e.on = j → depOnB l.toArray i j = true := by
    intro i j o e ho he hbe hj
    unfold depOnB
    rw [ho]
    exact Array.any_eq_true.2 (by
      obtain ⟨n, hn, heq⟩ := Array.mem_iff_getElem.1 he
      exact ⟨n, hn, by rw [heq]; simpa [hbe] using hj⟩)
  have depOut : ∀ (i j : Nat) (o : Oper), l.toArray[i]? = some o → depOnB l.toArray i j = true → ∃ e ∈ o.after, Region.binds .any e = true ∧ e.on = j := by
    intro i j o ho hj
    unfold depOnB at hj
    rw [ho] at hj
    simp only at hj
    obtain ⟨n, hn, heq⟩ := Array.any_eq_true.1 hj
    exact ⟨o.after[n], Array.getElem_mem hn, by simpa [and_comm] using heq⟩
  refine wp_region_chain hm hs (factL fs) J hJ r1 r3 r2 ?_ hnd ?_ ?_ ?_
  · intro k i hk
    exact of_decide_eq_true (List.all_eq_true.1 c3 i (List.mem_of_getElem? hk))
  · intro k i j o hk hk1 ho
    have hlt := (List.getElem?_eq_some_iff.1 hk1).1
    have := List.all_eq_true.1 c4 k (by simp; omega)
    have e1 : hs.getD (k + 1) 0 = j := by simp [List.getD, hk1]
    have e2 : hs.getD k 0 = i := by simp [List.getD, hk]
    rw [e1, e2] at this
    exact depOut j i o ho this
  · intro i o ho a w' hv hlen hbef hJv hbase hdep
    have hlt : i < l.toArray.size := by
      rcases Nat.lt_or_ge i l.toArray.size with h' | h'
      · exact h'
      · rw [Array.getElem?_eq_none h'] at ho; cases ho
    have hb' : ∀ s, notDst l.toArray s = true → a.eval (.tmp s) = a0.eval (.tmp s) := fun s hs' => hbase s (notDst_spec hs')
    have hd1 : ∀ j d, depOnB l.toArray i j = true → hs.contains j = false → dstAt l.toArray j = some d → factL fs j (a.eval (.tmp d)) := by
      intro j d hj hc hd
      obtain ⟨e, he, hbe, rfl⟩ := depOut i j o ho hj
      exact (hdep e he hbe d hd).1 (by simpa using hc)
    have hd2 : ∀ (j d p : Nat), depOnB l.toArray i j = true → hs[p]? = some j → dstAt l.toArray j = some d → hv[p]? = some (a.eval (.tmp d)) := by
      intro j d p hj hp hd
      obtain ⟨e, he, hbe, rfl⟩ := depOut i j o ho hj
      exact (hdep e he hbe d hd).2 p hp
    have hg := handCAll_get l tags 0 hob i o (by simpa using ho)
    rw [Nat.zero_add] at hg
    have ht := htag i hlt
    rcases hg with ⟨t1, hL⟩ | ⟨p, t1, hH⟩
    · rw [ht] at t1
      have hni : i ∉ hs := by
        have := Option.some.inj t1
        rwa [List.idxOf?_eq_none_iff] at this
      refine ⟨fun _ => hL a w' hv ⟨hlen, fun p j hp hj => by
        have hjl := of_decide_eq_true (List.all_eq_true.1 c3 j (List.mem_of_getElem? hp))
        obtain ⟨o', ho'⟩ : ∃ o', l.toArray[j]? = some o' := ⟨_, Array.getElem?_eq_getElem hjl⟩
        exact hbef p j o' hp ho' (depOut j i o' ho' hj)⟩ hJv hb' hd1 hd2, fun k hk => absurd (List.mem_of_getElem? hk) hni⟩
    · rw [ht] at t1
      have hp := Option.some.inj t1
      have hpi : hs[p]? = some i := by
        obtain ⟨hpl, hpe, _⟩ := List.idxOf?_eq_some_iff.1 hp
        rw [List.getElem?_eq_getElem hpl, hpe]
      refine ⟨fun hn => absurd (List.mem_of_getElem? hpi) hn, fun k hk hl => ?_⟩
      obtain ⟨l1, e1⟩ := List.getElem?_eq_some_iff.1 hk
      obtain ⟨l2, e2⟩ := List.getElem?_eq_some_iff.1 hpi
      have hkp : k = p := (List.getElem_inj hnd).1 (e1.trans e2.symm)
      subst hkp
      exact hH a w' hv hl hJv hb' hd1 hd2
  · intro a w' hv hlen hJv hdf hsz hbase hall hval
    have h := hend (fun i => match l[i]?.bind (·.dst) with | some d => a.eval (.tmp d) | none => undef) w' hv hlen hJv (fun i hc hi => by
      cases hd : l[i]?.bind (·.dst) with
      | none => rw [hd] at hi; cases hi
      | some d => simpa only [hd] using hall i d (by simpa using hc) (by rw [hdl]; exact hd)) (fun k i hk hi => by
      cases hd : l[i]?.bind (·.dst) with
      | none => rw [hd] at hi; cases hi
      | some d =>
        have hkl := (List.getElem?_eq_some_iff.1 hk).1
        have hkv : hv[k]? = some hv[k] := List.getElem?_eq_getElem (by omega)
        rw [hkv, ← hval k i d hv[k] hk hkv (by rw [hdl]; exact hd)])
    have e : layL l 0 (fun i => match l[i]?.bind (·.dst) with | some d => a.eval (.tmp d) | none => undef) a0 = a := by
      have h2 := layL_size l 0 (fun i => match l[i]?.bind (·.dst) with | some d => a.eval (.tmp d) | none => undef) a0
      have h3 := layL_is a l 0 (fun i => match l[i]?.bind (·.dst) with | some d => a.eval (.tmp d) | none => undef) a0 hsz.symm (fun j o d ho hd => by simp [ho, hd]) (fun s => by
        cases hn : notDst l.toArray s with
        | true => exact Or.inl (hbase s (notDst_spec hn))
        | false =>
          right
          unfold notDst at hn
          rw [List.all_eq_false] at hn
          obtain ⟨j, hj, hq⟩ := hn
          have hd : dstAt l.toArray j = some s := by simpa using hq
          rw [hdl] at hd
          obtain ⟨o, ho, hod⟩ := Option.bind_eq_some_iff.1 hd
          exact ⟨j, o, ho, hod⟩)
      generalize layL l 0 (fun i => match l[i]?.bind (·.dst) with | some d => a.eval (.tmp d) | none => undef) a0 = b at *
      obtain ⟨bt, bd⟩ := b
      obtain ⟨at', ad⟩ := a
      simp only at h2 hsz hdf
      have hd : bd = ad := by rw [h2.2, hdf]
      have ht : bt = at' := by
        apply Array.ext
        · omega
        · intro i hi hi'
          have := h3 i
          simpa [Act.eval, hi, hi'] using this
      rw [hd, ht]
    rwa [e] at h

variable {a : Act} {w : World} {o : Oper} {hs : List Nat} {fs : List (Value → Prop)} {J : List Value → World → Prop} {k : Nat} {hv : List Value}
theorem light_val {v : Value} (hw : Region.wanted o (yielded ops a.tmps) = true) (hrun : (execOp a.eval o).run P w = .ok (.value v) w) (hJ : J hv w) (hF : factL fs k v) :
    if Region.wanted o (yielded ops a.tmps) = true then o.wp P a w (fun a' w' => ∃ v, a' = a.put o.dst v ∧ J hv w' ∧ factL fs k v) Q else factL fs k undef := by
  rw [if_pos hw]
  unfold Oper.wp
  rw [hrun]
  exact ⟨v, rfl, hJ, hF⟩
theorem heavy_val {v : Value} {w' : World} (hw : Region.wanted o (yielded ops a.tmps) = true) (hrun : (execOp a.eval o).run P w = .ok (.value v) w') (hJ : J (hv ++ [v]) w') :
    if Region.wanted o (yielded ops a.tmps) = true then o.wp P a w (fun a' w' => ∃ v, a' = a.put o.dst v ∧ J (hv ++ [v]) w') Q else J (hv ++ [undef]) w := by
  rw [if_pos hw]
  unfold Oper.wp
  rw [hrun]
  exact ⟨v, rfl, hJ⟩
theorem heavy_wp (hw : Region.wanted o (yielded ops a.tmps) = true) (h : o.wp P a w (fun a' w' => ∃ v, a' = a.put o.dst v ∧ J (hv ++ [v]) w') Q) :
    if Region.wanted o (yielded ops a.tmps) = true then o.wp P a w (fun a' w' => ∃ v, a' = a.put o.dst v ∧ J (hv ++ [v]) w') Q else J (hv ++ [undef]) w := by
  rw [if_pos hw]; exact h
theorem heavy_call {f : FuncId} {args : Array Value} (hw : Region.wanted o (yielded ops a.tmps) = true) (hrun : (execOp a.eval o).run P w = .ok (.enter f args) w)
    (hc : Calls P f args w fun e w' => ∃ v, e = .returned v ∧ J (hv ++ [v]) w') :
    if Region.wanted o (yielded ops a.tmps) = true then o.wp P a w (fun a' w' => ∃ v, a' = a.put o.dst v ∧ J (hv ++ [v]) w') Q else J (hv ++ [undef]) w := by
  rw [if_pos hw]
  unfold Oper.wp
  rw [hrun]
  refine hc.mono ?_
  rintro e w' ⟨v, rfl, hJ⟩
  exact ⟨v, rfl, hJ⟩
end
end Go.Proofs.U
/- The document's disk: settle. -/
namespace Go.Proofs.Ytijgfojnppcbjaa
open Go.RowKit Go.Proofs.U
set_option linter.unusedSimpArgs false
set_option linter.unusedVariables false

theorem run_loadP (w : World) (b off : Nat) (p : List Int) (hc : w.rangeAt b off (pgv p)) (hp : p.length = 256) : (Instr.loadAt 46 (.pointer (some ⟨b, off, none⟩))).run Try.prog w = .ok (pgV p) w := by
  simp only [Instr.loadAt, Instr.sureAddr, Sem.run_bind, Sem.run_pure, Result.andThen_ok, run_loadVar_mid w b off 46 (pgv p) _ hc Try.underlying46 rfl (by rw [size_page, pgv_len, hp])]
  rfl
/-- keep[k]: its place, and what lies there. -/
theorem run_idxI {w w0 : World} {ka : Option Addr} {kc : Nat} {keep : List Int} (hS : SlI .u8 w0 (.slice ka keep.length kc) keep) (k : Nat) (hk : k < keep.length) {g : Nat} (hg : ∀ b, (Value.slice ka keep.length kc).ownBlock = some b → b ≠ g) :
    ∃ kb ko, (Instr.indexAt 24 (.slice ka keep.length kc) (.int .i64 (k : Int))).run Try.prog w = .ok (.pointer (some ⟨kb, ko, none⟩)) w ∧ w0.cell? ⟨kb, ko, none⟩ = some (.int .u8 (keep.getD k 0)) ∧ kb ≠ g := by
  obtain ⟨⟨a0, cap0, hv, h1, h2, h3, h4⟩, _⟩ := hS
  cases hv
  cases ka with
  | none => have := h3 rfl; omega
  | some ad =>
    have hc := h4 ad rfl k (.int .u8 (keep.getD k 0)) (by simp [List.getD, hk])
    obtain ⟨b, off, sp⟩ := ad
    have hc0 := h4 _ rfl 0 (.int .u8 (keep.getD 0 0)) (by simp [List.getD, show 0 < keep.length by omega])
    have hsp : sp = none := by simpa [Addr.add] using World.cell?_spot hc0
    subst hsp
    refine ⟨b, off + k, ?_, by rwa [Addr.plain] at hc, hg b rfl⟩
    have h5 : (0 : Int) ≤ (k : Int) ∧ (k : Int) < (keep.length : Int) := by omega
    obtain ⟨ii, hinf, hsz'⟩ := Option.map_eq_some_iff.1 size_u8
    simp [Instr.indexAt, asIntOf, run_underlying Try.underlying24, h5, sizeOf, typeInfo, hinf, hsz', go_sem, Addr.plain]
    omega

theorem SlI.old {k : IntKind} {w : World} {v : Value} {l : List Int} (h : SlI k w v l) (b : Nat) (hb : v.ownBlock = some b) (hl : 0 < l.length) : b < w.heap.size := by
  obtain ⟨⟨a0, cap0, rfl, h1, h2, h3, h4⟩, _⟩ := h
  cases a0 with
  | none => simp [Value.ownBlock] at hb
  | some ad =>
    have hc := h4 ad rfl 0 (.int k (l.getD 0 0)) (by simp [List.getD, hl])
    have := World.block_lt_of_cell? w _ hc
    simp [Value.ownBlock] at hb
    subst hb
    simpa [Addr.add] using this
def JS (w0 : World) (g base : Nat) (v5 : Value) (ps : List (List Int)) (at' : Nat) (old new : List Int) : List Value → World → Prop
  | [], w => Fr (onB1 g) w0 w ∧ OwnR pgv 256 46 w base v5 ps
  | [v], w => Fr (onB1 g) w0 w ∧ OwnR pgv 256 46 w base v5 ps ∧ v = pgV old
  | [_, v], w => Fr (onB1 g) w0 w ∧ OwnR pgv 256 46 w base v5 ps ∧ v = pgV new
  | [_, _, _], w => Fr (onB1 g) w0 w ∧ OwnR pgv 256 46 w base v5 (ps.set at' new)
  | _, _ => False
theorem JS.fr {w0 : World} {g base : Nat} {v5 : Value} {ps : List (List Int)} {at' : Nat} {old new : List Int} : ∀ {hv : List Value} {w : World}, JS w0 g base v5 ps at' old new hv w → Fr (onB1 g) w0 w
  | [], _, h => h.1
  | [_], _, h => h.1
  | [_, _], _, h => h.1
  | [_, _, _], _, h => h.1
  | _ :: _ :: _ :: _ :: _, _, h => h.elim

/-- One write settled, under a byte of keep. -/
def setl1 (pend : List (Int × List Int)) (keep : List Int) (ps : List (List Int)) (j : Nat) : List (List Int) :=
  if j < keep.length then ps.set (pend.getD j (0, [])).1.toNat (mixK (ps.getD (pend.getD j (0, [])).1.toNat []) (pend.getD j (0, [])).2 (keep.getD j 0) 256) else ps
def setlK (pages : List (List Int)) (pend : List (Int × List Int)) (keep : List Int) (k : Nat) : List (List Int) := (List.range k).foldl (setl1 pend keep) pages
theorem setlK_succ (pages : List (List Int)) (pend : List (Int × List Int)) (keep : List Int) (k : Nat) : setlK pages pend keep (k + 1) = setl1 pend keep (setlK pages pend keep k) k := by
  unfold setlK; rw [List.range_succ, List.foldl_append]; rfl
theorem setlK_len (pages : List (List Int)) (pend : List (Int × List Int)) (keep : List Int) (k : Nat) : (setlK pages pend keep k).length = pages.length := by
  induction k with
  | zero => rfl
  | succ k ih => rw [setlK_succ]; unfold setl1; split <;> simp [ih]

theorem size_spage : (Try.prog.info? 35).map (·.size) = some 1 := by kernel_rfl
theorem info_page : (Try.prog.info? 46).map (fun i => (i.zero, i.size, i.bytes)) = some (some (.agg (pgv zeroP).toArray), 256, 256) := by kernel_rfl
theorem underW : Try.prog.underlying 91 = some (.struct (Try.prog.fieldsOf 91)) := under_write

set_option maxRecDepth 100000 in
set_option maxHeartbeats 4000000 in
theorem settle_any (v1 v2 v3 vk : Value) (hsl2 : isSl v2) (pages : List (List Int)) (pend : List (Int × List Int)) (keep : List Int) (c : Bool) (l : Int) (d : Bool) (w : World)
    (h1 : SlPg w v1 pages) (h3 : SlWr w v3 pend) (hk0 : SlI .u8 w vk keep) (hin : ∀ x ∈ pend, 0 ≤ x.1 ∧ x.1 < (pages.length : Int)) (hm : pages.length ≤ 100000) (hm3 : pend.length ≤ 100000) :
    Calls Try.prog 44 #[dkV v1 v2 v3 c l d, vk] w fun r w' => ∃ v1', r = .returned (dkV v1' v2 (.slice none 0 0) c l d) ∧ SlPg w' v1' (setlK pages pend keep pend.length) ∧ Fr noB w w' ∧ ∀ k, v1'.ownBlock = some k → w.heap.size ≤ k ∧ k < w'.heap.size := by
  obtain ⟨a1, c1, rfl, _⟩ := h1.opn
  obtain ⟨a3, c3', rfl, _⟩ := h3.opn
  obtain ⟨ka, kc, rfl, _⟩ := hk0.opn
  have hsl3 := isSl_mk a3 pend.length c3'
  go_enter Try.func44, Try.ntmps44
  go_wp2_with (first
    | (with_reducible refine at_wpP ?_; refine wpList_boxV rfl 39 _ rfl (dkL (.slice a1 pages.length c1) v2 (.slice a3 pend.length c3') c l d) rfl ?_; intro g1 w1 hg1 b1 f1 s1; have z1 := f1.size)
    | (with_reducible refine at_wpP ?_; refine wpList_allocD rfl rfl ?_; intro g2 w2 hg2 b2 f2 s2; have e2 := b1.fr0 f2; have l1 := b1.lt; have l2 := b2.lt; have F2 := f1.thenN f2; have z2 := F2.size)
    | (with_reducible refine at_wpP ?_; refine wpList_mk0 pgv 256 rfl 35 rfl 46 Try.underlying35 size_page ?_; intro g3 w3 o3 f3 s3 t3; have b3 := b2.fr0 f3; have e3 := e2.fr0 f3; have F3 := F2.thenN f3; obtain ⟨k0, k1, k2, k3, k4, k5⟩ := e3.six)
    | (at_builtin; go_must (refine wpList_appR (ec := pgv) (sz := 256) rfl _ _ 35 rfl w2.heap.size 46 _ 256 Try.underlying35 info_page (by simp [Value.cells, pgv_len, zeroP_len]) (by decide) _ [] rfl o3 _ pages rfl (h1.fr0 F3) (by intro y hy u hu; exact pgv_one y u hu) ?hq1 ?hq2 ?hq3 ?_; rotate_left 3; intro v4 w4 o4 hg4; rw [List.nil_append] at o4; have hg4 : w3.grownBy w4 (some g3) := hg4; have f4 : Fr (onB1 g3) w3 w4 := (Fr.refl _ _).grown hg4 (fun k hk _ => (Option.some.inj hk).symm); have F4 := F3.thenT (S := noB) f4 (fun i hi q => by unfold onB1 at q; omega); have b4 := b3.ne f4 (by omega); have e4 := e3.ne f4 (by omega); obtain ⟨k0, k1, k2, k3, k4, k5⟩ := e4.six; obtain ⟨a4, c4, rfl⟩ := o4.opn)))
  case hq1 => unfold maxLen; simp; omega
  case hq2 => simp; omega
  case hq3 => exact f3.size
  go_loopw [15] (fun i wr => ∃ (k : Nat) (ps : List (List Int)), k ≤ pend.length ∧ i = .int .i64 (k : Int) ∧ Hid (ps = setlK pages pend keep k) ∧ OwnR pgv 256 46 wr w2.heap.size (.slice a4 pages.length c4) ps ∧ BxV wr g1 39 (dkL (.slice a1 pages.length c1) v2 (.slice a3 pend.length c3') c l d) ∧ BxV wr g2 39 (dkL (.slice none 0 0) (.slice none 0 0) (.slice none 0 0) false 0 false) ∧ Fr noB w wr) (fun i _ => pend.length - (intOf i).toNat)
  case atStart => exact ⟨0, pages, Nat.zero_le _, rfl, (rfl : pages = pages), o4, e4, b4, F4⟩
  case round =>
    obtain ⟨k, ps, hk, rfl, hps, ho, he, hb, hf⟩ := hrel
    have hpl : Hid (ps.length = pages.length) := by show _ = _; rw [hps.out, setlK_len]
    have hle := he.lt
    have hlb := hb.lt
    have hfz := hf.size
    by_cases hlt : k < pend.length
    · obtain ⟨X, HX⟩ : ∃ X, Hid (pend[k] = X) := ⟨pend[k], (rfl : pend[k] = pend[k])⟩
      have hrX := hin pend[k] (by simp)
      have hlX := h3.1 pend[k] (by simp)
      rw [HX.out] at hrX hlX
      obtain ⟨x1, pg⟩ := X
      obtain ⟨at', rfl⟩ : ∃ n : Nat, x1 = n := ⟨x1.toNat, by have := hrX.1; simp only at this; omega⟩
      have hat : at' < pages.length := by have := hrX.2; simp only at this; omega
      have hpgl : pg.length = 256 := by simpa [encW, pgv_len] using hlX
      have hpgH := show Hid _ from hpgl
      clear hrX hlX hpgl
      obtain ⟨g, cap', cur, hv, hbg, _, _, _, _⟩ := ho.bx (by rw [hpl.out]; omega)
      obtain ⟨rfl, hx9, rfl⟩ : a4 = some ⟨g, 0, none⟩ ∧ pages.length = ps.length ∧ c4 = cap' := by simpa using hv
      clear hv hx9
      have hgn := (ho.newB g rfl)
      by_cases hkk : k < keep.length
      · have hkd : (k : Int) < (keep.length : Int) := by omega
        go_wp2_with (first
          | (refine at_idx 37 _ _ rfl ?_; go_must (refine wpList_idxR rfl 37 _ _ rfl 91 Try.underlying37 257 write_size _ _ _ rfl (h3.fr0 hf) (by decide) _ _ k rfl rfl hlt ?_; rw [HX.out]; intro ba oa hba hca))
          | (with_reducible refine at_wpP ?_; refine at_ld 91 _ rfl ?_; go_must (refine wpList_load_mid rfl 91 _ rfl ba oa rfl (encW ((at' : Int), pg)) _ (range_of fun j v hj => hca j v hj) under_write rfl (by rw [write_size, encW_len _ hpgH.out]) ?_))
          | (with_reducible refine at_wpP ?_; refine wpList_allocV rfl 91 rfl _ zero_write ?_; intro g7 w6 hg7 b6 f6 s6; have o6 := ho.fr0 f6; have e6 := he.fr0 f6; have b6' := hb.fr0 f6; have F6 := hf.thenN f6; have l7 := b6.lt)
          | (with_reducible refine at_wpP ?_; refine at_st 91 _ _ rfl ?_; go_must (refine wpList_storeV rfl 91 _ _ rfl g7 0 rfl (encW ((at' : Int), pg)) rfl _ _ b6 (by rw [write_size, encW_len _ hpgH.out]) (by rw [encW_len _ hpgH.out, encW_len _ zeroP_len]; decide) (encW_one _) ?_; intro w7 b7 f7; rw [putAt_all _ _ (by rw [encW_len _ hpgH.out, encW_len _ zeroP_len])] at b7; have o7 := o6.ne f7 (fun k hk => by simp [Value.ownBlock] at hk; omega); have e7 := e6.ne f7 (by omega); have b7' := b6'.ne f7 (by omega); have F7 := F6.thenT (S := noB) f7 (fun i hi q => by unfold onB1 at q; omega))))
        have hatp : at' < ps.length := by rw [hpl.out]; exact hat
        obtain ⟨old, Hold⟩ : ∃ o, Hid (ps[at'] = o) := ⟨ps[at'], (rfl : ps[at'] = ps[at'])⟩
        have hold := Hold.out
        have holdl : old.length = 256 := by have := o7.1 ps[at'] (by simp); rwa [hold, pgv_len] at this
        have hpgl := hpgH.out
        obtain ⟨m, Hm⟩ : ∃ m, Hid (keep.getD k 0 = m) := ⟨_, rfl⟩
        have hm8 : 0 ≤ m ∧ m < 256 := by
          have := hk0.2 keep[k] (by simp)
          have e9 : keep[k] = m := by rw [← Hm.out]; simp [List.getD, hkk]
          rw [e9] at this
          simp [Lit.wf, IntKind.min, IntKind.max, IntKind.signed, IntKind.bits] at this; omega
        obtain ⟨new, hnew⟩ : ∃ x, Hid (mixK old pg m 256 = x) := ⟨_, rfl⟩
        have hnewl : new.length = 256 := by rw [← hnew.out, mix_len]
        obtain ⟨base, Hbase⟩ : ∃ b, Hid (w2.heap.size = b) := ⟨_, rfl⟩
        have hne7 : g7 ≠ g := by omega
        obtain ⟨w0, Hw0⟩ : ∃ x, Hid (w7.drew = x) := ⟨_, rfl⟩
        have ho0 : OwnR pgv 256 46 w7.drew w2.heap.size (.slice (some ⟨g, 0, none⟩) pages.length c4) ps := o7.fr0 ((Fr.refl _ _).drew)
        have b70 : BxV w7.drew g7 91 (encW ((at' : Int), pg)) := b7
        have hkeep0 : SlI .u8 w7.drew (.slice ka keep.length kc) keep := hk0.fr0 F7.drew
        have hkg : ∀ b, (Value.slice ka keep.length kc).ownBlock = some b → b ≠ g := by
          intro b hb'
          have := SlI.old hk0 b hb' (by omega)
          omega
        have hnx : Hid (setlK pages pend keep (k + 1) = ps.set at' new) := by
          show _ = _
          rw [setlK_succ, ← hps.out]; unfold setl1; rw [if_pos hkk]
          have e8 : pend.getD k (0, []) = ((at' : Int), pg) := by rw [← HX.out]; simp [List.getD, hlt]
          rw [e8]
          simp only [Int.toNat_natCast]
          rw [Hm.out, ← hnew.out]
          congr 2
          rw [← hold]; simp [List.getD, hpl.out, hat]
        refine wp_region_chain_lay (by kernel_rfl) [7, 14, 16] [none, none, none, none, none, none, none, some 0, none, none, none, none, none, none, some 1, none, some 2]
          [fun v => v = .slice (some ⟨g, 0, none⟩) pages.length c4, fun v => v = .pointer (some ⟨g7, 0, none⟩), fun v => v = .int .i64 (at' : Int), fun v => v = .slice (some ⟨g, 0, none⟩) pages.length c4, fun v => v = .pointer (some ⟨g7, 0, none⟩), fun v => v = .int .i64 (at' : Int), fun v => v = .pointer (some ⟨g, at' * 256, none⟩), fun _ => True, fun v => v = .pointer (some ⟨g7, 1, none⟩), fun v => v = pgV pg, fun v => v = .slice ka keep.length kc, fun v => v = .int .i64 (k : Int), fun v => ∃ kb ko, v = .pointer (some ⟨kb, ko, none⟩) ∧ w7.drew.cell? ⟨kb, ko, none⟩ = some (.int .u8 m) ∧ kb ≠ g, fun v => v = .int .u8 m, fun _ => True, fun v => v = .pointer (some ⟨g, at' * 256, none⟩), fun _ => True]
          (JS w7.drew g w2.heap.size (.slice (some ⟨g, 0, none⟩) pages.length c4) ps at' old new) ⟨Fr.refl _ _, ho0⟩ (by kernel_rfl) (by kernel_rfl) (by decide) ⟨?o0, ?o1, ?o2, ?o3, ?o4, ?o5, ?o6, ?o7, ?o8, ?o9, ?o10, ?o11, ?o12, ?o13, ?o14, ?o15, ?o16, trivial⟩ ?oe
        case o0 =>
          intro A W hv hlen hJ hbase hdL hdH
          have e5 : A.eval (.tmp 5) = .slice (some ⟨g, 0, none⟩) pages.length c4 := hbase 5 (by kernel_rfl)
          have f5 : A.tmps[5]?.getD undef = .slice (some ⟨g, 0, none⟩) pages.length c4 := by simpa [Act.eval] using e5
          exact light_val rfl (v := .slice (some ⟨g, 0, none⟩) pages.length c4) (by simp [execOp, e5, f5]) hJ rfl
        case o1 =>
          intro A W hv hlen hJ hbase hdL hdH
          have e7 : A.eval (.tmp 7) = .pointer (some ⟨g7, 0, none⟩) := hbase 7 (by kernel_rfl)
          have f7 : A.tmps[7]?.getD undef = .pointer (some ⟨g7, 0, none⟩) := by simpa [Act.eval] using e7
          exact light_val rfl (v := .pointer (some ⟨g7, 0, none⟩)) (by simp [execOp, go_sem, e7, f7]) hJ rfl
        case o2 =>
          intro A W hv hlen hJ hbase hdL hdH
          have e25 : A.eval (.tmp 25) = .pointer (some ⟨g7, 0, none⟩) := hdL 1 25 (by kernel_rfl) (by kernel_rfl) (by kernel_rfl)
          have f25 : A.tmps[25]?.getD undef = .pointer (some ⟨g7, 0, none⟩) := by simpa [Act.eval] using e25
          obtain ⟨q1, _⟩ := (b70.ne (JS.fr hJ) hne7).cell 0 _ rfl
          exact light_val rfl (v := .int .i64 (at' : Int)) (by simp [execOp, go_sem, e25, f25, q1]) hJ rfl
        case o3 =>
          intro A W hv hlen hJ hbase hdL hdH
          have e5 : A.eval (.tmp 5) = .slice (some ⟨g, 0, none⟩) pages.length c4 := hbase 5 (by kernel_rfl)
          have f5 : A.tmps[5]?.getD undef = .slice (some ⟨g, 0, none⟩) pages.length c4 := by simpa [Act.eval] using e5
          exact light_val rfl (v := .slice (some ⟨g, 0, none⟩) pages.length c4) (by simp [execOp, e5, f5]) hJ rfl
        case o4 =>
          intro A W hv hlen hJ hbase hdL hdH
          have e7 : A.eval (.tmp 7) = .pointer (some ⟨g7, 0, none⟩) := hbase 7 (by kernel_rfl)
          have f7 : A.tmps[7]?.getD undef = .pointer (some ⟨g7, 0, none⟩) := by simpa [Act.eval] using e7
          exact light_val rfl (v := .pointer (some ⟨g7, 0, none⟩)) (by simp [execOp, go_sem, e7, f7]) hJ rfl
        case o5 =>
          intro A W hv hlen hJ hbase hdL hdH
          have e28 : A.eval (.tmp 28) = .pointer (some ⟨g7, 0, none⟩) := hdL 4 28 (by kernel_rfl) (by kernel_rfl) (by kernel_rfl)
          have f28 : A.tmps[28]?.getD undef = .pointer (some ⟨g7, 0, none⟩) := by simpa [Act.eval] using e28
          obtain ⟨q1, _⟩ := (b70.ne (JS.fr hJ) hne7).cell 0 _ rfl
          exact light_val rfl (v := .int .i64 (at' : Int)) (by simp [execOp, go_sem, e28, f28, q1]) hJ rfl
        case o6 =>
          intro A W hv hlen hJ hbase hdL hdH
          have e27 : A.eval (.tmp 27) = .slice (some ⟨g, 0, none⟩) pages.length c4 := hdL 3 27 (by kernel_rfl) (by kernel_rfl) (by kernel_rfl)
          have f27 : A.tmps[27]?.getD undef = .slice (some ⟨g, 0, none⟩) pages.length c4 := by simpa [Act.eval] using e27
          have e29 : A.eval (.tmp 29) = .int .i64 (at' : Int) := hdL 5 29 (by kernel_rfl) (by kernel_rfl) (by kernel_rfl)
          have f29 : A.tmps[29]?.getD undef = .int .i64 (at' : Int) := by simpa [Act.eval] using e29
          have hr : (Instr.indexAt 35 (.slice (some ⟨g, 0, none⟩) pages.length c4) (.int .i64 (at' : Int))).run Try.prog W = .ok (.pointer (some ⟨g, at' * 256, none⟩)) W := run_idxO _ 46 Try.underlying35 size_page g pages.length c4 .i64 at' hat
          exact light_val rfl (v := .pointer (some ⟨g, at' * 256, none⟩)) (by simp [execOp, e27, e29, hr, Result.andThen]) hJ rfl
        case o7 =>
          intro A W hv hlen hJ hbase hdL hdH
          obtain rfl : hv = [] := List.eq_nil_of_length_eq_zero hlen
          have e30 : A.eval (.tmp 30) = .pointer (some ⟨g, at' * 256, none⟩) := hdL 6 30 (by kernel_rfl) (by kernel_rfl) (by kernel_rfl)
          have f30 : A.tmps[30]?.getD undef = .pointer (some ⟨g, at' * 256, none⟩) := by simpa [Act.eval] using e30
          obtain ⟨hf, hO⟩ := hJ
          have hrg := OwnR.rangeK hO at' (by rw [hpl.out]; exact hat)
          have hr : (Instr.loadAt 46 (.pointer (some ⟨g, at' * 256, none⟩))).run Try.prog W = .ok (pgV old) W := run_loadP W g (at' * 256) old (by rw [← hold]; exact hrg) holdl
          exact heavy_val rfl (v := pgV old) (w' := W) (by simp [execOp, e30, hr, Result.andThen]) ⟨hf, hO, rfl⟩
        case o8 =>
          intro A W hv hlen hJ hbase hdL hdH
          have e7 : A.eval (.tmp 7) = .pointer (some ⟨g7, 0, none⟩) := hbase 7 (by kernel_rfl)
          have f7 : A.tmps[7]?.getD undef = .pointer (some ⟨g7, 0, none⟩) := by simpa [Act.eval] using e7
          exact light_val rfl (v := .pointer (some ⟨g7, 1, none⟩)) (by simp [execOp, go_sem, e7, f7]) hJ rfl
        case o9 =>
          intro A W hv hlen hJ hbase hdL hdH
          have e32 : A.eval (.tmp 32) = .pointer (some ⟨g7, 1, none⟩) := hdL 8 32 (by kernel_rfl) (by kernel_rfl) (by kernel_rfl)
          have f32 : A.tmps[32]?.getD undef = .pointer (some ⟨g7, 1, none⟩) := by simpa [Act.eval] using e32
          have hrg := (b70.ne (JS.fr hJ) hne7).range 1 (pgv pg) (by show (pgv pg).take (pgv pg).length = pgv pg; exact List.take_length)
          have hr : (Instr.loadAt 46 (.pointer (some ⟨g7, 1, none⟩))).run Try.prog W = .ok (pgV pg) W := run_loadP W g7 1 pg hrg hpgl
          exact light_val rfl (v := pgV pg) (by simp [execOp, e32, hr, Result.andThen]) hJ rfl
        case o10 =>
          intro A W hv hlen hJ hbase hdL hdH
          have e1 : A.eval (.tmp 1) = .slice ka keep.length kc := hbase 1 (by kernel_rfl)
          have f1 : A.tmps[1]?.getD undef = .slice ka keep.length kc := by simpa [Act.eval] using e1
          exact light_val rfl (v := .slice ka keep.length kc) (by simp [execOp, e1, f1]) hJ rfl
        case o11 =>
          intro A W hv hlen hJ hbase hdL hdH
          have e6 : A.eval (.tmp 6) = .int .i64 (k : Int) := hbase 6 (by kernel_rfl)
          have f6 : A.tmps[6]?.getD undef = .int .i64 (k : Int) := by simpa [Act.eval] using e6
          exact light_val rfl (v := .int .i64 (k : Int)) (by simp [execOp, e6, f6]) hJ rfl
        case o12 =>
          intro A W hv hlen hJ hbase hdL hdH
          have e34 : A.eval (.tmp 34) = .slice ka keep.length kc := hdL 10 34 (by kernel_rfl) (by kernel_rfl) (by kernel_rfl)
          have f34 : A.tmps[34]?.getD undef = .slice ka keep.length kc := by simpa [Act.eval] using e34
          have e35 : A.eval (.tmp 35) = .int .i64 (k : Int) := hdL 11 35 (by kernel_rfl) (by kernel_rfl) (by kernel_rfl)
          have f35 : A.tmps[35]?.getD undef = .int .i64 (k : Int) := by simpa [Act.eval] using e35
          have hq := run_idxI (w := W) hkeep0 k hkk hkg
          rw [Hm.out] at hq
          obtain ⟨kb, ko, hr, hcl, hkb⟩ := hq
          exact light_val rfl (v := .pointer (some ⟨kb, ko, none⟩)) (by simp [execOp, e34, e35, hr, Result.andThen]) hJ ⟨kb, ko, rfl, hcl, hkb⟩
        case o13 =>
          intro A W hv hlen hJ hbase hdL hdH
          obtain ⟨kb, ko, e36, hcl, hkb⟩ := hdL 12 36 (by kernel_rfl) (by kernel_rfl) (by kernel_rfl)
          have f36 : A.tmps[36]?.getD undef = .pointer (some ⟨kb, ko, none⟩) := by simpa [Act.eval] using e36
          have hcW := (JS.fr hJ).cell hcl (fun q => hkb q)
          exact light_val rfl (v := .int .u8 m) (by simp [execOp, go_sem, e36, f36, hcW]) hJ rfl
        case o14 =>
          intro A W hv hlen hJ hbase hdL hdH
          obtain ⟨v31, rfl⟩ := List.length_eq_one_iff.1 hlen
          obtain ⟨hf, hO, hv31⟩ := hJ
          subst hv31
          have e31 : A.eval (.tmp 31) = pgV old := by have := hdH 7 31 0 (by kernel_rfl) rfl (by kernel_rfl); simpa using this.symm
          have f31 : A.tmps[31]?.getD undef = pgV old := by simpa [Act.eval] using e31
          have e33 : A.eval (.tmp 33) = pgV pg := hdL 9 33 (by kernel_rfl) (by kernel_rfl) (by kernel_rfl)
          have f33 : A.tmps[33]?.getD undef = pgV pg := by simpa [Act.eval] using e33
          have e37 : A.eval (.tmp 37) = .int .u8 m := hdL 13 37 (by kernel_rfl) (by kernel_rfl) (by kernel_rfl)
          have f37 : A.tmps[37]?.getD undef = .int .u8 m := by simpa [Act.eval] using e37
          refine heavy_call rfl (args := #[pgV old, pgV pg, .int .u8 m]) (f := 56) (by simp [execOp, resolve, invoke, go_sem, e31, f31, e33, f33, e37, f37]) ?_
          refine (mix_any old pg m hm8 holdl hpgl W).mono ?_
          rintro e w' ⟨rfl, f'⟩
          exact ⟨_, rfl, hf.trans (f'.mono (fun _ _ q => q.elim)), hO.fr0 f', by rw [hnew.out]⟩
        case o15 =>
          intro A W hv hlen hJ hbase hdL hdH
          have e24 : A.eval (.tmp 24) = .slice (some ⟨g, 0, none⟩) pages.length c4 := hdL 0 24 (by kernel_rfl) (by kernel_rfl) (by kernel_rfl)
          have f24 : A.tmps[24]?.getD undef = .slice (some ⟨g, 0, none⟩) pages.length c4 := by simpa [Act.eval] using e24
          have e26 : A.eval (.tmp 26) = .int .i64 (at' : Int) := hdL 2 26 (by kernel_rfl) (by kernel_rfl) (by kernel_rfl)
          have f26 : A.tmps[26]?.getD undef = .int .i64 (at' : Int) := by simpa [Act.eval] using e26
          have hr : (Instr.indexAt 35 (.slice (some ⟨g, 0, none⟩) pages.length c4) (.int .i64 (at' : Int))).run Try.prog W = .ok (.pointer (some ⟨g, at' * 256, none⟩)) W := run_idxO _ 46 Try.underlying35 size_page g pages.length c4 .i64 at' hat
          exact light_val rfl (v := .pointer (some ⟨g, at' * 256, none⟩)) (by simp [execOp, e24, e26, hr, Result.andThen]) hJ rfl
        case o16 =>
          intro A W hv hlen hJ hbase hdL hdH
          match hv, hlen with
          | [x31, v38], _ =>
            obtain ⟨hf, hO, hv38⟩ := hJ
            subst hv38
            have e38 : A.eval (.tmp 38) = pgV new := by have := hdH 14 38 1 (by kernel_rfl) rfl (by kernel_rfl); simpa using this.symm
            have e39 : A.eval (.tmp 39) = .pointer (some ⟨g, at' * 256, none⟩) := hdL 15 39 (by kernel_rfl) (by kernel_rfl) (by kernel_rfl)
            refine heavy_wp rfl ?_
            refine wp_stR 46 (.tmp 39) (.tmp 38) rfl g pages.length c4 hO at' (by rw [hpl.out]; exact hat) e39 new e38 (by rw [pgv_len, hnewl]) (pgv_one new) size_page ?_
            intro w' hO' hf'
            exact ⟨undef, rfl, hf.trans hf', hO'⟩
        case oe =>
          intro vs W' hv hlen hJ hL hH
          match hv, hlen with
          | [y1, y2, y3], _ =>
            obtain ⟨hfW, hOW⟩ := hJ
            simp only [layL, Nat.reduceAdd, Act.put, List.setIfInBounds_toArray, List.set_cons_zero, List.set_cons_succ]
            clear hL hH
            generalize vs 0 = y100 at *
            generalize vs 1 = y101 at *
            generalize vs 2 = y102 at *
            generalize vs 3 = y103 at *
            generalize vs 4 = y104 at *
            generalize vs 5 = y105 at *
            generalize vs 6 = y106 at *
            generalize vs 7 = y107 at *
            generalize vs 8 = y108 at *
            generalize vs 9 = y109 at *
            generalize vs 10 = y110 at *
            generalize vs 11 = y111 at *
            generalize vs 12 = y112 at *
            generalize vs 13 = y113 at *
            generalize vs 14 = y114 at *
            generalize vs 15 = y115 at *
            generalize vs 16 = y116 at *
            have e8 := (show BxV w7.drew g1 _ _ from e7).ne hfW (by omega)
            have b8 := (show BxV w7.drew g2 _ _ from b7').ne hfW (by omega)
            have F8 := F7.drew.thenT (S := noB) hfW (fun i hi q => by unfold onB1 at q; omega)
            go_wp2
            go_roundw
            case rel => exact ⟨k + 1, ps.set at' new, by omega, by go_num, show _ = _ from hnx.out.symm, hOW, e8, b8, F8⟩
            case measure => simp [intOf]; omega
      · have hkd : ¬ (k : Int) < (keep.length : Int) := by omega
        have hnx : Hid (setlK pages pend keep (k + 1) = ps) := by show _ = _; rw [setlK_succ, ← hps.out]; unfold setl1; rw [if_neg hkk]
        go_wp2_with (first
          | (refine at_idx 37 _ _ rfl ?_; go_must (refine wpList_idxR rfl 37 _ _ rfl 91 Try.underlying37 257 write_size _ _ _ rfl (h3.fr0 hf) (by decide) _ _ k rfl rfl hlt ?_; rw [HX.out]; intro ba oa hba hca))
          | (with_reducible refine at_wpP ?_; refine at_ld 91 _ rfl ?_; go_must (refine wpList_load_mid rfl 91 _ rfl ba oa rfl (encW ((at' : Int), pg)) _ (range_of fun j v hj => hca j v hj) under_write rfl (by rw [write_size, encW_len _ hpgH.out]) ?_))
          | (with_reducible refine at_wpP ?_; refine wpList_allocV rfl 91 rfl _ zero_write ?_; intro g7 w6 hg7 b6 f6 s6; have o6 := ho.fr0 f6; have e6 := he.fr0 f6; have b6' := hb.fr0 f6; have F6 := hf.thenN f6; have l7 := b6.lt)
          | (with_reducible refine at_wpP ?_; refine at_st 91 _ _ rfl ?_; go_must (refine wpList_storeV rfl 91 _ _ rfl g7 0 rfl (encW ((at' : Int), pg)) rfl _ _ b6 (by rw [write_size, encW_len _ hpgH.out]) (by rw [encW_len _ hpgH.out, encW_len _ zeroP_len]; decide) (encW_one _) ?_; intro w7 b7 f7; rw [putAt_all _ _ (by rw [encW_len _ hpgH.out, encW_len _ zeroP_len])] at b7; have o7 := o6.ne f7 (fun k hk => by simp [Value.ownBlock] at hk; omega); have e7 := e6.ne f7 (by omega); have b7' := b6'.ne f7 (by omega); have F7 := F6.thenT (S := noB) f7 (fun i hi q => by unfold onB1 at q; omega))))
        go_roundw
        case rel => exact ⟨k + 1, ps, by omega, by go_num, show _ = _ from hnx.out.symm, o7, e7, b7', F7⟩
        case measure => simp [intOf]; omega
    · obtain rfl : k = pend.length := by omega
      obtain ⟨k0, k1, k2, k3, k4, k5⟩ := he.six
      go_wp2_with (first
        | (with_reducible refine at_wpP ?_; refine at_st 35 _ _ rfl ?_; go_must (refine wpList_store1 rfl 35 _ _ rfl g1 0 rfl (.slice a4 pages.length c4) rfl rfl _ _ he size_spage (by simp) ?_; intro w8 e8 f8; have e8 : BxV w8 g1 39 (dkL (.slice a4 pages.length c4) v2 (.slice a3 pend.length c3') c l d) := (by simpa using e8); have b8 := hb.ne f8 (by omega); have o8 := ho.ne f8 (fun k hk => by have := (ho.newB k hk).1; omega); have F8 := hf.thenT (S := noB) f8 (fun i hi q => by unfold onB1 at q; omega)))
        | (with_reducible refine at_wpP ?_; refine at_st 37 _ _ rfl ?_; go_must (refine wpList_store1 rfl 37 _ _ rfl g1 2 rfl (.slice none 0 0) rfl rfl _ _ e8 size_swrite (by simp) ?_; intro w9 e9 f9; have e9 : BxV w9 g1 39 (dkL (.slice a4 pages.length c4) v2 (.slice none 0 0) c l d) := (by simpa using e9); have b9 := b8.ne f9 (by omega); have o9 := o8.ne f9 (fun k hk => by have := (o8.newB k hk).1; omega); have F9 := F8.thenT (S := noB) f9 (fun i hi q => by unfold onB1 at q; omega)))
        | (with_reducible refine at_wpP ?_; refine wpList_ldD rfl _ rfl g1 rfl _ _ _ c l d e9 ?_)
        | (with_reducible refine at_wpP ?_; refine at_st 39 _ _ rfl ?_; go_must (refine wpList_stD rfl _ _ rfl g2 rfl _ _ _ c l d rfl _ b9 rfl (isSl_mk _ _ _) hsl2 (isSl_mk _ _ _) ?_; intro w10 b10 f10; have o10 := o9.ne f10 (fun k hk => by have := (o9.newB k hk).1; omega); have F10 := F9.thenT (S := noB) f10 (fun i hi q => by unfold onB1 at q; omega))))
      refine bodyPost_ret (v := dkV (.slice a4 pages.length c4) v2 (.slice none 0 0) c l d) (results_disk1 Try.results44 _ w10 g2 _ _ _ c l d rfl b10) rfl ⟨_, rfl, ?_, F10, fun k hk => ⟨by have := (o10.newB k hk).1; omega, (o10.newB k hk).2⟩⟩
      rw [← hps.out]; exact o10.sl
end Go.Proofs.Ytijgfojnppcbjaa
