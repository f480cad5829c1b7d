/- Texts RI6, UR of the proof of PruneTrims, one behind the other. -/
import Derived.Test.YtmkinaijkgkgiaaGreatBundlePruneTrims1
import Derived.Test.YtmkinaijkgkgiaaGreatBundlePruneTrims2
import Derived.Test.YtmkinaijkgkgiaaGreatBundlePruneTrims3
import Derived.Test.YtmkinaijkgkgiaaGreatBundlePruneTrims4
import Derived.Test.YtmkinaijkgkgiaaGreatBundlePruneTrims5
import Derived.Test.YtmkinaijkgkgiaaGreatBundlePruneTrims6
import Derived.Test.YtmkinaijkgkgiaaGreatBundlePruneTrims7
import Derived.Test.YtmkinaijkgkgiaaGreatBundlePruneTrims8
import Derived.Test.YtmkinaijkgkgiaaGreatBundlePruneTrims9
import Derived.Test.YtmkinaijkgkgiaaGreatBundlePruneTrims10
import Derived.Test.YtmkinaijkgkgiaaGreatBundlePruneTrims11
import Derived.Test.YtmkinaijkgkgiaaGreatBundlePruneTrims12
import Derived.Test.YtmkinaijkgkgiaaGreatBundlePruneTrims13
import Derived.Test.YtmkinaijkgkgiaaGreatBundlePruneTrims14
import Derived.Test.YtmkinaijkgkgiaaGreatBundlePruneTrims15
import Derived.Test.YtmkinaijkgkgiaaGreatBundlePruneTrims16
import Derived.Test.YtmkinaijkgkgiaaGreatBundlePruneTrims17
import Derived.Test.YtmkinaijkgkgiaaGreatBundlePruneTrims18
import Derived.Test.YtmkinaijkgkgiaaGreatBundlePruneTrims19
import Derived.Test.YtmkinaijkgkgiaaGreatBundlePruneTrims20
import Derived.Test.YtmkinaijkgkgiaaGreatBundlePruneTrims21
import Derived.Test.YtmkinaijkgkgiaaGreatBundlePruneTrims22
import Derived.Test.YtmkinaijkgkgiaaGreatBundlePruneTrims23
import Derived.Test.YtmkinaijkgkgiaaGreatBundlePruneTrims24
/- Regions that draw their order, in which operations turn memory in no fixed order: a relation over those that have come; no condition. (Written by ri6_gen.py.) -/
namespace Go.Proofs.U
open Go.RowKit
set_option linter.unusedVariables false
set_option linter.unusedSimpArgs false
def updM (m : Nat → Option Value) (i : Nat) (v : Value) : Nat → Option Value := fun j => if j = i then some v else m j
theorem updM_at (m : Nat → Option Value) (i : Nat) (v : Value) : updM m i v i = some v := if_pos rfl
theorem updM_ne (m : Nat → Option Value) {i j : Nat} (v : Value) (h : j ≠ i) : updM m i v j = m j := if_neg h
theorem DepT.before {ops : Array Oper} {listed : Array Bool} (hcl : ∀ i, listed.getD i false = true → ∀ o, ops[i]? = some o → ∀ e ∈ o.after, Region.binds .any e = true → listed.getD e.on false = true) {i j : Nat} {o : Oper} (ho : ops[i]? = some o) (hall : ∀ e ∈ o.after, Region.binds .any e = true → listed.getD e.on false = true) (h : DepT ops i j) : listed.getD j false = true := by
  cases h with
  | one ho' he hbe hi => rw [ho] at ho'; cases ho'; rw [← hi]; exact hall _ he hbe
  | more ho' he hbe hd => rw [ho] at ho'; cases ho'; exact hd.listed hcl (hall _ he hbe)
section
variable {P : Program} {ops : Array Oper} {Q : Exit → Act → World → Prop}
structure KnowM (ops : Array Oper) (hs : List Nat) (F : Nat → Value → Prop) (J : (Nat → Option Value) → World → Prop) (a0 : Act) (listed : Array Bool) (a : Act) (w : World) (m : Nat → Option Value) : Prop where
  out : ∀ i, i ∉ hs → m i = none
  pre : ∀ i, i ∈ hs → (listed.getD i false = true ↔ (m i).isSome = true)
  val : ∀ (i d : Nat) (v : Value), m i = some v → dstAt ops i = some d → a.tmps.getD d undef = v
  dfr : a.defers = a0.defers
  sz : a.tmps.size = a0.tmps.size
  base : ∀ s, (∀ i, dstAt ops i ≠ some s) → a.tmps.getD s undef = a0.tmps.getD s undef
  fact : ∀ i d, i ∉ hs → listed.getD i false = true → dstAt ops i = some d → F i (a.tmps.getD d undef)
  inv : J m w
def HandsM (P : Program) (ops : Array Oper) (hs : List Nat) (F : Nat → Value → Prop) (J : (Nat → Option Value) → World → Prop) (a0 : Act) (Q : Exit → Act → World → Prop) (i : Nat) (o : Oper) : Prop :=
  ∀ (a : Act) (w : World) (m : Nat → Option Value), (∀ j, DepT ops j i → m j = none) → (∀ j, j ∈ hs → DepT ops i j → (m j).isSome = true) → m i = none → J m w → (∀ s, (∀ i, dstAt ops i ≠ some s) → a.eval (.tmp s) = a0.eval (.tmp s)) →
    (∀ e ∈ o.after, Region.binds .any e = true → ∀ d, dstAt ops e.on = some d → (e.on ∉ hs → F e.on (a.eval (.tmp d))) ∧ (e.on ∈ hs → m e.on = some (a.eval (.tmp d)))) →
    (i ∉ hs → if Region.wanted o (yielded ops a.tmps) = true then o.wp P a w (fun a' w' => ∃ v, a' = a.put o.dst v ∧ J m w' ∧ F i v) Q else F i undef) ∧
    (i ∈ hs → if Region.wanted o (yielded ops a.tmps) = true then o.wp P a w (fun a' w' => ∃ v, a' = a.put o.dst v ∧ J (updM m i v) w') Q else J (updM m i undef) w)

theorem wp_region_M {id : Nat} {a0 : Act} {w : World} (hm : P.follows .mixedOrders = true) (hs : List Nat) (F : Nat → Value → Prop) (J : (Nat → Option Value) → World → Prop) (hJ : J (fun _ => none) w.drew)
    (hlow : ∀ (i : Nat) (o : Oper), ops[i]? = some o → ∀ e ∈ o.after, Region.binds .any e = true → e.on < i)
    (hdist : ∀ i j d, dstAt ops i = some d → dstAt ops j = some d → i = j)
    (hin : ∀ i d, dstAt ops i = some d → d < a0.tmps.size)
    (hhs : ∀ i ∈ hs, i < ops.size)
    (hob : ∀ (i : Nat) (o : Oper), ops[i]? = some o → HandsM P ops hs F J a0 Q i o)
    (hend : ∀ a w' m, (∀ i ∈ hs, (m i).isSome = true) → J m w' → a.defers = a0.defers → a.tmps.size = a0.tmps.size → (∀ s, (∀ i, dstAt ops i ≠ some s) → a.eval (.tmp s) = a0.eval (.tmp s)) →
      (∀ i d, i ∉ hs → dstAt ops i = some d → F i (a.eval (.tmp d))) → (∀ (i d : Nat) (v : Value), m i = some v → dstAt ops i = some d → a.eval (.tmp d) = v) → Q .normal a w') : (Code.region id ops true).wp P Q a0 w := by
  refine wp_region_any hm ?_
  show wpAny P .any ops Q ops.size (Array.replicate ops.size false) a0 w.drew
  refine wpAny_inv (fun listed a w' => listed.size = ops.size ∧ (∃ m, KnowM ops hs F J a0 listed a w' m) ∧ ∀ i, listed.getD i false = true → ∀ o, ops[i]? = some o → ∀ e ∈ o.after, Region.binds .any e = true → listed.getD e.on false = true) ?_ ?_ ops.size (List.range ops.size) _ a0 _ ?_ (by simp) ?_
  · rintro listed a w' i ⟨hsz, ⟨m, hK⟩, hcl⟩ hi
    obtain ⟨hun, o, ho, hall⟩ := mem_ready.1 hi
    have hilt : i < listed.size := by
      rcases Nat.lt_or_ge i listed.size with h' | h'
      · exact h'
      · simp [Array.getElem?_eq_none h'] at hun
    have hunf : listed.getD i false = false := by
      have h2 : listed.getD i true = listed.getD i false := by simp [hilt]
      rw [← h2]; exact hun
    have hdo : dstAt ops i = o.dst := by simp [dstAt, ho]
    have mi : m i = none := by
      by_cases hh : i ∈ hs
      · cases hm' : m i with
        | none => rfl
        | some v => have := (hK.pre i hh).2 (by rw [hm']; rfl); rw [hunf] at this; cases this
      · exact hK.out i hh
    have hdep : ∀ e ∈ o.after, Region.binds .any e = true → ∀ d, dstAt ops e.on = some d → (e.on ∉ hs → F e.on (a.eval (.tmp d))) ∧ (e.on ∈ hs → m e.on = some (a.eval (.tmp d))) := by
      intro e he hb d hd
      have hl := hall e he hb
      refine ⟨fun hn => hK.fact e.on d hn hl hd, fun hk => ?_⟩
      obtain ⟨v, hv⟩ := Option.isSome_iff_exists.1 ((hK.pre e.on hk).1 hl)
      rw [hv]
      exact congrArg some (hK.val e.on d v hv hd).symm
    have hbef : ∀ j, DepT ops j i → m j = none := by
      intro j hd
      by_cases hh : j ∈ hs
      · cases hm' : m j with
        | none => rfl
        | some v =>
          have h1 := (hK.pre j hh).2 (by rw [hm']; rfl)
          have h2 := hd.listed hcl h1
          rw [hunf] at h2; cases h2
      · exact hK.out j hh
    have haft : ∀ j, j ∈ hs → DepT ops i j → (m j).isSome = true := fun j hj hd => (hK.pre j hj).1 (hd.before hcl ho hall)
    have key := hob i o ho a w' m hbef haft mi hK.inv hK.base hdep
    have lk : ∀ j, listed.getD j false = true → (listed.setIfInBounds i true).getD j false = true := by
      intro j hj
      by_cases hij : i = j
      · subst hij; simp [hilt]
      · simpa [Array.getElem?_setIfInBounds, hij] using hj
    have ldj : ∀ j, (listed.setIfInBounds i true).getD j false = true → j = i ∨ listed.getD j false = true := by
      intro j hj
      by_cases hij : i = j
      · exact Or.inl hij.symm
      · exact Or.inr (by simpa [Array.getElem?_setIfInBounds, hij] using hj)
    have lsame : (listed.setIfInBounds i true).getD i false = true := by simp [hilt]
    have lother : ∀ j, j ≠ i → (listed.setIfInBounds i true).getD j false = listed.getD j false := by
      intro j hj
      simp [Ne.symm hj]
    have closed : ∀ j, (listed.setIfInBounds i true).getD j false = true → ∀ o, ops[j]? = some o → ∀ e ∈ o.after, Region.binds .any e = true → (listed.setIfInBounds i true).getD e.on false = true := by
      intro j hj oj hoj e he hbe
      rcases ldj j hj with rfl | hj'
      · rw [ho] at hoj; cases hoj
        exact lk _ (hall e he hbe)
      · exact lk _ (hcl j hj' oj hoj e he hbe)
    have cdfr : ∀ v, (a.put o.dst v).defers = a0.defers := fun v => by cases hd : o.dst <;> simpa [Act.put] using hK.dfr
    have csz : ∀ v, (a.put o.dst v).tmps.size = a0.tmps.size := fun v => by cases hd : o.dst <;> simpa [Act.put] using hK.sz
    have cbase : ∀ v s, (∀ i, dstAt ops i ≠ some s) → (a.put o.dst v).tmps.getD s undef = a0.tmps.getD s undef := fun v s hs' => by
      rw [put_other (fun e => hs' i (by rw [hdo]; exact e))]; exact hK.base s hs'
    have ne_dst : ∀ j d, j ≠ i → dstAt ops j = some d → o.dst ≠ some d := fun j d hj hd e => hj (hdist j i d hd (by rw [hdo]; exact e))
    unfold wpOp
    simp only [ho]
    by_cases hh : i ∈ hs
    · have next : ∀ v w'', J (updM m i v) w'' → (listed.setIfInBounds i true).size = ops.size ∧ (∃ m, KnowM ops hs F J a0 (listed.setIfInBounds i true) (a.put o.dst v) w'' m) ∧ ∀ j, (listed.setIfInBounds i true).getD j false = true → ∀ o, ops[j]? = some o → ∀ e ∈ o.after, Region.binds .any e = true → (listed.setIfInBounds i true).getD e.on false = true := by
        intro v w'' hJ'
        refine ⟨by simpa using hsz, ⟨updM m i v, ?_, ?_, ?_, cdfr v, csz v, cbase v, ?_, hJ'⟩, closed⟩
        · intro j hj
          rw [updM_ne m v (fun e => by subst e; exact hj hh)]
          exact hK.out j hj
        · intro j hj
          by_cases hii : j = i
          · subst hii
            rw [lsame, updM_at]; simp
          · rw [lother j hii, updM_ne m v hii]; exact hK.pre j hj
        · intro j d v2 hv2 hd2
          by_cases hii : j = i
          · subst hii
            rw [updM_at] at hv2
            cases hv2
            rw [hdo] at hd2
            exact put_same hd2 (by rw [hK.sz]; exact hin j d (by rw [hdo]; exact hd2))
          · rw [put_other (ne_dst j d hii hd2)]
            rw [updM_ne m v hii] at hv2
            exact hK.val j d v2 hv2 hd2
        · intro j d hj hl hd
          have hji : j ≠ i := fun e => hj (e ▸ hh)
          rw [put_other (ne_dst j d hji hd)]
          rw [lother j hji] at hl
          exact hK.fact j d hj hl hd
      have key2 := key.2 hh
      by_cases hw : Region.wanted o (yielded ops a.tmps) = true
      · rw [if_pos hw] at key2 ⊢
        refine Or.inl (Oper.wp_mono ?_ key2)
        rintro a' w'' ⟨v, rfl, hF⟩
        exact next v w'' hF
      · rw [if_neg hw] at key2 ⊢
        exact next undef w' key2
    · have next : ∀ v w'', J m w'' → F i v → (listed.setIfInBounds i true).size = ops.size ∧ (∃ m, KnowM ops hs F J a0 (listed.setIfInBounds i true) (a.put o.dst v) w'' m) ∧ ∀ j, (listed.setIfInBounds i true).getD j false = true → ∀ o, ops[j]? = some o → ∀ e ∈ o.after, Region.binds .any e = true → (listed.setIfInBounds i true).getD e.on false = true := by
        intro v w'' hJ' hF
        refine ⟨by simpa using hsz, ⟨m, hK.out, ?_, ?_, cdfr v, csz v, cbase v, ?_, hJ'⟩, closed⟩
        · intro j hj
          have hii : j ≠ i := fun e => hh (e ▸ hj)
          rw [lother j hii]; exact hK.pre j hj
        · intro j d v2 hv2 hd2
          have hii : j ≠ i := fun e => by subst e; rw [mi] at hv2; cases hv2
          rw [put_other (ne_dst j d hii hd2)]
          exact hK.val j d v2 hv2 hd2
        · intro j d hj hl hd
          by_cases hji : j = i
          · subst hji
            rw [hdo] at hd
            rw [put_same hd (by rw [hK.sz]; exact hin j d (by rw [hdo]; exact hd))]
            exact hF
          · rw [put_other (ne_dst j d hji hd)]
            rw [lother j hji] at hl
            exact hK.fact j d hj hl hd
      have key1 := key.1 hh
      by_cases hw : Region.wanted o (yielded ops a.tmps) = true
      · rw [if_pos hw] at key1 ⊢
        refine Or.inl (Oper.wp_mono ?_ key1)
        rintro a' w'' ⟨v, rfl, hJ', hF⟩
        exact next v w'' hJ' hF
      · rw [if_neg hw] at key1 ⊢
        exact next undef w' hK.inv key1
  · rintro listed a w' ⟨hsz, ⟨m, hK⟩, hcl⟩ h0
    have hall : ∀ n i, i < n → i < ops.size → listed.getD i false = true := by
      intro n
      induction n with
      | zero => intro i h; omega
      | succ n ihn =>
        intro i hi hlt
        rcases Nat.lt_or_ge i n with hn | hn
        · exact ihn i hn hlt
        · obtain rfl : i = n := by omega
          cases hq : listed.getD i false with
          | true => rfl
          | false =>
            exfalso
            have hls : i < listed.size := by omega
            have ho : ops[i]? = some ops[i] := Array.getElem?_eq_getElem hlt
            have hmem : i ∈ Region.ready .any ops listed := mem_ready.2 ⟨by
              have h2 : listed.getD i true = listed.getD i false := by simp [hls]
              rw [h2]; exact hq, ops[i], ho, fun e he hbe => ihn e.on (hlow i _ ho e he hbe) (by have := hlow i _ ho e he hbe; omega)⟩
            rw [h0] at hmem; cases hmem
    have inb : ∀ i d, dstAt ops i = some d → i < ops.size := by
      intro i d hd
      rcases Nat.lt_or_ge i ops.size with h' | h'
      · exact h'
      · simp [dstAt, Array.getElem?_eq_none h'] at hd
    exact hend a w' m (fun i hi => (hK.pre i hi).1 (hall (i + 1) i (by omega) (hhs i hi))) hK.inv hK.dfr hK.sz hK.base (fun i d hn hd => hK.fact i d hn (hall (i + 1) i (by omega) (inb i d hd)) hd) hK.val
  · intro i hi
    rcases Nat.lt_or_ge i ops.size with h' | h'
    · simpa using h'
    · simp [h'] at hi
  · have nolist : ∀ i, (Array.replicate ops.size false).getD i false = false := fun i => by
      rcases Nat.lt_or_ge i ops.size with h' | h' <;> simp [h']
    refine ⟨by simp, ⟨fun _ => none, fun _ _ => rfl, fun i hi => ?_, (fun i d v h => by cases h), rfl, rfl, fun _ _ => rfl, fun i d _ hl => ?_, hJ⟩, fun i hl => ?_⟩
    · rw [nolist i]; simp
    · rw [nolist i] at hl; cases hl
    · rw [nolist i] at hl; cases hl
def LightM (P : Program) (ops : Array Oper) (hs : List Nat) (fs : List (Value → Prop)) (J : (Nat → Option Value) → World → Prop) (a0 : Act) (Q : Exit → Act → World → Prop) (k : Nat) (o : Oper) : Prop :=
  ∀ (a : Act) (w : World) (m : Nat → Option Value), (∀ (n j : Nat), depTB ops n j k = true → m j = none) → (∀ (n j : Nat), hs.contains j = true → depTB ops n k j = true → (m j).isSome = true) → J m w → (∀ s, notDst ops s = true → a.eval (.tmp s) = a0.eval (.tmp s)) →
    (∀ j d, depOnB ops k j = true → hs.contains j = false → dstAt ops j = some d → factL fs j (a.eval (.tmp d))) →
    (∀ (j d : Nat), depOnB ops k j = true → hs.contains j = true → dstAt ops j = some d → m j = some (a.eval (.tmp d))) →
    if Region.wanted o (yielded ops a.tmps) = true then o.wp P a w (fun a' w' => ∃ v, a' = a.put o.dst v ∧ J m w' ∧ factL fs k v) Q else factL fs k undef
def HeavyM (P : Program) (ops : Array Oper) (hs : List Nat) (fs : List (Value → Prop)) (J : (Nat → Option Value) → World → Prop) (a0 : Act) (Q : Exit → Act → World → Prop) (k : Nat) (o : Oper) : Prop :=
  ∀ (a : Act) (w : World) (m : Nat → Option Value), (∀ (n j : Nat), depTB ops n j k = true → m j = none) → (∀ (n j : Nat), hs.contains j = true → depTB ops n k j = true → (m j).isSome = true) → m k = none → J m w → (∀ s, notDst ops s = true → a.eval (.tmp s) = a0.eval (.tmp s)) →
    (∀ j d, depOnB ops k j = true → hs.contains j = false → dstAt ops j = some d → factL fs j (a.eval (.tmp d))) →
    (∀ (j d : Nat), depOnB ops k j = true → hs.contains j = true → dstAt ops j = some d → m j = some (a.eval (.tmp d))) →
    if Region.wanted o (yielded ops a.tmps) = true then o.wp P a w (fun a' w' => ∃ v, a' = a.put o.dst v ∧ J (updM m k v) w') Q else J (updM m k undef) w
def HandMs (P : Program) (ops : Array Oper) (hs : List Nat) (fs : List (Value → Prop)) (J : (Nat → Option Value) → World → Prop) (a0 : Act) (Q : Exit → Act → World → Prop) : Nat → List Bool → List Oper → Prop
  | _, _, [] => True
  | _, [], _ :: _ => False
  | k, false :: ts, o :: r => LightM P ops hs fs J a0 Q k o ∧ HandMs P ops hs fs J a0 Q (k + 1) ts r
  | k, true :: ts, o :: r => HeavyM P ops hs fs J a0 Q k o ∧ HandMs P ops hs fs J a0 Q (k + 1) ts r
theorem handMs_get {hs : List Nat} {fs : List (Value → Prop)} {J : (Nat → Option Value) → World → Prop} {a0 : Act} : ∀ (l : List Oper) (ts : List Bool) (k : Nat), HandMs P ops hs fs J a0 Q k ts l → ∀ (i : Nat) (o : Oper), l[i]? = some o →
    (ts[i]? = some false ∧ LightM P ops hs fs J a0 Q (k + i) o) ∨ (ts[i]? = some true ∧ HeavyM P ops hs fs J a0 Q (k + i) o)
  | [], _, _, _, i, o, ho => by simp at ho
  | x :: l, [], k, h, _, o, ho => by cases h
  | x :: l, false :: ts, k, h, 0, o, ho => by simp at ho; subst ho; exact Or.inl ⟨rfl, h.1⟩
  | x :: l, true :: ts, k, h, 0, o, ho => by simp at ho; subst ho; exact Or.inr ⟨rfl, h.1⟩
  | x :: l, false :: ts, k, h, i + 1, o, ho => by
    have := handMs_get l ts (k + 1) h.2 i o (by simpa using ho)
    rwa [show k + 1 + i = k + (i + 1) by omega] at this
  | x :: l, true :: ts, k, h, i + 1, o, ho => by
    have := handMs_get l ts (k + 1) h.2 i o (by simpa using ho)
    rwa [show k + 1 + i = k + (i + 1) by omega] at this
def memOk (n : Nat) (hs : List Nat) (tags : List Bool) : Bool := decide (tags.length = n) && ((List.range n).all fun i => tags.getD i false == hs.contains i) && (hs.all fun i => decide (i < n))
theorem wp_region_M_lay {id : Nat} {l : List Oper} {a0 : Act} {w : World} (hm : P.follows .mixedOrders = true) (hs : List Nat) (tags : List Bool) (fs : List (Value → Prop)) (J : (Nat → Option Value) → World → Prop) (hJ : J (fun _ => none) w.drew)
    (hok : regionOkB l.toArray a0.tmps.size = true) (hck : memOk l.length hs tags = true)
    (hob : HandMs P l.toArray hs fs J a0 Q 0 tags l)
    (hend : ∀ (vs : Nat → Value) w' m, (∀ i, hs.contains i = true → (m i).isSome = true) → J m w' → (∀ i, hs.contains i = false → (l[i]?.bind (·.dst)).isSome = true → factL fs i (vs i)) →
      (∀ (i : Nat), hs.contains i = true → (l[i]?.bind (·.dst)).isSome = true → m i = some (vs i)) → Q .normal (layL l 0 vs a0) w') : (Code.region id l.toArray true).wp P Q a0 w := by
  have hdl : ∀ i, dstAt l.toArray i = l[i]?.bind (·.dst) := fun i => by simp [dstAt]
  obtain ⟨r1, r2, r3⟩ := regionOk_parts hok
  unfold memOk at hck
  simp only [Bool.and_eq_true, decide_eq_true_eq] at hck
  obtain ⟨⟨c1, c2⟩, c3⟩ := hck
  have htag : ∀ i, i < l.toArray.size → tags[i]? = some (hs.contains i) := by
    intro i hi
    have := List.all_eq_true.1 c2 i (by simpa using hi)
    have hlt : i < tags.length := by simp at hi; omega
    rw [List.getElem?_eq_getElem hlt]
    simpa [List.getD, hlt] using this
  have depOut : ∀ (i j : Nat) (o : Oper), l.toArray[i]? = some o → depOnB l.toArray i j = true → ∃ e ∈ o.after, Region.binds .any e = true ∧ e.on = j := by
    intro i j o ho hj
    unfold depOnB at hj
    rw [ho] at hj
    simp only at hj
    obtain ⟨n, hn, heq⟩ := Array.any_eq_true.1 hj
    exact ⟨o.after[n], Array.getElem_mem hn, by simpa [and_comm] using heq⟩
  refine wp_region_M hm hs (factL fs) J hJ r1 r3 r2 ?_ ?_ ?_
  · intro i hi
    have := of_decide_eq_true (List.all_eq_true.1 c3 i hi)
    simpa using this
  · intro i o ho a w' m hbef haft mi hJv hbase hdep
    have hlt : i < l.toArray.size := by
      rcases Nat.lt_or_ge i l.toArray.size with h' | h'
      · exact h'
      · rw [Array.getElem?_eq_none h'] at ho; cases ho
    have hb' : ∀ s, notDst l.toArray s = true → a.eval (.tmp s) = a0.eval (.tmp s) := fun s hs' => hbase s (notDst_spec hs')
    have hd1 : ∀ j d, depOnB l.toArray i j = true → hs.contains j = false → dstAt l.toArray j = some d → factL fs j (a.eval (.tmp d)) := by
      intro j d hj hc hd
      obtain ⟨e, he, hbe, rfl⟩ := depOut i j o ho hj
      exact (hdep e he hbe d hd).1 (by simpa using hc)
    have hd2 : ∀ (j d : Nat), depOnB l.toArray i j = true → hs.contains j = true → dstAt l.toArray j = some d → m j = some (a.eval (.tmp d)) := by
      intro j d hj hc hd
      obtain ⟨e, he, hbe, rfl⟩ := depOut i j o ho hj
      exact (hdep e he hbe d hd).2 (by simpa using hc)
    have hg := handMs_get l tags 0 hob i o (by simpa using ho)
    rw [Nat.zero_add] at hg
    have ht := htag i hlt
    have hB : ∀ (n j : Nat), depTB l.toArray n j i = true → m j = none := fun n j hj => hbef j (depTB_spec n hj)
    have hA : ∀ (n j : Nat), hs.contains j = true → depTB l.toArray n i j = true → (m j).isSome = true := fun n j hc hj => haft j (by simpa using hc) (depTB_spec n hj)
    rcases hg with ⟨t1, hL⟩ | ⟨t1, hH⟩
    · rw [ht] at t1
      have hni : i ∉ hs := by simpa using Option.some.inj t1
      exact ⟨fun _ => hL a w' m hB hA hJv hb' hd1 hd2, fun hk => absurd hk hni⟩
    · rw [ht] at t1
      have hpi : i ∈ hs := by simpa using Option.some.inj t1
      exact ⟨fun hn => absurd hpi hn, fun _ => hH a w' m hB hA mi hJv hb' hd1 hd2⟩
  · intro a w' m hall' hJv hdf hsz hbase hall hval
    have h := hend (fun i => match l[i]?.bind (·.dst) with | some d => a.eval (.tmp d) | none => undef) w' m (fun i hc => hall' i (by simpa using hc)) hJv (fun i hc hi => by
      cases hd : l[i]?.bind (·.dst) with
      | none => rw [hd] at hi; cases hi
      | some d => simpa only [hd] using hall i d (by simpa using hc) (by rw [hdl]; exact hd)) (fun i hk hi => by
      cases hd : l[i]?.bind (·.dst) with
      | none => rw [hd] at hi; cases hi
      | some d =>
        obtain ⟨v, hv⟩ := Option.isSome_iff_exists.1 (hall' i (by simpa using hk))
        have hvv := hval i d v hv (by rw [hdl]; exact hd)
        simp only [hd, hv, hvv])
    have e : layL l 0 (fun i => match l[i]?.bind (·.dst) with | some d => a.eval (.tmp d) | none => undef) a0 = a := by
      have h2 := layL_size l 0 (fun i => match l[i]?.bind (·.dst) with | some d => a.eval (.tmp d) | none => undef) a0
      have h3 := layL_is a l 0 (fun i => match l[i]?.bind (·.dst) with | some d => a.eval (.tmp d) | none => undef) a0 hsz.symm (fun j o d ho hd => by simp [ho, hd]) (fun s => by
        cases hn : notDst l.toArray s with
        | true => exact Or.inl (hbase s (notDst_spec hn))
        | false =>
          right
          unfold notDst at hn
          rw [List.all_eq_false] at hn
          obtain ⟨j, hj, hq⟩ := hn
          have hd : dstAt l.toArray j = some s := by simpa using hq
          rw [hdl] at hd
          obtain ⟨o, ho, hod⟩ := Option.bind_eq_some_iff.1 hd
          exact ⟨j, o, ho, hod⟩)
      generalize layL l 0 (fun i => match l[i]?.bind (·.dst) with | some d => a.eval (.tmp d) | none => undef) a0 = b at *
      obtain ⟨bt, bd⟩ := b
      obtain ⟨at', ad⟩ := a
      simp only at h2 hsz hdf
      have hd : bd = ad := by rw [h2.2, hdf]
      have ht : bt = at' := by
        apply Array.ext
        · omega
        · intro i hi hi'
          have := h3 i
          simpa [Act.eval, hi, hi'] using this
      rw [hd, ht]
    rwa [e] at h
theorem lightM_val {K : World → Prop} {F : Value → Prop} {o : Oper} {a : Act} {w : World} {v : Value} (hw : Region.wanted o (yielded ops a.tmps) = true) (hrun : (execOp a.eval o).run P w = .ok (.value v) w) (hJ : K w) (hF : F v) :
    if Region.wanted o (yielded ops a.tmps) = true then o.wp P a w (fun a' w' => ∃ v, a' = a.put o.dst v ∧ K w' ∧ F v) Q else F undef := by
  rw [if_pos hw]
  unfold Oper.wp
  rw [hrun]
  exact ⟨v, rfl, hJ, hF⟩
theorem heavyM_wp {K : Value → World → Prop} {o : Oper} {a : Act} {w : World} (hw : Region.wanted o (yielded ops a.tmps) = true) (h : o.wp P a w (fun a' w' => ∃ v, a' = a.put o.dst v ∧ K v w') Q) :
    if Region.wanted o (yielded ops a.tmps) = true then o.wp P a w (fun a' w' => ∃ v, a' = a.put o.dst v ∧ K v w') Q else K undef w := by
  rw [if_pos hw]; exact h
theorem heavyM_val {K : Value → World → Prop} {o : Oper} {a : Act} {w : World} {v : Value} {w' : World} (hw : Region.wanted o (yielded ops a.tmps) = true) (hrun : (execOp a.eval o).run P w = .ok (.value v) w') (hJ : K v w') :
    if Region.wanted o (yielded ops a.tmps) = true then o.wp P a w (fun a' w' => ∃ v, a' = a.put o.dst v ∧ K v w') Q else K undef w := by
  rw [if_pos hw]
  unfold Oper.wp
  rw [hrun]
  exact ⟨v, rfl, hJ⟩
theorem heavyM_call {K : Value → World → Prop} {o : Oper} {a : Act} {w : World} {f : FuncId} {args : Array Value} (hw : Region.wanted o (yielded ops a.tmps) = true) (hrun : (execOp a.eval o).run P w = .ok (.enter f args) w)
    (hc : Calls P f args w fun e w' => ∃ v, e = .returned v ∧ K v w') :
    if Region.wanted o (yielded ops a.tmps) = true then o.wp P a w (fun a' w' => ∃ v, a' = a.put o.dst v ∧ K v w') Q else K undef w := by
  rw [if_pos hw]
  unfold Oper.wp
  rw [hrun]
  refine hc.mono ?_
  rintro e w' ⟨v, rfl, h⟩
  exact ⟨v, rfl, h⟩
end
end Go.Proofs.U
/- A node is gotten in a region that draws its order, and lies in a box of its own; no condition. -/
namespace Go.Proofs.YtmkinaijkgkgiaaGreat
open Go.RowKit Go.Proofs.U
set_option linter.unusedSimpArgs false
set_option linter.unusedVariables false
theorem wp_allocN {w : World} {o : Oper} {a : Act} {K : Act → World → Prop} {Q : Exit → Act → World → Prop} (ho : o.op = .alloc 72)
    (h : ∀ g w', NdB w' g 0 (zerB 16) nilS → Fr noB w w' → w.heap.size ≤ g → K (a.put o.dst (.pointer (some ⟨g, 0, none⟩))) w') : o.wp Tryz.prog a w K Q := by
  obtain ⟨i, hi, hz'⟩ := Option.map_eq_some_iff.1 nd_zero
  unfold Oper.wp
  have hrun : (execOp a.eval o).run Tryz.prog w = .ok (.value (.pointer (some ⟨w.heap.size, 0, none⟩))) (w.alloc (.cells (ndL 0 (zerB 16) nilS).toArray 72)) := by
    simp [execOp, ho, go_sem, zeroValue, typeInfo, hi, hz', Value.cells]
  rw [hrun]
  refine h w.heap.size _ ?_ ((Fr.refl _ _).alloc _) (Nat.le_refl _)
  show (w.heap.push _)[w.heap.size]? = _
  rw [Array.getElem?_push, if_pos rfl]
theorem wp_stN {w : World} {o : Oper} {a : Act} {K : Act → World → Prop} {Q : Exit → Act → World → Prop} (y z : Operand) (ho : o.op = .store 72 y z) (g : Nat) (hy : a.eval y = .pointer (some ⟨g, 0, none⟩)) (k : Int) (b : List Int) (v : Value) (hz : a.eval z = ndV k b v) (hb : b.length = 16) (hv : ∃ a n c, v = .slice a n c) (k0 : Int) (b0 : List Int) (v0 : Value) (hB : NdB w g k0 b0 v0) (hb0 : b0.length = 16)
    (h : ∀ w', NdB w' g k b v → Fr (onB1 g) w w' → K (a.put o.dst undef) w') : o.wp Tryz.prog a w K Q := by
  have hl : 0 + (ndL k b v).length ≤ (ndL k0 b0 v0).length := by rw [ndL_len k b v hb, ndL_len k0 b0 v0 hb0]; omega
  refine wp_store_mid 72 y z ho g 0 (ndL k b v).toArray hy hz (by simpa using hB.thereR 0 (ndL k b v).length hl) (by simpa [ndL_len k b v hb] using nd_size) (all_oneCell_toArray (ndL_one k b v hv)) (h _ ?_ (setCells_fr1 w g _ 0))
  have h1 := setCells_bx (ndL k b v) 0 w _ hB hl
  rw [putAt_all _ _ (by rw [ndL_len k b v hb, ndL_len k0 b0 v0 hb0])] at h1
  simpa using h1
/-- A node that was gotten lies in a box of its own. -/
structure GotN (w W : World) (g : Nat) (N : Nd) (v : Value) : Prop where
  nd : NdB W g N.k N.b v
  ns : NdS W v N
  ow : EnO W w.heap.size v N.es
  fr : Fr noB w W
  gl : w.heap.size ≤ g
  ap : ∀ k, v.ownBlock = some k → k ≠ g
/-- x[i] as a run. -/
theorem idx_raw {w : World} {a : Option Addr} {n cap : Nat} {l : List (Int × Int)} (hS : SlR enC 2 w (.slice a n cap) l) {j : Nat} (hj : j < l.length) :
    ∃ b off, (∀ W, (Instr.indexAt 31 (.slice a n cap) (.int .i64 (j : Int))).run Tryz.prog W = .ok (.pointer (some ⟨b, off, none⟩)) W) ∧ ∀ q u, (enC l[j])[q]? = some u → w.cell? ⟨b, off + q, none⟩ = some u := by
  obtain ⟨hlen, ao, cp, hv, hcap, hcl, hnone, hsome⟩ := hS
  cases hv
  cases a with
  | none => have := hnone rfl; omega
  | some ad =>
    have hcell := hsome ad rfl
    have hjl : j * 2 < (l.flatMap enC).length := by rw [hcl]; exact (Nat.mul_lt_mul_right (by decide)).2 hj
    have hc0 := hcell 0 _ (List.getElem?_eq_getElem (Nat.lt_of_le_of_lt (Nat.zero_le _) hjl))
    obtain ⟨b, off, sp⟩ := ad
    have hsp : sp = none := by simpa [Addr.add] using World.cell?_spot hc0
    subst hsp
    obtain ⟨ii, hinf, hsz'⟩ := Option.map_eq_some_iff.1 en_size
    refine ⟨b, off + j * 2, fun W => ?_, fun q u hq => ?_⟩
    · have h1 : (0 : Int) ≤ (j : Int) ∧ (j : Int) < (l.length : Int) := by omega
      simp [Instr.indexAt, asIntOf, run_underlying uE, h1, sizeOf, typeInfo, hinf, hsz', go_sem, Addr.plain]
      omega
    · have hlj := hlen l[j] (by simp)
      have hqs : q < 2 := by rw [← hlj]; exact (List.getElem?_eq_some_iff.1 hq).1
      have := hcell (j * 2 + q) u (by rw [flat_at enC 2 l hlen j hj q hqs]; exact hq)
      rwa [Addr.plain, ← Nat.add_assoc] at this
theorem types_ne {w : World} {g : Nat} {t t' : TypeId} {c c' : List Value} (h : BxV w g t c) (h' : BxV w g t' c') (hne : t ≠ t') : False := by
  have h1 : w.heap[g]? = _ := h
  have h2 : w.heap[g]? = _ := h'
  rw [h1] at h2
  cases h2
  exact hne rfl
theorem EnO.apN {w : World} {base g : Nat} {v : Value} {l : List (Int × Int)} {k : Int} {b : List Int} {u : Value} (h : EnO w base v l) (hN : NdB w g k b u) : ∀ q, v.ownBlock = some q → q ≠ g := by
  rintro q hq rfl
  rcases h.parts with ⟨rfl, _⟩ | ⟨g', cap, cur, rfl, _, hB, _⟩
  · cases hq
  · have e : g' = q := by simpa [Value.ownBlock] using hq
    subst e
    exact types_ne hB hN (by decide)
theorem ndV_inj {k : Int} {b : List Int} {u u' : Value} (h : ndV k b u = ndV k b u') : u = u' := by
  unfold ndV ndL at h
  simpa using h
/-- While a node is gotten: the call is operation c. -/
def JGet (w0 : World) (c : Nat) (N : Nd) (m : Nat → Option Value) (W : World) : Prop :=
  Fr noB w0 W ∧
  (∀ y, m c = some y → ∃ u, y = .tuple #[ndV N.k N.b u, .int .i64 0] ∧ NdS W u N ∧ EnO W w0.heap.size u N.es) ∧
  (∀ y, m (c + 1) = some y → m c = some y) ∧
  (∀ y, m (c + 2) = some y → m c = some (.tuple #[y, .int .i64 0])) ∧
  (∀ x, m (c + 4) = some x → ∃ g, x = .pointer (some ⟨g, 0, none⟩) ∧ w0.heap.size ≤ g ∧ g < W.heap.size ∧ (m (c + 5) = none → NdB W g 0 (zerB 16) nilS) ∧ ((m (c + 5)).isSome = true → ∀ y, m (c + 2) = some y → ∃ u, y = ndV N.k N.b u ∧ NdB W g N.k N.b u))
theorem JGet.start {w0 : World} {c : Nat} {N : Nd} : JGet w0 c N (fun _ => none) w0 := ⟨Fr.refl _ _, (fun _ h => by cases h), (fun _ h => by cases h), (fun _ h => by cases h), (fun _ h => by cases h)⟩
theorem JGet.call {w0 W W' : World} {c : Nat} {N : Nd} {m : Nat → Option Value} (h : JGet w0 c N m W) (h1 : m (c + 1) = none) (h2 : m (c + 2) = none) (h5 : m (c + 5) = none) {u : Value} (f : Fr noB W W') (n : NdS W' u N) (o : EnO W' W.heap.size u N.es) : JGet w0 c N (updM m c (.tuple #[ndV N.k N.b u, .int .i64 0])) W' := by
  obtain ⟨fr, a0, a1, a2, a4⟩ := h
  refine ⟨fr.thenN f, fun y hy => ?_, fun y hy => ?_, fun y hy => ?_, fun x hx => ?_⟩
  · rw [updM_at] at hy; cases hy; exact ⟨u, rfl, n, o.rebase fr.size⟩
  · rw [updM_ne _ _ (by omega), h1] at hy; cases hy
  · rw [updM_ne _ _ (by omega), h2] at hy; cases hy
  · rw [updM_ne _ _ (by omega)] at hx
    obtain ⟨g, e, hg, hl, b4, _⟩ := a4 x hx
    refine ⟨g, e, hg, by have := f.size; omega, fun _ => (b4 h5).fr0 f, fun q => ?_⟩
    rw [updM_ne _ _ (by omega), h5] at q; cases q
theorem JGet.move {w0 W : World} {c : Nat} {N : Nd} {m : Nat → Option Value} {y : Value} (h : JGet w0 c N m W) (hy : m c = some y) : JGet w0 c N (updM m (c + 1) y) W := by
  obtain ⟨fr, a0, a1, a2, a4⟩ := h
  refine ⟨fr, fun z hz => ?_, fun z hz => ?_, fun z hz => ?_, fun x hx => ?_⟩
  · rw [updM_ne _ _ (by omega)] at hz; exact a0 z hz
  · rw [updM_at] at hz; cases hz; rw [updM_ne _ _ (by omega)]; exact hy
  · rw [updM_ne _ _ (by omega)] at hz; rw [updM_ne _ _ (by omega)]; exact a2 z hz
  · rw [updM_ne _ _ (by omega)] at hx
    have := a4 x hx
    rw [updM_ne _ _ (by omega), updM_ne _ _ (by omega)]
    exact this
theorem JGet.extr {w0 W : World} {c : Nat} {N : Nd} {m : Nat → Option Value} {y : Value} (h : JGet w0 c N m W) (hy : m c = some (.tuple #[y, .int .i64 0])) (h5 : m (c + 5) = none) : JGet w0 c N (updM m (c + 2) y) W := by
  obtain ⟨fr, a0, a1, a2, a4⟩ := h
  refine ⟨fr, fun z hz => ?_, fun z hz => ?_, fun z hz => ?_, fun x hx => ?_⟩
  · rw [updM_ne _ _ (by omega)] at hz; exact a0 z hz
  · rw [updM_ne _ _ (by omega)] at hz; rw [updM_ne _ _ (by omega)]; exact a1 z hz
  · rw [updM_at] at hz; cases hz; rw [updM_ne _ _ (by omega)]; exact hy
  · rw [updM_ne _ _ (by omega)] at hx
    obtain ⟨g, e, hg, hl, b4, _⟩ := a4 x hx
    refine ⟨g, e, hg, hl, fun q => b4 (by rwa [updM_ne _ _ (by omega)] at q), fun q => ?_⟩
    rw [updM_ne _ _ (by omega), h5] at q; cases q
theorem JGet.alloc {w0 W W' : World} {c : Nat} {N : Nd} {m : Nat → Option Value} (h : JGet w0 c N m W) (h5 : m (c + 5) = none) {g : Nat} (hB : NdB W' g 0 (zerB 16) nilS) (f : Fr noB W W') (hg : W.heap.size ≤ g) : JGet w0 c N (updM m (c + 4) (.pointer (some ⟨g, 0, none⟩))) W' := by
  obtain ⟨fr, a0, a1, a2, a4⟩ := h
  have hl : g < W'.heap.size := hB.lt
  refine ⟨fr.thenN f, fun z hz => ?_, fun z hz => ?_, fun z hz => ?_, fun x hx => ?_⟩
  · rw [updM_ne _ _ (by omega)] at hz
    obtain ⟨u, e, n, o⟩ := a0 z hz
    exact ⟨u, e, n.fr0 f, o.fr0 f⟩
  · rw [updM_ne _ _ (by omega)] at hz; rw [updM_ne _ _ (by omega)]; exact a1 z hz
  · rw [updM_ne _ _ (by omega)] at hz; rw [updM_ne _ _ (by omega)]; exact a2 z hz
  · rw [updM_at] at hx; cases hx
    refine ⟨g, rfl, by have := fr.size; omega, hl, fun _ => hB, fun q => ?_⟩
    rw [updM_ne _ _ (by omega), h5] at q; cases q
theorem JGet.got {w0 W : World} {c : Nat} {N : Nd} {m : Nat → Option Value} (h : JGet w0 c N m W) {y x : Value} (hy : m (c + 2) = some y) (hx : m (c + 4) = some x) (h5 : m (c + 5) = none) :
    ∃ u g, y = ndV N.k N.b u ∧ x = .pointer (some ⟨g, 0, none⟩) ∧ NdB W g 0 (zerB 16) nilS ∧ NdS W u N ∧ EnO W w0.heap.size u N.es ∧ w0.heap.size ≤ g := by
  obtain ⟨fr, a0, a1, a2, a4⟩ := h
  obtain ⟨u, e, n, o⟩ := a0 _ (a2 y hy)
  obtain ⟨g, e2, hg, hl, b4, _⟩ := a4 x hx
  simp at e
  exact ⟨u, g, e, e2, b4 h5, n, o, hg⟩
theorem JGet.store {w0 W W' : World} {c : Nat} {N : Nd} {m : Nat → Option Value} (h : JGet w0 c N m W) {u : Value} {g : Nat} (hy : m (c + 2) = some (ndV N.k N.b u)) (hx : m (c + 4) = some (.pointer (some ⟨g, 0, none⟩))) (h5 : m (c + 5) = none) (hB : NdB W' g N.k N.b u) (f : Fr (onB1 g) W W') (s : Value) : JGet w0 c N (updM m (c + 5) s) W' := by
  obtain ⟨u', g', e1, e2, b0, n, o, hg⟩ := h.got hy hx h5
  obtain ⟨fr, a0, a1, a2, a4⟩ := h
  have eg : g = g' := by simpa using e2
  subst eg
  refine ⟨fr.thenT f (fun i hi q => by unfold onB1 at q; omega), fun z hz => ?_, fun z hz => ?_, fun z hz => ?_, fun x hx' => ?_⟩
  · rw [updM_ne _ _ (by omega)] at hz
    obtain ⟨v, e, n, o⟩ := a0 z hz
    have hap := o.apN b0
    exact ⟨v, e, n.frS f (fun k hk q => hap k hk q), o.fr f (fun k hk q => hap k hk q)⟩
  · rw [updM_ne _ _ (by omega)] at hz; rw [updM_ne _ _ (by omega)]; exact a1 z hz
  · rw [updM_ne _ _ (by omega)] at hz; rw [updM_ne _ _ (by omega)]; exact a2 z hz
  · rw [updM_ne _ _ (by omega), hx] at hx'; cases hx'
    have hl : g < W'.heap.size := hB.lt
    refine ⟨g, rfl, hg, hl, fun q => ?_, fun _ y hy' => ?_⟩
    · rw [updM_at] at q; cases q
    · rw [updM_ne _ _ (by omega), hy] at hy'; cases hy'
      exact ⟨u, rfl, hB⟩
theorem JGet.done {w0 W : World} {c : Nat} {N : Nd} {m : Nat → Option Value} (h : JGet w0 c N m W) {y0 y1 y2 x : Value} (h0 : m c = some y0) (h1 : m (c + 1) = some y1) (h2 : m (c + 2) = some y2) (h4 : m (c + 4) = some x) (h5 : (m (c + 5)).isSome = true) :
    ∃ u g, y0 = .tuple #[ndV N.k N.b u, .int .i64 0] ∧ y1 = .tuple #[ndV N.k N.b u, .int .i64 0] ∧ y2 = ndV N.k N.b u ∧ x = .pointer (some ⟨g, 0, none⟩) ∧ GotN w0 W g N u := by
  obtain ⟨fr, a0, a1, a2, a4⟩ := h
  obtain ⟨u, e, n, o⟩ := a0 y0 h0
  have e1 := a1 y1 h1
  rw [h0] at e1; cases e1
  have e2 := a2 y2 h2
  rw [h0] at e2
  cases Option.some.inj e2
  have ey : y2 = ndV N.k N.b u := by simpa using e
  obtain ⟨g, ex, hg, hl, _, b5⟩ := a4 x h4
  obtain ⟨u', eu, hB⟩ := b5 h5 y2 h2
  have huu : ndV N.k N.b u = ndV N.k N.b u' := ey.symm.trans eu
  have hB' : NdB W g N.k N.b u := by
    have : u = u' := ndV_inj huu
    rw [this]; exact hB
  exact ⟨u, g, e, e, ey, ex, hB', n, o, fr, hg, o.apN hB'⟩
end Go.Proofs.YtmkinaijkgkgiaaGreat
