/- Texts RI5, H15, H20, H21 of the proof of PruneTrims, one behind the other. -/
import Derived.Test.YtmkinaijkgkgiaaGreatBundlePruneTrims1
import Derived.Test.YtmkinaijkgkgiaaGreatBundlePruneTrims2
import Derived.Test.YtmkinaijkgkgiaaGreatBundlePruneTrims3
import Derived.Test.YtmkinaijkgkgiaaGreatBundlePruneTrims4
import Derived.Test.YtmkinaijkgkgiaaGreatBundlePruneTrims5
import Derived.Test.YtmkinaijkgkgiaaGreatBundlePruneTrims6
import Derived.Test.YtmkinaijkgkgiaaGreatBundlePruneTrims7
import Derived.Test.YtmkinaijkgkgiaaGreatBundlePruneTrims8
import Derived.Test.YtmkinaijkgkgiaaGreatBundlePruneTrims9
import Derived.Test.YtmkinaijkgkgiaaGreatBundlePruneTrims10
import Derived.Test.YtmkinaijkgkgiaaGreatBundlePruneTrims11
import Derived.Test.YtmkinaijkgkgiaaGreatBundlePruneTrims12
import Derived.Test.YtmkinaijkgkgiaaGreatBundlePruneTrims13
import Derived.Test.YtmkinaijkgkgiaaGreatBundlePruneTrims14
/- Regions that draw their order: the law of RI4, by ways of whatever length; no condition. -/
namespace Go.Proofs.U
open Go.RowKit
set_option linter.unusedVariables false
/-- An operation waits for another one, by whatever way. -/
inductive DepT (ops : Array Oper) : Nat → Nat → Prop
  | one {j i : Nat} {o : Oper} {e : Edge} : ops[j]? = some o → e ∈ o.after → Region.binds .any e = true → e.on = i → DepT ops j i
  | more {j i : Nat} {o : Oper} {e : Edge} : ops[j]? = some o → e ∈ o.after → Region.binds .any e = true → DepT ops e.on i → DepT ops j i
theorem DepT.listed {ops : Array Oper} {listed : Array Bool} (hcl : ∀ i, listed.getD i false = true → ∀ o, ops[i]? = some o → ∀ e ∈ o.after, Region.binds .any e = true → listed.getD e.on false = true) {j i : Nat} (h : DepT ops j i) : listed.getD j false = true → listed.getD i false = true := by
  induction h with
  | one ho he hbe hi => intro h1; rw [← hi]; exact hcl _ h1 _ ho _ he hbe
  | more ho he hbe _ ih => intro h1; exact ih (hcl _ h1 _ ho _ he hbe)
def depTB (ops : Array Oper) : Nat → Nat → Nat → Bool
  | 0, j, k => depOnB ops j k
  | n + 1, j, k => depOnB ops j k || (match ops[j]? with | some o => o.after.any (fun e => Region.binds .any e && depTB ops n e.on k) | none => false)
theorem depOnB_spec {ops : Array Oper} {j i : Nat} (hj : depOnB ops j i = true) : DepT ops j i := by
  unfold depOnB at hj
  cases ho : ops[j]? with
  | none => rw [ho] at hj; cases hj
  | some o =>
    rw [ho] at hj
    simp only at hj
    obtain ⟨n, hn, heq⟩ := Array.any_eq_true.1 hj
    rw [Bool.and_eq_true, beq_iff_eq] at heq
    exact .one ho (Array.getElem_mem hn) heq.2 heq.1
theorem depTB_spec {ops : Array Oper} : ∀ (n : Nat) {j i : Nat}, depTB ops n j i = true → DepT ops j i
  | 0, j, i, h => depOnB_spec h
  | n + 1, j, i, h => by
    unfold depTB at h
    rw [Bool.or_eq_true] at h
    rcases h with h | h
    · exact depOnB_spec h
    · cases ho : ops[j]? with
      | none => rw [ho] at h; cases h
      | some o =>
        rw [ho] at h
        simp only at h
        obtain ⟨m, hm, heq⟩ := Array.any_eq_true.1 h
        rw [Bool.and_eq_true] at heq
        exact .more ho (Array.getElem_mem hm) heq.1 (depTB_spec n heq.2)
section
variable {P : Program} {ops : Array Oper} {Q : Exit → Act → World → Prop}
/-- What is asked of one operation. -/
def HandsT (P : Program) (ops : Array Oper) (hs : List Nat) (F : Nat → Value → Prop) (J : List Value → World → Prop) (a0 : Act) (Q : Exit → Act → World → Prop) (i : Nat) (o : Oper) : Prop :=
  ∀ (a : Act) (w : World) (hv : List Value), hv.length ≤ hs.length → (∀ (p j : Nat), hs[p]? = some j → DepT ops j i → hv.length ≤ p) → J hv w → (∀ s, (∀ i, dstAt ops i ≠ some s) → a.eval (.tmp s) = a0.eval (.tmp s)) →
    (∀ e ∈ o.after, Region.binds .any e = true → ∀ d, dstAt ops e.on = some d → (e.on ∉ hs → F e.on (a.eval (.tmp d))) ∧ ∀ (k : Nat), hs[k]? = some e.on → hv[k]? = some (a.eval (.tmp d))) →
    (i ∉ hs → if Region.wanted o (yielded ops a.tmps) = true then o.wp P a w (fun a' w' => ∃ v, a' = a.put o.dst v ∧ J hv w' ∧ F i v) Q else F i undef) ∧
    (∀ (k : Nat), hs[k]? = some i → hv.length = k → if Region.wanted o (yielded ops a.tmps) = true then o.wp P a w (fun a' w' => ∃ v, a' = a.put o.dst v ∧ J (hv ++ [v]) w') Q else J (hv ++ [undef]) w)

theorem wp_region_chainT {id : Nat} {a0 : Act} {w : World} (hm : P.follows .mixedOrders = true) (hs : List Nat) (F : Nat → Value → Prop) (J : List Value → World → Prop) (hJ : J [] w.drew)
    (hlow : ∀ (i : Nat) (o : Oper), ops[i]? = some o → ∀ e ∈ o.after, Region.binds .any e = true → e.on < i)
    (hdist : ∀ i j d, dstAt ops i = some d → dstAt ops j = some d → i = j)
    (hin : ∀ i d, dstAt ops i = some d → d < a0.tmps.size)
    (hhs : ∀ (k i : Nat), hs[k]? = some i → i < ops.size)
    (hnd : hs.Nodup)
    (hch : ∀ (k i j : Nat) (o : Oper), hs[k]? = some i → hs[k + 1]? = some j → ops[j]? = some o → ∃ e ∈ o.after, Region.binds .any e = true ∧ e.on = i)
    (hob : ∀ (i : Nat) (o : Oper), ops[i]? = some o → HandsT P ops hs F J a0 Q i o)
    (hend : ∀ a w' hv, hv.length = hs.length → J hv w' → a.defers = a0.defers → a.tmps.size = a0.tmps.size → (∀ s, (∀ i, dstAt ops i ≠ some s) → a.eval (.tmp s) = a0.eval (.tmp s)) →
      (∀ i d, i ∉ hs → dstAt ops i = some d → F i (a.eval (.tmp d))) → (∀ (k i d : Nat) (v : Value), hs[k]? = some i → hv[k]? = some v → dstAt ops i = some d → a.eval (.tmp d) = v) → Q .normal a w') : (Code.region id ops true).wp P Q a0 w := by
  have uniq : ∀ (k k' i : Nat), hs[k]? = some i → hs[k']? = some i → k = k' := by
    intro k k' i h1 h2
    obtain ⟨l1, e1⟩ := List.getElem?_eq_some_iff.1 h1
    obtain ⟨l2, e2⟩ := List.getElem?_eq_some_iff.1 h2
    exact (List.getElem_inj hnd).1 (e1.trans e2.symm)
  refine wp_region_any hm ?_
  show wpAny P .any ops Q ops.size (Array.replicate ops.size false) a0 w.drew
  refine wpAny_inv (fun listed a w' => listed.size = ops.size ∧ (∃ hv, KnowC ops hs F J a0 listed a w' hv) ∧ ∀ i, listed.getD i false = true → ∀ o, ops[i]? = some o → ∀ e ∈ o.after, Region.binds .any e = true → listed.getD e.on false = true) ?_ ?_ ops.size (List.range ops.size) _ a0 _ ?_ (by simp) ?_
  · rintro listed a w' i ⟨hsz, ⟨hv, hK⟩, hcl⟩ hi
    obtain ⟨hun, o, ho, hall⟩ := mem_ready.1 hi
    have hilt : i < listed.size := by
      rcases Nat.lt_or_ge i listed.size with h' | h'
      · exact h'
      · simp [Array.getElem?_eq_none h'] at hun
    have hunf : listed.getD i false = false := by
      have h2 : listed.getD i true = listed.getD i false := by simp [hilt]
      rw [← h2]; exact hun
    have hdo : dstAt ops i = o.dst := by simp [dstAt, ho]
    have hdep : ∀ e ∈ o.after, Region.binds .any e = true → ∀ d, dstAt ops e.on = some d → (e.on ∉ hs → F e.on (a.eval (.tmp d))) ∧ ∀ (k : Nat), hs[k]? = some e.on → hv[k]? = some (a.eval (.tmp d)) := by
      intro e he hb d hd
      have hl := hall e he hb
      refine ⟨fun hn => hK.fact e.on d hn hl hd, fun k hk => ?_⟩
      have hlt := (hK.pre k e.on hk).1 hl
      have := hK.val k e.on d hv[k] hk (List.getElem?_eq_getElem hlt) hd
      rw [List.getElem?_eq_getElem hlt, ← this]; rfl
    have hbef : ∀ (p j : Nat), hs[p]? = some j → DepT ops j i → hv.length ≤ p := by
      intro p j hp hd
      rcases Nat.lt_or_ge p hv.length with hlt | hge
      · have h1 := (hK.pre p j hp).2 hlt
        have h2 := hd.listed hcl h1
        rw [hunf] at h2; cases h2
      · exact hge
    have key := hob i o ho a w' hv hK.len hbef hK.inv hK.base hdep
    have lk : ∀ j, listed.getD j false = true → (listed.setIfInBounds i true).getD j false = true := by
      intro j hj
      by_cases hij : i = j
      · subst hij; simp [hilt]
      · simpa [Array.getElem?_setIfInBounds, hij] using hj
    have ldj : ∀ j, (listed.setIfInBounds i true).getD j false = true → j = i ∨ listed.getD j false = true := by
      intro j hj
      by_cases hij : i = j
      · exact Or.inl hij.symm
      · exact Or.inr (by simpa [Array.getElem?_setIfInBounds, hij] using hj)
    have lsame : (listed.setIfInBounds i true).getD i false = true := by simp [hilt]
    have lother : ∀ j, j ≠ i → (listed.setIfInBounds i true).getD j false = listed.getD j false := by
      intro j hj
      simp [Ne.symm hj]
    have closed : ∀ j, (listed.setIfInBounds i true).getD j false = true → ∀ o, ops[j]? = some o → ∀ e ∈ o.after, Region.binds .any e = true → (listed.setIfInBounds i true).getD e.on false = true := by
      intro j hj oj hoj e he hbe
      rcases ldj j hj with rfl | hj'
      · rw [ho] at hoj; cases hoj
        exact lk _ (hall e he hbe)
      · exact lk _ (hcl j hj' oj hoj e he hbe)
    have cdfr : ∀ v, (a.put o.dst v).defers = a0.defers := fun v => by cases hd : o.dst <;> simpa [Act.put] using hK.dfr
    have csz : ∀ v, (a.put o.dst v).tmps.size = a0.tmps.size := fun v => by cases hd : o.dst <;> simpa [Act.put] using hK.sz
    have cbase : ∀ v s, (∀ i, dstAt ops i ≠ some s) → (a.put o.dst v).tmps.getD s undef = a0.tmps.getD s undef := fun v s hs' => by
      rw [put_other (fun e => hs' i (by rw [hdo]; exact e))]; exact hK.base s hs'
    have ne_dst : ∀ j d, j ≠ i → dstAt ops j = some d → o.dst ≠ some d := fun j d hj hd e => hj (hdist j i d hd (by rw [hdo]; exact e))
    unfold wpOp
    simp only [ho]
    by_cases hh : i ∈ hs
    · -- one of the chain
      obtain ⟨k, hk⟩ := List.getElem?_of_mem hh
      have hnk : ¬ k < hv.length := fun h => by have := (hK.pre k i hk).2 h; rw [hunf] at this; cases this
      have hlen : hv.length = k := by
        rcases Nat.eq_zero_or_pos k with h0 | h0
        · omega
        · obtain ⟨k', rfl⟩ : ∃ k', k = k' + 1 := ⟨k - 1, by omega⟩
          obtain ⟨hkl, _⟩ := List.getElem?_eq_some_iff.1 hk
          have hk' : hs[k']? = some (hs[k']'(by omega)) := List.getElem?_eq_getElem (by omega)
          obtain ⟨e, he, hbe, hei⟩ := hch k' _ i o hk' hk ho
          have := (hK.pre k' _ hk').1 (by rw [← hei]; exact hall e he hbe)
          omega
      have hkl : k < hs.length := (List.getElem?_eq_some_iff.1 hk).1
      have next : ∀ v w'', J (hv ++ [v]) w'' → (listed.setIfInBounds i true).size = ops.size ∧ (∃ hv, KnowC ops hs F J a0 (listed.setIfInBounds i true) (a.put o.dst v) w'' hv) ∧ ∀ j, (listed.setIfInBounds i true).getD j false = true → ∀ o, ops[j]? = some o → ∀ e ∈ o.after, Region.binds .any e = true → (listed.setIfInBounds i true).getD e.on false = true := by
        intro v w'' hJ'
        refine ⟨by simpa using hsz, ⟨hv ++ [v], ?_, ?_, ?_, cdfr v, csz v, cbase v, ?_, hJ'⟩, closed⟩
        · simp; omega
        · intro k2 i2 hk2
          by_cases hii : i2 = i
          · subst hii
            have := uniq k2 k i2 hk2 hk
            subst this
            simp [lsame]; omega
          · rw [lother i2 hii, hK.pre k2 i2 hk2]
            have : k2 ≠ k := fun e => hii (by rw [e, hk] at hk2; exact (Option.some.inj hk2).symm)
            simp; omega
        · intro k2 i2 d v2 hk2 hv2 hd2
          by_cases hii : i2 = i
          · subst hii
            have := uniq k2 k i2 hk2 hk
            subst this
            rw [hdo] at hd2
            rw [put_same hd2 (by rw [hK.sz]; exact hin i2 d (by rw [hdo]; exact hd2))]
            rw [List.getElem?_append_right (by omega)] at hv2
            simpa [hlen] using hv2
          · rw [put_other (ne_dst i2 d hii hd2)]
            have hkne : k2 ≠ k := fun e => hii (by rw [e, hk] at hk2; exact (Option.some.inj hk2).symm)
            have hlt2 : k2 < (hv ++ [v]).length := (List.getElem?_eq_some_iff.1 hv2).1
            rw [List.getElem?_append_left (by simp at hlt2; omega)] at hv2
            exact hK.val k2 i2 d v2 hk2 hv2 hd2
        · intro j d hj hl hd
          have hji : j ≠ i := fun e => hj (e ▸ hh)
          rw [put_other (ne_dst j d hji hd)]
          rw [lother j hji] at hl
          exact hK.fact j d hj hl hd
      have key2 := key.2 k hk hlen
      by_cases hw : Region.wanted o (yielded ops a.tmps) = true
      · rw [if_pos hw] at key2 ⊢
        refine Or.inl (Oper.wp_mono ?_ key2)
        rintro a' w'' ⟨v, rfl, hF⟩
        exact next v w'' hF
      · rw [if_neg hw] at key2 ⊢
        exact next undef w' key2
    · have next : ∀ v w'', J hv w'' → F i v → (listed.setIfInBounds i true).size = ops.size ∧ (∃ hv, KnowC ops hs F J a0 (listed.setIfInBounds i true) (a.put o.dst v) w'' hv) ∧ ∀ j, (listed.setIfInBounds i true).getD j false = true → ∀ o, ops[j]? = some o → ∀ e ∈ o.after, Region.binds .any e = true → (listed.setIfInBounds i true).getD e.on false = true := by
        intro v w'' hJ' hF
        refine ⟨by simpa using hsz, ⟨hv, hK.len, ?_, ?_, cdfr v, csz v, cbase v, ?_, hJ'⟩, closed⟩
        · intro k2 i2 hk2
          have hii : i2 ≠ i := fun e => hh (e ▸ List.mem_of_getElem? hk2)
          rw [lother i2 hii]; exact hK.pre k2 i2 hk2
        · intro k2 i2 d v2 hk2 hv2 hd2
          have hii : i2 ≠ i := fun e => hh (e ▸ List.mem_of_getElem? hk2)
          rw [put_other (ne_dst i2 d hii hd2)]
          exact hK.val k2 i2 d v2 hk2 hv2 hd2
        · intro j d hj hl hd
          by_cases hji : j = i
          · subst hji
            rw [hdo] at hd
            rw [put_same hd (by rw [hK.sz]; exact hin j d (by rw [hdo]; exact hd))]
            exact hF
          · rw [put_other (ne_dst j d hji hd)]
            rw [lother j hji] at hl
            exact hK.fact j d hj hl hd
      have key1 := key.1 hh
      by_cases hw : Region.wanted o (yielded ops a.tmps) = true
      · rw [if_pos hw] at key1 ⊢
        refine Or.inl (Oper.wp_mono ?_ key1)
        rintro a' w'' ⟨v, rfl, hJ', hF⟩
        exact next v w'' hJ' hF
      · rw [if_neg hw] at key1 ⊢
        exact next undef w' hK.inv key1
  · rintro listed a w' ⟨hsz, ⟨hv, hK⟩, hcl⟩ h0
    have hall : ∀ n i, i < n → i < ops.size → listed.getD i false = true := by
      intro n
      induction n with
      | zero => intro i h; omega
      | succ n ihn =>
        intro i hi hlt
        rcases Nat.lt_or_ge i n with hn | hn
        · exact ihn i hn hlt
        · obtain rfl : i = n := by omega
          cases hq : listed.getD i false with
          | true => rfl
          | false =>
            exfalso
            have hls : i < listed.size := by omega
            have ho : ops[i]? = some ops[i] := Array.getElem?_eq_getElem hlt
            have hmem : i ∈ Region.ready .any ops listed := mem_ready.2 ⟨by
              have h2 : listed.getD i true = listed.getD i false := by simp [hls]
              rw [h2]; exact hq, ops[i], ho, fun e he hbe => ihn e.on (hlow i _ ho e he hbe) (by have := hlow i _ ho e he hbe; omega)⟩
            rw [h0] at hmem; cases hmem
    have inb : ∀ i d, dstAt ops i = some d → i < ops.size := by
      intro i d hd
      rcases Nat.lt_or_ge i ops.size with h' | h'
      · exact h'
      · simp [dstAt, Array.getElem?_eq_none h'] at hd
    have hfull : hv.length = hs.length := by
      rcases Nat.lt_or_ge hv.length hs.length with h' | h'
      · exfalso
        have hk : hs[hv.length]? = some hs[hv.length] := List.getElem?_eq_getElem h'
        have := (hK.pre _ _ hk).1 (hall _ _ (Nat.lt_succ_self _) (hhs _ _ hk))
        omega
      · have := hK.len; omega
    exact hend a w' hv hfull hK.inv hK.dfr hK.sz hK.base (fun i d hn hd => hK.fact i d hn (hall (i + 1) i (by omega) (inb i d hd)) hd) hK.val
  · intro i hi
    rcases Nat.lt_or_ge i ops.size with h' | h'
    · simpa using h'
    · simp [h'] at hi
  · have nolist : ∀ i, (Array.replicate ops.size false).getD i false = false := fun i => by
      rcases Nat.lt_or_ge i ops.size with h' | h' <;> simp [h']
    refine ⟨by simp, ⟨[], Nat.zero_le _, fun k i hk => ?_, fun k i d v _ h => by simp at h, rfl, rfl, fun _ _ => rfl, fun i d _ hl => ?_, hJ⟩, fun i hl => ?_⟩
    · rw [nolist i]; simp
    · rw [nolist i] at hl; cases hl
    · rw [nolist i] at hl; cases hl
end
section
variable {P : Program} {ops : Array Oper} {Q : Exit → Act → World → Prop}
def LightT (P : Program) (ops : Array Oper) (hs : List Nat) (fs : List (Value → Prop)) (J : List Value → World → Prop) (a0 : Act) (Q : Exit → Act → World → Prop) (k : Nat) (o : Oper) : Prop :=
  ∀ (a : Act) (w : World) (hv : List Value), (hv.length ≤ hs.length ∧ ∀ (n p j : Nat), hs[p]? = some j → depTB ops n j k = true → hv.length ≤ p) → J hv w → (∀ s, notDst ops s = true → a.eval (.tmp s) = a0.eval (.tmp s)) →
    (∀ j d, depOnB ops k j = true → hs.contains j = false → dstAt ops j = some d → factL fs j (a.eval (.tmp d))) →
    (∀ (j d p : Nat), depOnB ops k j = true → hs[p]? = some j → dstAt ops j = some d → hv[p]? = some (a.eval (.tmp d))) →
    if Region.wanted o (yielded ops a.tmps) = true then o.wp P a w (fun a' w' => ∃ v, a' = a.put o.dst v ∧ J hv w' ∧ factL fs k v) Q else factL fs k undef
def HandTAll (P : Program) (ops : Array Oper) (hs : List Nat) (fs : List (Value → Prop)) (J : List Value → World → Prop) (a0 : Act) (Q : Exit → Act → World → Prop) : Nat → List (Option Nat) → List Oper → Prop
  | _, _, [] => True
  | _, [], _ :: _ => False
  | k, none :: ts, o :: r => LightT P ops hs fs J a0 Q k o ∧ HandTAll P ops hs fs J a0 Q (k + 1) ts r
  | k, some p :: ts, o :: r => Heavy P ops hs fs J a0 Q p k o ∧ HandTAll P ops hs fs J a0 Q (k + 1) ts r

theorem handTAll_get {hs : List Nat} {fs : List (Value → Prop)} {J : List Value → World → Prop} {a0 : Act} : ∀ (l : List Oper) (ts : List (Option Nat)) (k : Nat), HandTAll P ops hs fs J a0 Q k ts l → ∀ (i : Nat) (o : Oper), l[i]? = some o →
    (ts[i]? = some none ∧ LightT P ops hs fs J a0 Q (k + i) o) ∨ ∃ p, ts[i]? = some (some p) ∧ Heavy P ops hs fs J a0 Q p (k + i) o
  | [], _, _, _, i, o, ho => by simp at ho
  | x :: l, [], k, h, _, o, ho => by cases h
  | x :: l, none :: ts, k, h, 0, o, ho => by simp at ho; subst ho; exact Or.inl ⟨rfl, h.1⟩
  | x :: l, some p :: ts, k, h, 0, o, ho => by simp at ho; subst ho; exact Or.inr ⟨p, rfl, h.1⟩
  | x :: l, none :: ts, k, h, i + 1, o, ho => by
    have := handTAll_get l ts (k + 1) h.2 i o (by simpa using ho)
    rwa [show k + 1 + i = k + (i + 1) by omega] at this
  | x :: l, some p :: ts, k, h, i + 1, o, ho => by
    have := handTAll_get l ts (k + 1) h.2 i o (by simpa using ho)
    rwa [show k + 1 + i = k + (i + 1) by omega] at this

theorem wp_region_chain_layT {id : Nat} {l : List Oper} {a0 : Act} {w : World} (hm : P.follows .mixedOrders = true) (hs : List Nat) (tags : List (Option Nat)) (fs : List (Value → Prop)) (J : List Value → World → Prop) (hJ : J [] w.drew)
    (hok : regionOkB l.toArray a0.tmps.size = true) (hck : chainOk l.toArray hs tags = true) (hnd : hs.Nodup)
    (hob : HandTAll P l.toArray hs fs J a0 Q 0 tags l)
    (hend : ∀ (vs : Nat → Value) w' hv, hv.length = hs.length → J hv w' → (∀ i, hs.contains i = false → (l[i]?.bind (·.dst)).isSome = true → factL fs i (vs i)) →
      (∀ (k i : Nat), hs[k]? = some i → (l[i]?.bind (·.dst)).isSome = true → hv[k]? = some (vs i)) → Q .normal (layL l 0 vs a0) w') : (Code.region id l.toArray true).wp P Q a0 w := by
  have hdl : ∀ i, dstAt l.toArray i = l[i]?.bind (·.dst) := fun i => by simp [dstAt]
  obtain ⟨r1, r2, r3⟩ := regionOk_parts hok
  unfold chainOk at hck
  simp only [Bool.and_eq_true, decide_eq_true_eq] at hck
  obtain ⟨⟨⟨c1, c2⟩, c3⟩, c4⟩ := hck
  have htag : ∀ i, i < l.toArray.size → tags[i]? = some (hs.idxOf? i) := by
    intro i hi
    have := List.all_eq_true.1 c2 i (by simp at hi ⊢; simp at c1; omega)
    have hlt : i < tags.length := by omega
    rw [List.getElem?_eq_getElem hlt]
    simpa [List.getD, hlt] using this
  have depIn : ∀ (i j : Nat) (o : Oper) (e : Edge), l.toArray[i]? = some o → e ∈ o.after → Region.binds .any e = true → e.on = j → depOnB l.toArray i j = true := by
    intro i j o e ho he hbe hj
    unfold depOnB
    rw [ho]
    exact Array.any_eq_true.2 (by
      obtain ⟨n, hn, heq⟩ := Array.mem_iff_getElem.1 he
      exact ⟨n, hn, by rw [heq]; simpa [hbe] using hj⟩)
  have depOut : ∀ (i j : Nat) (o : Oper), l.toArray[i]? = some o → depOnB l.toArray i j = true → ∃ e ∈ o.after, Region.binds .any e = true ∧ e.on = j := by
    intro i j o ho hj
    unfold depOnB at hj
    rw [ho] at hj
    simp only at hj
    obtain ⟨n, hn, heq⟩ := Array.any_eq_true.1 hj
    exact ⟨o.after[n], Array.getElem_mem hn, by simpa [and_comm] using heq⟩
  refine wp_region_chainT hm hs (factL fs) J hJ r1 r3 r2 ?_ hnd ?_ ?_ ?_
  · intro k i hk
    exact of_decide_eq_true (List.all_eq_true.1 c3 i (List.mem_of_getElem? hk))
  · intro k i j o hk hk1 ho
    have hlt := (List.getElem?_eq_some_iff.1 hk1).1
    have := List.all_eq_true.1 c4 k (by simp; omega)
    have e1 : hs.getD (k + 1) 0 = j := by simp [List.getD, hk1]
    have e2 : hs.getD k 0 = i := by simp [List.getD, hk]
    rw [e1, e2] at this
    exact depOut j i o ho this
  · intro i o ho a w' hv hlen hbef hJv hbase hdep
    have hlt : i < l.toArray.size := by
      rcases Nat.lt_or_ge i l.toArray.size with h' | h'
      · exact h'
      · rw [Array.getElem?_eq_none h'] at ho; cases ho
    have hb' : ∀ s, notDst l.toArray s = true → a.eval (.tmp s) = a0.eval (.tmp s) := fun s hs' => hbase s (notDst_spec hs')
    have hd1 : ∀ j d, depOnB l.toArray i j = true → hs.contains j = false → dstAt l.toArray j = some d → factL fs j (a.eval (.tmp d)) := by
      intro j d hj hc hd
      obtain ⟨e, he, hbe, rfl⟩ := depOut i j o ho hj
      exact (hdep e he hbe d hd).1 (by simpa using hc)
    have hd2 : ∀ (j d p : Nat), depOnB l.toArray i j = true → hs[p]? = some j → dstAt l.toArray j = some d → hv[p]? = some (a.eval (.tmp d)) := by
      intro j d p hj hp hd
      obtain ⟨e, he, hbe, rfl⟩ := depOut i j o ho hj
      exact (hdep e he hbe d hd).2 p hp
    have hg := handTAll_get l tags 0 hob i o (by simpa using ho)
    rw [Nat.zero_add] at hg
    have ht := htag i hlt
    rcases hg with ⟨t1, hL⟩ | ⟨p, t1, hH⟩
    · rw [ht] at t1
      have hni : i ∉ hs := by
        have := Option.some.inj t1
        rwa [List.idxOf?_eq_none_iff] at this
      refine ⟨fun _ => hL a w' hv ⟨hlen, fun n p j hp hj => hbef p j hp (depTB_spec n hj)⟩ hJv hb' hd1 hd2, fun k hk => absurd (List.mem_of_getElem? hk) hni⟩
    · rw [ht] at t1
      have hp := Option.some.inj t1
      have hpi : hs[p]? = some i := by
        obtain ⟨hpl, hpe, _⟩ := List.idxOf?_eq_some_iff.1 hp
        rw [List.getElem?_eq_getElem hpl, hpe]
      refine ⟨fun hn => absurd (List.mem_of_getElem? hpi) hn, fun k hk hl => ?_⟩
      obtain ⟨l1, e1⟩ := List.getElem?_eq_some_iff.1 hk
      obtain ⟨l2, e2⟩ := List.getElem?_eq_some_iff.1 hpi
      have hkp : k = p := (List.getElem_inj hnd).1 (e1.trans e2.symm)
      subst hkp
      exact hH a w' hv hl hJv hb' hd1 hd2
  · intro a w' hv hlen hJv hdf hsz hbase hall hval
    have h := hend (fun i => match l[i]?.bind (·.dst) with | some d => a.eval (.tmp d) | none => undef) w' hv hlen hJv (fun i hc hi => by
      cases hd : l[i]?.bind (·.dst) with
      | none => rw [hd] at hi; cases hi
      | some d => simpa only [hd] using hall i d (by simpa using hc) (by rw [hdl]; exact hd)) (fun k i hk hi => by
      cases hd : l[i]?.bind (·.dst) with
      | none => rw [hd] at hi; cases hi
      | some d =>
        have hkl := (List.getElem?_eq_some_iff.1 hk).1
        have hkv : hv[k]? = some hv[k] := List.getElem?_eq_getElem (by omega)
        rw [hkv, ← hval k i d hv[k] hk hkv (by rw [hdl]; exact hd)])
    have e : layL l 0 (fun i => match l[i]?.bind (·.dst) with | some d => a.eval (.tmp d) | none => undef) a0 = a := by
      have h2 := layL_size l 0 (fun i => match l[i]?.bind (·.dst) with | some d => a.eval (.tmp d) | none => undef) a0
      have h3 := layL_is a l 0 (fun i => match l[i]?.bind (·.dst) with | some d => a.eval (.tmp d) | none => undef) a0 hsz.symm (fun j o d ho hd => by simp [ho, hd]) (fun s => by
        cases hn : notDst l.toArray s with
        | true => exact Or.inl (hbase s (notDst_spec hn))
        | false =>
          right
          unfold notDst at hn
          rw [List.all_eq_false] at hn
          obtain ⟨j, hj, hq⟩ := hn
          have hd : dstAt l.toArray j = some s := by simpa using hq
          rw [hdl] at hd
          obtain ⟨o, ho, hod⟩ := Option.bind_eq_some_iff.1 hd
          exact ⟨j, o, ho, hod⟩)
      generalize layL l 0 (fun i => match l[i]?.bind (·.dst) with | some d => a.eval (.tmp d) | none => undef) a0 = b at *
      obtain ⟨bt, bd⟩ := b
      obtain ⟨at', ad⟩ := a
      simp only at h2 hsz hdf
      have hd : bd = ad := by rw [h2.2, hdf]
      have ht : bt = at' := by
        apply Array.ext
        · omega
        · intro i hi hi'
          have := h3 i
          simpa [Act.eval, hi, hi'] using this
      rw [hd, ht]
    rwa [e] at h

end
end Go.Proofs.U
/- A world of a store and roots: how it lies in memory, and what making a node does to it, plain. -/
namespace Go.Proofs.YtmkinaijkgkgiaaGreat
open Go.RowKit Go.Proofs.U Go.Shelf Go.Maps
set_option linter.unusedSimpArgs false
set_option linter.unusedVariables false
section
variable {α : Type} {ec : α → List Value} {sz : Nat} {e t : TypeId} {w0 : World} {g off : Nat} {cs : List Value} {base : Nat} {v0 : Value} {l : List α} {x : α}
end
section
variable {α : Type} {ec : α → List Value} {sz : Nat} {e : TypeId} {w : World} {base : Nat} {l : List α} {P : Program} {ops : Array Oper} {rest : List Oper} {o : Oper} {a : Act} {Q : Exit → Act → World → Prop}
/-- []T{x}: a block of its own. -/
theorem wpList_mkC (hgd : Region.wanted o (yielded ops a.tmps) = true) (t : TypeId) (y : Operand) (ho : o.op = .buildSlice t 1 #[(0, y)]) (ht : P.underlying t = some (.slice e)) (z : Value) (hinfo : (P.info? e).map (fun i => (i.zero, i.size)) = some (some z, sz)) (hsz : 0 < sz) (hbig : sz ≤ 16777216)
    (x : α) (V : Value) (hy : a.eval y = V) (hV : V.cells = (ec x).toArray) (hx : (ec x).length = sz)
    (h : ∀ g w', BxV w' g e (ec x) → Fr noB w w' → w.heap.size ≤ g → wpList P ops Q rest (a.put o.dst (.slice (some ⟨g, 0, none⟩) 1 1)) w') : wpList P ops Q (o :: rest) a w := by
  refine wpList_wanted hgd fun K hK => ?_
  have hr := run_mk1 (P := P) (ec := ec) (sz := sz) t ht z hinfo hsz hbig x V hV hx w
  have hrun : (execOp a.eval o).run P w = .ok (.value (.slice (some ⟨w.heap.size, 0, none⟩) 1 1)) (w.alloc (.cells (ec x).toArray e)) := by
    simp only [execOp, ho]
    simp [hy, hr, Result.andThen]
  unfold Oper.wp
  rw [hrun]
  exact hK _ _ (h _ _ (heap_alloc_new w _) ((Fr.refl _ _).alloc _) (Nat.le_refl _))
/-- append(s, x) of one element, where the new row lies is told. -/
theorem wpList_appL (hgd : o.guard = none) (s x : Operand) (t : TypeId) (ho : o.op = .call { callee := .builtin .append, args := #[s, x], argTypes := #[t, t] })
    (z : Value) (bytes : Nat) (ht : P.underlying t = some (.slice e)) (hinfo : (P.info? e).map (fun i => (i.zero, i.size, i.bytes)) = some (some z, sz, bytes)) (hzs : z.cells.size = sz) (hsz : 0 < sz)
    (v : Value) (hs : a.eval s = v) (hO : OwnR ec sz e w base v l) (g : Nat) (hx : a.eval x = .slice (some ⟨g, 0, none⟩) 1 1) (y : α) (hy : (ec y).length = sz) (t' : TypeId) (hB : BxV w g t' (ec y)) (h1 : ∀ u ∈ ec y, u.oneCell' = true)
    (h63 : l.length + 1 ≤ maxLen) (hbytes : (l.length + 1) * bytes ≤ 140737488355328) (hbase : base ≤ w.heap.size)
    (h : ∀ v' w', OwnR ec sz e w' base v' (l ++ [y]) → Fr (fun k => v.ownBlock = some k) w w' → (∀ k, v'.ownBlock = some k → v.ownBlock = some k ∨ w.heap.size ≤ k) → wpList P ops Q rest (a.put o.dst v') w') : wpList P ops Q (o :: rest) a w := by
  refine wpList_wanted (by simp [Region.wanted, hgd]) fun K hK => ?_
  refine wp_appR1 s x t ho z bytes ht hinfo hzs hsz v hs hO g hx y hy (fun j u hj => ?_) h1 h63 hbytes hbase fun v' w' hO' hg hl => hK _ _ (h v' w' hO' ((Fr.refl _ _).grown hg (fun k hk _ => hk)) (fun k hk => ?_))
  · rw [Addr.plain, Nat.zero_add]; exact (hB.cell j u hj).1
  · rcases hl with q | q
    · exact Or.inl (by rw [← q]; exact hk)
    · rw [q] at hk; cases hk; exact Or.inr (Nat.le_refl _)
end
/-- The root that a key picks. -/
def pickW (R : List Int) (k : Int) : Int := R.getD (max 0 (min k ((R.length : Int) - 1))).toNat 0
/-- The entries of a node that is made of a block and of roots. -/
def entsW (R keys : List Int) (pg : Int) : Nat → List (Int × Int)
  | 0 => [(0, pg)]
  | j + 1 => entsW R keys pg j ++ (if 0 < R.length ∧ j < 5 then [((j : Int) + 1, pickW R (keys.getD j 0))] else [])
theorem entsW_len (R keys : List Int) (pg : Int) : ∀ j, (entsW R keys pg j).length ≤ 6 ∧ (entsW R keys pg j).length ≤ j + 1
  | 0 => by simp [entsW]
  | j + 1 => by
    have ih := entsW_len R keys pg j
    unfold entsW
    split
    · simp; omega
    · simp; omega
def ndA (b : List Int) : Nd := ⟨1, b, []⟩
def ndW (R keys : List Int) (pg : Int) : Nd := ⟨3, zerB 16, entsW R keys pg keys.length⟩
/-- A block is made and put into a node with some roots, which is held as a root. -/
def wmk (X : DSt) (L : List Pg) (R keys b : List Int) : (DSt × List Pg × List Int) × Int :=
  if (makeF X (plMark L) (ndA b)).2.2 = 0 then
    (if (makeF (makeF X (plMark L) (ndA b)).1.1 (makeF X (plMark L) (ndA b)).1.2 (ndW R keys (makeF X (plMark L) (ndA b)).2.1)).2.2 = 0 then
      (if (plHold (makeF (makeF X (plMark L) (ndA b)).1.1 (makeF X (plMark L) (ndA b)).1.2 (ndW R keys (makeF X (plMark L) (ndA b)).2.1)).1.2 (makeF (makeF X (plMark L) (ndA b)).1.1 (makeF X (plMark L) (ndA b)).1.2 (ndW R keys (makeF X (plMark L) (ndA b)).2.1)).2.1).2 = 0 then
        (((makeF (makeF X (plMark L) (ndA b)).1.1 (makeF X (plMark L) (ndA b)).1.2 (ndW R keys (makeF X (plMark L) (ndA b)).2.1)).1.1, (plHold (makeF (makeF X (plMark L) (ndA b)).1.1 (makeF X (plMark L) (ndA b)).1.2 (ndW R keys (makeF X (plMark L) (ndA b)).2.1)).1.2 (makeF (makeF X (plMark L) (ndA b)).1.1 (makeF X (plMark L) (ndA b)).1.2 (ndW R keys (makeF X (plMark L) (ndA b)).2.1)).2.1).1, R ++ [(makeF (makeF X (plMark L) (ndA b)).1.1 (makeF X (plMark L) (ndA b)).1.2 (ndW R keys (makeF X (plMark L) (ndA b)).2.1)).2.1]), 0)
      else (((makeF (makeF X (plMark L) (ndA b)).1.1 (makeF X (plMark L) (ndA b)).1.2 (ndW R keys (makeF X (plMark L) (ndA b)).2.1)).1.1, plMark L, R), (plHold (makeF (makeF X (plMark L) (ndA b)).1.1 (makeF X (plMark L) (ndA b)).1.2 (ndW R keys (makeF X (plMark L) (ndA b)).2.1)).1.2 (makeF (makeF X (plMark L) (ndA b)).1.1 (makeF X (plMark L) (ndA b)).1.2 (ndW R keys (makeF X (plMark L) (ndA b)).2.1)).2.1).2))
    else (((makeF (makeF X (plMark L) (ndA b)).1.1 (makeF X (plMark L) (ndA b)).1.2 (ndW R keys (makeF X (plMark L) (ndA b)).2.1)).1.1, plMark L, R), (makeF (makeF X (plMark L) (ndA b)).1.1 (makeF X (plMark L) (ndA b)).1.2 (ndW R keys (makeF X (plMark L) (ndA b)).2.1)).2.2))
  else (((makeF X (plMark L) (ndA b)).1.1, plMark L, R), (makeF X (plMark L) (ndA b)).2.2)
/-- Its four ways. -/
theorem wmk_1 {X X1 : DSt} {L L1 : List Pg} {R keys b : List Int} {pg e1 : Int} (h1 : makeF X (plMark L) (ndA b) = ((X1, L1), pg, e1)) (h : ¬ e1 = 0) : wmk X L R keys b = ((X1, plMark L, R), e1) := by
  unfold wmk; rw [h1]; simp only; rw [if_neg h]
theorem wmk_2 {X X1 X2 : DSt} {L L1 L2 : List Pg} {R keys b : List Int} {pg rt e2 : Int} (h1 : makeF X (plMark L) (ndA b) = ((X1, L1), pg, 0)) (h2 : makeF X1 L1 (ndW R keys pg) = ((X2, L2), rt, e2)) (h : ¬ e2 = 0) : wmk X L R keys b = ((X2, plMark L, R), e2) := by
  unfold wmk; rw [h1]; simp only; rw [h2]; simp only [if_true]; rw [if_neg h]
theorem wmk_4 {X X1 X2 : DSt} {L L1 L2 L3 : List Pg} {R keys b : List Int} {pg rt : Int} (h1 : makeF X (plMark L) (ndA b) = ((X1, L1), pg, 0)) (h2 : makeF X1 L1 (ndW R keys pg) = ((X2, L2), rt, 0)) (h3 : plHold L2 rt = (L3, 0)) : wmk X L R keys b = ((X2, L3, R ++ [rt]), 0) := by
  unfold wmk; rw [h1]; simp only; rw [h2]; simp only [if_true]; rw [h3]; simp only [if_true]
end Go.Proofs.YtmkinaijkgkgiaaGreat
/- What NodesExact may read of a store, plain: whatever is reached is held, as often as it should be; no condition. -/
namespace Go.Proofs.YtmkinaijkgkgiaaGreat
open Go.RowKit Go.Proofs.U
set_option linter.unusedSimpArgs false
set_option linter.unusedVariables false
/-- A page's children, as the disk tells them. -/
def chX (X : DSt) (q : Nat) : List Nat := (kids (rdN X (q : Int)).1).map Int.toNat
/-- What holds of a store whose holds are those of R and of what is held. -/
structure DI (X : DSt) (L : List Pg) (R : List Nat) : Prop where
  ok : plOk L
  ex : PlEx L (chX X) R
  nf : ∀ i, (plAt L i).frsh = true → 0 < (plAt L i).c
  rd : ∀ q : Nat, 0 < cntL L q → (rdN X (q : Int)).2 = 0
structure Inv (X : DSt) (L : List Pg) (R : List Int) : Prop where
  nn : ∀ r ∈ R, 0 ≤ r
  di : DI X L (R.map Int.toNat)
  fl : ∃ rk, Falls (cntL L) (chX X) rk
theorem cnt_pos {L : List Pg} (q : Nat) : 0 < cntL L q ↔ 0 < (plAt L q).c := by unfold cntL; omega
theorem DI.held {X : DSt} {L : List Pg} {R : List Nat} (h : DI X L R) (p : Int) : plHeld L p = true ↔ (0 ≤ p ∧ 0 < cntL L p.toNat) := by
  constructor
  · intro hp
    obtain ⟨j, rfl, hj⟩ := plHeld_in hp
    refine ⟨by omega, ?_⟩
    rw [cnt_pos, Int.toNat_natCast]
    unfold plHeld at hp
    simp only [Bool.and_eq_true, Int.toNat_natCast] at hp
    have h2 := hp.2
    unfold Pg.held at h2
    cases hf : ((plAt L j).s == 1 || (plAt L j).s == 2) with
    | true => exact h.nf j hf
    | false =>
      rw [hf] at h2
      simp at h2
      have := (h.ok.2 j).1
      omega
  · rintro ⟨h0, hc⟩
    have hlt := Exact.lt h.ex hc
    rw [cnt_pos] at hc
    unfold plHeld plIn Pg.held
    have e1 : ((plAt L p.toNat).c == 0) = false := by simp; omega
    rw [e1]
    simp
    omega
theorem rdN_right {X : DSt} {p : Int} (h : (rdN X p).2 = 0) : (rdN X p).1.right = true := by
  unfold rdN at *
  rcases opN_cases (ct X p) with ⟨e, hr, _⟩ | e
  · rw [e]; exact hr
  · rw [e] at h; cases h
theorem kids_rng {n : Nd} (h : n.right = true) : ∀ x ∈ kids n, 0 ≤ x ∧ x ≤ 239 := by
  intro x hx
  by_cases hk : n.k = 1
  · unfold kids at hx
    rw [right_data h hk] at hx
    cases hx
  · obtain ⟨_, _, _, _, hr⟩ := right_tree h hk
    unfold kids at hx
    obtain ⟨y, hy, rfl⟩ := List.mem_map.1 hx
    exact (rises_all hr (by omega) y hy).2
theorem DI.kid {X : DSt} {L : List Pg} {R : List Nat} (h : DI X L R) {q : Nat} (hq : 0 < cntL L q) : ∀ x ∈ kids (rdN X (q : Int)).1, 0 ≤ x ∧ x ≤ 239 ∧ 0 < cntL L x.toNat := by
  intro x hx
  have hr := kids_rng (rdN_right (h.rd q hq)) x hx
  refine ⟨hr.1, hr.2, ?_⟩
  exact Exact.child h.ex hq (show x.toNat ∈ chX X q from List.mem_map_of_mem hx)
theorem DI.low {X : DSt} {L : List Pg} {R : List Nat} (h : DI X L R) {q : Nat} (hq : 0 < cntL L q) : q < 240 := by
  have := Exact.lt h.ex hq
  have := h.ok.1
  omega
/-- What a search has put: whatever is new is held, and its children are there. -/
def PostS (X : DSt) (L : List Pg) (S T : Int → Bool) : Prop := (∀ x, S x = true → T x = true) ∧ ∀ x, T x = true → S x = true ∨ (0 ≤ x ∧ 0 < cntL L x.toNat ∧ ∀ y ∈ kids (rdN X x).1, T y = true)
theorem PostS.refl (X : DSt) (L : List Pg) (S : Int → Bool) : PostS X L S S := ⟨fun _ h => h, fun _ h => Or.inl h⟩
theorem PostS.trans {X : DSt} {L : List Pg} {S T U : Int → Bool} (h : PostS X L S T) (k : PostS X L T U) : PostS X L S U :=
  ⟨fun x hx => k.1 x (h.1 x hx), fun x hx => by
    rcases k.2 x hx with q | q
    · rcases h.2 x q with p | ⟨a, b, c⟩
      · exact Or.inl p
      · exact Or.inr ⟨a, b, fun y hy => k.1 y (c y hy)⟩
    · exact Or.inr q⟩
theorem each_see {X : DSt} {L : List Pg} {n : Nat} {f : (Int → Bool) → Int → (Int → Bool) × Int} (hf : ∀ S p, nS S < n → 0 ≤ p → 0 < cntL L p.toNat → (f S p).2 = 0 ∧ PostS X L S (f S p).1 ∧ (f S p).1 p = true) :
    ∀ (ps : List Int) (S : Int → Bool), nS S < n → (∀ p ∈ ps, 0 ≤ p ∧ 0 < cntL L p.toNat) → (eachF f S ps).2 = 0 ∧ PostS X L S (eachF f S ps).1 ∧ ∀ p ∈ ps, (eachF f S ps).1 p = true
  | [], S, _, _ => ⟨rfl, PostS.refl _ _ _, by simp⟩
  | p :: ps, S, hn, hp => by
    obtain ⟨h1, h2, h3⟩ := hf S p hn (hp p (by simp)).1 (hp p (by simp)).2
    rw [eachF_cons0 h1]
    obtain ⟨k1, k2, k3⟩ := each_see hf ps (f S p).1 (Nat.lt_of_le_of_lt (nS_mono h2.1) hn) (fun q hq => hp q (by simp [hq]))
    refine ⟨k1, h2.trans k2, fun q hq => ?_⟩
    rcases List.mem_cons.1 hq with rfl | hq
    · exact k2.1 _ h3
    · exact k3 q hq
theorem getF_live {X : DSt} {L : List Pg} {R : List Nat} (h : DI X L R) {p : Int} (h0 : 0 ≤ p) (hc : 0 < cntL L p.toNat) : getF X L p = rdN X p ∧ (rdN X p).2 = 0 := by
  refine ⟨?_, ?_⟩
  · unfold getF
    rw [(h.held p).2 ⟨h0, hc⟩]
    rfl
  · have := h.rd p.toNat hc
    rwa [Int.toNat_of_nonneg h0] at this
theorem see_good {X : DSt} {L : List Pg} {R : List Nat} (h : DI X L R) : ∀ (n : Nat) (S : Int → Bool) (p : Int), nS S < n → 0 ≤ p → 0 < cntL L p.toNat → (seeF (getF X L) n S p).2 = 0 ∧ PostS X L S (seeF (getF X L) n S p).1 ∧ (seeF (getF X L) n S p).1 p = true
  | 0, S, p, hn, _, _ => absurd hn (by omega)
  | n + 1, S, p, hn, h0, hc => by
    rw [seeF_succ]
    cases hS : S p with
    | true => rw [if_pos rfl]; exact ⟨rfl, PostS.refl _ _ _, hS⟩
    | false =>
      rw [if_neg (by decide)]
      obtain ⟨g1, g2⟩ := getF_live h h0 hc
      rw [g1, if_pos g2]
      have hp240 : p < 240 := by have := h.low hc; omega
      have hlt := nS_put h0 hp240 hS
      have hk : ∀ x ∈ kids (rdN X p).1, 0 ≤ x ∧ 0 < cntL L x.toNat := by
        intro x hx
        have := h.kid hc x (by rwa [Int.toNat_of_nonneg h0])
        exact ⟨this.1, this.2.2⟩
      obtain ⟨k1, k2, k3⟩ := each_see (see_good h n) (kids (rdN X p).1) (fun x => if x == p then true else S x) (by omega) hk
      have hpp := k2.1 p (by simp)
      refine ⟨k1, ⟨fun x hx => k2.1 x (by simp only; split; rfl; exact hx), fun x hx => ?_⟩, hpp⟩
      rcases k2.2 x hx with q | q
      · by_cases hxp : x = p
        · subst hxp
          exact Or.inr ⟨h0, hc, k3⟩
        · have e : (x == p) = false := by simpa using hxp
          simp only [e] at q
          exact Or.inl (by simpa using q)
      · exact Or.inr q
theorem count_toNat : ∀ {l : List Int}, (∀ x ∈ l, 0 ≤ x) → ∀ p : Nat, (l.map Int.toNat).count p = l.count (p : Int)
  | [], _, p => rfl
  | x :: l, h, p => by
    have ih := count_toNat (l := l) (fun y hy => h y (by simp [hy])) p
    have hx := h x (by simp)
    rw [List.map_cons, List.count_cons, List.count_cons, ih]
    congr 1
    by_cases e : x = (p : Int)
    · subst e; simp
    · have : ¬ x.toNat = p := by omega
      simp [e, this]
end Go.Proofs.YtmkinaijkgkgiaaGreat
/- What NodesExact may do to a store, plain: drops, holds, makes, commits keep each page held as often as needed; no condition. -/
namespace Go.Proofs.YtmkinaijkgkgiaaGreat
open Go.RowKit Go.Proofs.U
set_option linter.unusedSimpArgs false
set_option linter.unusedVariables false
theorem cntL_mono_set {L : List Pg} {p : Nat} {x : Pg} (hp : p < L.length) (hx : x.c.toNat ≤ cntL L p) (q : Nat) (h : 0 < cntL (L.set p x) q) : 0 < cntL L q := by
  rw [cntL_set L p x hp] at h
  by_cases e : q = p
  · subst e; rw [updG_at] at h; omega
  · rwa [updG_ne _ _ e] at h
/-- Less is held. -/
def LessL (L L' : List Pg) : Prop := (∀ q, 0 < cntL L' q → 0 < cntL L q) ∧ muL L' ≤ muL L
theorem LessL.trans {A B C : List Pg} (h : LessL A B) (k : LessL B C) : LessL A C := ⟨fun q hq => h.1 q (k.1 q hq), Nat.le_trans k.2 h.2⟩
theorem each_drop {X : DSt} {n : Nat} {R : List Nat} (hf : ∀ (L : List Pg) (p : Nat) (R : List Nat), muL L < n → DI X L (p :: R) → (dropF X n L (p : Int)).2 = 0 ∧ DI X (dropF X n L (p : Int)).1 R ∧ LessL L (dropF X n L (p : Int)).1) :
    ∀ (ps : List Int) (L : List Pg), muL L < n → (∀ p ∈ ps, 0 ≤ p) → DI X L (ps.map Int.toNat ++ R) → (eachF (dropF X n) L ps).2 = 0 ∧ DI X (eachF (dropF X n) L ps).1 R ∧ LessL L (eachF (dropF X n) L ps).1
  | [], L, _, _, h => ⟨rfl, h, fun _ h => h, Nat.le_refl _⟩
  | p :: ps, L, hn, h0, h => by
    have hp0 := h0 p (by simp)
    obtain ⟨h1, h2, h3⟩ := hf L p.toNat (ps.map Int.toNat ++ R) hn h
    rw [Int.toNat_of_nonneg hp0] at h1 h2 h3
    rw [eachF_cons0 h1]
    obtain ⟨k1, k2, k3⟩ := each_drop hf ps _ (Nat.lt_of_le_of_lt h3.2 hn) (fun q hq => h0 q (by simp [hq])) h2
    exact ⟨k1, k2, h3.trans k3⟩
theorem drop_ex {X : DSt} : ∀ (n : Nat) (L : List Pg) (p : Nat) (R : List Nat), muL L < n → DI X L (p :: R) → (dropF X n L (p : Int)).2 = 0 ∧ DI X (dropF X n L (p : Int)).1 R ∧ LessL L (dropF X n L (p : Int)).1
  | 0, L, p, R, hn, _ => absurd hn (by omega)
  | n + 1, L, p, R, hn, h => by
    obtain ⟨hp, hc, hh⟩ := h.ex.pos h.ok (List.mem_cons_self)
    have hdo := drop_ok h.ok (p : Int)
    rcases h.ex.drop h.ok with ⟨h1, e, k⟩ | ⟨h1, e, k⟩
    · have e3 : dropF X (n + 1) L (p : Int) = (L.set p ⟨(plAt L p).c - 1, (plAt L p).s⟩, 0) := by rw [dropF_succ e]; rfl
      rw [e3]
      have hmu := drop_mu h.ok e
      rw [e] at hdo
      have hle : (⟨(plAt L p).c - 1, (plAt L p).s⟩ : Pg).c.toNat ≤ cntL L p := by unfold cntL; simp only; omega
      refine ⟨rfl, ⟨hdo, k, fun i hi => ?_, fun q hq => h.rd q (cntL_mono_set hp hle q hq)⟩, ⟨fun q hq => cntL_mono_set hp hle q hq, hmu.1⟩⟩
      rw [plAt_set _ _ _ _ hp] at hi ⊢
      split
      · show 0 < (plAt L p).c - 1; omega
      · rename_i hne; rw [if_neg hne] at hi; exact h.nf i hi
    · rw [dropF_succ e]
      have hmu := drop_mu h.ok e
      rw [e] at hdo
      have hle : (⟨0, dropS (plAt L p).s⟩ : Pg).c.toNat ≤ cntL L p := Nat.zero_le _
      have hcp : 0 < cntL L p := (cnt_pos p).2 hc
      have hrd := h.rd p hcp
      have hD : DI X (L.set p ⟨0, dropS (plAt L p).s⟩) (chX X p ++ R) := by
        refine ⟨hdo, k, fun i hi => ?_, fun q hq => h.rd q (cntL_mono_set hp hle q hq)⟩
        rw [plAt_set _ _ _ _ hp] at hi ⊢
        split
        · rename_i he; rw [if_pos he, dropS_frsh] at hi; cases hi
        · rename_i hne; rw [if_neg hne] at hi; exact h.nf i hi
      have hL1 : LessL L (L.set p ⟨0, dropS (plAt L p).s⟩) := ⟨fun q hq => cntL_mono_set hp hle q hq, hmu.1⟩
      simp only [if_true]
      rw [if_pos hrd]
      obtain ⟨k1, k2, k3⟩ := each_drop (R := R) (drop_ex n) (kids (rdN X (p : Int)).1) (L.set p ⟨0, dropS (plAt L p).s⟩) (by have := (hmu.2 rfl).2.1; omega) (fun x hx => (h.kid hcp x hx).1) hD
      exact ⟨k1, k2, hL1.trans k3⟩
theorem DI.perm {X : DSt} {L : List Pg} {R R' : List Nat} (h : DI X L R) (hp : ∀ p, R.count p = R'.count p) : DI X L R' := { h with ex := Exact.perm h.ex hp }
/-- A root is dropped. -/
theorem Inv.drop {X : DSt} {L : List Pg} {R : List Int} (h : Inv X L R) (k : Nat) (hk : k < R.length) : (dropF X (muL L + 1) L R[k]).2 = 0 ∧ Inv X (dropF X (muL L + 1) L R[k]).1 (R.take k ++ R.drop (k + 1)) := by
  have h0 : 0 ≤ R[k] := h.nn _ (by simp)
  have e : R = R.take k ++ R[k] :: R.drop (k + 1) := by rw [← List.drop_eq_getElem_cons hk, List.take_append_drop]
  have hperm : ∀ p, (R.map Int.toNat).count p = (R[k].toNat :: (R.take k ++ R.drop (k + 1)).map Int.toNat).count p := by
    intro p
    have e2 : R.map Int.toNat = (R.take k).map Int.toNat ++ R[k].toNat :: (R.drop (k + 1)).map Int.toNat := by
      have := congrArg (List.map Int.toNat) e
      rw [List.map_append, List.map_cons] at this
      exact this
    rw [e2]
    simp only [List.count_append, List.count_cons, List.map_append]
    omega
  obtain ⟨k1, k2, k3⟩ := drop_ex (muL L + 1) L R[k].toNat _ (by omega) (h.di.perm hperm)
  rw [Int.toNat_of_nonneg h0] at k1 k2 k3
  refine ⟨k1, fun r hr => ?_, k2, ?_⟩
  · rcases List.mem_append.1 hr with hr | hr
    · exact h.nn r (List.mem_of_mem_take hr)
    · exact h.nn r (List.mem_of_mem_drop hr)
  · obtain ⟨rk, hf⟩ := h.fl
    exact ⟨rk, hf.less k3.1⟩
/-- A root is held once more, or can't be. -/
theorem Inv.hold {X : DSt} {L : List Pg} {R : List Int} (h : Inv X L R) {r : Int} (hr : r ∈ R) : (∃ L', plHold L r = (L', 0) ∧ Inv X L' (R ++ [r])) ∨ plHold L r = (L, 72) := by
  have h0 := h.nn r hr
  have hc : 0 < cntL L r.toNat := Exact.pos h.di.ex (List.mem_map_of_mem hr)
  have hh : plHeld L r = true := (h.di.held r).2 ⟨h0, hc⟩
  have hlt := Exact.lt h.di.ex hc
  have hok := hold_ok h.di.ok r
  rcases hold_cases L r with ⟨e, _⟩ | ⟨_, _, e⟩ | ⟨_, _, e⟩
  · rw [hh] at e; cases e
  · exact Or.inr e
  · refine Or.inl ⟨_, e, ?_⟩
    rw [e] at hok
    have hcp := (cnt_pos r.toNat).1 hc
    have hpos : ∀ q, 0 < cntL (L.set r.toNat ⟨(plAt L r.toNat).c + 1, (plAt L r.toNat).s⟩) q → 0 < cntL L q := by
      intro q hq
      rw [cntL_set L _ _ hlt] at hq
      by_cases e : q = r.toNat
      · subst e; exact hc
      · rwa [updG_ne _ _ e] at hq
    obtain ⟨rk, hf⟩ := h.fl
    refine ⟨fun x hx => ?_, ⟨hok, ?_, fun i hi => ?_, fun q hq => h.di.rd q (hpos q hq)⟩, ⟨rk, hf.less hpos⟩⟩
    · rcases List.mem_append.1 hx with hx | hx
      · exact h.nn x hx
      · rw [List.mem_singleton.1 hx]; exact h0
    · rw [List.map_append]
      exact h.di.ex.hold hcp
    · rw [plAt_set _ _ _ _ hlt] at hi ⊢
      split
      · show 0 < (plAt L r.toNat).c + 1; omega
      · rename_i hne; rw [if_neg hne] at hi; exact h.di.nf i hi
theorem cntL_mark (L : List Pg) : cntL (plMark L) = cntL L := by
  funext q
  unfold cntL plMark
  rw [plAt_map _ _ mark0]
  unfold markP
  split <;> rfl
theorem Inv.mark {X : DSt} {L : List Pg} {R : List Int} (h : Inv X L R) : Inv X (plMark L) R := by
  refine ⟨h.nn, ⟨mark_ok h.di.ok, h.di.ex.mark, fun i hi => ?_, fun q hq => h.di.rd q (by rwa [cntL_mark] at hq)⟩, by rw [cntL_mark]; exact h.fl⟩
  have hm : (plAt (plMark L) i) = markP (plAt L i) := by unfold plMark; rw [plAt_map _ _ mark0]
  rw [hm] at hi ⊢
  have hf : (plAt L i).frsh = true := by
    unfold markP at hi
    split at hi
    · rename_i h1; unfold Pg.frsh; rw [h1]; rfl
    · exact hi
  have := h.di.nf i hf
  unfold markP
  split
  · exact this
  · exact this
/-- What isn't held may be written. -/
theorem byCh_congr {n : Nat} {c : Nat → Nat} {ch ch' : Nat → List Nat} (h : ∀ q, 0 < c q → ch q = ch' q) (p : Nat) : byCh ch (live n c) p = byCh ch' (live n c) p := by
  unfold byCh
  congr 1
  refine List.map_congr_left fun q hq => ?_
  rw [h q (mem_live.1 hq).2]
theorem Exact.congr {n : Nat} {c : Nat → Nat} {ch ch' : Nat → List Nat} {R : List Nat} (hE : Exact n c ch R) (h : ∀ q, 0 < c q → ch q = ch' q) : Exact n c ch' R := ⟨fun p => by rw [← byCh_congr h p]; exact hE.cnt p, hE.out⟩
theorem Falls.congr {c : Nat → Nat} {ch ch' : Nat → List Nat} {rk : Nat → Nat} (hF : Falls c ch rk) (h : ∀ q, 0 < c q → ch q = ch' q) : Falls c ch' rk := fun q hq p hp => hF q hq p (by rw [h q hq]; exact hp)
theorem Inv.write {X X' : DSt} {L : List Pg} {R : List Int} (h : Inv X L R) (hx : ∀ q : Nat, 0 < cntL L q → rdN X' (q : Int) = rdN X (q : Int)) : Inv X' L R := by
  have hch : ∀ q, 0 < cntL L q → chX X q = chX X' q := fun q hq => by unfold chX; rw [hx q hq]
  obtain ⟨rk, hf⟩ := h.fl
  exact ⟨h.nn, ⟨h.di.ok, Exact.congr h.di.ex hch, h.di.nf, fun q hq => by rw [hx q hq]; exact h.di.rd q hq⟩, ⟨rk, Falls.congr hf hch⟩⟩
theorem Inv.new (n : Int) (X : DSt) : Inv X (plNew n) [] := by
  have hat : ∀ i, plAt (plNew n) i = Pg0 := by
    intro i
    unfold plAt plNew
    simp only [List.getD, List.getElem?_replicate]
    split <;> rfl
  have hc : ∀ q, cntL (plNew n) q = 0 := fun q => by unfold cntL; rw [hat q]; rfl
  refine ⟨by simp, ⟨plNew_ok n, ⟨fun p => ?_, fun p _ => hc p⟩, fun i hi => ?_, fun q hq => ?_⟩, ⟨fun _ => 0, fun q hq => ?_⟩⟩
  · rw [hc p]
    have : live (plNew n).length (cntL (plNew n)) = [] := by
      unfold live
      rw [List.filter_eq_nil_iff]
      intro q _
      rw [hc q]
      decide
    rw [this]
    rfl
  · rw [hat i] at hi; cases hi
  · rw [hc q] at hq; omega
  · rw [hc q] at hq; omega
end Go.Proofs.YtmkinaijkgkgiaaGreat
