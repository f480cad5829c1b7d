/- Texts J4, J5, J6, J7 of the proof of PruneTrims, one behind the other. -/
import Derived.Test.YtmkinaijkgkgiaaGreatBundlePruneTrims1
import Derived.Test.YtmkinaijkgkgiaaGreatBundlePruneTrims2
import Derived.Test.YtmkinaijkgkgiaaGreatBundlePruneTrims3
import Derived.Test.YtmkinaijkgkgiaaGreatBundlePruneTrims4
import Derived.Test.YtmkinaijkgkgiaaGreatBundlePruneTrims5
import Derived.Test.YtmkinaijkgkgiaaGreatBundlePruneTrims6
import Derived.Test.YtmkinaijkgkgiaaGreatBundlePruneTrims7
import Derived.Test.YtmkinaijkgkgiaaGreatBundlePruneTrims8
import Derived.Test.YtmkinaijkgkgiaaGreatBundlePruneTrims9
import Derived.Test.YtmkinaijkgkgiaaGreatBundlePruneTrims10
import Derived.Test.YtmkinaijkgkgiaaGreatBundlePruneTrims11
import Derived.Test.YtmkinaijkgkgiaaGreatBundlePruneTrims12
import Derived.Test.YtmkinaijkgkgiaaGreatBundlePruneTrims13
import Derived.Test.YtmkinaijkgkgiaaGreatBundlePruneTrims14
import Derived.Test.YtmkinaijkgkgiaaGreatBundlePruneTrims15
import Derived.Test.YtmkinaijkgkgiaaGreatBundlePruneTrims16
/- Trees on a disk, plain: what is in them, and when a page is a tree's; no condition. -/
namespace Go.Proofs.YtmkinaijkgkgiaaGreat
open Go.RowKit Go.Proofs.U
set_option linter.unusedSimpArgs false
set_option linter.unusedVariables false
theorem flatMap_congr {α β : Type} {f g : α → List β} : ∀ {l : List α}, (∀ x ∈ l, f x = g x) → l.flatMap f = l.flatMap g
  | [], _ => rfl
  | x :: l, h => by rw [List.flatMap_cons, List.flatMap_cons, h x (by simp), flatMap_congr fun y hy => h y (by simp [hy])]
/-- A row of children: each one's keys are from its own key on up to the next one's. -/
def okC (f : Int → Int → Int → Prop) : List (Int × Int) → Int → Prop
  | [], _ => True
  | [x], hi => f x.2 x.1 hi
  | x :: y :: r, hi => f x.2 x.1 y.1 ∧ okC f (y :: r) hi
/-- The first key of a row, or what is behind it. -/
def nxt (l : List (Int × Int)) (hi : Int) : Int := match l with | [] => hi | x :: _ => x.1
def esX (X : DSt) (p : Int) : List (Int × Int) := (rdN X p).1.es
/-- The page p is a tree, so many levels above its leaves, of keys from lo on up to hi. -/
def okT (X : DSt) : Nat → Int → Int → Int → Prop
  | 0, p, lo, hi => (rdN X p).2 = 0 ∧ (rdN X p).1.k = 2 ∧ ∀ x ∈ esX X p, lo ≤ x.1 ∧ x.1 < hi
  | lv + 1, p, lo, hi => (rdN X p).2 = 0 ∧ (rdN X p).1.k = 3 ∧ (∀ x ∈ esX X p, lo ≤ x.1 ∧ x.1 < hi) ∧ okC (okT X lv) (esX X p) hi
/-- What is in a tree. -/
def lsT (X : DSt) : Nat → Int → List (Int × Int)
  | 0, p => esX X p
  | lv + 1, p => (esX X p).flatMap fun x => lsT X lv x.2
/-- A tree's nodes. -/
def occT (X : DSt) : Nat → Int → List Int
  | 0, p => [p]
  | lv + 1, p => p :: (esX X p).flatMap fun x => occT X lv x.2
/-- Entries that may be those of a node at a level. -/
def okN (X : DSt) : Nat → List (Int × Int) → Int → Int → Prop
  | 0, es, lo, hi => ∀ x ∈ es, lo ≤ x.1 ∧ x.1 < hi
  | lv + 1, es, lo, hi => (∀ x ∈ es, lo ≤ x.1 ∧ x.1 < hi) ∧ okC (okT X lv) es hi
def lsN (X : DSt) : Nat → List (Int × Int) → List (Int × Int)
  | 0, es => es
  | lv + 1, es => es.flatMap fun x => lsT X lv x.2
def kdL (lv : Nat) : Int := if lv = 0 then 2 else 3
theorem okT_iff {X : DSt} {lv : Nat} {p lo hi : Int} : okT X lv p lo hi ↔ (rdN X p).2 = 0 ∧ (rdN X p).1.k = kdL lv ∧ okN X lv (esX X p) lo hi := by
  cases lv with
  | zero => unfold okT okN kdL; simp
  | succ lv => unfold okT okN kdL; simp
theorem lsT_N (X : DSt) (lv : Nat) (p : Int) : lsT X lv p = lsN X lv (esX X p) := by cases lv <;> rfl
theorem okN_rng {X : DSt} {lv : Nat} {es : List (Int × Int)} {lo hi : Int} (h : okN X lv es lo hi) : ∀ x ∈ es, lo ≤ x.1 ∧ x.1 < hi := by
  cases lv with
  | zero => exact h
  | succ lv => exact h.1
theorem okT.rd {X : DSt} {lv : Nat} {p lo hi : Int} (h : okT X lv p lo hi) : (rdN X p).2 = 0 := (okT_iff.1 h).1
theorem okT.kd {X : DSt} {lv : Nat} {p lo hi : Int} (h : okT X lv p lo hi) : (rdN X p).1.k = kdL lv := (okT_iff.1 h).2.1
theorem okT.n {X : DSt} {lv : Nat} {p lo hi : Int} (h : okT X lv p lo hi) : okN X lv (esX X p) lo hi := (okT_iff.1 h).2.2
theorem okT.es {X : DSt} {lv : Nat} {p lo hi : Int} (h : okT X lv p lo hi) : KeysUp (esX X p) ∧ 1 ≤ (esX X p).length ∧ (esX X p).length ≤ 6 ∧ ∀ x ∈ esX X p, 0 ≤ x.1 ∧ x.1 ≤ 63 ∧ 0 ≤ x.2 ∧ x.2 ≤ 239 := by
  have hk := h.kd
  have hr := right_tree (rdN_right h.rd) (by rw [hk]; unfold kdL; split <;> decide)
  refine ⟨up_rises hr.2.2.2.2, hr.2.2.1, hr.2.2.2.1, fun x hx => ?_⟩
  have := rises_all hr.2.2.2.2 (by omega) x hx
  omega
theorem okC_app (f : Int → Int → Int → Prop) : ∀ (a b : List (Int × Int)) (hi : Int), okC f (a ++ b) hi ↔ okC f a (nxt b hi) ∧ okC f b hi
  | [], b, hi => by simp [okC]
  | [x], [], hi => by simp [okC, nxt]
  | [x], y :: r, hi => by simp [okC, nxt]
  | x :: y :: r, b, hi => by
    have ih := okC_app f (y :: r) b hi
    simp only [List.cons_append, okC] at ih ⊢
    rw [ih, and_assoc]
theorem nxt_app (a b : List (Int × Int)) (hi : Int) : nxt (a ++ b) hi = nxt a (nxt b hi) := by cases a <;> rfl
theorem okC_mono {f g : Int → Int → Int → Prop} : ∀ {l : List (Int × Int)} {hi : Int}, (∀ x ∈ l, ∀ b, f x.2 x.1 b → g x.2 x.1 b) → okC f l hi → okC g l hi
  | [], _, _, _ => trivial
  | [x], hi, h, k => h x (by simp) hi k
  | x :: y :: r, hi, h, k => ⟨h x (by simp) y.1 k.1, okC_mono (fun z hz => h z (by simp [hz])) k.2⟩
/-- The last one's keys may end later. -/
theorem okC_hi {f : Int → Int → Int → Prop} (hf : ∀ p a b c, f p a b → b ≤ c → f p a c) : ∀ {l : List (Int × Int)} {hi hi' : Int}, hi ≤ hi' → okC f l hi → okC f l hi'
  | [], _, _, _, _ => trivial
  | [x], hi, hi', h, k => hf _ _ _ _ k h
  | x :: y :: r, hi, hi', h, k => ⟨k.1, okC_hi hf h k.2⟩
theorem okT_mono {X : DSt} : ∀ {lv : Nat} {p lo hi lo' hi' : Int}, okT X lv p lo hi → lo' ≤ lo → hi ≤ hi' → okT X lv p lo' hi'
  | 0, p, lo, hi, lo', hi', h, h1, h2 => ⟨h.1, h.2.1, fun x hx => by have := h.2.2 x hx; omega⟩
  | lv + 1, p, lo, hi, lo', hi', h, h1, h2 => ⟨h.1, h.2.1, fun x hx => by have := h.2.2.1 x hx; omega, okC_hi (f := okT X lv) (fun p a b c k hbc => okT_mono k (Int.le_refl a) hbc) h2 h.2.2.2⟩
/-- What is in a row lies where the row's keys lie, in order. -/
theorem row_rng {f : Int → Int → Int → Prop} {g : Int → List (Int × Int)} (hfg : ∀ p a b, f p a b → ∀ z ∈ g p, a ≤ z.1 ∧ z.1 < b) : ∀ {l : List (Int × Int)} {lo hi : Int}, KeysUp l → (∀ x ∈ l, lo ≤ x.1 ∧ x.1 < hi) → okC f l hi → ∀ z ∈ l.flatMap (fun x => g x.2), lo ≤ z.1 ∧ z.1 < hi
  | [], _, _, _, _, _, z, hz => by simp at hz
  | [x], lo, hi, hu, hr, h, z, hz => by
    simp at hz
    have := hfg _ _ _ h z hz
    have := hr x (by simp)
    omega
  | x :: y :: r, lo, hi, hu, hr, h, z, hz => by
    rw [List.flatMap_cons, List.mem_append] at hz
    have hx := hr x (by simp)
    have hy := hr y (by simp)
    have hxy := hu.head y (by simp)
    rcases hz with hz | hz
    · have := hfg _ _ _ h.1 z hz
      omega
    · have hyr : ∀ w ∈ y :: r, y.1 ≤ w.1 ∧ w.1 < hi := by
        intro w hw
        refine ⟨?_, (hr w (List.mem_cons_of_mem _ hw)).2⟩
        rcases List.mem_cons.1 hw with rfl | hw
        · exact Int.le_refl _
        · have := hu.tail.head w hw; omega
      have := row_rng hfg (lo := y.1) (hi := hi) hu.tail hyr h.2 z hz
      omega
theorem KeysUp.app {a b : List (Int × Int)} (ha : KeysUp a) (hb : KeysUp b) (h : ∀ x ∈ a, ∀ y ∈ b, x.1 < y.1) : KeysUp (a ++ b) := List.pairwise_append.2 ⟨ha, hb, h⟩
theorem row_up {f : Int → Int → Int → Prop} {g : Int → List (Int × Int)} (hfg : ∀ p a b, f p a b → ∀ z ∈ g p, a ≤ z.1 ∧ z.1 < b) (hup : ∀ p a b, f p a b → KeysUp (g p)) : ∀ {l : List (Int × Int)} {hi : Int}, KeysUp l → (∀ x ∈ l, x.1 < hi) → okC f l hi → KeysUp (l.flatMap fun x => g x.2)
  | [], _, _, _, _ => List.Pairwise.nil
  | [x], hi, hu, hr, h => by simpa using hup _ _ _ h
  | x :: y :: r, hi, hu, hr, h => by
    rw [List.flatMap_cons]
    refine KeysUp.app (hup _ _ _ h.1) (row_up hfg hup hu.tail (fun z hz => hr z (List.mem_cons_of_mem _ hz)) h.2) fun z hz w hw => ?_
    have h1 := hfg _ _ _ h.1 z hz
    have h2 := row_rng hfg (lo := y.1) (hi := hi) hu.tail (fun v hv => ⟨by
      rcases List.mem_cons.1 hv with rfl | hv
      · exact Int.le_refl _
      · have := hu.tail.head v hv; omega, hr v (List.mem_cons_of_mem _ hv)⟩) h.2 w hw
    omega
theorem lsT_rng {X : DSt} : ∀ {lv : Nat} {p lo hi : Int}, okT X lv p lo hi → ∀ z ∈ lsT X lv p, lo ≤ z.1 ∧ z.1 < hi
  | 0, p, lo, hi, h => h.2.2
  | lv + 1, p, lo, hi, h => row_rng (f := okT X lv) (g := lsT X lv) (fun p a b k => lsT_rng k) h.es.1 h.2.2.1 h.2.2.2
theorem lsT_up {X : DSt} : ∀ {lv : Nat} {p lo hi : Int}, okT X lv p lo hi → KeysUp (lsT X lv p)
  | 0, p, lo, hi, h => h.es.1
  | lv + 1, p, lo, hi, h => row_up (f := okT X lv) (g := lsT X lv) (fun p a b k => lsT_rng k) (fun p a b k => lsT_up k) h.es.1 (fun x hx => (h.2.2.1 x hx).2) h.2.2.2
/-- Each child of a row is a tree. -/
theorem okC_mem {f : Int → Int → Int → Prop} : ∀ {l : List (Int × Int)} {hi : Int}, okC f l hi → ∀ x ∈ l, ∃ b, f x.2 x.1 b
  | [x], hi, h, z, hz => by simp at hz; subst hz; exact ⟨hi, h⟩
  | x :: y :: r, hi, h, z, hz => by
    rcases List.mem_cons.1 hz with rfl | hz
    · exact ⟨y.1, h.1⟩
    · exact okC_mem h.2 z hz
theorem okT.child {X : DSt} {lv : Nat} {p lo hi : Int} (h : okT X (lv + 1) p lo hi) : ∀ x ∈ esX X p, ∃ b, okT X lv x.2 x.1 b := okC_mem h.2.2.2
theorem lsT_len {X : DSt} : ∀ {lv : Nat} {p lo hi : Int}, okT X lv p lo hi → 1 ≤ (lsT X lv p).length
  | 0, p, lo, hi, h => h.es.2.1
  | lv + 1, p, lo, hi, h => by
    obtain ⟨hu, h1, _⟩ := h.es
    have hc := h.child
    unfold lsT
    cases hl : esX X p with
    | nil => rw [hl] at h1; simp at h1
    | cons x r =>
      rw [hl] at hc
      obtain ⟨b, hb⟩ := hc x (by simp)
      have := lsT_len hb
      rw [List.flatMap_cons, List.length_append]
      omega
/-- Where the nodes stay, the tree stays. -/
theorem okT_congr {X X' : DSt} : ∀ {lv : Nat} {p lo hi : Int}, okT X lv p lo hi → (∀ q ∈ occT X lv p, rdN X' q = rdN X q) → okT X' lv p lo hi ∧ lsT X' lv p = lsT X lv p ∧ occT X' lv p = occT X lv p
  | 0, p, lo, hi, h, hq => by
    have e := hq p (by simp [occT])
    unfold okT lsT occT esX
    rw [e]
    exact ⟨h, rfl, rfl⟩
  | lv + 1, p, lo, hi, h, hq => by
    have e := hq p (by simp [occT])
    have hes : esX X' p = esX X p := by unfold esX; rw [e]
    have hx : ∀ x ∈ esX X p, ∀ b, okT X lv x.2 x.1 b → okT X' lv x.2 x.1 b ∧ lsT X' lv x.2 = lsT X lv x.2 ∧ occT X' lv x.2 = occT X lv x.2 := fun x hx b hb =>
      okT_congr hb fun q hq' => hq q (by
        unfold occT
        exact List.mem_cons_of_mem _ (List.mem_flatMap.2 ⟨x, hx, hq'⟩))
    have hc := h.child
    refine ⟨⟨by rw [e]; exact h.1, by rw [e]; exact h.2.1, by rw [hes]; exact h.2.2.1, ?_⟩, ?_, ?_⟩
    · rw [hes]; exact okC_mono (fun x hx' b hb => (hx x hx' b hb).1) h.2.2.2
    · unfold lsT
      rw [hes]
      refine flatMap_congr fun x hx' => ?_
      obtain ⟨b, hb⟩ := hc x hx'
      exact (hx x hx' b hb).2.1
    · unfold occT
      rw [hes]
      congr 1
      refine flatMap_congr fun x hx' => ?_
      obtain ⟨b, hb⟩ := hc x hx'
      exact (hx x hx' b hb).2.2
/-- A tree's nodes are there, if its root is. -/
theorem occT_live {X : DSt} {L : List Pg} {R : List Int} {T : List Nat} (h : InvT X L R T) : ∀ {lv : Nat} {p lo hi : Int}, okT X lv p lo hi → 0 ≤ p → 0 < cntT L T p.toNat → ∀ q ∈ occT X lv p, 0 ≤ q ∧ 0 < cntT L T q.toNat
  | 0, p, lo, hi, k, h0, hp, q, hq => by simp [occT] at hq; subst hq; exact ⟨h0, hp⟩
  | lv + 1, p, lo, hi, k, h0, hp, q, hq => by
    unfold occT at hq
    rcases List.mem_cons.1 hq with rfl | hq
    · exact ⟨h0, hp⟩
    · obtain ⟨x, hx, hq⟩ := List.mem_flatMap.1 hq
      obtain ⟨b, hb⟩ := k.child x hx
      have hk := h.kid h0 hp x.2 (by unfold kids; exact List.mem_map_of_mem hx)
      exact occT_live h hb hk.1 hk.2.2 q hq
theorem okT.ext {X X' : DSt} {L L' : List Pg} {R : List Int} {T : List Nat} (h : InvT X L R T) (hx : Ext X L X' L') {lv : Nat} {p lo hi : Int} (k : okT X lv p lo hi) (h0 : 0 ≤ p) (hp : 0 < cntT L T p.toNat) : okT X' lv p lo hi ∧ lsT X' lv p = lsT X lv p ∧ occT X' lv p = occT X lv p :=
  okT_congr k fun q hq => by
    obtain ⟨q0, ql⟩ := occT_live h k h0 hp q hq
    have := (hx.kp q.toNat (h.live ql).1).1
    rwa [Int.toNat_of_nonneg q0] at this
end Go.Proofs.YtmkinaijkgkgiaaGreat
/- Where a key is in a row, and what becomes of a row into which an entry is put, plain; no condition. -/
namespace Go.Proofs.YtmkinaijkgkgiaaGreat
open Go.RowKit Go.Proofs.U
set_option linter.unusedSimpArgs false
set_option linter.unusedVariables false
theorem AtIs.none {l : List (Int × Int)} {key : Int} (h : AtIs l key (-1)) : ∀ y ∈ l, key < y.1 := by
  intro y hy
  obtain ⟨j, hj, rfl⟩ := List.mem_iff_getElem.1 hy
  exact (h.2.2 j hj).1 (by omega)
theorem AtIs.some {l : List (Int × Int)} {key i : Int} (h : AtIs l key i) (hi : ¬ i = -1) : ∃ (k : Nat) (hk : k < l.length), i = (k : Int) ∧ l = l.take k ++ l[k] :: l.drop (k + 1) ∧ l[k].1 ≤ key ∧ ∀ y ∈ l.drop (k + 1), key < y.1 := by
  obtain ⟨h0, h1, h2⟩ := h
  refine ⟨i.toNat, by omega, by omega, by rw [List.getElem_cons_drop, List.take_append_drop], (h2 i.toNat (by omega)).2 (by omega), fun y hy => ?_⟩
  obtain ⟨j, hj, rfl⟩ := List.mem_iff_getElem.1 hy
  rw [List.getElem_drop]
  rw [List.length_drop] at hj
  exact (h2 (i.toNat + 1 + j) (by omega)).1 (by omega)
theorem findL_right {A B : List (Int × Int)} {k : Int} (h : ∀ z ∈ A, ¬ z.1 = k) : findL (A ++ B) k = findL B k := by
  unfold findL
  rw [List.find?_append]
  have : A.find? (fun y => y.1 == k) = none := List.find?_eq_none.2 fun z hz => by simpa using h z hz
  rw [this]; rfl
theorem findL_left {A B : List (Int × Int)} {k : Int} (h : ∀ z ∈ B, ¬ z.1 = k) : findL (A ++ B) k = findL A k := by
  unfold findL
  rw [List.find?_append]
  have : B.find? (fun y => y.1 == k) = none := List.find?_eq_none.2 fun z hz => by simpa using h z hz
  rw [this]
  cases A.find? (fun y => y.1 == k) <;> rfl
theorem KeysUp.split {a b : List (Int × Int)} {x : Int × Int} (h : KeysUp (a ++ x :: b)) : KeysUp a ∧ KeysUp b ∧ (∀ y ∈ a, y.1 < x.1) ∧ (∀ y ∈ b, x.1 < y.1) ∧ ∀ y ∈ a, ∀ z ∈ b, y.1 < z.1 := by
  obtain ⟨ha, hxb, hab⟩ := List.pairwise_append.1 h
  exact ⟨ha, KeysUp.tail hxb, fun y hy => hab y hy x (by simp), KeysUp.head hxb, fun y hy z hz => hab y hy z (by simp [hz])⟩
section
variable {f : Int → Int → Int → Prop} {g : Int → List (Int × Int)}
/-- What is ahead of a child lies below its key; what is behind, at or above what is next. -/
theorem row_parts (hfg : ∀ p a b, f p a b → ∀ z ∈ g p, a ≤ z.1 ∧ z.1 < b) {a b : List (Int × Int)} {x : Int × Int} {hi : Int} (hu : KeysUp (a ++ x :: b)) (hr : ∀ y ∈ a ++ x :: b, y.1 < hi) (h : okC f (a ++ x :: b) hi) :
    (∀ z ∈ a.flatMap fun y => g y.2, z.1 < x.1) ∧ (∀ z ∈ g x.2, x.1 ≤ z.1 ∧ z.1 < nxt b hi) ∧ (∀ z ∈ b.flatMap fun y => g y.2, nxt b hi ≤ z.1) ∧ f x.2 x.1 (nxt b hi) := by
  obtain ⟨ua, ub, hax, hxb, hab⟩ := hu.split
  obtain ⟨ca, cxb⟩ := (okC_app f a (x :: b) hi).1 h
  obtain ⟨cx, cb⟩ := (okC_app f [x] b hi).1 cxb
  have cx : f x.2 x.1 (nxt b hi) := cx
  refine ⟨fun z hz => ?_, hfg _ _ _ cx, fun z hz => ?_, cx⟩
  · cases a with
    | nil => simp at hz
    | cons y a =>
      exact (row_rng hfg (lo := y.1) (hi := x.1) ua (fun w hw => ⟨by
        rcases List.mem_cons.1 hw with rfl | hw
        · exact Int.le_refl _
        · have := ua.head w hw; omega, hax w hw⟩) ca z hz).2
  · cases b with
    | nil => simp at hz
    | cons y b =>
      exact (row_rng hfg (lo := y.1) (hi := hi) ub (fun w hw => ⟨by
        rcases List.mem_cons.1 hw with rfl | hw
        · exact Int.le_refl _
        · have := ub.head w hw; omega, hr w (by
            rcases List.mem_cons.1 hw with rfl | hw
            · simp
            · simp [hw])⟩) cb z hz).1
theorem find_row (hfg : ∀ p a b, f p a b → ∀ z ∈ g p, a ≤ z.1 ∧ z.1 < b) {a b : List (Int × Int)} {x : Int × Int} {hi key : Int} (hu : KeysUp (a ++ x :: b)) (hr : ∀ y ∈ a ++ x :: b, y.1 < hi) (h : okC f (a ++ x :: b) hi) (hx : x.1 ≤ key) (hb : ∀ y ∈ b, key < y.1) :
    findL ((a ++ x :: b).flatMap fun y => g y.2) key = findL (g x.2) key := by
  obtain ⟨h1, h2, h3, _⟩ := row_parts hfg hu hr h
  rw [List.flatMap_append, List.flatMap_cons, findL_right (fun z hz => by have := h1 z hz; omega), findL_left]
  intro z hz
  cases b with
  | nil => simp at hz
  | cons y b =>
    have := h3 z hz
    have := hb y (by simp)
    simp only [nxt] at *
    omega
theorem miss_row (hfg : ∀ p a b, f p a b → ∀ z ∈ g p, a ≤ z.1 ∧ z.1 < b) {l : List (Int × Int)} {hi key : Int} (hu : KeysUp l) (hr : ∀ y ∈ l, y.1 < hi) (h : okC f l hi) (hb : ∀ y ∈ l, key < y.1) :
    findL (l.flatMap fun y => g y.2) key = -1 := by
  refine findL_none fun z hz => ?_
  have := (row_rng hfg (lo := key + 1) (hi := hi) hu (fun w hw => ⟨by have := hb w hw; omega, hr w hw⟩) h z hz).1
  omega
end
/-- Find in a leaf, and in an inner node, by the place of the key. -/
theorem find_leaf {l : List (Int × Int)} (hu : KeysUp l) {key i : Int} (h : AtIs l key i) : findL l key = if i = -1 then -1 else if (l.getD i.toNat (0, 0)).1 = key then (l.getD i.toNat (0, 0)).2 else -1 := by
  by_cases hi : i = -1
  · rw [if_pos hi]
    subst hi
    exact findL_none fun z hz => by have := h.none z hz; omega
  · rw [if_neg hi]
    obtain ⟨k, hk, rfl, hl, hle, hb⟩ := h.some hi
    have hg : l.getD ((k : Int).toNat) (0, 0) = l[k] := by rw [Int.toNat_natCast]; simp [List.getD, hk]
    rw [hg]
    by_cases e : l[k].1 = key
    · rw [if_pos e, ← e]
      exact findL_some hu (by simp)
    · rw [if_neg e]
      rw [hl] at hu
      obtain ⟨_, _, ha, _⟩ := hu.split
      refine findL_none fun z hz => ?_
      rw [hl] at hz
      rcases List.mem_append.1 hz with hz | hz
      · have := ha z hz; omega
      · rcases List.mem_cons.1 hz with rfl | hz
        · exact e
        · have := hb z hz; omega
theorem okT.find {X : DSt} {lv : Nat} {p lo hi key : Int} (h : okT X (lv + 1) p lo hi) {k : Nat} (hk : k < (esX X p).length) (hl : esX X p = (esX X p).take k ++ (esX X p)[k] :: (esX X p).drop (k + 1)) (hle : (esX X p)[k].1 ≤ key) (hb : ∀ y ∈ (esX X p).drop (k + 1), key < y.1) :
    findL (lsT X (lv + 1) p) key = findL (lsT X lv (esX X p)[k].2) key := by
  have key' := find_row (f := okT X lv) (g := lsT X lv) (hi := hi) (fun p a b k => lsT_rng k) (a := (esX X p).take k) (x := (esX X p)[k]) (b := (esX X p).drop (k + 1)) (by rw [← hl]; exact h.es.1) (by rw [← hl]; exact fun y hy => (h.2.2.1 y hy).2) (by rw [← hl]; exact h.2.2.2) hle hb
  rw [← hl] at key'
  exact key'
theorem okT.miss {X : DSt} {lv : Nat} {p lo hi key : Int} (h : okT X lv p lo hi) (hb : ∀ y ∈ esX X p, key < y.1) : findL (lsT X lv p) key = -1 := by
  cases lv with
  | zero => exact findL_none fun z hz => by have := hb z hz; omega
  | succ lv => exact miss_row (f := okT X lv) (g := lsT X lv) (fun p a b k => lsT_rng k) h.es.1 (fun y hy => (h.2.2.1 y hy).2) h.2.2.2 hb
/-- An entry's place in what is in order. -/
theorem put_mid {a b : List (Int × Int)} {x : Int × Int} {l : List (Int × Int)} (hl : KeysUp l) (ha : KeysUp a) (hb : KeysUp b) (hax : ∀ z ∈ a, z.1 < x.1) (hxb : ∀ z ∈ b, x.1 < z.1) (hm : ∀ z, z ∈ l ∧ ¬ z.1 = x.1 ↔ z ∈ a ∨ z ∈ b) : a ++ x :: b = putL l x := by
  refine KeysUp.ext (KeysUp.app ha (List.pairwise_cons.2 ⟨hxb, hb⟩) fun y hy z hz => ?_) (putL_up hl) fun z => ?_
  · rcases List.mem_cons.1 hz with rfl | hz
    · exact hax y hy
    · have := hax y hy; have := hxb z hz; omega
  · rw [mem_putL hl, hm z, List.mem_append, List.mem_cons]
    constructor
    · rintro (h | h | h)
      · exact Or.inr (Or.inl h)
      · exact Or.inl h
      · exact Or.inr (Or.inr h)
    · rintro (h | h | h)
      · exact Or.inr (Or.inl h)
      · exact Or.inl h
      · exact Or.inr (Or.inr h)
/-- A leaf's entries and one more, or one in another's place, as the program lays them. -/
def withL (l : List (Int × Int)) (x : Int × Int) (i : Int) : List (Int × Int) :=
  if ¬ i = -1 ∧ (l.getD i.toNat (0, 0)).1 = x.1 then l.set i.toNat x else l.take (i + 1).toNat ++ x :: l.drop (i + 1).toNat
theorem with_put {l : List (Int × Int)} (hu : KeysUp l) {x : Int × Int} {i : Int} (h : AtIs l x.1 i) : withL l x i = putL l x := by
  unfold withL
  by_cases hi : i = -1
  · rw [if_neg (fun q => q.1 hi)]
    subst hi
    have hn := h.none
    have e0 : ((-1 : Int) + 1).toNat = 0 := rfl
    rw [e0, List.take_zero, List.drop_zero]
    refine put_mid hu List.Pairwise.nil hu (by simp) hn fun z => ?_
    constructor
    · rintro ⟨h1, _⟩; exact Or.inr h1
    · rintro (h1 | h1)
      · cases h1
      · exact ⟨h1, by have := hn z h1; omega⟩
  · obtain ⟨k, hk, rfl, hl, hle, hb⟩ := h.some hi
    have hg : l.getD ((k : Int).toNat) (0, 0) = l[k] := by rw [Int.toNat_natCast]; simp [List.getD, hk]
    have hu' := hu
    rw [hl] at hu'
    obtain ⟨ua, ub, ha, hyb, hab⟩ := hu'.split
    rw [hg]
    by_cases e : l[k].1 = x.1
    · rw [if_pos ⟨hi, e⟩, Int.toNat_natCast, List.set_eq_take_append_cons_drop, if_pos hk]
      refine put_mid hu ua ub (fun z hz => by have := ha z hz; omega) hb fun z => ?_
      constructor
      · rintro ⟨h1, h2⟩
        rw [hl] at h1
        rcases List.mem_append.1 h1 with h1 | h1
        · exact Or.inl h1
        · rcases List.mem_cons.1 h1 with rfl | h1
          · exact absurd e h2
          · exact Or.inr h1
      · rintro (h1 | h1)
        · exact ⟨List.mem_of_mem_take h1, by have := ha z h1; omega⟩
        · exact ⟨List.mem_of_mem_drop h1, by have := hb z h1; omega⟩
    · rw [if_neg (fun q => e q.2)]
      have e1 : ((k : Int) + 1).toNat = k + 1 := by omega
      rw [e1]
      have ht : l.take (k + 1) = l.take k ++ [l[k]] := List.take_succ_eq_append_getElem hk
      have hta : ∀ z ∈ l.take (k + 1), z.1 < x.1 := by
        intro z hz
        rw [ht, List.mem_append] at hz
        rcases hz with hz | hz
        · have := ha z hz; omega
        · simp at hz; subst hz; omega
      refine put_mid hu (List.Pairwise.sublist (List.take_sublist _ _) hu) ub hta hb fun z => ?_
      constructor
      · rintro ⟨h1, _⟩
        rw [← List.take_append_drop (k + 1) l] at h1
        exact List.mem_append.1 h1
      · rintro (h1 | h1)
        · exact ⟨List.mem_of_mem_take h1, by have := hta z h1; omega⟩
        · exact ⟨List.mem_of_mem_drop h1, by have := hb z h1; omega⟩
theorem putL_mid {A M B : List (Int × Int)} {z : Int × Int} (hu : KeysUp (A ++ (M ++ B))) (hA : ∀ y ∈ A, y.1 < z.1) (hB : ∀ y ∈ B, z.1 < y.1) : A ++ (putL M z ++ B) = putL (A ++ (M ++ B)) z := by
  obtain ⟨uA, uMB, hAMB⟩ := List.pairwise_append.1 hu
  obtain ⟨uM, uB, hMB⟩ := List.pairwise_append.1 uMB
  refine KeysUp.ext (KeysUp.app uA (KeysUp.app (putL_up uM) uB fun x hx y hy => ?_) fun x hx y hy => ?_) (putL_up hu) fun w => ?_
  · rcases (mem_putL uM).1 hx with rfl | ⟨hx, _⟩
    · exact hB y hy
    · exact hMB x hx y hy
  · rcases List.mem_append.1 hy with hy | hy
    · rcases (mem_putL uM).1 hy with rfl | ⟨hy, _⟩
      · exact hA x hx
      · exact hAMB x hx y (List.mem_append_left _ hy)
    · exact hAMB x hx y (List.mem_append_right _ hy)
  · rw [mem_putL hu, List.mem_append, List.mem_append, mem_putL uM, List.mem_append, List.mem_append]
    constructor
    · rintro (h | (h | ⟨h, hn⟩) | h)
      · exact Or.inr ⟨Or.inl h, by have := hA w h; omega⟩
      · exact Or.inl h
      · exact Or.inr ⟨Or.inr (Or.inl h), hn⟩
      · exact Or.inr ⟨Or.inr (Or.inr h), by have := hB w h; omega⟩
    · rintro (h | ⟨h | h | h, hn⟩)
      · exact Or.inr (Or.inl (Or.inl h))
      · exact Or.inl h
      · exact Or.inr (Or.inl (Or.inr ⟨h, hn⟩))
      · exact Or.inr (Or.inr h)
theorem putL_len {l : List (Int × Int)} (hu : KeysUp l) {x : Int × Int} {i : Int} (h : AtIs l x.1 i) : (putL l x).length = l.length ∨ (putL l x).length = l.length + 1 := by
  rw [← with_put hu h]
  unfold withL
  obtain ⟨h0, h1, _⟩ := h
  split
  · rw [List.length_set]; exact Or.inl rfl
  · rw [List.length_append, List.length_cons, List.length_take, List.length_drop]; omega
end Go.Proofs.YtmkinaijkgkgiaaGreat
/- A key is put into a tree: what is made, level by level, plain; no condition. -/
namespace Go.Proofs.YtmkinaijkgkgiaaGreat
open Go.RowKit Go.Proofs.U
set_option linter.unusedSimpArgs false
set_option linter.unusedVariables false
/-- How many entries a node has. -/
def szX (X : DSt) (p : Int) : Nat := (esX X p).length
/-- What the sizes of a node's children may be, all the way down. -/
def fitT (X : DSt) (Q : List Nat → Prop) : Nat → Int → Prop
  | 0, _ => True
  | lv + 1, p => Q ((esX X p).map fun x => szX X x.2) ∧ ∀ x ∈ esX X p, fitT X Q lv x.2
def fitN (X : DSt) (Q : List Nat → Prop) : Nat → List (Int × Int) → Prop
  | 0, _ => True
  | lv + 1, es => Q (es.map fun x => szX X x.2) ∧ ∀ x ∈ es, fitT X Q lv x.2
theorem fitT_N (X : DSt) (Q : List Nat → Prop) (lv : Nat) (p : Int) : fitT X Q lv p ↔ fitN X Q lv (esX X p) := by cases lv <;> rfl
/-- What a node counts that has so many entries. -/
def lackZ (s : Nat) : Int := max (3 - (s : Int)) (-1)
/-- What a tree's nodes below its root count. -/
def dfT (X : DSt) : Nat → Int → Int
  | 0, _ => 0
  | lv + 1, p => ((esX X p).map fun x => lackZ (szX X x.2) + dfT X lv x.2).sum
def dfN (X : DSt) : Nat → List (Int × Int) → Int
  | 0, _ => 0
  | lv + 1, es => (es.map fun x => lackZ (szX X x.2) + dfT X lv x.2).sum
theorem dfT_N (X : DSt) (lv : Nat) (p : Int) : dfT X lv p = dfN X lv (esX X p) := by cases lv <;> rfl
theorem sum_appZ (a b : List Int) : (a ++ b).sum = a.sum + b.sum := by
  induction a with
  | nil => simp
  | cons x a ih => simp only [List.cons_append, List.sum_cons, ih]; omega
theorem dfN_app (X : DSt) (lv : Nat) (a b : List (Int × Int)) : dfN X lv (a ++ b) = dfN X lv a + dfN X lv b := by
  cases lv with
  | zero => rfl
  | succ lv => show ((a ++ b).map _).sum = _; rw [List.map_append, sum_appZ]; rfl
/-- Sizes that stay what they may be, when a child grows, or is split. -/
structure QOk (Q : List Nat → Prop) : Prop where
  grow : ∀ a c b, Q (a ++ c :: b) → c ≤ 5 → Q (a ++ (c + 1) :: b)
  two : ∀ a b, Q (a ++ 6 :: b) → Q (a ++ 3 :: 4 :: b)
  cut : ∀ l, Q l → l.length = 7 → Q (l.take 3) ∧ Q (l.drop 3)
theorem fitT_congr {X X' : DSt} {Q : List Nat → Prop} : ∀ {lv : Nat} {p lo hi : Int}, okT X lv p lo hi → (∀ q ∈ occT X lv p, rdN X' q = rdN X q) → fitT X Q lv p → fitT X' Q lv p
  | 0, p, lo, hi, h, hq, _ => trivial
  | lv + 1, p, lo, hi, h, hq, k => by
    have hes : esX X' p = esX X p := by unfold esX; rw [hq p (by simp [occT])]
    have hin : ∀ x ∈ esX X p, ∀ q ∈ occT X lv x.2, rdN X' q = rdN X q := fun x hx q hq' => hq q (by
      unfold occT
      exact List.mem_cons_of_mem _ (List.mem_flatMap.2 ⟨x, hx, hq'⟩))
    refine ⟨?_, fun x hx => ?_⟩
    · rw [hes]
      have e : (esX X p).map (fun x => szX X' x.2) = (esX X p).map fun x => szX X x.2 := List.map_congr_left fun x hx => by
        unfold szX esX
        rw [hin x hx x.2 (by cases lv <;> simp [occT])]
      rw [e]
      exact k.1
    · rw [hes] at hx
      obtain ⟨b, hb⟩ := h.child x hx
      exact fitT_congr hb (hin x hx) (k.2 x hx)
theorem dfT_congr {X X' : DSt} : ∀ {lv : Nat} {p lo hi : Int}, okT X lv p lo hi → (∀ q ∈ occT X lv p, rdN X' q = rdN X q) → dfT X' lv p = dfT X lv p
  | 0, p, lo, hi, h, hq => rfl
  | lv + 1, p, lo, hi, h, hq => by
    have hes : esX X' p = esX X p := by unfold esX; rw [hq p (by simp [occT])]
    have hin : ∀ x ∈ esX X p, ∀ q ∈ occT X lv x.2, rdN X' q = rdN X q := fun x hx q hq' => hq q (by
      unfold occT
      exact List.mem_cons_of_mem _ (List.mem_flatMap.2 ⟨x, hx, hq'⟩))
    show ((esX X' p).map _).sum = ((esX X p).map _).sum
    rw [hes]
    have e : (esX X p).map (fun x => lackZ (szX X' x.2) + dfT X' lv x.2) = (esX X p).map fun x => lackZ (szX X x.2) + dfT X lv x.2 := List.map_congr_left fun x hx => by
      obtain ⟨b, hb⟩ := h.child x hx
      have e1 : szX X' x.2 = szX X x.2 := by
        unfold szX esX
        rw [hin x hx x.2 (by cases lv <;> simp [occT])]
      rw [e1, dfT_congr hb (hin x hx)]
    rw [e]
theorem dfT.ext {X X' : DSt} {L L' : List Pg} {R : List Int} {T : List Nat} (h : InvT X L R T) (hx : Ext X L X' L') {lv : Nat} {p lo hi : Int} (k : okT X lv p lo hi) (h0 : 0 ≤ p) (hp : 0 < cntT L T p.toNat) : dfT X' lv p = dfT X lv p :=
  dfT_congr k (fun q hq => by
    obtain ⟨q0, ql⟩ := occT_live h k h0 hp q hq
    have := (hx.kp q.toNat (h.live ql).1).1
    rwa [Int.toNat_of_nonneg q0] at this)
theorem fitT.ext {X X' : DSt} {L L' : List Pg} {R : List Int} {T : List Nat} (h : InvT X L R T) (hx : Ext X L X' L') {lv : Nat} {p lo hi : Int} (k : okT X lv p lo hi) (h0 : 0 ≤ p) (hp : 0 < cntT L T p.toNat) {Q : List Nat → Prop} (hf : fitT X Q lv p) : fitT X' Q lv p :=
  fitT_congr k (fun q hq => by
    obtain ⟨q0, ql⟩ := occT_live h k h0 hp q hq
    have := (hx.kp q.toNat (h.live ql).1).1
    rwa [Int.toNat_of_nonneg q0] at this) hf
theorem rdN_ext {X X' : DSt} {L L' : List Pg} {R : List Int} {T : List Nat} (h : InvT X L R T) (hx : Ext X L X' L') {p : Int} (h0 : 0 ≤ p) (hp : 0 < cntT L T p.toNat) : rdN X' p = rdN X p := by
  have := (hx.kp p.toNat (h.live hp).1).1
  rwa [Int.toNat_of_nonneg h0] at this
/-- Entries of a node, as what they stand for stays. -/
theorem okN.ext {X X' : DSt} {L L' : List Pg} {R : List Int} {T : List Nat} (h : InvT X L R T) (hx : Ext X L X' L') : ∀ {lv : Nat} {es : List (Int × Int)} {lo hi : Int}, okN X lv es lo hi → (∀ x ∈ es, 0 ≤ x.2 ∧ 0 < cntT L T x.2.toNat) →
    okN X' lv es lo hi ∧ lsN X' lv es = lsN X lv es ∧ ∀ Q, fitN X Q lv es → fitN X' Q lv es
  | 0, es, lo, hi, k, _ => ⟨k, rfl, fun _ _ => trivial⟩
  | lv + 1, es, lo, hi, k, hl => by
    have hc := okC_mem k.2
    refine ⟨⟨k.1, okC_mono (fun x hx' b hb => (okT.ext h hx hb (hl x hx').1 (hl x hx').2).1) k.2⟩, flatMap_congr fun x hx' => ?_, fun Q hf => ⟨?_, fun x hx' => ?_⟩⟩
    · obtain ⟨b, hb⟩ := hc x hx'
      exact (okT.ext h hx hb (hl x hx').1 (hl x hx').2).2.1
    · have e : es.map (fun x => szX X' x.2) = es.map fun x => szX X x.2 := List.map_congr_left fun x hx' => by
        unfold szX esX
        rw [rdN_ext h hx (hl x hx').1 (hl x hx').2]
      rw [e]
      exact hf.1
    · obtain ⟨b, hb⟩ := hc x hx'
      exact fitT.ext h hx hb (hl x hx').1 (hl x hx').2 (hf.2 x hx')
theorem dfN.ext {X X' : DSt} {L L' : List Pg} {R : List Int} {T : List Nat} (h : InvT X L R T) (hx : Ext X L X' L') : ∀ {lv : Nat} {es : List (Int × Int)}, (∀ x ∈ es, (0 < lv → ∃ a b, okT X (lv - 1) x.2 a b) ∧ 0 ≤ x.2 ∧ 0 < cntT L T x.2.toNat) → dfN X' lv es = dfN X lv es
  | 0, es, _ => rfl
  | lv + 1, es, hl => by
    show (es.map _).sum = (es.map _).sum
    have e : es.map (fun x => lackZ (szX X' x.2) + dfT X' lv x.2) = es.map fun x => lackZ (szX X x.2) + dfT X lv x.2 := List.map_congr_left fun x hx' => by
      obtain ⟨h1, h2, h3⟩ := hl x hx'
      obtain ⟨a, b, hb⟩ := h1 (by omega)
      have e1 : szX X' x.2 = szX X x.2 := by unfold szX esX; rw [rdN_ext h hx h2 h3]
      rw [e1, dfT.ext h hx (by simpa using hb) h2 h3]
    rw [e]
theorem okN_kid {X : DSt} {lv : Nat} {es : List (Int × Int)} {lo hi : Int} (h : okN X lv es lo hi) : ∀ x ∈ es, 0 < lv → ∃ a b, okT X (lv - 1) x.2 a b := by
  intro x hx hlv
  cases lv with
  | zero => omega
  | succ lv =>
    obtain ⟨b, hb⟩ := okC_mem h.2 x hx
    exact ⟨_, _, hb⟩
theorem okN_lo {X : DSt} {lv : Nat} {es : List (Int × Int)} {lo lo' hi : Int} (h : okN X lv es lo hi) (hl : ∀ x ∈ es, lo' ≤ x.1) : okN X lv es lo' hi := by
  cases lv with
  | zero => exact fun x hx => ⟨hl x hx, (h x hx).2⟩
  | succ lv => exact ⟨fun x hx => ⟨hl x hx, (h.1 x hx).2⟩, h.2⟩
theorem okN_parts {X : DSt} {lv : Nat} {a b : List (Int × Int)} {lo hi : Int} (h : okN X lv (a ++ b) lo hi) (hb : ∀ x ∈ a, x.1 < nxt b hi) : okN X lv a lo (nxt b hi) ∧ okN X lv b lo hi := by
  cases lv with
  | zero => exact ⟨fun x hx => ⟨(h x (List.mem_append_left _ hx)).1, hb x hx⟩, fun x hx => h x (List.mem_append_right _ hx)⟩
  | succ lv =>
    have hc := (okC_app _ a b hi).1 h.2
    exact ⟨⟨fun x hx => ⟨(h.1 x (List.mem_append_left _ hx)).1, hb x hx⟩, hc.1⟩, fun x hx => h.1 x (List.mem_append_right _ hx), hc.2⟩
theorem lsN_app (X : DSt) (lv : Nat) (a b : List (Int × Int)) : lsN X lv (a ++ b) = lsN X lv a ++ lsN X lv b := by
  cases lv with
  | zero => rfl
  | succ lv => exact List.flatMap_append
theorem key0_le {es : List (Int × Int)} (hu : KeysUp es) : ∀ x ∈ es, key0 es ≤ x.1 := by
  intro x hx
  cases es with
  | nil => cases hx
  | cons y r =>
    rcases List.mem_cons.1 hx with rfl | hx
    · exact Int.le_refl _
    · have := hu.head x hx; unfold key0; simp; omega
theorem key0_mem {es : List (Int × Int)} (h : 1 ≤ es.length) : ∃ x ∈ es, key0 es = x.1 := by
  cases es with
  | nil => simp at h
  | cons y r => exact ⟨y, by simp, rfl⟩
theorem nxt_key0 {es : List (Int × Int)} (h : 1 ≤ es.length) (hi : Int) : nxt es hi = key0 es := by
  cases es with
  | nil => simp at h
  | cons y r => rfl
theorem NewN.tree {X' : DSt} {L : List Pg} {p : Int} {lv : Nat} {es : List (Int × Int)} {lo hi : Int} (h : NewN X' L p (kdL lv) es) (hn : okN X' lv es lo hi) (hu : KeysUp es) : okT X' lv p (key0 es) hi ∧ esX X' p = es := by
  have e : esX X' p = es := by unfold esX; rw [h.rd]
  refine ⟨okT_iff.2 ⟨by rw [h.rd], by rw [h.rd], ?_⟩, e⟩
  rw [e]
  exact okN_lo hn (key0_le hu)
/-- Entries that were put into nodes: a row of nodes. -/
structure RowIs (X : DSt) (lv : Nat) (es : List (Int × Int)) (lo hi : Int) (X' : DSt) (tops : List (Int × Int)) : Prop where
  up : KeysUp tops
  ok : okN X' (lv + 1) tops lo hi
  ls : lsN X' (lv + 1) tops = lsN X lv es
  pg : ∀ t ∈ tops, 0 ≤ t.2 ∧ t.2 ≤ 239
  sz : (∃ t, tops = [t] ∧ szX X' t.2 = es.length ∧ es.length ≤ 6) ∨ (∃ t u, tops = [t, u] ∧ es.length = 7 ∧ szX X' t.2 = 3 ∧ szX X' u.2 = 4)
  ft : ∀ Q, QOk Q → fitN X Q lv es → ∀ t ∈ tops, fitT X' Q lv t.2
  df : (tops.map fun x => dfT X' lv x.2).sum ≤ dfN X lv es
theorem split_row {X X' : DSt} {L L' : List Pg} {R : List Int} {T : List Nat} {lv : Nat} {es tops : List (Int × Int)} {lo hi : Int} (h : InvT X L R T) (hx : Ext X L X' L') (s : SplIs X L R T (kdL lv) es X' L' tops) (hu : KeysUp es) (hn : okN X lv es lo hi) (h1 : 1 ≤ es.length) (h7 : es.length ≤ 7)
    (hlv : 0 < lv → ∀ x ∈ es, 0 ≤ x.2 ∧ 0 < cntT L T x.2.toNat) : RowIs X lv es lo hi X' tops := by
  have hE : okN X' lv es lo hi ∧ lsN X' lv es = lsN X lv es ∧ ∀ Q, fitN X Q lv es → fitN X' Q lv es := by
    cases lv with
    | zero => exact ⟨hn, rfl, fun _ _ => trivial⟩
    | succ lv => exact okN.ext h hx hn (hlv (by omega))
  obtain ⟨hn', hls, hfit⟩ := hE
  have hdf : dfN X' lv es = dfN X lv es := by
    cases lv with
    | zero => rfl
    | succ lv => exact dfN.ext h hx fun x hx' => ⟨okN_kid hn x hx', hlv (by omega) x hx'⟩
  rcases s.ways with ⟨h6, p, rfl, hN, _⟩ | ⟨h6, p, q, rfl, hP, hQ⟩
  · obtain ⟨tr, te⟩ := hN.tree hn' hu
    obtain ⟨x0, hx0, hk0⟩ := key0_mem h1
    have hr0 := okN_rng hn x0 hx0
    refine ⟨by simp [KeysUp], ⟨?_, tr⟩, ?_, ?_, Or.inl ⟨_, rfl, by unfold szX; simp only; rw [te], h6⟩, ?_, ?_⟩
    · intro x hx; simp at hx; subst hx; simp only; omega
    · show ([(key0 es, p)].flatMap fun x => lsT X' lv x.2) = _
      simp only [List.flatMap_cons, List.flatMap_nil, List.append_nil]
      rw [lsT_N, te, hls]
    · intro t ht; simp at ht; subst ht; exact ⟨hN.p0, hN.p1⟩
    · intro Q hQo hf t ht
      simp at ht; subst ht
      rw [fitT_N]
      simp only
      rw [te]
      exact hfit Q hf
    · simp only [List.map_cons, List.map_nil, List.sum_cons, List.sum_nil]
      rw [dfT_N, te, hdf]
      omega
  · have e7 : es.length = 7 := by omega
    have e3 : es.length / 2 = 3 := by omega
    rw [e3] at hP hQ ⊢
    have hla : (es.take 3).length = 3 := by rw [List.length_take]; omega
    have hlb : (es.drop 3).length = 4 := by rw [List.length_drop]; omega
    have hsp : es = es.take 3 ++ es.drop 3 := (List.take_append_drop 3 es).symm
    have hcut : ∀ Q, QOk Q → fitN X' Q lv es → fitN X' Q lv (es.take 3) ∧ fitN X' Q lv (es.drop 3) := by
      intro Q hQo hf
      cases lv with
      | zero => exact ⟨trivial, trivial⟩
      | succ lv =>
        have hc := hQo.cut _ hf.1 (by rw [List.length_map]; exact e7)
        rw [← List.map_take, ← List.map_drop] at hc
        exact ⟨⟨hc.1, fun x hx => hf.2 x (List.mem_of_mem_take hx)⟩, hc.2, fun x hx => hf.2 x (List.mem_of_mem_drop hx)⟩
    generalize es.take 3 = A at *
    generalize es.drop 3 = B at *
    subst hsp
    obtain ⟨uA, uB, hAB⟩ := List.pairwise_append.1 hu
    have hnx : nxt B hi = key0 B := nxt_key0 (by omega) hi
    obtain ⟨y0, hy0, hkb⟩ := key0_mem (es := B) (by omega)
    obtain ⟨x0, hx0, hka⟩ := key0_mem (es := A) (by omega)
    have hAb : ∀ x ∈ A, x.1 < nxt B hi := fun x hx => by rw [hnx, hkb]; exact hAB x hx y0 hy0
    obtain ⟨nA, nB⟩ := okN_parts hn' hAb
    obtain ⟨trA, teA⟩ := hP.tree nA uA
    obtain ⟨trB, teB⟩ := hQ.tree nB uB
    have hr0 := okN_rng nA x0 hx0
    have hr1 := okN_rng nB y0 hy0
    have hlt := hAB x0 hx0 y0 hy0
    refine ⟨?_, ⟨?_, ?_⟩, ?_, ?_, Or.inr ⟨_, _, rfl, e7, by unfold szX; simp only; rw [teA, hla], by unfold szX; simp only; rw [teB, hlb]⟩, ?_, ?_⟩
    · simp [KeysUp]; omega
    · intro x hx
      simp at hx
      rcases hx with rfl | rfl <;> simp only <;> omega
    · show okT X' lv p (key0 A) (key0 B) ∧ okT X' lv q (key0 B) hi
      exact ⟨by rw [← hnx]; exact trA, trB⟩
    · show ([(key0 A, p), (key0 B, q)].flatMap fun x => lsT X' lv x.2) = _
      simp only [List.flatMap_cons, List.flatMap_nil, List.append_nil]
      rw [lsT_N, lsT_N, teA, teB, ← lsN_app, hls]
    · intro t ht
      simp at ht
      rcases ht with rfl | rfl
      · exact ⟨hP.p0, hP.p1⟩
      · exact ⟨hQ.p0, hQ.p1⟩
    · intro Q hQo hf t ht
      obtain ⟨fA, fB⟩ := hcut Q hQo (hfit Q hf)
      simp at ht
      rcases ht with rfl | rfl <;> rw [fitT_N] <;> simp only
      · rw [teA]; exact fA
      · rw [teB]; exact fB
    · simp only [List.map_cons, List.map_nil, List.sum_cons, List.sum_nil]
      rw [dfT_N, dfT_N, teA, teB, ← hdf, dfN_app]
      omega
end Go.Proofs.YtmkinaijkgkgiaaGreat
/- Put, plain: of a leaf, of an inner node, of a root; no condition. -/
namespace Go.Proofs.YtmkinaijkgkgiaaGreat
open Go.RowKit Go.Proofs.U
set_option linter.unusedSimpArgs false
set_option linter.unusedVariables false
/-- What is made in the place of a node by a put. -/
structure PutIs (X : DSt) (L : List Pg) (R : List Int) (T : List Nat) (lv : Nat) (p lo hi : Int) (z : Int × Int) (X' : DSt) (L' : List Pg) (tops : List (Int × Int)) : Prop where
  iv : InvT X' L' R (pgsT tops ++ T)
  up : KeysUp tops
  ok : okN X' (lv + 1) tops lo hi
  ls : lsN X' (lv + 1) tops = putL (lsT X lv p) z
  pg : ∀ t ∈ tops, 0 ≤ t.2 ∧ t.2 ≤ 239
  fr : plFree L ≤ plFree L' + 2 * (lv + 1)
  ct : ∀ q, cntL L' q ≤ cntL L q + 7 * (lv + 1)
  sz : (∃ t, tops = [t] ∧ (szX X' t.2 = szX X p ∨ szX X' t.2 = szX X p + 1)) ∨ (∃ t u, tops = [t, u] ∧ szX X p = 6 ∧ szX X' t.2 = 3 ∧ szX X' u.2 = 4)
  ft : ∀ Q, QOk Q → fitT X Q lv p → ∀ t ∈ tops, fitT X' Q lv t.2
  df : (tops.map fun x => dfT X' lv x.2).sum ≤ dfT X lv p
/-- What comes of a put below a node, with an error or without. -/
structure PutE (X : DSt) (L : List Pg) (R : List Int) (T : List Nat) (lv : Nat) (p lo hi : Int) (z : Int × Int) (X' : DSt) (L' : List Pg) (tops : List (Int × Int)) (e : Int) : Prop where
  ext : Ext X L X' L'
  er : e = 0 ∨ e = 71 ∨ e = 72
  e71 : e = 71 → plFree L < 2 * (lv + 1)
  e72 : e = 72 → ¬ ∀ q, cntL L q + 7 * (lv + 1) ≤ 255
  no : ¬ e = 0 → tops = []
  ys : e = 0 → PutIs X L R T lv p lo hi z X' L' tops
theorem PutIs.len {X : DSt} {L : List Pg} {R : List Int} {T : List Nat} {lv : Nat} {p lo hi : Int} {z : Int × Int} {X' : DSt} {L' : List Pg} {tops : List (Int × Int)} (h : PutIs X L R T lv p lo hi z X' L' tops) : tops.length = 1 ∨ tops.length = 2 := by
  rcases h.sz with ⟨t, rfl, _⟩ | ⟨t, u, rfl, _⟩
  · exact Or.inl rfl
  · exact Or.inr rfl
theorem PutIs.dn {X : DSt} {L : List Pg} {R : List Int} {T : List Nat} {lv : Nat} {p lo hi : Int} {z : Int × Int} {X' : DSt} {L' : List Pg} {tops : List (Int × Int)} (h : PutIs X L R T lv p lo hi z X' L' tops) : dfN X' (lv + 1) tops ≤ lackZ (szX X p) + dfT X lv p := by
  have hd := h.df
  show (tops.map fun x => lackZ (szX X' x.2) + dfT X' lv x.2).sum ≤ _
  unfold lackZ
  rcases h.sz with ⟨t, rfl, hs⟩ | ⟨t, u, rfl, h6, h3, h4⟩
  · simp only [List.map_cons, List.map_nil, List.sum_cons, List.sum_nil] at hd ⊢
    omega
  · simp only [List.map_cons, List.map_nil, List.sum_cons, List.sum_nil] at hd ⊢
    omega
/-- Pages that a node holds need no holds of their own. -/
theorem InvT.lessL {X : DSt} {L : List Pg} {R : List Int} {T : List Nat} : ∀ {S : List Nat}, InvT X L R (S ++ T) → (∀ t ∈ S, 0 < cntL L t) → InvT X L R T
  | [], h, _ => h
  | t :: S, h, hc => InvT.lessL (S := S) (h.less1 (hc t (by simp))) fun x hx => hc x (by simp [hx])
theorem InvT.swap {X : DSt} {L : List Pg} {R : List Int} {A B T : List Nat} (h : InvT X L R (A ++ (B ++ T))) : InvT X L R (B ++ (A ++ T)) := h.perm fun q => by simp only [List.count_append]; omega
/-- Of a leaf. -/
theorem put_leaf {X : DSt} {L : List Pg} {R : List Int} {T : List Nat} {m : Nat} {p lo hi : Int} {z : Int × Int} (h : InvT X L R T) (hU : Up X L.length m) (k : okT X 0 p lo hi) (h0 : 0 ≤ p) (hp : 0 < cntT L T p.toNat) {i : Int} (hat : AtIs (esX X p) z.1 i)
    (hz : 0 ≤ z.1 ∧ z.1 ≤ 63 ∧ lo ≤ z.1 ∧ z.1 < hi) (hz2 : 0 ≤ z.2 ∧ 0 < cntT L T z.2.toNat) :
    ∃ X' L' tops e, splF (X, L) 2 (withL (esX X p) z i) = ((X', L'), tops, e) ∧ Up X' L'.length (m + 2) ∧ PutE X L R T 0 p lo hi z X' L' tops e := by
  obtain ⟨hu, h1, h6, hr⟩ := k.es
  rw [with_put hu hat]
  have hlen := putL_len hu hat
  have hup := putL_up (x := z) hu
  have hz239 : z.2 ≤ 239 := by have := h.low hz2.2; omega
  have hmem : ∀ x ∈ putL (esX X p) z, (0 ≤ x.1 ∧ x.1 ≤ 63 ∧ 0 ≤ x.2 ∧ x.2 ≤ 239) ∧ 0 < cntT L T x.2.toNat := by
    intro x hx
    rcases (mem_putL hu).1 hx with rfl | ⟨hx, _⟩
    · exact ⟨⟨hz.1, hz.2.1, hz2.1, hz239⟩, hz2.2⟩
    · exact ⟨hr x hx, (h.kid h0 hp x.2 (by unfold kids; exact List.mem_map_of_mem hx)).2.2⟩
  have hok : okN X 0 (putL (esX X p) z) lo hi := by
    intro x hx
    rcases (mem_putL hu).1 hx with rfl | ⟨hx, _⟩
    · exact ⟨hz.2.2.1, hz.2.2.2⟩
    · exact k.2.2 x hx
  obtain ⟨X', L', tops, e, es, hx, hup', he, h71, h72, hno, hys⟩ := split_T h hU (Or.inl rfl) (by omega) (by omega) hup hmem
  refine ⟨X', L', tops, e, es, hup', hx, he, fun e => by have := (h71 e).1; omega, fun e hc => h72 e fun q => ?_, hno, fun e => ?_⟩
  · have := hc q; omega
  · have s := hys e
    have r := split_row (lv := 0) h hx s hup hok (by omega) (by omega) (fun q => absurd q (by decide))
    refine ⟨s.iv, r.up, r.ok, r.ls, r.pg, by have := s.fr; omega, fun q => ?_, ?_, fun Q hQ _ t ht => r.ft Q hQ trivial t ht, ?_⟩
    · rw [s.ct q]
      have : ((putL (esX X p) z).map (·.2)).count (q : Int) ≤ (putL (esX X p) z).length := by
        have := List.count_le_length (a := (q : Int)) (l := (putL (esX X p) z).map (·.2)); rwa [List.length_map] at this
      omega
    · rcases r.sz with ⟨t, rfl, hs, _⟩ | ⟨t, u, rfl, h7, hs, hs'⟩
      · refine Or.inl ⟨t, rfl, ?_⟩
        rw [hs]
        unfold szX
        omega
      · refine Or.inr ⟨t, u, rfl, ?_, hs, hs'⟩
        unfold szX
        omega
    · exact r.df
/-- The entries of a node in which one child is made anew. -/
structure InnerIs (X : DSt) (L : List Pg) (T : List Nat) (lv : Nat) (p lo hi : Int) (z : Int × Int) (X1 : DSt) (L1 : List Pg) (below es : List (Int × Int)) : Prop where
  up : KeysUp es
  ok : okN X1 (lv + 1) es lo hi
  ls : lsN X1 (lv + 1) es = putL (lsT X (lv + 1) p) z
  ln : es.length = szX X p ∨ es.length = szX X p + 1
  mem : ∀ x ∈ es, (0 ≤ x.1 ∧ x.1 ≤ 63 ∧ 0 ≤ x.2 ∧ x.2 ≤ 239) ∧ 0 < cntT L1 (pgsT below ++ T) x.2.toNat
  sub : ∀ t ∈ below, t ∈ es
  ft : ∀ Q, QOk Q → fitT X Q (lv + 1) p → fitN X1 Q (lv + 1) es
  df : dfN X1 (lv + 1) es ≤ dfT X (lv + 1) p
theorem put_row {X : DSt} {L : List Pg} {R : List Int} {T : List Nat} {lv : Nat} {p lo hi : Int} {z c : Int × Int} {a b : List (Int × Int)} (h : InvT X L R T) (k : okT X (lv + 1) p lo hi) (h0 : 0 ≤ p) (hp : 0 < cntT L T p.toNat)
    (hes : esX X p = a ++ c :: b) (hlo : 0 ≤ lo) (hhi : hi ≤ 64) (hza : a ≠ [] → c.1 ≤ z.1) (hzb : ∀ y ∈ b, z.1 < y.1) (hz : lo ≤ z.1 ∧ z.1 < hi)
    {X1 : DSt} {L1 : List Pg} {below : List (Int × Int)} (hx : Ext X L X1 L1) (s : PutIs X L R T lv c.2 (if a = [] then lo else c.1) (nxt b hi) z X1 L1 below) :
    InnerIs X L T lv p lo hi z X1 L1 below (a ++ (below ++ b)) := by
  obtain ⟨hu, h1, h6, hr⟩ := k.es
  have hrng := k.2.2.1
  have hC := k.2.2.2
  rw [hes] at hu hr hrng hC
  obtain ⟨ua, ub, hax, hxb, hab⟩ := hu.split
  obtain ⟨pa, pc, pb, pf⟩ := row_parts (f := okT X lv) (g := lsT X lv) (fun p a b k => lsT_rng k) hu (fun y hy => (hrng y hy).2) hC
  obtain ⟨ca, ccb⟩ := (okC_app _ a (c :: b) hi).1 hC
  obtain ⟨_, cb⟩ := (okC_app _ [c] b hi).1 ccb
  have hlive : ∀ x ∈ a ++ c :: b, 0 ≤ x.2 ∧ 0 < cntT L T x.2.toNat := fun x hx => by
    have := h.kid h0 hp x.2 (by unfold kids; exact List.mem_map_of_mem (by show x ∈ esX X p; rw [hes]; exact hx))
    exact ⟨this.1, this.2.2⟩
  have hla : ∀ x ∈ a, 0 ≤ x.2 ∧ 0 < cntT L T x.2.toNat := fun x hx => hlive x (List.mem_append_left _ hx)
  have hlb : ∀ x ∈ b, 0 ≤ x.2 ∧ 0 < cntT L T x.2.toNat := fun x hx => hlive x (by simp [hx])
  have hrb : ∀ t ∈ below, (if a = [] then lo else c.1) ≤ t.1 ∧ t.1 < nxt b hi := s.ok.1
  have hcr := hrng c (by simp)
  have hbh : nxt b hi ≤ hi := by
    cases b with
    | nil => exact Int.le_refl _
    | cons y r => have := hrng y (by simp); simp only [nxt]; omega
  have hblo : ∀ t ∈ below, lo ≤ t.1 := by
    intro t ht
    have := (hrb t ht).1
    split at this <;> omega
  have hbne : 1 ≤ below.length := by rcases s.len with e | e <;> omega
  -- where the parts lie
  have hA : ∀ x ∈ a, ∀ t ∈ below, x.1 < t.1 := by
    intro x hx' t ht
    have := (hrb t ht).1
    have hne : a ≠ [] := by intro e; rw [e] at hx'; cases hx'
    rw [if_neg hne] at this
    have := hax x hx'
    omega
  have hB : ∀ t ∈ below, ∀ y ∈ b, t.1 < y.1 := by
    intro t ht y hy
    have := (hrb t ht).2
    cases b with
    | nil => cases hy
    | cons w r =>
      simp only [nxt] at this
      rcases List.mem_cons.1 hy with rfl | hy
      · exact this
      · have := ub.head y hy; omega
  have ubb : KeysUp (below ++ b) := KeysUp.app s.up ub hB
  have uall : KeysUp (a ++ (below ++ b)) := KeysUp.app ua ubb fun x hx' y hy => by
    rcases List.mem_append.1 hy with hy | hy
    · exact hA x hx' y hy
    · exact hab x hx' y hy
  -- the trees of the others
  have ea : okC (okT X1 lv) a c.1 ∧ (a.flatMap fun x => lsT X1 lv x.2) = a.flatMap fun x => lsT X lv x.2 :=
    ⟨okC_mono (fun x hx' w hw => (okT.ext h hx hw (hla x hx').1 (hla x hx').2).1) ca, flatMap_congr fun x hx' => by
      obtain ⟨w, hw⟩ := okC_mem ca x hx'
      exact (okT.ext h hx hw (hla x hx').1 (hla x hx').2).2.1⟩
  have eb : okC (okT X1 lv) b hi ∧ (b.flatMap fun x => lsT X1 lv x.2) = b.flatMap fun x => lsT X lv x.2 :=
    ⟨okC_mono (fun x hx' w hw => (okT.ext h hx hw (hlb x hx').1 (hlb x hx').2).1) cb, flatMap_congr fun x hx' => by
      obtain ⟨w, hw⟩ := okC_mem cb x hx'
      exact (okT.ext h hx hw (hlb x hx').1 (hlb x hx').2).2.1⟩
  have hnx : nxt (below ++ b) hi = key0 below := by rw [nxt_app]; exact nxt_key0 hbne _
  have hca : okC (okT X1 lv) a (nxt (below ++ b) hi) := by
    by_cases ha : a = []
    · subst ha; trivial
    · refine okC_hi (f := okT X1 lv) (fun p a b c k hbc => okT_mono k (Int.le_refl a) hbc) ?_ ea.1
      rw [hnx]
      obtain ⟨t, ht, e⟩ := key0_mem hbne
      have := (hrb t ht).1
      rw [if_neg ha] at this
      omega
  have hszc : szX X1 = fun q => szX X1 q := rfl
  have hsz : ∀ x ∈ a ++ c :: b, szX X1 x.2 = szX X x.2 := fun x hx' => by unfold szX esX; rw [rdN_ext h hx (hlive x hx').1 (hlive x hx').2]
  refine ⟨uall, ⟨?_, (okC_app _ a (below ++ b) hi).2 ⟨hca, (okC_app _ below b hi).2 ⟨s.ok.2, eb.1⟩⟩⟩, ?_, ?_, ?_, ?_, ?_, ?_⟩
  · intro x hx'
    rcases List.mem_append.1 hx' with hx' | hx'
    · exact hrng x (List.mem_append_left _ hx')
    · rcases List.mem_append.1 hx' with hx' | hx'
      · have := hblo x hx'; have := (hrb x hx').2; omega
      · exact hrng x (by simp [hx'])
  · show ((a ++ (below ++ b)).flatMap fun x => lsT X1 lv x.2) = putL ((esX X p).flatMap fun x => lsT X lv x.2) z
    have hls : (below.flatMap fun x => lsT X1 lv x.2) = putL (lsT X lv c.2) z := s.ls
    rw [List.flatMap_append, List.flatMap_append, hls, ea.2, eb.2, hes, List.flatMap_append, List.flatMap_cons]
    refine putL_mid ?_ (fun y hy => ?_) (fun y hy => ?_)
    · have := lsT_up k
      unfold lsT at this
      rw [hes, List.flatMap_append, List.flatMap_cons] at this
      exact this
    · have hne : a ≠ [] := by intro e; rw [e] at hy; simp at hy
      have := pa y hy; have := hza hne; omega
    · have h3 := pb y hy
      cases b with
      | nil => simp at hy
      | cons w r => have := hzb w (by simp); simp only [nxt] at h3; omega
  · unfold szX
    rw [hes, List.length_append, List.length_append, List.length_append, List.length_cons]
    rcases s.len with e | e <;> omega
  · have hmono : ∀ x : Int × Int, x ∈ a ++ c :: b → 0 < cntT L1 (pgsT below ++ T) x.2.toNat := by
      intro x hx'
      have := (hx.kp x.2.toNat (h.live (hlive x hx').2).1).2.2
      have h2 := (hlive x hx').2
      unfold cntT at h2 ⊢
      rw [List.count_append]; omega
    intro x hx'
    rcases List.mem_append.1 hx' with hx' | hx'
    · exact ⟨hr x (List.mem_append_left _ hx'), hmono x (List.mem_append_left _ hx')⟩
    · rcases List.mem_append.1 hx' with hx' | hx'
      · have h1 := hblo x hx'
        have h2 := (hrb x hx').2
        have h3 := s.pg x hx'
        exact ⟨by omega, s.iv.mem (List.mem_append_left _ (List.mem_map_of_mem (f := fun x : Int × Int => x.2.toNat) hx'))⟩
      · exact ⟨hr x (by simp [hx']), hmono x (by simp [hx'])⟩
  · intro t ht; simp [ht]
  · intro Q hQ hf
    have hf' := (show Q ((esX X p).map fun x => szX X x.2) ∧ ∀ x ∈ esX X p, fitT X Q lv x.2 from hf)
    rw [hes] at hf'
    refine ⟨?_, fun x hx' => ?_⟩
    · have e1 : a.map (fun x => szX X1 x.2) = a.map fun x => szX X x.2 := List.map_congr_left fun x hx' => hsz x (List.mem_append_left _ hx')
      have e2 : b.map (fun x => szX X1 x.2) = b.map fun x => szX X x.2 := List.map_congr_left fun x hx' => hsz x (by simp [hx'])
      have hq := hf'.1
      rw [List.map_append, List.map_cons] at hq
      rw [List.map_append, List.map_append, e1, e2]
      rcases s.sz with ⟨t, rfl, hs⟩ | ⟨t, u, rfl, h6', hs, hs'⟩
      · simp only [List.map_cons, List.map_nil, List.cons_append, List.nil_append]
        have ht : szX X1 t.2 ≤ 6 := by
          obtain ⟨w, hw⟩ := okC_mem s.ok.2 t (by simp)
          exact hw.es.2.2.1
        rcases hs with hs | hs
        · rw [hs]; exact hq
        · rw [hs]; exact hQ.grow _ _ _ hq (by omega)
      · simp only [List.map_cons, List.map_nil, List.cons_append, List.nil_append]
        rw [hs, hs']
        rw [h6'] at hq
        exact hQ.two _ _ hq
    · rcases List.mem_append.1 hx' with hx' | hx'
      · obtain ⟨w, hw⟩ := okC_mem ca x hx'
        exact fitT.ext h hx hw (hla x hx').1 (hla x hx').2 (hf'.2 x (List.mem_append_left _ hx'))
      · rcases List.mem_append.1 hx' with hx' | hx'
        · exact s.ft Q hQ (hf'.2 c (by simp)) x hx'
        · obtain ⟨w, hw⟩ := okC_mem cb x hx'
          exact fitT.ext h hx hw (hlb x hx').1 (hlb x hx').2 (hf'.2 x (by simp [hx']))
  · rw [dfN_app, dfN_app]
    have da : dfN X1 (lv + 1) a = dfN X (lv + 1) a := dfN.ext h hx fun x hx' => ⟨fun _ => by
      obtain ⟨w, hw⟩ := okC_mem ca x hx'
      exact ⟨_, _, hw⟩, (hla x hx').1, (hla x hx').2⟩
    have db : dfN X1 (lv + 1) b = dfN X (lv + 1) b := dfN.ext h hx fun x hx' => ⟨fun _ => by
      obtain ⟨w, hw⟩ := okC_mem cb x hx'
      exact ⟨_, _, hw⟩, (hlb x hx').1, (hlb x hx').2⟩
    have dp : dfT X (lv + 1) p = dfN X (lv + 1) a + ((lackZ (szX X c.2) + dfT X lv c.2) + dfN X (lv + 1) b) := by
      rw [dfT_N, hes, dfN_app]
      show _ + (((c :: b).map _).sum) = _
      rw [List.map_cons, List.sum_cons]
      rfl
    have := s.dn
    omega
end Go.Proofs.YtmkinaijkgkgiaaGreat
