/- Texts J4, J5, J6, J7, J8, JD of the proof of TreeSplits, one behind the other. -/
import Derived.Test.YtkhdniccnefdhaaBundleTreeSplits1
import Derived.Test.YtkhdniccnefdhaaBundleTreeSplits2
import Derived.Test.YtkhdniccnefdhaaBundleTreeSplits3
import Derived.Test.YtkhdniccnefdhaaBundleTreeSplits4
import Derived.Test.YtkhdniccnefdhaaBundleTreeSplits5
import Derived.Test.YtkhdniccnefdhaaBundleTreeSplits6
import Derived.Test.YtkhdniccnefdhaaBundleTreeSplits7
import Derived.Test.YtkhdniccnefdhaaBundleTreeSplits8
import Derived.Test.YtkhdniccnefdhaaBundleTreeSplits9
import Derived.Test.YtkhdniccnefdhaaBundleTreeSplits10
import Derived.Test.YtkhdniccnefdhaaBundleTreeSplits11
import Derived.Test.YtkhdniccnefdhaaBundleTreeSplits12
import Derived.Test.YtkhdniccnefdhaaBundleTreeSplits13
import Derived.Test.YtkhdniccnefdhaaBundleTreeSplits14
/- Trees on a disk, plain: what is in them, and when a page is a tree's; no condition. -/
namespace Go.Proofs.Ytkhdniccnefdhaa
open Go.RowKit Go.Proofs.U
set_option linter.unusedSimpArgs false
set_option linter.unusedVariables false
theorem flatMap_congr {α β : Type} {f g : α → List β} : ∀ {l : List α}, (∀ x ∈ l, f x = g x) → l.flatMap f = l.flatMap g
  | [], _ => rfl
  | x :: l, h => by rw [List.flatMap_cons, List.flatMap_cons, h x (by simp), flatMap_congr fun y hy => h y (by simp [hy])]
/-- A row of children: each one's keys are from its own key on up to the next one's. -/
def okC (f : Int → Int → Int → Prop) : List (Int × Int) → Int → Prop
  | [], _ => True
  | [x], hi => f x.2 x.1 hi
  | x :: y :: r, hi => f x.2 x.1 y.1 ∧ okC f (y :: r) hi
/-- The first key of a row, or what is behind it. -/
def nxt (l : List (Int × Int)) (hi : Int) : Int := match l with | [] => hi | x :: _ => x.1
def esX (X : DSt) (p : Int) : List (Int × Int) := (rdN X p).1.es
/-- The page p is a tree, so many levels above its leaves, of keys from lo on up to hi. -/
def okT (X : DSt) : Nat → Int → Int → Int → Prop
  | 0, p, lo, hi => (rdN X p).2 = 0 ∧ (rdN X p).1.k = 2 ∧ ∀ x ∈ esX X p, lo ≤ x.1 ∧ x.1 < hi
  | lv + 1, p, lo, hi => (rdN X p).2 = 0 ∧ (rdN X p).1.k = 3 ∧ (∀ x ∈ esX X p, lo ≤ x.1 ∧ x.1 < hi) ∧ okC (okT X lv) (esX X p) hi
/-- What is in a tree. -/
def lsT (X : DSt) : Nat → Int → List (Int × Int)
  | 0, p => esX X p
  | lv + 1, p => (esX X p).flatMap fun x => lsT X lv x.2
/-- A tree's nodes. -/
def occT (X : DSt) : Nat → Int → List Int
  | 0, p => [p]
  | lv + 1, p => p :: (esX X p).flatMap fun x => occT X lv x.2
/-- Entries that may be those of a node at a level. -/
def okN (X : DSt) : Nat → List (Int × Int) → Int → Int → Prop
  | 0, es, lo, hi => ∀ x ∈ es, lo ≤ x.1 ∧ x.1 < hi
  | lv + 1, es, lo, hi => (∀ x ∈ es, lo ≤ x.1 ∧ x.1 < hi) ∧ okC (okT X lv) es hi
def lsN (X : DSt) : Nat → List (Int × Int) → List (Int × Int)
  | 0, es => es
  | lv + 1, es => es.flatMap fun x => lsT X lv x.2
def kdL (lv : Nat) : Int := if lv = 0 then 2 else 3
theorem okT_iff {X : DSt} {lv : Nat} {p lo hi : Int} : okT X lv p lo hi ↔ (rdN X p).2 = 0 ∧ (rdN X p).1.k = kdL lv ∧ okN X lv (esX X p) lo hi := by
  cases lv with
  | zero => unfold okT okN kdL; simp
  | succ lv => unfold okT okN kdL; simp
theorem okT.rd {X : DSt} {lv : Nat} {p lo hi : Int} (h : okT X lv p lo hi) : (rdN X p).2 = 0 := (okT_iff.1 h).1
theorem okT.kd {X : DSt} {lv : Nat} {p lo hi : Int} (h : okT X lv p lo hi) : (rdN X p).1.k = kdL lv := (okT_iff.1 h).2.1
theorem okT.n {X : DSt} {lv : Nat} {p lo hi : Int} (h : okT X lv p lo hi) : okN X lv (esX X p) lo hi := (okT_iff.1 h).2.2
theorem okT.es {X : DSt} {lv : Nat} {p lo hi : Int} (h : okT X lv p lo hi) : KeysUp (esX X p) ∧ 1 ≤ (esX X p).length ∧ (esX X p).length ≤ 6 ∧ ∀ x ∈ esX X p, 0 ≤ x.1 ∧ x.1 ≤ 63 ∧ 0 ≤ x.2 ∧ x.2 ≤ 239 := by
  have hk := h.kd
  have hr := right_tree (rdN_right h.rd) (by rw [hk]; unfold kdL; split <;> decide)
  refine ⟨up_rises hr.2.2.2.2, hr.2.2.1, hr.2.2.2.1, fun x hx => ?_⟩
  have := rises_all hr.2.2.2.2 (by omega) x hx
  omega
theorem okC_app (f : Int → Int → Int → Prop) : ∀ (a b : List (Int × Int)) (hi : Int), okC f (a ++ b) hi ↔ okC f a (nxt b hi) ∧ okC f b hi
  | [], b, hi => by simp [okC]
  | [x], [], hi => by simp [okC, nxt]
  | [x], y :: r, hi => by simp [okC, nxt]
  | x :: y :: r, b, hi => by
    have ih := okC_app f (y :: r) b hi
    simp only [List.cons_append, okC] at ih ⊢
    rw [ih, and_assoc]
theorem okC_mono {f g : Int → Int → Int → Prop} : ∀ {l : List (Int × Int)} {hi : Int}, (∀ x ∈ l, ∀ b, f x.2 x.1 b → g x.2 x.1 b) → okC f l hi → okC g l hi
  | [], _, _, _ => trivial
  | [x], hi, h, k => h x (by simp) hi k
  | x :: y :: r, hi, h, k => ⟨h x (by simp) y.1 k.1, okC_mono (fun z hz => h z (by simp [hz])) k.2⟩
/-- The last one's keys may end later. -/
theorem okC_hi {f : Int → Int → Int → Prop} (hf : ∀ p a b c, f p a b → b ≤ c → f p a c) : ∀ {l : List (Int × Int)} {hi hi' : Int}, hi ≤ hi' → okC f l hi → okC f l hi'
  | [], _, _, _, _ => trivial
  | [x], hi, hi', h, k => hf _ _ _ _ k h
  | x :: y :: r, hi, hi', h, k => ⟨k.1, okC_hi hf h k.2⟩
theorem okT_mono {X : DSt} : ∀ {lv : Nat} {p lo hi lo' hi' : Int}, okT X lv p lo hi → lo' ≤ lo → hi ≤ hi' → okT X lv p lo' hi'
  | 0, p, lo, hi, lo', hi', h, h1, h2 => ⟨h.1, h.2.1, fun x hx => by have := h.2.2 x hx; omega⟩
  | lv + 1, p, lo, hi, lo', hi', h, h1, h2 => ⟨h.1, h.2.1, fun x hx => by have := h.2.2.1 x hx; omega, okC_hi (f := okT X lv) (fun p a b c k hbc => okT_mono k (Int.le_refl a) hbc) h2 h.2.2.2⟩
/-- What is in a row lies where the row's keys lie, in order. -/
theorem row_rng {f : Int → Int → Int → Prop} {g : Int → List (Int × Int)} (hfg : ∀ p a b, f p a b → ∀ z ∈ g p, a ≤ z.1 ∧ z.1 < b) : ∀ {l : List (Int × Int)} {lo hi : Int}, KeysUp l → (∀ x ∈ l, lo ≤ x.1 ∧ x.1 < hi) → okC f l hi → ∀ z ∈ l.flatMap (fun x => g x.2), lo ≤ z.1 ∧ z.1 < hi
  | [], _, _, _, _, _, z, hz => by simp at hz
  | [x], lo, hi, hu, hr, h, z, hz => by
    simp at hz
    have := hfg _ _ _ h z hz
    have := hr x (by simp)
    omega
  | x :: y :: r, lo, hi, hu, hr, h, z, hz => by
    rw [List.flatMap_cons, List.mem_append] at hz
    have hx := hr x (by simp)
    have hy := hr y (by simp)
    have hxy := hu.head y (by simp)
    rcases hz with hz | hz
    · have := hfg _ _ _ h.1 z hz
      omega
    · have hyr : ∀ w ∈ y :: r, y.1 ≤ w.1 ∧ w.1 < hi := by
        intro w hw
        refine ⟨?_, (hr w (List.mem_cons_of_mem _ hw)).2⟩
        rcases List.mem_cons.1 hw with rfl | hw
        · exact Int.le_refl _
        · have := hu.tail.head w hw; omega
      have := row_rng hfg (lo := y.1) (hi := hi) hu.tail hyr h.2 z hz
      omega
theorem KeysUp.app {a b : List (Int × Int)} (ha : KeysUp a) (hb : KeysUp b) (h : ∀ x ∈ a, ∀ y ∈ b, x.1 < y.1) : KeysUp (a ++ b) := List.pairwise_append.2 ⟨ha, hb, h⟩
theorem row_up {f : Int → Int → Int → Prop} {g : Int → List (Int × Int)} (hfg : ∀ p a b, f p a b → ∀ z ∈ g p, a ≤ z.1 ∧ z.1 < b) (hup : ∀ p a b, f p a b → KeysUp (g p)) : ∀ {l : List (Int × Int)} {hi : Int}, KeysUp l → (∀ x ∈ l, x.1 < hi) → okC f l hi → KeysUp (l.flatMap fun x => g x.2)
  | [], _, _, _, _ => List.Pairwise.nil
  | [x], hi, hu, hr, h => by simpa using hup _ _ _ h
  | x :: y :: r, hi, hu, hr, h => by
    rw [List.flatMap_cons]
    refine KeysUp.app (hup _ _ _ h.1) (row_up hfg hup hu.tail (fun z hz => hr z (List.mem_cons_of_mem _ hz)) h.2) fun z hz w hw => ?_
    have h1 := hfg _ _ _ h.1 z hz
    have h2 := row_rng hfg (lo := y.1) (hi := hi) hu.tail (fun v hv => ⟨by
      rcases List.mem_cons.1 hv with rfl | hv
      · exact Int.le_refl _
      · have := hu.tail.head v hv; omega, hr v (List.mem_cons_of_mem _ hv)⟩) h.2 w hw
    omega
theorem lsT_rng {X : DSt} : ∀ {lv : Nat} {p lo hi : Int}, okT X lv p lo hi → ∀ z ∈ lsT X lv p, lo ≤ z.1 ∧ z.1 < hi
  | 0, p, lo, hi, h => h.2.2
  | lv + 1, p, lo, hi, h => row_rng (f := okT X lv) (g := lsT X lv) (fun p a b k => lsT_rng k) h.es.1 h.2.2.1 h.2.2.2
theorem lsT_up {X : DSt} : ∀ {lv : Nat} {p lo hi : Int}, okT X lv p lo hi → KeysUp (lsT X lv p)
  | 0, p, lo, hi, h => h.es.1
  | lv + 1, p, lo, hi, h => row_up (f := okT X lv) (g := lsT X lv) (fun p a b k => lsT_rng k) (fun p a b k => lsT_up k) h.es.1 (fun x hx => (h.2.2.1 x hx).2) h.2.2.2
/-- Each child of a row is a tree. -/
theorem okC_mem {f : Int → Int → Int → Prop} : ∀ {l : List (Int × Int)} {hi : Int}, okC f l hi → ∀ x ∈ l, ∃ b, f x.2 x.1 b
  | [x], hi, h, z, hz => by simp at hz; subst hz; exact ⟨hi, h⟩
  | x :: y :: r, hi, h, z, hz => by
    rcases List.mem_cons.1 hz with rfl | hz
    · exact ⟨y.1, h.1⟩
    · exact okC_mem h.2 z hz
theorem okT.child {X : DSt} {lv : Nat} {p lo hi : Int} (h : okT X (lv + 1) p lo hi) : ∀ x ∈ esX X p, ∃ b, okT X lv x.2 x.1 b := okC_mem h.2.2.2
/-- Where the nodes stay, the tree stays. -/
theorem okT_congr {X X' : DSt} : ∀ {lv : Nat} {p lo hi : Int}, okT X lv p lo hi → (∀ q ∈ occT X lv p, rdN X' q = rdN X q) → okT X' lv p lo hi ∧ lsT X' lv p = lsT X lv p ∧ occT X' lv p = occT X lv p
  | 0, p, lo, hi, h, hq => by
    have e := hq p (by simp [occT])
    unfold okT lsT occT esX
    rw [e]
    exact ⟨h, rfl, rfl⟩
  | lv + 1, p, lo, hi, h, hq => by
    have e := hq p (by simp [occT])
    have hes : esX X' p = esX X p := by unfold esX; rw [e]
    have hx : ∀ x ∈ esX X p, ∀ b, okT X lv x.2 x.1 b → okT X' lv x.2 x.1 b ∧ lsT X' lv x.2 = lsT X lv x.2 ∧ occT X' lv x.2 = occT X lv x.2 := fun x hx b hb =>
      okT_congr hb fun q hq' => hq q (by
        unfold occT
        exact List.mem_cons_of_mem _ (List.mem_flatMap.2 ⟨x, hx, hq'⟩))
    have hc := h.child
    refine ⟨⟨by rw [e]; exact h.1, by rw [e]; exact h.2.1, by rw [hes]; exact h.2.2.1, ?_⟩, ?_, ?_⟩
    · rw [hes]; exact okC_mono (fun x hx' b hb => (hx x hx' b hb).1) h.2.2.2
    · unfold lsT
      rw [hes]
      refine flatMap_congr fun x hx' => ?_
      obtain ⟨b, hb⟩ := hc x hx'
      exact (hx x hx' b hb).2.1
    · unfold occT
      rw [hes]
      congr 1
      refine flatMap_congr fun x hx' => ?_
      obtain ⟨b, hb⟩ := hc x hx'
      exact (hx x hx' b hb).2.2
/-- A tree's nodes are there, if its root is. -/
theorem occT_live {X : DSt} {L : List Pg} {R : List Int} {T : List Nat} (h : InvT X L R T) : ∀ {lv : Nat} {p lo hi : Int}, okT X lv p lo hi → 0 ≤ p → 0 < cntT L T p.toNat → ∀ q ∈ occT X lv p, 0 ≤ q ∧ 0 < cntT L T q.toNat
  | 0, p, lo, hi, k, h0, hp, q, hq => by simp [occT] at hq; subst hq; exact ⟨h0, hp⟩
  | lv + 1, p, lo, hi, k, h0, hp, q, hq => by
    unfold occT at hq
    rcases List.mem_cons.1 hq with rfl | hq
    · exact ⟨h0, hp⟩
    · obtain ⟨x, hx, hq⟩ := List.mem_flatMap.1 hq
      obtain ⟨b, hb⟩ := k.child x hx
      have hk := h.kid h0 hp x.2 (by unfold kids; exact List.mem_map_of_mem hx)
      exact occT_live h hb hk.1 hk.2.2 q hq
theorem okT.ext {X X' : DSt} {L L' : List Pg} {R : List Int} {T : List Nat} (h : InvT X L R T) (hx : Ext X L X' L') {lv : Nat} {p lo hi : Int} (k : okT X lv p lo hi) (h0 : 0 ≤ p) (hp : 0 < cntT L T p.toNat) : okT X' lv p lo hi ∧ lsT X' lv p = lsT X lv p ∧ occT X' lv p = occT X lv p :=
  okT_congr k fun q hq => by
    obtain ⟨q0, ql⟩ := occT_live h k h0 hp q hq
    have := (hx.kp q.toNat (h.live ql).1).1
    rwa [Int.toNat_of_nonneg q0] at this
end Go.Proofs.Ytkhdniccnefdhaa
/- Where a key is in a row, and what becomes of a row into which an entry is put, plain; no condition. -/
namespace Go.Proofs.Ytkhdniccnefdhaa
open Go.RowKit Go.Proofs.U
set_option linter.unusedSimpArgs false
set_option linter.unusedVariables false
theorem AtIs.none {l : List (Int × Int)} {key : Int} (h : AtIs l key (-1)) : ∀ y ∈ l, key < y.1 := by
  intro y hy
  obtain ⟨j, hj, rfl⟩ := List.mem_iff_getElem.1 hy
  exact (h.2.2 j hj).1 (by omega)
theorem AtIs.some {l : List (Int × Int)} {key i : Int} (h : AtIs l key i) (hi : ¬ i = -1) : ∃ (k : Nat) (hk : k < l.length), i = (k : Int) ∧ l = l.take k ++ l[k] :: l.drop (k + 1) ∧ l[k].1 ≤ key ∧ ∀ y ∈ l.drop (k + 1), key < y.1 := by
  obtain ⟨h0, h1, h2⟩ := h
  refine ⟨i.toNat, by omega, by omega, by rw [List.getElem_cons_drop, List.take_append_drop], (h2 i.toNat (by omega)).2 (by omega), fun y hy => ?_⟩
  obtain ⟨j, hj, rfl⟩ := List.mem_iff_getElem.1 hy
  rw [List.getElem_drop]
  rw [List.length_drop] at hj
  exact (h2 (i.toNat + 1 + j) (by omega)).1 (by omega)
theorem findL_right {A B : List (Int × Int)} {k : Int} (h : ∀ z ∈ A, ¬ z.1 = k) : findL (A ++ B) k = findL B k := by
  unfold findL
  rw [List.find?_append]
  have : A.find? (fun y => y.1 == k) = none := List.find?_eq_none.2 fun z hz => by simpa using h z hz
  rw [this]; rfl
theorem findL_left {A B : List (Int × Int)} {k : Int} (h : ∀ z ∈ B, ¬ z.1 = k) : findL (A ++ B) k = findL A k := by
  unfold findL
  rw [List.find?_append]
  have : B.find? (fun y => y.1 == k) = none := List.find?_eq_none.2 fun z hz => by simpa using h z hz
  rw [this]
  cases A.find? (fun y => y.1 == k) <;> rfl
theorem KeysUp.split {a b : List (Int × Int)} {x : Int × Int} (h : KeysUp (a ++ x :: b)) : KeysUp a ∧ KeysUp b ∧ (∀ y ∈ a, y.1 < x.1) ∧ (∀ y ∈ b, x.1 < y.1) ∧ ∀ y ∈ a, ∀ z ∈ b, y.1 < z.1 := by
  obtain ⟨ha, hxb, hab⟩ := List.pairwise_append.1 h
  exact ⟨ha, KeysUp.tail hxb, fun y hy => hab y hy x (by simp), KeysUp.head hxb, fun y hy z hz => hab y hy z (by simp [hz])⟩
section
variable {f : Int → Int → Int → Prop} {g : Int → List (Int × Int)}
/-- What is ahead of a child lies below its key; what is behind, at or above what is next. -/
theorem row_parts (hfg : ∀ p a b, f p a b → ∀ z ∈ g p, a ≤ z.1 ∧ z.1 < b) {a b : List (Int × Int)} {x : Int × Int} {hi : Int} (hu : KeysUp (a ++ x :: b)) (hr : ∀ y ∈ a ++ x :: b, y.1 < hi) (h : okC f (a ++ x :: b) hi) :
    (∀ z ∈ a.flatMap fun y => g y.2, z.1 < x.1) ∧ (∀ z ∈ g x.2, x.1 ≤ z.1 ∧ z.1 < nxt b hi) ∧ (∀ z ∈ b.flatMap fun y => g y.2, nxt b hi ≤ z.1) ∧ f x.2 x.1 (nxt b hi) := by
  obtain ⟨ua, ub, hax, hxb, hab⟩ := hu.split
  obtain ⟨ca, cxb⟩ := (okC_app f a (x :: b) hi).1 h
  obtain ⟨cx, cb⟩ := (okC_app f [x] b hi).1 cxb
  have cx : f x.2 x.1 (nxt b hi) := cx
  refine ⟨fun z hz => ?_, hfg _ _ _ cx, fun z hz => ?_, cx⟩
  · cases a with
    | nil => simp at hz
    | cons y a =>
      exact (row_rng hfg (lo := y.1) (hi := x.1) ua (fun w hw => ⟨by
        rcases List.mem_cons.1 hw with rfl | hw
        · exact Int.le_refl _
        · have := ua.head w hw; omega, hax w hw⟩) ca z hz).2
  · cases b with
    | nil => simp at hz
    | cons y b =>
      exact (row_rng hfg (lo := y.1) (hi := hi) ub (fun w hw => ⟨by
        rcases List.mem_cons.1 hw with rfl | hw
        · exact Int.le_refl _
        · have := ub.head w hw; omega, hr w (by
            rcases List.mem_cons.1 hw with rfl | hw
            · simp
            · simp [hw])⟩) cb z hz).1
theorem find_row (hfg : ∀ p a b, f p a b → ∀ z ∈ g p, a ≤ z.1 ∧ z.1 < b) {a b : List (Int × Int)} {x : Int × Int} {hi key : Int} (hu : KeysUp (a ++ x :: b)) (hr : ∀ y ∈ a ++ x :: b, y.1 < hi) (h : okC f (a ++ x :: b) hi) (hx : x.1 ≤ key) (hb : ∀ y ∈ b, key < y.1) :
    findL ((a ++ x :: b).flatMap fun y => g y.2) key = findL (g x.2) key := by
  obtain ⟨h1, h2, h3, _⟩ := row_parts hfg hu hr h
  rw [List.flatMap_append, List.flatMap_cons, findL_right (fun z hz => by have := h1 z hz; omega), findL_left]
  intro z hz
  cases b with
  | nil => simp at hz
  | cons y b =>
    have := h3 z hz
    have := hb y (by simp)
    simp only [nxt] at *
    omega
theorem miss_row (hfg : ∀ p a b, f p a b → ∀ z ∈ g p, a ≤ z.1 ∧ z.1 < b) {l : List (Int × Int)} {hi key : Int} (hu : KeysUp l) (hr : ∀ y ∈ l, y.1 < hi) (h : okC f l hi) (hb : ∀ y ∈ l, key < y.1) :
    findL (l.flatMap fun y => g y.2) key = -1 := by
  refine findL_none fun z hz => ?_
  have := (row_rng hfg (lo := key + 1) (hi := hi) hu (fun w hw => ⟨by have := hb w hw; omega, hr w hw⟩) h z hz).1
  omega
end
/-- Find in a leaf, and in an inner node, by the place of the key. -/
theorem find_leaf {l : List (Int × Int)} (hu : KeysUp l) {key i : Int} (h : AtIs l key i) : findL l key = if i = -1 then -1 else if (l.getD i.toNat (0, 0)).1 = key then (l.getD i.toNat (0, 0)).2 else -1 := by
  by_cases hi : i = -1
  · rw [if_pos hi]
    subst hi
    exact findL_none fun z hz => by have := h.none z hz; omega
  · rw [if_neg hi]
    obtain ⟨k, hk, rfl, hl, hle, hb⟩ := h.some hi
    have hg : l.getD ((k : Int).toNat) (0, 0) = l[k] := by rw [Int.toNat_natCast]; simp [List.getD, hk]
    rw [hg]
    by_cases e : l[k].1 = key
    · rw [if_pos e, ← e]
      exact findL_some hu (by simp)
    · rw [if_neg e]
      rw [hl] at hu
      obtain ⟨_, _, ha, _⟩ := hu.split
      refine findL_none fun z hz => ?_
      rw [hl] at hz
      rcases List.mem_append.1 hz with hz | hz
      · have := ha z hz; omega
      · rcases List.mem_cons.1 hz with rfl | hz
        · exact e
        · have := hb z hz; omega
theorem okT.find {X : DSt} {lv : Nat} {p lo hi key : Int} (h : okT X (lv + 1) p lo hi) {k : Nat} (hk : k < (esX X p).length) (hl : esX X p = (esX X p).take k ++ (esX X p)[k] :: (esX X p).drop (k + 1)) (hle : (esX X p)[k].1 ≤ key) (hb : ∀ y ∈ (esX X p).drop (k + 1), key < y.1) :
    findL (lsT X (lv + 1) p) key = findL (lsT X lv (esX X p)[k].2) key := by
  have key' := find_row (f := okT X lv) (g := lsT X lv) (hi := hi) (fun p a b k => lsT_rng k) (a := (esX X p).take k) (x := (esX X p)[k]) (b := (esX X p).drop (k + 1)) (by rw [← hl]; exact h.es.1) (by rw [← hl]; exact fun y hy => (h.2.2.1 y hy).2) (by rw [← hl]; exact h.2.2.2) hle hb
  rw [← hl] at key'
  exact key'
theorem okT.miss {X : DSt} {lv : Nat} {p lo hi key : Int} (h : okT X lv p lo hi) (hb : ∀ y ∈ esX X p, key < y.1) : findL (lsT X lv p) key = -1 := by
  cases lv with
  | zero => exact findL_none fun z hz => by have := hb z hz; omega
  | succ lv => exact miss_row (f := okT X lv) (g := lsT X lv) (fun p a b k => lsT_rng k) h.es.1 (fun y hy => (h.2.2.1 y hy).2) h.2.2.2 hb
/-- A leaf's entries and one more, or one in another's place, as the program lays them. -/
def withL (l : List (Int × Int)) (x : Int × Int) (i : Int) : List (Int × Int) :=
  if ¬ i = -1 ∧ (l.getD i.toNat (0, 0)).1 = x.1 then l.set i.toNat x else l.take (i + 1).toNat ++ x :: l.drop (i + 1).toNat
end Go.Proofs.Ytkhdniccnefdhaa
/- A key is put into a tree: what is made, level by level, plain; no condition. -/
namespace Go.Proofs.Ytkhdniccnefdhaa
open Go.RowKit Go.Proofs.U
set_option linter.unusedSimpArgs false
set_option linter.unusedVariables false
/-- How many entries a node has. -/
def szX (X : DSt) (p : Int) : Nat := (esX X p).length
/-- What the sizes of a node's children may be, all the way down. -/
def fitT (X : DSt) (Q : List Nat → Prop) : Nat → Int → Prop
  | 0, _ => True
  | lv + 1, p => Q ((esX X p).map fun x => szX X x.2) ∧ ∀ x ∈ esX X p, fitT X Q lv x.2
def fitN (X : DSt) (Q : List Nat → Prop) : Nat → List (Int × Int) → Prop
  | 0, _ => True
  | lv + 1, es => Q (es.map fun x => szX X x.2) ∧ ∀ x ∈ es, fitT X Q lv x.2
/-- Sizes that stay what they may be, when a child grows, or is split. -/
structure QOk (Q : List Nat → Prop) : Prop where
  grow : ∀ a c b, Q (a ++ c :: b) → c ≤ 5 → Q (a ++ (c + 1) :: b)
  two : ∀ a b, Q (a ++ 6 :: b) → Q (a ++ 3 :: 4 :: b)
  cut : ∀ l, Q l → l.length = 7 → Q (l.take 3) ∧ Q (l.drop 3)
theorem fitT_congr {X X' : DSt} {Q : List Nat → Prop} : ∀ {lv : Nat} {p lo hi : Int}, okT X lv p lo hi → (∀ q ∈ occT X lv p, rdN X' q = rdN X q) → fitT X Q lv p → fitT X' Q lv p
  | 0, p, lo, hi, h, hq, _ => trivial
  | lv + 1, p, lo, hi, h, hq, k => by
    have hes : esX X' p = esX X p := by unfold esX; rw [hq p (by simp [occT])]
    have hin : ∀ x ∈ esX X p, ∀ q ∈ occT X lv x.2, rdN X' q = rdN X q := fun x hx q hq' => hq q (by
      unfold occT
      exact List.mem_cons_of_mem _ (List.mem_flatMap.2 ⟨x, hx, hq'⟩))
    refine ⟨?_, fun x hx => ?_⟩
    · rw [hes]
      have e : (esX X p).map (fun x => szX X' x.2) = (esX X p).map fun x => szX X x.2 := List.map_congr_left fun x hx => by
        unfold szX esX
        rw [hin x hx x.2 (by cases lv <;> simp [occT])]
      rw [e]
      exact k.1
    · rw [hes] at hx
      obtain ⟨b, hb⟩ := h.child x hx
      exact fitT_congr hb (hin x hx) (k.2 x hx)
theorem fitT.ext {X X' : DSt} {L L' : List Pg} {R : List Int} {T : List Nat} (h : InvT X L R T) (hx : Ext X L X' L') {lv : Nat} {p lo hi : Int} (k : okT X lv p lo hi) (h0 : 0 ≤ p) (hp : 0 < cntT L T p.toNat) {Q : List Nat → Prop} (hf : fitT X Q lv p) : fitT X' Q lv p :=
  fitT_congr k (fun q hq => by
    obtain ⟨q0, ql⟩ := occT_live h k h0 hp q hq
    have := (hx.kp q.toNat (h.live ql).1).1
    rwa [Int.toNat_of_nonneg q0] at this) hf
theorem rdN_ext {X X' : DSt} {L L' : List Pg} {R : List Int} {T : List Nat} (h : InvT X L R T) (hx : Ext X L X' L') {p : Int} (h0 : 0 ≤ p) (hp : 0 < cntT L T p.toNat) : rdN X' p = rdN X p := by
  have := (hx.kp p.toNat (h.live hp).1).1
  rwa [Int.toNat_of_nonneg h0] at this
/-- Entries of a node, as what they stand for stays. -/
theorem okN.ext {X X' : DSt} {L L' : List Pg} {R : List Int} {T : List Nat} (h : InvT X L R T) (hx : Ext X L X' L') : ∀ {lv : Nat} {es : List (Int × Int)} {lo hi : Int}, okN X lv es lo hi → (∀ x ∈ es, 0 ≤ x.2 ∧ 0 < cntT L T x.2.toNat) →
    okN X' lv es lo hi ∧ lsN X' lv es = lsN X lv es ∧ ∀ Q, fitN X Q lv es → fitN X' Q lv es
  | 0, es, lo, hi, k, _ => ⟨k, rfl, fun _ _ => trivial⟩
  | lv + 1, es, lo, hi, k, hl => by
    have hc := okC_mem k.2
    refine ⟨⟨k.1, okC_mono (fun x hx' b hb => (okT.ext h hx hb (hl x hx').1 (hl x hx').2).1) k.2⟩, flatMap_congr fun x hx' => ?_, fun Q hf => ⟨?_, fun x hx' => ?_⟩⟩
    · obtain ⟨b, hb⟩ := hc x hx'
      exact (okT.ext h hx hb (hl x hx').1 (hl x hx').2).2.1
    · have e : es.map (fun x => szX X' x.2) = es.map fun x => szX X x.2 := List.map_congr_left fun x hx' => by
        unfold szX esX
        rw [rdN_ext h hx (hl x hx').1 (hl x hx').2]
      rw [e]
      exact hf.1
    · obtain ⟨b, hb⟩ := hc x hx'
      exact fitT.ext h hx hb (hl x hx').1 (hl x hx').2 (hf.2 x hx')
theorem okN_lo {X : DSt} {lv : Nat} {es : List (Int × Int)} {lo lo' hi : Int} (h : okN X lv es lo hi) (hl : ∀ x ∈ es, lo' ≤ x.1) : okN X lv es lo' hi := by
  cases lv with
  | zero => exact fun x hx => ⟨hl x hx, (h x hx).2⟩
  | succ lv => exact ⟨fun x hx => ⟨hl x hx, (h.1 x hx).2⟩, h.2⟩
theorem key0_le {es : List (Int × Int)} (hu : KeysUp es) : ∀ x ∈ es, key0 es ≤ x.1 := by
  intro x hx
  cases es with
  | nil => cases hx
  | cons y r =>
    rcases List.mem_cons.1 hx with rfl | hx
    · exact Int.le_refl _
    · have := hu.head x hx; unfold key0; simp; omega
theorem NewN.tree {X' : DSt} {L : List Pg} {p : Int} {lv : Nat} {es : List (Int × Int)} {lo hi : Int} (h : NewN X' L p (kdL lv) es) (hn : okN X' lv es lo hi) (hu : KeysUp es) : okT X' lv p (key0 es) hi ∧ esX X' p = es := by
  have e : esX X' p = es := by unfold esX; rw [h.rd]
  refine ⟨okT_iff.2 ⟨by rw [h.rd], by rw [h.rd], ?_⟩, e⟩
  rw [e]
  exact okN_lo hn (key0_le hu)
/-- Entries that were put into nodes: a row of nodes. -/
structure RowIs (X : DSt) (lv : Nat) (es : List (Int × Int)) (lo hi : Int) (X' : DSt) (tops : List (Int × Int)) : Prop where
  up : KeysUp tops
  ok : okN X' (lv + 1) tops lo hi
  ls : lsN X' (lv + 1) tops = lsN X lv es
  pg : ∀ t ∈ tops, 0 ≤ t.2 ∧ t.2 ≤ 239
  sz : (∃ t, tops = [t] ∧ szX X' t.2 = es.length ∧ es.length ≤ 6) ∨ (∃ t u, tops = [t, u] ∧ es.length = 7 ∧ szX X' t.2 = 3 ∧ szX X' u.2 = 4)
  ft : ∀ Q, QOk Q → fitN X Q lv es → ∀ t ∈ tops, fitT X' Q lv t.2
end Go.Proofs.Ytkhdniccnefdhaa
/- Put, plain: of a leaf, of an inner node, of a root; no condition. -/
namespace Go.Proofs.Ytkhdniccnefdhaa
open Go.RowKit Go.Proofs.U
set_option linter.unusedSimpArgs false
set_option linter.unusedVariables false
/-- What is made in the place of a node by a put. -/
structure PutIs (X : DSt) (L : List Pg) (R : List Int) (T : List Nat) (lv : Nat) (p lo hi : Int) (z : Int × Int) (X' : DSt) (L' : List Pg) (tops : List (Int × Int)) : Prop where
  iv : InvT X' L' R (pgsT tops ++ T)
  up : KeysUp tops
  ok : okN X' (lv + 1) tops lo hi
  ls : lsN X' (lv + 1) tops = putL (lsT X lv p) z
  pg : ∀ t ∈ tops, 0 ≤ t.2 ∧ t.2 ≤ 239
  fr : plFree L ≤ plFree L' + 2 * (lv + 1)
  ct : ∀ q, cntL L' q ≤ cntL L q + 7 * (lv + 1)
  sz : (∃ t, tops = [t] ∧ (szX X' t.2 = szX X p ∨ szX X' t.2 = szX X p + 1)) ∨ (∃ t u, tops = [t, u] ∧ szX X p = 6 ∧ szX X' t.2 = 3 ∧ szX X' u.2 = 4)
  ft : ∀ Q, QOk Q → fitT X Q lv p → ∀ t ∈ tops, fitT X' Q lv t.2
/-- What comes of a put below a node, with an error or without. -/
structure PutE (X : DSt) (L : List Pg) (R : List Int) (T : List Nat) (lv : Nat) (p lo hi : Int) (z : Int × Int) (X' : DSt) (L' : List Pg) (tops : List (Int × Int)) (e : Int) : Prop where
  ext : Ext X L X' L'
  er : e = 0 ∨ e = 71 ∨ e = 72
  e71 : e = 71 → plFree L < 2 * (lv + 1)
  e72 : e = 72 → ¬ ∀ q, cntL L q + 7 * (lv + 1) ≤ 255
  no : ¬ e = 0 → tops = []
  ys : e = 0 → PutIs X L R T lv p lo hi z X' L' tops
theorem PutIs.len {X : DSt} {L : List Pg} {R : List Int} {T : List Nat} {lv : Nat} {p lo hi : Int} {z : Int × Int} {X' : DSt} {L' : List Pg} {tops : List (Int × Int)} (h : PutIs X L R T lv p lo hi z X' L' tops) : tops.length = 1 ∨ tops.length = 2 := by
  rcases h.sz with ⟨t, rfl, _⟩ | ⟨t, u, rfl, _⟩
  · exact Or.inl rfl
  · exact Or.inr rfl
/-- The entries of a node in which one child is made anew. -/
structure InnerIs (X : DSt) (L : List Pg) (T : List Nat) (lv : Nat) (p lo hi : Int) (z : Int × Int) (X1 : DSt) (L1 : List Pg) (below es : List (Int × Int)) : Prop where
  up : KeysUp es
  ok : okN X1 (lv + 1) es lo hi
  ls : lsN X1 (lv + 1) es = putL (lsT X (lv + 1) p) z
  ln : es.length = szX X p ∨ es.length = szX X p + 1
  mem : ∀ x ∈ es, (0 ≤ x.1 ∧ x.1 ≤ 63 ∧ 0 ≤ x.2 ∧ x.2 ≤ 239) ∧ 0 < cntT L1 (pgsT below ++ T) x.2.toNat
  sub : ∀ t ∈ below, t ∈ es
  ft : ∀ Q, QOk Q → fitT X Q (lv + 1) p → fitN X1 Q (lv + 1) es
end Go.Proofs.Ytkhdniccnefdhaa
/- Put of an inner node and of a root; Swap; plain, no condition. -/
namespace Go.Proofs.Ytkhdniccnefdhaa
open Go.RowKit Go.Proofs.U
set_option linter.unusedSimpArgs false
set_option linter.unusedVariables false
theorem cnt_le (l : List (Int × Int)) (q : Int) : (l.map (·.2)).count q ≤ l.length := by
  have := List.count_le_length (a := q) (l := l.map (·.2)); rwa [List.length_map] at this
theorem PutE.fail {X : DSt} {L : List Pg} {R : List Int} {T : List Nat} {lv : Nat} {p lo hi c clo chi : Int} {z : Int × Int} {X' : DSt} {L' : List Pg} {tops : List (Int × Int)} {e : Int} (h : PutE X L R T lv c clo chi z X' L' tops e) (he : ¬ e = 0) : PutE X L R T (lv + 1) p lo hi z X' L' [] e :=
  ⟨h.ext, h.er, fun q => by have := h.e71 q; omega, fun q hc => h.e72 q fun x => by have := hc x; omega, fun _ => rfl, fun q => absurd q he⟩
/-- A tree with what is in it, its root any page that is a tree of all keys. -/
structure TreeAt (X : DSt) (Q : List Nat → Prop) (lv : Nat) (p : Int) (l : List (Int × Int)) : Prop where
  ok : okT X lv p 0 64
  ls : lsT X lv p = l
  rt : lv = 0 ∨ 2 ≤ szX X p
  ft : fitT X Q lv p
/-- What comes of Put: h is the elder tree's height. -/
structure PutR (X : DSt) (L : List Pg) (R : List Int) (T : List Nat) (Q : List Nat → Prop) (h : Nat) (l : List (Int × Int)) (X' : DSt) (L' : List Pg) (p' e : Int) : Prop where
  ext : Ext X L X' L'
  er : e = 0 ∨ e = 71 ∨ e = 72
  e71 : e = 71 → plFree L < 2 * h + 1
  e72 : e = 72 → ¬ ∀ q, cntL L q + (7 * h + 7) ≤ 255
  no : ¬ e = 0 → p' = -1
  p0 : e = 0 → 0 ≤ p'
  ys : e = 0 → ∃ lv, lv ≤ h ∧ InvT X' L' R (p'.toNat :: T) ∧ TreeAt X' Q lv p' l
  fr : e = 0 → plFree L ≤ plFree L' + (2 * h + 1)
  ct : e = 0 → ∀ q, cntL L' q ≤ cntL L q + (7 * h + 7)
/-- Of None. -/
theorem put_none {X : DSt} {L : List Pg} {R : List Int} {T : List Nat} {m : Nat} {Q : List Nat → Prop} {z : Int × Int} (h : InvT X L R T) (hU : Up X L.length m) (hz : 0 ≤ z.1 ∧ z.1 ≤ 63) (hz2 : 0 ≤ z.2 ∧ 0 < cntT L T z.2.toNat) :
    ∃ X' L' tops e, splF (X, L) 2 [z] = ((X', L'), tops, e) ∧ Up X' L'.length (m + 2) ∧ tops.length ≤ 1 ∧ (e = 0 → tops.length = 1) ∧ PutR X L R T Q 0 [z] X' L' (if e = 0 then (tops.getD 0 (0, 0)).2 else -1) e := by
  have hz239 : z.2 ≤ 239 := by have := h.low hz2.2; omega
  obtain ⟨X', L', tops, e, em, hx, hup, he, h71, h72, hno, hys⟩ := split_T (es := [z]) h hU (Or.inl rfl) (by simp) (by simp) (by simp [KeysUp]) (by
    intro x hx; simp at hx; subst hx
    exact ⟨⟨hz.1, hz.2, hz2.1, hz239⟩, hz2.2⟩)
  by_cases e0 : e = 0
  · subst e0
    have s := hys rfl
    rcases s.ways with ⟨_, p, rfl, hN, hfr⟩ | ⟨h6, _⟩
    · have hn : okN X' 0 [z] 0 64 := by intro x hx; simp at hx; subst hx; omega
      obtain ⟨tr, te⟩ := NewN.tree (lv := 0) hN hn (by simp [KeysUp])
      refine ⟨X', L', _, 0, em, hup, by simp, fun _ => rfl, ?_⟩
      rw [if_pos rfl]
      refine ⟨hx, he, fun q => absurd q (by decide), fun q => absurd q (by decide), fun q => absurd rfl q, fun _ => hN.p0, fun _ => ⟨0, Nat.le_refl _, s.iv, okT_mono tr hz.1 (Int.le_refl _), te, Or.inl rfl, trivial⟩, fun _ => by omega, fun _ q => ?_⟩
      rw [s.ct q]
      have := cnt_le [z] (q : Int)
      simp only [List.length_cons, List.length_nil] at this
      omega
    · simp at h6
  · have := hno e0
    subst this
    refine ⟨X', L', [], e, em, hup, by simp, fun q => absurd q e0, ?_⟩
    rw [if_neg e0]
    refine ⟨hx, he, fun q => ?_, fun q hc => h72 q fun x => ?_, fun _ => rfl, fun q => absurd q e0, fun q => absurd q e0, fun q => absurd q e0, fun q => absurd q e0⟩
    · have := (h71 q).2 (by simp); omega
    · have := hc x; simp only [List.length_cons, List.length_nil]; omega
theorem PlY.drop {X : DSt} (n : Nat) {L : List Pg} (p : Int) (h : PlY L) : PlY (dropF X n L p).1 := by
  refine dropF_inv (I := PlY) (fun M q y => ?_) n L p h
  cases hh : plHeld M q with
  | false => rw [plDrop_not hh]; exact y
  | true =>
    obtain ⟨j, rfl, hj⟩ := plHeld_in hh
    intro i
    by_cases hc : 1 < (plAt M j).c
    · rw [plDrop_less hh hc]
      simp only
      rw [plAt_set _ _ _ _ hj]
      split
      · rename_i e; subst e
        rcases y i with y | ⟨_, yc⟩
        · exact Or.inl y
        · omega
      · exact y i
    · rw [plDrop_up hh hc]
      simp only
      rw [plAt_set _ _ _ _ hj]
      split
      · rename_i e; subst e
        rcases y i with y | ⟨ys, yc⟩
        · refine Or.inr ⟨?_, rfl⟩; simp only; rw [y]; rfl
        · unfold plHeld Pg.held at hh
          rw [Int.toNat_natCast, ys, yc] at hh
          simp at hh
      · exact y i
end Go.Proofs.Ytkhdniccnefdhaa
/- Trees in memory: open, with, parts; no condition. -/
namespace Go.Proofs.Ytkhdniccnefdhaa
open Go.RowKit Go.Proofs.U
set_option linter.unusedSimpArgs false
set_option linter.unusedVariables false
/-- A tree's receiver: its store. -/
abbrev trV (gs : Nat) : Value := .agg #[ptr gs]
def leaf0 : Nd := ⟨2, zerB 16, []⟩
theorem tr_cell {w : World} {g gs : Nat} (h : BxV w g 25 [ptr gs]) : w.cell? ⟨g, 0, none⟩ = some (ptr gs) := (h.cell 0 _ rfl).1
theorem tr_size : (Try.prog.info? 25).map (·.size) = some 1 := by kernel_rfl
theorem tr_struct : Try.prog.underlying 25 = some (.struct (Try.prog.fieldsOf 25)) := by kernel_rfl
theorem run_ldT {w : World} {g gs : Nat} (h : BxV w g 25 [ptr gs]) : (Instr.loadAt 25 (.pointer (some ⟨g, 0, none⟩))).run Try.prog w = .ok (trV gs) w := by
  have := run_loadVar_mid (P := Try.prog) w g 0 25 [ptr gs] _ (h.range 0 _ rfl) tr_struct rfl tr_size
  simpa [Instr.loadAt, Instr.sureAddr, Result.andThen, trV] using this
theorem wpList_ldT {w : World} {ops : Array Oper} {rest : List Oper} {o : Oper} {a : Act} {Q : Exit → Act → World → Prop} (hgd : Region.wanted o (yielded ops a.tmps) = true) (y : Operand) (ho : o.op = .load 25 y) (g : Nat) (hy : a.eval y = .pointer (some ⟨g, 0, none⟩)) (gs : Nat) (hB : BxV w g 25 [ptr gs])
    (h : wpList Try.prog ops Q rest (a.put o.dst (trV gs)) w) : wpList Try.prog ops Q (o :: rest) a w := by
  refine wpList_wanted hgd fun K hK => ?_
  have hr := run_ldT hB
  unfold Oper.wp
  simp [execOp, ho, hy, hr, Result.andThen]
  exact hK _ _ h
set_option maxRecDepth 100000 in
set_option maxHeartbeats 1000000 in
theorem open_none (gs : Nat) (d : Int) (w : World) :
    Calls Try.prog 45 #[trV gs, .int .i64 (-1), .int .i64 d] w fun r w' => NOpenO w w' (leaf0, 0) r := by
  go_enter Try.func45, Try.ntmps45
  go_wp2_with (first
    | (with_reducible refine at_wpP ?_; refine wpList_boxG rfl 25 _ rfl (trV gs) [ptr gs] rfl rfl ?_; intro g3 w3 hg3 b3 f3 s3; have l3 := b3.lt; have z3 := f3.size)
    | (with_reducible refine at_wpP ?_; refine wpList_allocN rfl rfl ?_; intro g6 w6 hg6 b6 f6 s6; have l6 := b6.lt; have z6 := f6.size)
    | (with_reducible refine at_wpP ?_; refine wpList_bldN rfl _ rfl 2 (zerB 16) nilS [(0, .int .i64 2)] rfl (built_ndK 2) ?_)
    | (with_reducible refine at_wpP ?_; refine at_st 47 _ _ rfl ?_; go_must (refine wpList_stN rfl _ _ rfl g6 rfl 2 (zerB 16) nilS rfl (zerB_len 16) ⟨_, _, _, rfl⟩ 0 (zerB 16) nilS b6 (zerB_len 16) ?_; intro w7 b7 f7)))
  have F7 : Fr noB w w7 := (f3.thenN f6).thenT f7 (fun i hi q => by unfold onB1 at q; omega)
  exact bodyPost_ret (results_nd2 Try.results45 _ w7 g6 2 (zerB 16) nilS rfl b7 (zerB_len 16)) rfl ⟨nilS, rfl, ⟨⟨⟨by simp [leaf0], Sl.nil w7 2⟩, by simp [leaf0]⟩, ⟨zerB_len 16, zerB_byt 16⟩, by simp [leaf0], rfl⟩, (fun k hk => by cases hk), F7, OwnR.none _ _⟩
set_option maxRecDepth 100000 in
set_option maxHeartbeats 1000000 in
theorem open_at {F : Nat → Prop} {gs gp : Nat} {X : DSt} {L : List Pg} {m : Nat} {N : Nd} (p d : Int) (w : World) (h : Sto w F gs gp X L m) (hm : m ≤ 100000) (hp : ¬ p = -1) (hd : d < 8) (he : getF X L p = (N, 0)) (hk : ¬ N.k = 1) :
    Calls Try.prog 45 #[trV gs, .int .i64 p, .int .i64 d] w fun r w' => NOpenO w w' (N, 0) r := by
  have hG := fun W (f : Fr noB w W) => nget_own p W (h.fr0 f) hm
  rw [he] at hG
  have hp1 : (p == -1) = false := by simpa using hp
  have hd1 : decide ((8 : Int) ≤ d) = false := by simp; omega
  have hk1 : (N.k == 1) = false := by simpa using hk
  go_enter Try.func45, Try.ntmps45
  go_wp2_with (first
    | (with_reducible refine at_wpP ?_; refine wpList_boxG rfl 25 _ rfl (trV gs) [ptr gs] rfl rfl ?_; intro g3 w3 hg3 b3 f3 s3; have l3 := b3.lt; have z3 := f3.size)
    | (with_reducible refine at_wpP ?_; have q := n7; refine wpList_allocN rfl rfl ?_; intro g8 w8 hg8 b8 f8 s8; have l8 := b8.lt; have z8 := f8.size)
    | (with_reducible refine at_wpP ?_; refine wpList_allocN rfl rfl ?_; intro g6 w6 hg6 b6 f6 s6; have l6 := b6.lt; have z6 := f6.size; have q3 := tr_cell (b3.fr0 f6))
    | (go_at_call 20; go_must (refine (hG _ (f3.thenN f6)).mono ?_; rintro e w7 ⟨v, rfl, n7, o7, f7, q7⟩; have z7 := f7.size; have hv := NdS.sl n7; have hbl := NdS.bl n7; have b6' := b6.fr0 f7))
    | (with_reducible refine at_wpP ?_; refine at_st 47 _ _ rfl ?_; have q := b9; go_must (refine wpList_stN rfl _ _ rfl g6 rfl N.k N.b v rfl hbl.out hv 0 (zerB 16) nilS ((b6'.fr0 f8).fr f9 (fun q => by unfold onB1 at q; omega)) (zerB_len 16) ?_; intro w10 b10 f10))
    | (with_reducible refine at_wpP ?_; refine at_st 47 _ _ rfl ?_; have q := b8; go_must (refine wpList_stN rfl _ _ rfl g8 rfl N.k N.b v rfl hbl.out hv 0 (zerB 16) nilS b8 (zerB_len 16) ?_; intro w9 b9 f9; have z9 := f9.size; have q9 := NdB.kind b9))
    | (with_reducible refine at_wpP ?_; refine at_ld 47 _ rfl ?_; have q := b9; go_must (refine wpList_ldN rfl _ rfl g8 rfl N.k N.b v b9 hbl.out ?_)))
  have F9 : Fr noB w7 w9 := Fr.ownX f8 s8 f9
  have F10 : Fr noB w w10 := (((f3.thenN f6).thenN f7).thenN F9).thenT f10 (fun i hi q => by unfold onB1 at q; omega)
  exact bodyPost_ret (results_nd2 Try.results45 _ w10 g6 N.k N.b v rfl b10 hbl.out) rfl ⟨v, rfl, (n7.fr0 F9).frS f10 (fun k hk q => by have := o7 k hk; unfold onB1 at q; omega), (fun k hk => by have := o7 k hk; omega), F10, ((q7.fr0 F9).fr f10 (fun k hk q => by have := o7 k hk; unfold onB1 at q; omega)).rebase (by omega)⟩
end Go.Proofs.Ytkhdniccnefdhaa
