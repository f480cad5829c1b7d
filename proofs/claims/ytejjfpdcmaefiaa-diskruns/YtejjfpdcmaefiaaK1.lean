/- The program's disk: what it is in memory; has, Len, Down, Cut, act. -/
import Derived.Test.YtejjfpdcmaefiaaP9
import Derived.Maps.OwnSet
import Derived.Maps.Range
namespace Go.Proofs.Ytejjfpdcmaefiaa
open Go.RowKit Go.Proofs.U Go.Maps
set_option linter.unusedSimpArgs false
set_option linter.unusedVariables false

/-- What a disk holds. -/
structure DSt where
  pages : List (List Int)
  bad : Int → Bool
  pend : List (Int × List Int)
  down : Bool
  left : Int

abbrev pdL (v1 : Value) (m : Nat) (v3 : Value) (d : Bool) (l : Int) : List Value := [v1, .map (some m), v3, .bool d, .int .i64 l]
def badK (bad : Int → Bool) : Lit → Bool
  | .int .i64 x => bad x
  | _ => false
/-- Block m is a map whose keys are those that are bad. -/
def MapI (w : World) (m : Nat) (bad : Int → Bool) : Prop := ∃ (n : Nat) (D : DataW Unit), w.ownsMap Try.prog 3 unitElem m n D ∧ ∀ kl, Maps.has D kl = badK bad kl
theorem MapI.lt {w : World} {m : Nat} {bad : Int → Bool} (h : MapI w m bad) : m < w.heap.size := by
  obtain ⟨n, D, h, _⟩ := h; exact h.lt
theorem MapI.fr {S : Nat → Prop} {w w' : World} {m : Nat} {bad : Int → Bool} (h : MapI w m bad) (f : Fr S w w') (hs : ¬ S m) : MapI w' m bad := by
  have hl := h.lt
  obtain ⟨n, D, ⟨es, clock, hb, h1, h2, h3⟩, h4⟩ := h
  exact ⟨n, D, ⟨es, clock, (f.block m hl hs).trans hb, h1, h2, h3⟩, h4⟩
theorem MapI.notCells {w : World} {m : Nat} {bad : Int → Bool} (h : MapI w m bad) {cs : Array Value} {t : TypeId} {o : Nat × Nat} : w.heap[m]? ≠ some (.cells cs t o) := by
  obtain ⟨n, D, ⟨es, clock, hb, h1, h2, h3⟩, h4⟩ := h
  rw [hb]; simp
theorem keyI : Keyed Try.prog 3 := int_keyed Try.underlying3

theorem ints_length : ∀ (n : Nat) (l : List Int), l.Pairwise (· ≠ ·) → (∀ x ∈ l, 0 ≤ x ∧ x < (n : Int)) → l.length ≤ n
  | 0, l, _, h => by
    cases l with
    | nil => simp
    | cons x l => have := h x (by simp); omega
  | n + 1, l, hp, h => by
    have h1 : (l.filter (fun x => x != (n : Int))).length ≤ n := by
      refine ints_length n _ (hp.sublist List.filter_sublist) ?_
      intro x hx
      have h2 := List.mem_filter.1 hx
      have h3 := h x h2.1
      have h4 : x ≠ (n : Int) := by simpa using h2.2
      omega
    have h2 : l.length ≤ (l.filter (fun x => x != (n : Int))).length + 1 := by
      clear h1 h
      induction l with
      | nil => simp
      | cons x l ih =>
        have hp' := List.pairwise_cons.1 hp
        by_cases hx : x = (n : Int)
        · subst hx
          have : l.filter (fun x => x != (n : Int)) = l := by
            rw [List.filter_eq_self]
            intro y hy
            have := hp'.1 y hy
            simpa using fun e => this e.symm
          simp [this]
        · have := ih hp'.2
          simp [List.filter_cons, hx]; omega
    omega

/-- As many keys as can be. -/
theorem MapI.tight {w : World} {m : Nat} {bad : Int → Bool} {N : Nat} (h : MapI w m bad) (hb : ∀ x, bad x = true → 0 ≤ x ∧ x < (N : Int)) :
    ∃ (D : DataW Unit), w.ownsMap Try.prog 3 unitElem m N D ∧ ∀ kl, Maps.has D kl = badK bad kl := by
  obtain ⟨n, D, ho, hh⟩ := h
  have hent := ho.entries keyI
  obtain ⟨es, clock, hm, hF, hn, hD⟩ := ho
  have hlen : es.size ≤ N := by
    obtain ⟨ds, hds, hpw, hkey⟩ := hent
    have e1 : ds.length = es.size := by
      have : DataW.map ds = .map ((es.toList.map (WideElems.rg Try.prog 3 unitElem)).foldr DataW.insert []) := by rw [← hds, ← hD]
      injection this with this
      rw [this, length_read]
    rw [← e1]
    have hk : ∀ p ∈ ds, ∃ x, p.1 = .int .i64 x ∧ 0 ≤ x ∧ x < (N : Int) := by
      intro p hp
      have h1 : Maps.has D p.1 = true := by
        rw [hds, has_eq, List.any_eq_true]
        exact ⟨p, hp, WideAt.sameKey_self (hkey p hp)⟩
      rw [hh] at h1
      unfold badK at h1
      split at h1
      · rename_i x hx; exact ⟨x, hx, hb x h1⟩
      · simp at h1
    have h2 := ints_length N (ds.map fun p => match p.1 with | .int .i64 x => x | _ => 0) ?_ ?_
    · simpa using h2
    · rw [List.pairwise_map]
      refine hpw.imp_of_mem ?_
      intro p q hp hq hne
      obtain ⟨x, hx, _⟩ := hk p hp
      obtain ⟨y, hy, _⟩ := hk q hq
      rw [hx, hy]
      intro e
      simp only at e
      exact hne (by rw [hx, hy, e])
    · intro z hz
      obtain ⟨p, hp, rfl⟩ := List.mem_map.1 hz
      obtain ⟨x, hx, hr⟩ := hk p hp
      rw [hx]; exact hr
  exact ⟨D, ⟨es, clock, hm, hF, hlen, hD⟩, hh⟩

structure DK (w : World) (F : Nat → Prop) (g : Nat) (X : DSt) (v1 : Value) (m : Nat) (v3 : Value) : Prop where
  bx : BxV w g 66 (pdL v1 m v3 X.down X.left)
  st : OwnR pgv 256 25 w 0 v1 X.pages
  mp : MapI w m X.bad
  pd : OwnR encW 257 74 w 0 v3 X.pend
  fg : F g
  fm : F m
  f1 : ∀ k, v1.ownBlock = some k → F k
  f3 : ∀ k, v3.ownBlock = some k → F k
  lft : -9223372036854775808 ≤ X.left ∧ X.left ≤ 9223372036854775807
  len : X.pages.length ≤ 244
  bin : ∀ x, X.bad x = true → 0 ≤ x ∧ x < (X.pages.length : Int)
  pin : ∀ x ∈ X.pend, 0 ≤ x.1 ∧ x.1 < (X.pages.length : Int)
/-- A disk lies at g, in the blocks F, and holds X. -/
def Disk (w : World) (F : Nat → Prop) (g : Nat) (X : DSt) : Prop := ∃ v1 m v3, DK w F g X v1 m v3

section
variable {w w' : World} {F S : Nat → Prop} {g m : Nat} {X : DSt} {v1 v3 : Value}
theorem OwnR.blk {α : Type} {ec : α → List Value} {sz : Nat} {e : TypeId} {base : Nat} {v : Value} {l : List α} (h : OwnR ec sz e w base v l) : ∀ q, v.ownBlock = some q → ∃ cs, w.heap[q]? = some (.cells cs e (0, 0)) := by
  intro q hq
  rcases h.2.2 with ⟨rfl, _⟩ | ⟨g, cap, cur, rfl, _, h2, _⟩
  · simp [Value.ownBlock] at hq
  · simp [Value.ownBlock] at hq
    subst hq; exact ⟨cur, h2⟩
theorem DK.g1 (h : DK w F g X v1 m v3) : ∀ k, v1.ownBlock = some k → k ≠ g := by
  intro k hk e; subst e
  obtain ⟨cs, hc⟩ := OwnR.blk h.st k hk
  have := h.bx; unfold BxV at this; rw [hc] at this; simp at this
theorem DK.g3 (h : DK w F g X v1 m v3) : ∀ k, v3.ownBlock = some k → k ≠ g := by
  intro k hk e; subst e
  obtain ⟨cs, hc⟩ := OwnR.blk h.pd k hk
  have := h.bx; unfold BxV at this; rw [hc] at this; simp at this
theorem DK.gm (h : DK w F g X v1 m v3) : m ≠ g := by
  intro e; subst e; exact h.mp.notCells h.bx
theorem DK.m1 (h : DK w F g X v1 m v3) : ∀ k, v1.ownBlock = some k → k ≠ m := by
  intro k hk e; subst e
  obtain ⟨cs, hc⟩ := OwnR.blk h.st k hk
  exact h.mp.notCells hc
theorem DK.m3 (h : DK w F g X v1 m v3) : ∀ k, v3.ownBlock = some k → k ≠ m := by
  intro k hk e; subst e
  obtain ⟨cs, hc⟩ := OwnR.blk h.pd k hk
  exact h.mp.notCells hc
theorem DK.k13 (h : DK w F g X v1 m v3) : ∀ k, v1.ownBlock = some k → v3.ownBlock = some k → False := OwnR.apart h.st h.pd (by decide)
theorem DK.mono {G : Nat → Prop} (h : DK w F g X v1 m v3) (hG : ∀ k, k < w.heap.size → F k → G k) : DK w G g X v1 m v3 :=
  { h with fg := hG _ h.bx.lt h.fg, fm := hG _ h.mp.lt h.fm, f1 := fun k hk => hG _ (h.st.newB k hk).2 (h.f1 k hk), f3 := fun k hk => hG _ (h.pd.newB k hk).2 (h.f3 k hk) }
theorem DK.fr (h : DK w F g X v1 m v3) (f : Fr S w w') (hs : ∀ k, k < w.heap.size → F k → ¬ S k) : DK w' F g X v1 m v3 :=
  { h with bx := h.bx.fr f (hs _ h.bx.lt h.fg), mp := h.mp.fr f (hs _ h.mp.lt h.fm), st := h.st.fr f (fun k hk => hs _ (h.st.newB k hk).2 (h.f1 k hk)), pd := h.pd.fr f (fun k hk => hs _ (h.pd.newB k hk).2 (h.f3 k hk)) }
theorem DK.fr0 (h : DK w F g X v1 m v3) (f : Fr noB w w') : DK w' F g X v1 m v3 := h.fr f (fun _ _ _ q => q)
/-- down and left turned. -/
theorem DK.put (h : DK w F g X v1 m v3) {d : Bool} {l : Int} (f : Fr (onB1 g) w w') (hb : BxV w' g 66 (pdL v1 m v3 d l)) (hl : -9223372036854775808 ≤ l ∧ l ≤ 9223372036854775807) : DK w' F g { X with down := d, left := l } v1 m v3 :=
  { h with bx := hb, mp := h.mp.fr f (fun q => h.gm q), st := h.st.ne f h.g1, pd := h.pd.ne f h.g3, lft := hl }
theorem Disk.mono {G : Nat → Prop} (h : Disk w F g X) (hG : ∀ k, k < w.heap.size → F k → G k) : Disk w G g X := by
  obtain ⟨v1, m, v3, h⟩ := h; exact ⟨v1, m, v3, h.mono hG⟩
theorem Disk.fr (h : Disk w F g X) (f : Fr S w w') (hs : ∀ k, k < w.heap.size → F k → ¬ S k) : Disk w' F g X := by
  obtain ⟨v1, m, v3, h⟩ := h; exact ⟨v1, m, v3, h.fr f hs⟩
theorem Disk.fr0 (h : Disk w F g X) (f : Fr noB w w') : Disk w' F g X := h.fr f (fun _ _ _ q => q)
theorem Disk.lt (h : Disk w F g X) : g < w.heap.size := by
  obtain ⟨v1, m, v3, h⟩ := h; exact h.bx.lt
theorem onB1_F (h : F g) (f : Fr (onB1 g) w w') : Fr F w w' := f.mono (fun k _ q => by unfold onB1 at q; exact q ▸ h)
end
theorem _root_.Go.Proofs.U.BxV.five {w : World} {g : Nat} {t : TypeId} {x0 x1 x2 x3 x4 : Value} (h : BxV w g t [x0, x1, x2, x3, x4]) :
    (w.cell? ⟨g, 0, none⟩ = some x0 ∧ w.cell? ⟨g, 1, none⟩ = some x1 ∧ w.cell? ⟨g, 2, none⟩ = some x2 ∧ w.cell? ⟨g, 3, none⟩ = some x3 ∧ w.cell? ⟨g, 4, none⟩ = some x4) :=
  ⟨(h.cell 0 _ rfl).1, (h.cell 1 _ rfl).1, (h.cell 2 _ rfl).1, (h.cell 3 _ rfl).1, (h.cell 4 _ rfl).1⟩

abbrev ptr (g : Nat) : Value := .pointer (some ⟨g, 0, none⟩)

theorem has_any {F : Nat → Prop} {X : DSt} (g : Nat) (i : Int) (w : World) (h : Disk w F g X) :
    Calls Try.prog 30 #[ptr g, .int .i64 i] w fun r w' => r = .returned (.bool (inR X.pages.length i)) ∧ w = w' := by
  obtain ⟨v1, m, v3, h⟩ := h
  obtain ⟨a1, c1, rfl⟩ := h.st.opn
  obtain ⟨k0, k1, k2, k3, k4⟩ := h.bx.five
  clear h
  by_cases h0 : 0 ≤ i
  · go_enter Try.func30, Try.ntmps30
    go_wp2
    go_ret
    exact ⟨by simp [h0, inR], rfl⟩
  · have h1 : decide (0 ≤ i) = false := by simpa using h0
    go_enter Try.func30, Try.ntmps30
    go_wp2
    go_ret
    exact ⟨by simp [inR, h1], rfl⟩

theorem len_any {F : Nat → Prop} {X : DSt} (g : Nat) (w : World) (h : Disk w F g X) :
    Calls Try.prog 16 #[ptr g] w fun r w' => r = .returned (.int .i64 (X.pages.length : Int)) ∧ w = w' := by
  obtain ⟨v1, m, v3, h⟩ := h
  obtain ⟨a1, c1, rfl⟩ := h.st.opn
  obtain ⟨k0, k1, k2, k3, k4⟩ := h.bx.five
  clear h
  go_enter Try.func16, Try.ntmps16
  go_wp2
  go_ret
  exact ⟨rfl, rfl⟩
theorem down_any {F : Nat → Prop} {X : DSt} (g : Nat) (w : World) (h : Disk w F g X) :
    Calls Try.prog 15 #[ptr g] w fun r w' => r = .returned (.bool X.down) ∧ w = w' := by
  obtain ⟨v1, m, v3, h⟩ := h
  obtain ⟨k0, k1, k2, k3, k4⟩ := h.bx.five
  clear h
  go_enter Try.func15, Try.ntmps15
  go_wp2
  go_ret
  exact ⟨rfl, rfl⟩

theorem pcut_any {F : Nat → Prop} {X : DSt} (g : Nat) (n : Int) (hn : -9223372036854775808 ≤ n ∧ n ≤ 9223372036854775807) (w : World) (h : Disk w F g X) :
    Calls Try.prog 12 #[ptr g, .int .i64 n] w fun r w' => r = .returned (.tuple #[]) ∧ Disk w' F g { X with left := n } ∧ Fr F w w' := by
  obtain ⟨v1, m, v3, h⟩ := h
  have hbx := h.bx
  go_enter Try.func12, Try.ntmps12
  go_wp2_with (first
    | (with_reducible refine at_wpP ?_; refine at_st 3 _ _ rfl ?_; go_must (refine wpList_store1 rfl 3 _ _ rfl g 4 rfl (.int .i64 n) rfl rfl _ _ hbx size_int (by simp) ?_; intro w1 b1 f1; have b1 : BxV w1 g 66 (pdL v1 m v3 X.down n) := (by simpa using b1))))
  go_end0
  exact ⟨rfl, ⟨v1, m, v3, h.put f1 b1 hn⟩, onB1_F h.fg f1⟩

/-- What an act does: left, down, error. -/
def actP (l : Int) (d : Bool) : Int × Bool × Int := if d || l == 0 then (l, true, 42) else (if l > 0 then l - 1 else l, d, 0)
def DSt.act (X : DSt) : DSt := { X with left := (actP X.left X.down).1, down := (actP X.left X.down).2.1 }
def DSt.actE (X : DSt) : Int := (actP X.left X.down).2.2

theorem act_any {F : Nat → Prop} {X : DSt} (g : Nat) (w : World) (h : Disk w F g X) :
    Calls Try.prog 32 #[ptr g] w fun r w' => r = .returned (.int .i64 X.actE) ∧ Disk w' F g X.act ∧ Fr F w w' := by
  obtain ⟨v1, m, v3, h⟩ := h
  have hbx := h.bx
  obtain ⟨pages, bad, pend, d, l⟩ := X
  have hlft := h.lft
  simp only [DSt.actE, DSt.act] at *
  by_cases h0 : l = 0
  · subst h0
    obtain ⟨k0, k1, k2, k3, k4⟩ := hbx.five
    have hr : actP 0 d = (0, true, 42) := by simp [actP]
    rw [hr]
    go_enter Try.func32, Try.ntmps32
    go_wp2_with (first
      | (with_reducible refine at_wpP ?_; refine at_st 4 _ _ rfl ?_; go_must (refine wpList_store1 rfl 4 _ _ rfl g 3 rfl (.bool true) rfl rfl _ _ hbx size_bool (by simp) ?_; intro w1 b1 f1; have b1 : BxV w1 g 66 (pdL v1 m v3 true 0) := (by simpa using b1); obtain ⟨q0, q1, q2, q3, q4⟩ := b1.five)))
    go_ret
    exact ⟨rfl, ⟨v1, m, v3, h.put f1 b1 (by decide)⟩, onB1_F h.fg f1⟩
  · have hb : (l == 0) = false := by simpa using h0
    obtain ⟨k0, k1, k2, k3, k4⟩ := hbx.five
    cases d with
    | true =>
      have hr : actP l true = (l, true, 42) := by simp [actP]
      rw [hr]
      go_enter Try.func32, Try.ntmps32
      go_wp2
      go_ret
      exact ⟨rfl, ⟨v1, m, v3, h⟩, Fr.refl _ _⟩
    | false =>
      by_cases hp : 0 < l
      · have hr : actP l false = (l - 1, false, 0) := by simp [actP, hb, hp]
        rw [hr]
        go_enter Try.func32, Try.ntmps32
        go_wp2_with (first
          | (with_reducible refine at_wpP ?_; refine at_st 3 _ _ rfl ?_; go_must (refine wpList_store1 rfl 3 _ _ rfl g 4 rfl (.int .i64 (l - 1)) rfl rfl _ _ hbx size_int (by simp) ?_; intro w1 b1 f1; have b1 : BxV w1 g 66 (pdL v1 m v3 false (l - 1)) := (by simpa using b1))))
        go_ret
        exact ⟨rfl, ⟨v1, m, v3, h.put f1 b1 (by omega)⟩, onB1_F h.fg f1⟩
      · have hr : actP l false = (l, false, 0) := by simp [actP, hb, hp]
        rw [hr]
        go_enter Try.func32, Try.ntmps32
        go_wp2
        go_ret
        exact ⟨rfl, ⟨v1, m, v3, h⟩, Fr.refl _ _⟩
end Go.Proofs.Ytejjfpdcmaefiaa
