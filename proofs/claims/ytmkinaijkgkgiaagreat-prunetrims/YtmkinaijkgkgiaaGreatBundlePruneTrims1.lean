/- Texts Base, Base2, BaseM, PG, P1, Base3, P3, P4, OR, P5 of the proof of PruneTrims, one behind the other. -/
import Derived.WalkKit
import Derived.WalkSpells
import Derived.WalkLawsBesides
import Derived.BigQuiet
import Derived.Laws.AppendOwnNone
import Derived.Laws.BytesArg
import Derived.Laws.CopyOwn
import Derived.Deep.DeepMust
import Derived.Deep.OwnRows
import Derived.Deep.MidRow
import Derived.Laws.ResultCell
import Derived.Laws.Rows
import Derived.Test.YtmkinaijkgkgiaaGreatRows
import Derived.Laws.ShiftsVarLaws
/- Laws of the walk over slices, and the frame relation Fr: what a call may have turned; no condition. -/
namespace Go.Proofs.U
open Go.RowKit

/-- Of the blocks that lay in w none but those of S has turned; the streams are as they were. -/
structure Fr (S : Nat → Prop) (w w' : World) : Prop where
  os : w'.os = w.os
  tape : w'.tape = w.tape
  output : w'.output = w.output
  size : w.heap.size ≤ w'.heap.size
  block : ∀ k, k < w.heap.size → ¬ S k → w'.heap[k]? = w.heap[k]?

def noB : Nat → Prop := fun _ => False

theorem Fr.refl (S : Nat → Prop) (w : World) : Fr S w w := ⟨rfl, rfl, rfl, Nat.le_refl _, fun _ _ _ => rfl⟩
theorem Fr.trans {S : Nat → Prop} {a b c : World} (h : Fr S a b) (k : Fr S b c) : Fr S a c :=
  ⟨k.os.trans h.os, k.tape.trans h.tape, k.output.trans h.output, Nat.le_trans h.size k.size, fun i hi hs => (k.block i (Nat.lt_of_lt_of_le hi h.size) hs).trans (h.block i hi hs)⟩
theorem Fr.mono {S T : Nat → Prop} {a b : World} (h : Fr S a b) (hst : ∀ k, k < a.heap.size → S k → T k) : Fr T a b :=
  ⟨h.os, h.tape, h.output, h.size, fun i hi hs => h.block i hi fun q => hs (hst i hi q)⟩
/-- Behind a step that touched T alone, of what lay at the start only S. -/
theorem Fr.thenT {S T : Nat → Prop} {a b c : World} (h : Fr S a b) (k : Fr T b c) (hst : ∀ i, i < a.heap.size → T i → S i) : Fr S a c :=
  ⟨k.os.trans h.os, k.tape.trans h.tape, k.output.trans h.output, Nat.le_trans h.size k.size, fun i hi hs => (k.block i (Nat.lt_of_lt_of_le hi h.size) (fun q => hs (hst i hi q))).trans (h.block i hi hs)⟩
theorem Fr.thenN {S : Nat → Prop} {a b c : World} (h : Fr S a b) (k : Fr noB b c) : Fr S a c := h.thenT k fun _ _ q => q.elim
theorem Fr.drew {S : Nat → Prop} {a w : World} (h : Fr S a w) : Fr S a w.drew := ⟨h.os, h.tape, h.output, h.size, h.block⟩
theorem Fr.drewN {S : Nat → Prop} {a w : World} (h : Fr S a w) (n : Nat) : Fr S a (w.drewN n) := ⟨h.os, h.tape, h.output, h.size, h.block⟩
theorem Fr.alloc {S : Nat → Prop} {a w : World} (h : Fr S a w) (o : Obj) : Fr S a (w.alloc o) :=
  h.thenN ⟨rfl, rfl, rfl, by simp, fun k hk _ => Below.heap_alloc _ _ _ hk⟩
theorem Fr.setCell {S : Nat → Prop} {a w : World} (h : Fr S a w) (p : Addr) (u : Value) (hp : p.block < a.heap.size → S p.block) : Fr S a (w.setCell p u) :=
  h.thenT (T := fun k => k = p.block) ⟨rfl, rfl, rfl, by simp [World.setCell], fun k _ hk => Below.heap_setCell _ _ _ _ hk⟩ (fun i hi e => by subst e; exact hp hi)
theorem Fr.grown {S : Nat → Prop} {a w w' : World} {row : Option Nat} (h : Fr S a w) (hg : w.grownBy w' row) (hr : ∀ k, row = some k → k < a.heap.size → S k) : Fr S a w' :=
  h.thenT (T := fun k => row = some k) ⟨hg.os, hg.tape, hg.output, hg.size, fun k hk hn => hg.block k hk (fun e => hn e.symm)⟩ (fun i hi e => hr i e hi)
theorem Fr.of_grown {w w' : World} (hg : w.grownBy w' Option.none) : Fr noB w w' := (Fr.refl _ _).grown hg (fun _ h => by cases h)
theorem Fr.below {w w' : World} (h : Fr noB w w') : Below w.heap.size w w' := ⟨h.os, h.tape, h.output, h.size, fun k hk => h.block k hk (fun q => q)⟩
theorem Fr.of_below {w w' : World} (h : Below w.heap.size w w') : Fr noB w w' := ⟨h.os, h.tape, h.output, h.size, fun k hk _ => h.block k hk⟩
theorem Fr.cell {S : Nat → Prop} {w w' : World} (h : Fr S w w') {p : Addr} {v : Value} (hc : w.cell? p = some v) (hs : ¬ S p.block) : w'.cell? p = some v :=
  (World.cell?_of_block (w := w) (h.block p.block (World.block_lt_of_cell? w p hc) hs)).trans hc
theorem Fr.frozen {S : Nat → Prop} {w w' : World} (h : Fr S w w') {p : Addr} {v : Value} (hc : w.cell? p = some v) (hs : ¬ S p.block) : w'.frozen? p = w.frozen? p :=
  World.frozen?_of_block (w := w) (h.block p.block (World.block_lt_of_cell? w p hc) hs)

/-- v is a slice of n elements of sz cells each; these cells are cs. -/
def Sl (w : World) (sz : Nat) (v : Value) (n : Nat) (cs : List Value) : Prop :=
  ∃ a cap, v = .slice a n cap ∧ n ≤ cap ∧ cs.length = n * sz ∧ (a = none → cap = 0) ∧
    ∀ x, a = some x → ∀ j u, cs[j]? = some u → w.cell? (x.add j) = some u

theorem Sl.nil (w : World) (sz : Nat) : Sl w sz (.slice none 0 0) 0 [] := ⟨none, 0, rfl, Nat.le_refl _, by simp, fun _ => rfl, fun _ h => by cases h⟩

theorem Sl.fr {S : Nat → Prop} {w w' : World} {sz : Nat} {v : Value} {n : Nat} {cs : List Value} (h : Sl w sz v n cs) (hf : Fr S w w') (hs : ∀ k, v.ownBlock = some k → ¬ S k) : Sl w' sz v n cs := by
  obtain ⟨a, cap, rfl, h1, h2, h3, h4⟩ := h
  refine ⟨a, cap, rfl, h1, h2, h3, fun x hx => ?_⟩
  refine fun j u hj => hf.cell (h4 x hx j u hj) ?_
  subst hx
  have : (x.add j).block = x.block := by unfold Addr.add; split <;> rfl
  rw [this]; exact hs _ rfl
theorem Sl.fr0 {w w' : World} {sz : Nat} {v : Value} {n : Nat} {cs : List Value} (h : Sl w sz v n cs) (hf : Fr noB w w') : Sl w' sz v n cs := h.fr hf (fun _ _ q => q)

theorem Sl.of_owns {w : World} {base : Nat} {e : TypeId} {sz : Nat} {v : Value} {n : Nat} {xs : List Value} (h : w.ownsRow base e sz v n xs) : Sl w sz v n xs := by
  obtain ⟨h1, ⟨rfl, rfl⟩ | ⟨g, cap, cur, rfl, hg, hh, hn, hm, hcur, htake⟩⟩ := h
  · exact ⟨none, 0, rfl, Nat.le_refl _, h1, fun _ => rfl, fun _ h => by cases h⟩
  · refine ⟨some ⟨g, 0, none⟩, cap, rfl, hn, h1, (fun h => by cases h), fun x hx => ?_⟩
    cases hx
    intro j u hj
    have hadd : (⟨g, 0, none⟩ : Addr).add j = ⟨g, j, none⟩ := by unfold Addr.add; split <;> simp_all
    rw [hadd]
    subst htake
    have : cur[j]? = some u := by
      have := List.getElem?_eq_some_iff.1 hj
      obtain ⟨hlt2, he⟩ := this
      simp at hlt2 he
      rw [Array.getElem?_eq_some_iff]
      exact ⟨by omega, by simpa using he⟩
    simp [World.cell?, hh, this]

/-- a slice of integers of kind k. -/
def SlI (k : IntKind) (w : World) (v : Value) (l : List Int) : Prop := Sl w 1 v l.length (l.map (Value.int k)) ∧ ∀ n ∈ l, (Lit.int k n).wf = true
theorem SlI.nil (k : IntKind) (w : World) : SlI k w (.slice none 0 0) [] := ⟨Sl.nil w 1, by simp⟩
theorem SlI.fr {S : Nat → Prop} {k : IntKind} {w w' : World} {v : Value} {l : List Int} (h : SlI k w v l) (hf : Fr S w w') (hs : ∀ k, v.ownBlock = some k → ¬ S k) : SlI k w' v l := ⟨h.1.fr hf hs, h.2⟩
theorem SlI.fr0 {k : IntKind} {w w' : World} {v : Value} {l : List Int} (h : SlI k w v l) (hf : Fr noB w w') : SlI k w' v l := ⟨h.1.fr0 hf, h.2⟩
theorem SlI.opn {k : IntKind} {w : World} {v : Value} {l : List Int} (h : SlI k w v l) : ∃ a cap, v = .slice a l.length cap ∧ l.length ≤ cap := by
  obtain ⟨⟨a, cap, hv, hl, _⟩, _⟩ := h; exact ⟨a, cap, hv, hl⟩

theorem ones (k : IntKind) (l : List Int) : ∀ u ∈ l.map (Value.int k), u.oneCell' = true := by
  intro u hu; simp at hu; obtain ⟨x, _, rfl⟩ := hu; rfl
theorem Sl_one (w : World) (t : TypeId) (v : Value) : Sl (w.alloc (.cells #[v] t)) 1 (.slice (some ⟨w.heap.size, 0, none⟩) 1 1) 1 [v] := by
  refine ⟨_, _, rfl, Nat.le_refl _, by simp, (fun h => by cases h), fun x hx => ?_⟩
  cases hx
  intro j u hj
  cases j with
  | zero => simp at hj; subst hj; simp [Addr.add]
  | succ j => simp at hj
theorem owns_alloc {w : World} {base : Nat} {e : TypeId} {sz : Nat} {v : Value} {n : Nat} {xs : List Value} (h : w.ownsRow base e sz v n xs) (o : Obj) : (w.alloc o).ownsRow base e sz v n xs := World.ownsRow.alloc h o
theorem owns_new {w : World} {base : Nat} {e : TypeId} {sz : Nat} {v : Value} {n : Nat} {xs : List Value} (h : w.ownsRow base e sz v n xs) : ∀ k, v.ownBlock = some k → k < base → noB k := by
  intro k hk hlt; have := (h.lt k hk).1; omega

/-- a row of integers of the call's own making. -/
def OwnI (k : IntKind) (e : TypeId) (w : World) (base : Nat) (v : Value) (l : List Int) : Prop := w.ownsRow base e 1 v l.length (l.map (Value.int k))
theorem OwnI.mk {k : IntKind} {e : TypeId} {w : World} {base : Nat} {v : Value} {n : Nat} {xs : List Value} (l : List Int) (h : w.ownsRow base e 1 v n xs) (hx : xs = l.map (Value.int k)) : OwnI k e w base v l := by
  have hn : n = l.length := by have := h.1; rw [hx] at this; simpa using this.symm
  subst hx hn; exact h
theorem OwnI.fr {S : Nat → Prop} {k : IntKind} {e : TypeId} {w w' : World} {base : Nat} {v : Value} {l : List Int} (h : OwnI k e w base v l) (hf : Fr S w w') (hs : ∀ k, v.ownBlock = some k → ¬ S k) : OwnI k e w' base v l := by
  obtain ⟨h1, h2⟩ := h
  refine ⟨h1, ?_⟩
  rcases h2 with h2 | ⟨g, cap, cur, hv, hg, hh, r⟩
  · exact Or.inl h2
  · refine Or.inr ⟨g, cap, cur, hv, hg, ?_, r⟩
    rw [hf.block g (Array.getElem?_eq_some_iff.1 hh).1 (hs g (by rw [hv]; rfl))]; exact hh
theorem OwnI.opn {k : IntKind} {e : TypeId} {w : World} {base : Nat} {v : Value} {l : List Int} (h : OwnI k e w base v l) : ∃ a cap, v = .slice a l.length cap := by
  rcases h.2 with ⟨hv, hn⟩ | ⟨g, cap, cur, hv, _⟩
  · exact ⟨none, 0, by rw [hn]; exact hv⟩
  · exact ⟨_, _, hv⟩
theorem OwnI.newB {k : IntKind} {e : TypeId} {w : World} {base : Nat} {v : Value} {l : List Int} (h : OwnI k e w base v l) : ∀ j, v.ownBlock = some j → base ≤ j ∧ j < w.heap.size := World.ownsRow.lt h
theorem OwnI.rebase {k : IntKind} {e : TypeId} {w : World} {base base' : Nat} {v : Value} {l : List Int} (h : OwnI k e w base v l) (hb : base' ≤ base) : OwnI k e w base' v l := by
  obtain ⟨h1, h2⟩ := h
  refine ⟨h1, ?_⟩
  rcases h2 with h2 | ⟨g, cap, cur, hv, hg, hh, r⟩
  · exact Or.inl h2
  · exact Or.inr ⟨g, cap, cur, hv, Nat.le_trans hb hg, hh, r⟩
theorem OwnI.sl {k : IntKind} {e : TypeId} {w : World} {base : Nat} {v : Value} {l : List Int} (h : OwnI k e w base v l) (hwf : ∀ n ∈ l, (Lit.int k n).wf = true) : SlI k w v l := ⟨Sl.of_owns h, hwf⟩

theorem Addr.add_add (a : Addr) (i j : Nat) : (a.add i).add j = a.add (i + j) := by
  unfold Addr.add
  by_cases hi : i = 0
  · simp [hi]
  · by_cases hj : j = 0
    · simp [hj]
    · simp [hi, hj, Nat.add_assoc]
theorem Addr.plain (b off k : Nat) : (⟨b, off, none⟩ : Addr).add k = ⟨b, off + k, none⟩ := by unfold Addr.add; split <;> simp_all
/-- x[i:j] as a value. -/
theorem Sl.cut {w : World} {sz : Nat} {ao : Option Addr} {n cap : Nat} {cs : List Value} (hS : Sl w sz (.slice ao n cap) n cs) (i m : Nat) (hm : i + m ≤ n) {ao' : Option Addr} (ho1 : cap = i → ao' = ao) (ho2 : cap ≠ i → ao' = ao.map (·.add (i * sz))) {c' : Nat} (hc' : c' = cap - i) :
    Sl w sz (.slice ao' m c') m ((cs.drop (i * sz)).take (m * sz)) := by
  obtain ⟨a0, cap0, hv, hcap, hlen, hnone, hsome⟩ := hS
  cases hv
  subst hc'
  refine ⟨_, _, rfl, by omega, ?_, ?_, ?_⟩
  · simp [hlen]
    have : m * sz ≤ (n - i) * sz := Nat.mul_le_mul_right _ (by omega)
    have e2 : n * sz - i * sz = (n - i) * sz := (Nat.mul_sub_right_distrib _ _ _).symm
    omega
  · intro hn
    by_cases hci : cap = i
    · omega
    · rw [ho2 hci] at hn
      cases ao with
      | none => have := hnone rfl; omega
      | some ad => simp at hn
  · intro y hy
    by_cases hci : cap = i
    · rw [ho1 hci] at hy
      intro jj u hu
      exfalso
      have : jj < ((cs.drop (i * sz)).take (m * sz)).length := (List.getElem?_eq_some_iff.1 hu).1
      obtain rfl : m = 0 := by omega
      simp at this
    · rw [ho2 hci] at hy
      cases ao with
      | none => simp at hy
      | some ad =>
        simp at hy; subst hy
        intro jj u hu
        rw [Addr.add_add]
        have hjj : jj < ((cs.drop (i * sz)).take (m * sz)).length := (List.getElem?_eq_some_iff.1 hu).1
        have hj2 : jj < m * sz := by simp at hjj; omega
        rw [List.getElem?_take, if_pos hj2, List.getElem?_drop] at hu
        exact hsome ad rfl _ _ hu
theorem SlI.cut {w : World} {k : IntKind} {ao : Option Addr} {n cap : Nat} {l : List Int} (hS : SlI k w (.slice ao n cap) l) (i m : Nat) (hm : i + m ≤ l.length) {ao' : Option Addr} (ho1 : cap = i → ao' = ao) (ho2 : cap ≠ i → ao' = ao.map (·.add i)) {c' : Nat} (hc' : c' = cap - i) :
    SlI k w (.slice ao' m c') ((l.drop i).take m) := by
  have hn : n = l.length := by obtain ⟨⟨a0, cap0, hv, _⟩, _⟩ := hS; cases hv; rfl
  subst hn
  have := hS.1.cut i m hm ho1 (by simpa using ho2) hc'
  have e : ((l.drop i).take m).length = m := by simp; omega
  refine ⟨?_, fun x hx => hS.2 x (List.mem_of_mem_drop (List.mem_of_mem_take hx))⟩
  rw [e]; simpa [List.map_take, List.map_drop] using this

/-! Laws of the walk. -/
section
variable {P : Program} {w : World} {ops : Array Oper} {rest : List Oper} {o : Oper} {a : Act} {Q : Exit → Act → World → Prop}

theorem wpList_wanted (hw : Region.wanted o (yielded ops a.tmps) = true)
    (h : ∀ K : Act → World → Prop, (∀ a w, wpList P ops Q rest a w → K a w) → o.wp P a w K Q) : wpList P ops Q (o :: rest) a w :=
  wpList_step fun K hK => by rw [if_pos hw]; exact h K hK
theorem at_make (t : TypeId) (l c : Operand) (_ho : o.op = .makeSlice t l c) (h : wpList P ops Q (o :: rest) a w) : wpList P ops Q (o :: rest) a w := h
theorem at_idx (t : TypeId) (l c : Operand) (_ho : o.op = .indexAddr t l c) (h : wpList P ops Q (o :: rest) a w) : wpList P ops Q (o :: rest) a w := h
theorem at_cut (t : TypeId) (x : Operand) (l c m : Option Operand) (_ho : o.op = .slice t x l c m) (h : wpList P ops Q (o :: rest) a w) : wpList P ops Q (o :: rest) a w := h

/-- x[i], x a slice of elements of one cell. -/
theorem wpList_idx1 (hgd : Region.wanted o (yielded ops a.tmps) = true) (t : TypeId) (x i : Operand) (ho : o.op = .indexAddr t x i) (e : TypeId) (ht : P.underlying t = some (.slice e)) (hsz : (P.info? e).map (·.size) = some 1)
    (v : Value) (n : Nat) (cs : List Value) (hx : a.eval x = v) (hS : Sl w 1 v n cs) (k : IntKind) (z : Int) (j : Nat) (hi : a.eval i = .int k z) (hz : z = (j : Int)) (hj : j < n)
    (h : ∀ p u, cs[j]? = some u → w.cell? p = some u → wpList P ops Q rest (a.put o.dst (.pointer (some p))) w) : wpList P ops Q (o :: rest) a w := by
  refine wpList_wanted hgd fun K hK => ?_
  obtain ⟨ao, cap, rfl, hcap, hlen, hnone, hsome⟩ := hS
  cases ao with
  | none => have := hnone rfl; omega
  | some ad =>
    have hcell := hsome ad rfl
    subst hz
    have hjl : j < cs.length := by omega
    obtain ⟨ii, hinf, hsz'⟩ := Option.map_eq_some_iff.1 hsz
    have hrun : (Instr.indexAt t (.slice (some ad) n cap) (.int k (j : Int))).run P w = .ok (.pointer (some (ad.add j))) w := by
      have h1 : (0 : Int) ≤ (j : Int) ∧ (j : Int) < (n : Int) := by omega
      simp [Instr.indexAt, asIntOf, run_underlying ht, h1, sizeOf, typeInfo, hinf, hsz', go_sem]
      omega
    unfold Oper.wp
    simp [execOp, ho, hx, hi, hrun, Result.andThen]
    exact hK _ _ (h _ _ (List.getElem?_eq_getElem hjl) (hcell j _ (List.getElem?_eq_getElem hjl)))

/-- append(s, x...), s of the call's own making, x any slice. -/
theorem wpList_app (hgd : o.guard = none) (s x : Operand) (t : TypeId)
    (ho : o.op = .call { callee := .builtin .append, args := #[s, x], argTypes := #[t, t] })
    (base : Nat) (e : TypeId) (z : Value) (sz bytes : Nat) (ht : P.underlying t = some (.slice e)) (hinfo : (P.info? e).map (fun i => (i.zero, i.size, i.bytes)) = some (some z, sz, bytes))
    (hzs : z.cells.size = sz) (hsz : 0 < sz)
    (v : Value) (n : Nat) (xs : List Value) (hs : a.eval s = v) (hown : w.ownsRow base e sz v n xs)
    (vx : Value) (m : Nat) (news : List Value) (hx : a.eval x = vx) (hS : Sl w sz vx m news) (h1 : ∀ u ∈ news, u.oneCell' = true)
    (h63 : n + m ≤ maxLen) (hbytes : (n + m) * bytes ≤ 140737488355328) (hbase : base ≤ w.heap.size)
    (h : ∀ v' w', w'.ownsRow base e sz v' (n + m) (xs ++ news) → w.grownBy w' v.ownBlock → wpList P ops Q rest (a.put o.dst v') w') : wpList P ops Q (o :: rest) a w := by
  obtain ⟨i, hi, hz, hsize, hby⟩ := info_parts hinfo
  obtain ⟨ao, cap, rfl, hcap, hlen, hnone, hsome⟩ := hS
  cases ao with
  | some ad =>
    have hcell := hsome ad rfl
    exact wpList_append_own w hgd s x t ho base e i z sz bytes ht hi hz hsize hby hzs hsz v n xs hs hown ad m cap news hx hlen hcell h1 h63 hbytes hbase fun v' w' p q _ => h v' w' p q
  | none =>
    obtain rfl := hnone rfl
    obtain rfl : m = 0 := by omega
    obtain rfl : news = [] := List.eq_nil_of_length_eq_zero (by simpa using hlen)
    refine wpList_plain hgd fun K hK' => ?_
    have hrun := run_append_owned_none (P := P) w base t o.type e i sz ht hi v n xs hown
    unfold Oper.wp
    simp [execOp, ho, resolve, invoke, builtin, hs, hx, hrun, Result.andThen]
    exact hK' _ _ (by simpa using h v w (by simpa using hown) (World.grownBy.refl _ _))

/-- x[lo:hi]. -/
theorem wpList_cut (hgd : Region.wanted o (yielded ops a.tmps) = true) (t : TypeId) (x : Operand) (lo hi : Operand) (ho : o.op = .slice t x (some lo) (some hi) none) (e : TypeId) (ht : P.underlying t = some (.slice e)) (sz : Nat) (hsz : (P.info? e).map (·.size) = some sz)
    (v : Value) (n : Nat) (cs : List Value) (hx : a.eval x = v) (hS : Sl w sz v n cs) (kl kh : IntKind) (zl zh : Int) (i j : Nat) (hlo : a.eval lo = .int kl zl) (hhi : a.eval hi = .int kh zh) (hzl : zl = (i : Int)) (hzh : zh = (j : Int)) (hij : i ≤ j) (hj : j ≤ n)
    (h : ∀ v', Sl w sz v' (j - i) ((cs.drop (i * sz)).take ((j - i) * sz)) → (∀ k, v'.ownBlock = some k → v.ownBlock = some k) → wpList P ops Q rest (a.put o.dst v') w) : wpList P ops Q (o :: rest) a w := by
  refine wpList_wanted hgd fun K hK => ?_
  obtain ⟨ao, cap, rfl, hcap, hlen, hnone, hsome⟩ := hS
  subst hzl hzh
  obtain ⟨ii, hinf, hsz'⟩ := Option.map_eq_some_iff.1 hsz
  have hrun : (Instr.sliceAt t (.slice ao n cap) (some (.int kl (i : Int))) (some (.int kh (j : Int))) none).run P w = .ok (.slice (if cap = i then ao else ao.map (·.add (i * sz))) (j - i) (cap - i)) w := by
    simp [Instr.sliceAt, Instr.slice, Instr.sliceBounds, Instr.sliceBound, asIntOf, run_underlying ht, sizeOf, typeInfo, hinf, hsz', go_sem]
    rw [if_pos (by omega), if_pos hij]
  unfold Oper.wp
  simp [execOp, ho, hx, hlo, hhi, hrun, Result.andThen]
  refine hK _ _ (h _ ((show Sl w sz (.slice ao n cap) n cs from ⟨ao, cap, rfl, hcap, hlen, hnone, hsome⟩).cut i (j - i) (by omega) (fun e => by simp [e]) (fun e => by simp [e]) rfl) ?_)
  · intro k hk
    split at hk
    · cases ao with
      | none => simp [Value.ownBlock] at hk
      | some ad => simpa [Value.ownBlock] using hk
    · cases ao with
      | none => simp [Value.ownBlock] at hk
      | some ad =>
        simp [Value.ownBlock] at hk ⊢
        rw [← hk]; unfold Addr.add; split <;> rfl

/-- copy(d, s), d of the call's own making, elements of one cell. -/
theorem wpList_cpy (hgd : o.guard = none) (d s : Operand) (dT sT : TypeId)
    (ho : o.op = .call { callee := .builtin .copy, args := #[d, s], argTypes := #[dT, sT] }) (elem : TypeId) (hu : P.underlying dT = some (.slice elem)) (hsz : (P.info? elem).map (·.size) = some 1)
    (base : Nat) (e : TypeId) (v : Value) (n : Nat) (xs : List Value) (hd : a.eval d = v) (hown : w.ownsRow base e 1 v n xs)
    (vs : Value) (m : Nat) (cs : List Value) (hs : a.eval s = vs) (hS : Sl w 1 vs m cs) (h1 : ∀ u ∈ cs, u.oneCell' = true)
    (h : ∀ w', w'.ownsRow base e 1 v n (cs.take n ++ xs.drop m) → w.grownBy w' v.ownBlock → wpList P ops Q rest (a.put o.dst (goInt (Nat.min m n))) w') : wpList P ops Q (o :: rest) a w := by
  obtain ⟨ao, scap, rfl, hcap, hlen, hnone, hsome⟩ := hS
  have hxl := hown.1
  rw [Nat.mul_one] at hlen hxl
  by_cases h0 : Nat.min m n = 0
  · have hrun : ∃ dp dCap, v = .slice dp n dCap := by
      rcases hown.2 with ⟨rfl, rfl⟩ | ⟨g, cap, cur, rfl, _⟩
      · exact ⟨_, _, rfl⟩
      · exact ⟨_, _, rfl⟩
    obtain ⟨dp, dCap, rfl⟩ := hrun
    refine wpList_copy_nothing hgd d s dT sT ho elem hu hsz dp ao n dCap m scap hd hs h0 ?_
    have := h w (by
      have e2 : cs.take n ++ xs.drop m = xs := by
        have : m = 0 ∨ n = 0 := by have h0' : min m n = 0 := h0; omega
        rcases this with rfl | rfl
        · simp [List.eq_nil_of_length_eq_zero hlen]
        · simp [List.eq_nil_of_length_eq_zero hxl]
      rw [e2]; exact hown) (World.grownBy.refl _ _)
    rwa [h0] at this
  · rcases hown.2 with ⟨rfl, rfl⟩ | ⟨g, cap, cur, rfl, hg, hh, hn, hm, hcs, htk⟩
    · simp at h0
    · have hmin : Nat.min m n ≤ m ∧ Nat.min m n ≤ n := ⟨Nat.min_le_left _ _, Nat.min_le_right _ _⟩
      cases ao with
      | none => have := hnone rfl; omega
      | some ad =>
        have hcell := hsome ad rfl
        rw [Nat.mul_one] at hcs htk
        have hl2 : (cs.take n).length = Nat.min m n := by simp [hlen, Nat.min_comm]
        refine wpList_copy_own hgd d s dT sT ho elem hu hsz g 0 n cap ad m scap hd hs cur e hh (cs.take n) hl2 (fun j u hj => hcell j u ?_) (by rw [hl2]; omega) (fun u hu => h1 u (List.mem_of_mem_take hu)) ?_
        · rw [List.getElem?_take] at hj; split at hj
          · exact hj
          · cases hj
        · rw [hl2]
          have hsize : ((cur.toList.take 0 ++ (cs.take n ++ cur.toList.drop (0 + Nat.min m n))).toArray).size = cap := by simp [hl2, hcs]; omega
          refine h _ ⟨?_, Or.inr ⟨g, cap, _, rfl, hg, setRow_heap w g _ _ e _ hh, hn, hm, by rw [Nat.mul_one]; exact hsize, ?_⟩⟩ ⟨rfl, rfl, rfl, by simp [World.setRow], fun k hk hne => setRow_other w g k _ (fun q => hne (by rw [q]; rfl))⟩
          · simp [hlen, hxl, Nat.min_def]; split <;> omega
          · rw [Nat.mul_one, ← htk]
            simp only [List.take_zero, List.nil_append, Nat.zero_add]
            rw [List.take_append, hl2, List.take_of_length_le (by rw [hl2]; exact hmin.2)]
            congr 1
            rcases Nat.le_total m n with hmn | hmn
            · rw [show Nat.min m n = m from Nat.min_eq_left hmn, List.drop_take]
            · rw [show Nat.min m n = n from Nat.min_eq_right hmn]
              simp
              omega
end
end Go.Proofs.U
/- More laws of the walk over slices; no condition. -/
namespace Go.Proofs.U
open Go.RowKit

section
variable {P : Program} {w : World} {ops : Array Oper} {rest : List Oper} {o : Oper} {a : Act} {Q : Exit → Act → World → Prop}

/-- x[:hi]. -/
theorem wpList_cuth (hgd : Region.wanted o (yielded ops a.tmps) = true) (t : TypeId) (x : Operand) (hi : Operand) (ho : o.op = .slice t x none (some hi) none) (e : TypeId) (ht : P.underlying t = some (.slice e)) (sz : Nat) (hsz : (P.info? e).map (·.size) = some sz)
    (ao : Option Addr) (n cap : Nat) (hx : a.eval x = .slice ao n cap) (kh : IntKind) (zh : Int) (j : Nat) (hhi : a.eval hi = .int kh zh) (hzh : zh = (j : Int)) (hj : j ≤ cap)
    (h : wpList P ops Q rest (a.put o.dst (.slice ao j cap)) w) : wpList P ops Q (o :: rest) a w := by
  refine wpList_wanted hgd fun K hK => ?_
  subst hzh
  obtain ⟨ii, hinf, hsz'⟩ := Option.map_eq_some_iff.1 hsz
  have e0 : (ao.map (·.add 0) : Option Addr) = ao := by cases ao <;> rfl
  have hrun : (Instr.sliceAt t (.slice ao n cap) none (some (.int kh (j : Int))) none).run P w = .ok (.slice ao j cap) w := by
    simp [Instr.sliceAt, Instr.slice, Instr.sliceBounds, Instr.sliceBound, asIntOf, run_underlying ht, sizeOf, typeInfo, hinf, go_sem]
    omega
  unfold Oper.wp
  simp [execOp, ho, hx, hhi, hrun, Result.andThen]
  exact hK _ _ h

end
end Go.Proofs.U
/- A literal's row: what it holds. -/
namespace Go.Proofs.U
open Go.RowKit
theorem Sl_made (w : World) (t : TypeId) (cs : Array Value) (n b : Nat) (hn : cs.size = n) (hb : w.heap.size = b) : Sl (w.alloc (.cells cs t)) 1 (.slice (some ⟨b, 0, none⟩) n n) n cs.toList := by
  subst hb
  refine ⟨_, _, rfl, Nat.le_refl _, by simp [hn], (fun h => by cases h), fun x hx => ?_⟩
  cases hx
  intro j u hj
  rw [Addr.plain, Nat.zero_add]
  have h1 : cs[j]? = some u := by simpa using hj
  have h2 : (w.alloc (.cells cs t)).heap[w.heap.size]? = some (.cells cs t) := by
    show (w.heap.push _)[w.heap.size]? = _
    simp
  unfold World.cell?
  rw [h2]
  exact h1

/-- s[i:]. -/
theorem run_cutl {P : Program} {w : World} (t e : TypeId) (ht : P.underlying t = some (.slice e)) (sz : Nat) (hsz : (P.info? e).map (·.size) = some sz) (ao : Option Addr) (n cap : Nat) (kl : IntKind) (i : Nat) (hi : i ≤ n) :
    (Instr.sliceAt t (.slice ao n cap) (some (.int kl (i : Int))) none none).run P w = .ok (.slice (if cap = i then ao else ao.map (·.add (i * sz))) (n - i) (cap - i)) w := by
  obtain ⟨ii, hinf, hsz'⟩ := Option.map_eq_some_iff.1 hsz
  simp [Instr.sliceAt, Instr.slice, Instr.sliceBounds, Instr.sliceBound, asIntOf, run_underlying ht, sizeOf, typeInfo, hinf, hsz', go_sem]
  intro h; omega
end Go.Proofs.U
/- Variables of several cells, whatever they hold: how they are made, read, stored, handed back; no condition. -/
namespace Go.Proofs.U
open Go.RowKit
set_option linter.unusedSimpArgs false
set_option linter.unusedVariables false

/-- Block g is a variable of type t that holds the cells cs. -/
def BxV (w : World) (g : Nat) (t : TypeId) (cs : List Value) : Prop := w.heap[g]? = some (.cells cs.toArray t (0, 0))
def onB1 (g : Nat) : Nat → Prop := fun k => k = g
theorem BxV.lt {w : World} {g : Nat} {t : TypeId} {cs : List Value} (h : BxV w g t cs) : g < w.heap.size := (Array.getElem?_eq_some_iff.mp h).1
theorem BxV.fr {S : Nat → Prop} {w w' : World} {g : Nat} {t : TypeId} {cs : List Value} (h : BxV w g t cs) (f : Fr S w w') (hs : ¬ S g) : BxV w' g t cs := (f.block g h.lt hs).trans h
theorem BxV.fr0 {w w' : World} {g : Nat} {t : TypeId} {cs : List Value} (h : BxV w g t cs) (f : Fr noB w w') : BxV w' g t cs := h.fr f (fun q => q)
theorem BxV.ne {w w' : World} {g g' : Nat} {t : TypeId} {cs : List Value} (h : BxV w g t cs) (f : Fr (onB1 g') w w') (hne : g ≠ g') : BxV w' g t cs := h.fr f (fun q => hne q)
theorem BxV.cell {w : World} {g : Nat} {t : TypeId} {cs : List Value} (h : BxV w g t cs) (i : Nat) (v : Value) (hv : cs[i]? = some v) : w.cell? ⟨g, i, none⟩ = some v ∧ w.frozen? ⟨g, i, none⟩ = false := by
  have h' : w.heap[g]? = _ := h
  constructor
  · unfold World.cell?; rw [h']; simpa using hv
  · simp [World.frozen?, h']
theorem BxV.range {w : World} {g : Nat} {t : TypeId} {cs : List Value} (h : BxV w g t cs) (o : Nat) (ds : List Value) (hd : (cs.drop o).take ds.length = ds) : w.rangeAt g o ds := by
  intro j v hj
  refine (h.cell (o + j) v ?_).1
  have hjl := (List.getElem?_eq_some_iff.1 hj).1
  have : ((cs.drop o).take ds.length)[j]? = some v := by rw [hd]; exact hj
  rw [List.getElem?_take, if_pos hjl, List.getElem?_drop] at this
  exact this
theorem BxV.thereR {w : World} {g : Nat} {t : TypeId} {cs : List Value} (h : BxV w g t cs) (o n : Nat) (hn : o + n ≤ cs.length) : w.there g o n := by
  intro j hj
  have h1 := h.cell (o + j) cs[o + j] (List.getElem?_eq_getElem (by omega))
  exact ⟨by rw [h1.1]; rfl, h1.2⟩
theorem BxV.set {w : World} {g : Nat} {t : TypeId} {cs : List Value} (h : BxV w g t cs) (i : Nat) (v : Value) : BxV (w.setCell ⟨g, i, none⟩ v) g t (cs.set i v) := by
  have h' : w.heap[g]? = _ := h
  have hlt := h.lt
  have e1 : w.heap[g] = .cells cs.toArray t (0, 0) := by
    rw [Array.getElem?_eq_getElem hlt] at h'; exact Option.some.inj h'
  show _ = _
  simp [World.setCell, Array.getElem_modify, hlt, e1]
theorem setCells_fr1 (w : World) (g : Nat) (vs : List Value) : ∀ o, Fr (onB1 g) w (w.setCells g o vs) := by
  induction vs generalizing w with
  | nil => intro o; exact Fr.refl _ _
  | cons v vs ih =>
    intro o
    exact ((Fr.refl (onB1 g) w).setCell ⟨g, o, none⟩ v (fun _ => rfl)).trans (ih (w.setCell ⟨g, o, none⟩ v) (o + 1))
/-- ds in the place of as many cells, from o on. -/
def putAt (cs : List Value) (o : Nat) (ds : List Value) : List Value := cs.take o ++ ds ++ cs.drop (o + ds.length)
theorem putAt_nil (cs : List Value) (o : Nat) : putAt cs o [] = cs := by simp [putAt]
theorem putAt_cons (cs : List Value) (o : Nat) (v : Value) (ds : List Value) (h : o < cs.length) : putAt (cs.set o v) (o + 1) ds = putAt cs o (v :: ds) := by
  unfold putAt
  rw [List.take_succ_eq_append_getElem (by simpa using h), List.take_set_of_le (Nat.le_refl _)]
  simp
  rw [List.drop_set_of_lt (by omega)]
  congr 1; omega
theorem putAt_all (cs ds : List Value) (h : ds.length = cs.length) : putAt cs 0 ds = ds := by simp [putAt, h]
theorem setCells_bx {g : Nat} {t : TypeId} (ds : List Value) : ∀ (o : Nat) (w : World) (cs : List Value), BxV w g t cs → o + ds.length ≤ cs.length → BxV (w.setCells g o ds) g t (putAt cs o ds) := by
  induction ds with
  | nil => intro o w cs h _; rw [putAt_nil]; exact h
  | cons v ds ih =>
    intro o w cs h hl
    simp at hl
    have := ih (o + 1) _ (cs.set o v) (h.set o v) (by simp; omega)
    rw [putAt_cons cs o v ds (by omega)] at this
    exact this

section
variable {P : Program} {w : World} {ops : Array Oper} {rest : List Oper} {o : Oper} {a : Act} {Q : Exit → Act → World → Prop}
theorem at_wpP {l : List Oper} (h : wpList P ops Q l a w) : wpList P ops Q l a w := h

theorem at_st (t : TypeId) (x y : Operand) (_ho : o.op = .store t x y) (h : wpList P ops Q (o :: rest) a w) : wpList P ops Q (o :: rest) a w := h
theorem at_ld (t : TypeId) (x : Operand) (_ho : o.op = .load t x) (h : wpList P ops Q (o :: rest) a w) : wpList P ops Q (o :: rest) a w := h
/-- A new variable: its block is a letter. -/
theorem wpList_allocV (hgd : Region.wanted o (yielded ops a.tmps) = true) (t : TypeId) (ho : o.op = .alloc t) (zs : List Value) (hz : (P.info? t).map (·.zero) = some (some (.agg zs.toArray)))
    (h : ∀ g w', Hid (g = w.heap.size) → BxV w' g t zs → Fr noB w w' → w.heap.size ≤ g → wpList P ops Q rest (a.put o.dst (.pointer (some ⟨g, 0, none⟩))) w') : wpList P ops Q (o :: rest) a w := by
  refine wpList_wanted hgd fun K hK => ?_
  obtain ⟨i, hi, hz'⟩ := Option.map_eq_some_iff.1 hz
  unfold Oper.wp
  have hrun : (execOp a.eval o).run P w = .ok (.value (.pointer (some ⟨w.heap.size, 0, none⟩))) (w.alloc (.cells zs.toArray t)) := by
    simp [execOp, ho, go_sem, zeroValue, typeInfo, hi, hz', Value.cells]
  rw [hrun]
  refine hK _ _ (h w.heap.size _ rfl ?_ ((Fr.refl _ _).alloc _) (Nat.le_refl _))
  show (w.heap.push _)[w.heap.size]? = _
  rw [Array.getElem?_push, if_pos rfl]

/-- An argument's own variable. -/
theorem wpList_boxV (hgd : Region.wanted o (yielded ops a.tmps) = true) (t : TypeId) (x : Operand) (ho : o.op = .box t x) (cs : List Value) (hx : a.eval x = .agg cs.toArray)
    (h : ∀ g w', Hid (g = w.heap.size) → BxV w' g t cs → Fr noB w w' → w.heap.size ≤ g → wpList P ops Q rest (a.put o.dst (.pointer (some ⟨g, 0, none⟩))) w') : wpList P ops Q (o :: rest) a w := by
  refine wpList_wanted hgd fun K hK => ?_
  have hrun : (execOp a.eval o).run P w = .ok (.value (.pointer (some ⟨w.heap.size, 0, none⟩))) (w.alloc (.cells cs.toArray t)) := by
    simp only [execOp, ho, hx]
    simp [go_sem, Value.cells]
  unfold Oper.wp
  rw [hrun]
  refine hK _ _ (h w.heap.size _ rfl ?_ ((Fr.refl _ _).alloc _) (Nat.le_refl _))
  show (w.heap.push _)[w.heap.size]? = _
  rw [Array.getElem?_push, if_pos rfl]

/-- A whole variable read. -/
theorem wpList_loadV (hgd : o.guard = none) (t : TypeId) (x : Operand) (ho : o.op = .load t x) (g off : Nat) (hx : a.eval x = .pointer (some ⟨g, off, none⟩)) (t' : TypeId) (cs ds : List Value) (d : TypeDesc) (hA : BxV w g t' cs)
    (hu : P.underlying t = some d) (hd : d.isRow = true) (hi : (P.info? t).map (·.size) = some ds.length) (hds : (cs.drop off).take ds.length = ds)
    (h : wpList P ops Q rest (a.put o.dst (.agg ds.toArray)) w) : wpList P ops Q (o :: rest) a w :=
  wpList_load_mid hgd t x ho g off hx ds d (hA.range off ds hds) hu hd hi h

/-- A value stored into a variable, from off on. -/
theorem wpList_storeV (hgd : o.guard = none) (t : TypeId) (x y : Operand) (ho : o.op = .store t x y) (g off : Nat) (hx : a.eval x = .pointer (some ⟨g, off, none⟩)) (ds : List Value) (hy : a.eval y = .agg ds.toArray) (t' : TypeId) (cs : List Value) (hA : BxV w g t' cs)
    (hi : (P.info? t).map (·.size) = some ds.length) (hl : off + ds.length ≤ cs.length) (h1 : ∀ v ∈ ds, v.oneCell' = true)
    (h : ∀ w', BxV w' g t' (putAt cs off ds) → Fr (onB1 g) w w' → wpList P ops Q rest (a.put o.dst undef) w') : wpList P ops Q (o :: rest) a w := by
  refine wpList_store_mid hgd t x y ho g off ds.toArray hx hy (by simpa using hA.thereR off ds.length hl) (by simpa using hi) (all_oneCell_toArray h1) (h _ ?_ ?_)
  · exact setCells_bx ds off w cs hA hl
  · exact setCells_fr1 w g _ off

/-- One cell stored into a variable. -/
theorem wpList_store1 (hgd : o.guard = none) (t : TypeId) (x y : Operand) (ho : o.op = .store t x y) (g off : Nat) (hx : a.eval x = .pointer (some ⟨g, off, none⟩)) (v : Value) (hy : a.eval y = v) (hv : v.oneCell' = true) (t' : TypeId) (cs : List Value) (hA : BxV w g t' cs)
    (hi : (P.info? t).map (·.size) = some 1) (hl : off < cs.length)
    (h : ∀ w', BxV w' g t' (cs.set off v) → Fr (onB1 g) w w' → wpList P ops Q rest (a.put o.dst undef) w') : wpList P ops Q (o :: rest) a w := by
  refine wpList_wanted (by simp [Region.wanted, hgd]) fun K hK => ?_
  obtain ⟨i, hii, hs⟩ := Option.map_eq_some_iff.1 hi
  have hc := hA.cell off cs[off] (List.getElem?_eq_getElem hl)
  have hst : (Instr.storeAt t (.pointer (some ⟨g, off, none⟩)) v).run P w = .ok () (w.setCell ⟨g, off, none⟩ v) := by
    cases v with
    | agg cs => simp [Value.oneCell'] at hv
    | _ =>
      have hrs := run_store P w ⟨g, off, none⟩ _ .plain hv
      first
        | (simp [Instr.storeAt, Instr.sureAddr, storeVar, sizeOf, typeInfo, hii, hs, Value.cells, go_sem, hc.1, hc.2]; done)
        | (simp [Instr.storeAt, Instr.sureAddr, storeVar, sizeOf, typeInfo, hii, hs, Value.cells, go_sem, hc.1, hc.2, hrs]; done)
        | (simp [Instr.storeAt, Instr.sureAddr, storeVar, sizeOf, typeInfo, hii, hs, Value.cells, go_sem]; rw [hrs]; simp [hc.1, hc.2])
  unfold Oper.wp execOp
  simp only [ho, hx, hy, Sem.run_bind, hst, Result.andThen_ok]
  exact hK _ _ (h _ (hA.set off v) (Fr.setCell (S := onB1 g) (Fr.refl _ _) _ _ (fun _ => rfl)))
end
end Go.Proofs.U
/- Pages: the laws' own full. -/
namespace Go.Proofs.YtmkinaijkgkgiaaGreat
open Go.RowKit Go.Proofs.U
set_option linter.unusedSimpArgs false
set_option linter.unusedVariables false

def pgv (p : List Int) : List Value := p.map (Value.int .u8)
/-- A page as a value. -/
def pgV (p : List Int) : Value := .agg (pgv p).toArray
theorem pgv_len (p : List Int) : (pgv p).length = p.length := by simp [pgv]
theorem pgv_one (p : List Int) : ∀ v ∈ pgv p, v.oneCell' = true := by
  intro v hv; simp [pgv] at hv; obtain ⟨_, _, rfl⟩ := hv; rfl
def zeroP : List Int := List.replicate 256 0
theorem zero_page : (Tryz.prog.info? 96).map (·.zero) = some (some (.agg (pgv zeroP).toArray)) := by kernel_rfl
theorem size_page : (Tryz.prog.info? 96).map (·.size) = some 256 := by kernel_rfl
theorem built_page : Tryz.prog.built 96 [] = some (pgv zeroP).toArray := by kernel_rfl
theorem size_u8 : (Tryz.prog.info? 5).map (·.size) = some 1 := by kernel_rfl
section
variable {w : World} {ops : Array Oper} {rest : List Oper} {o : Oper} {a : Act} {Q : Exit → Act → World → Prop}
theorem wpList_buildP (hgd : Region.wanted o (yielded ops a.tmps) = true) (ho : o.op = .build 96 #[])
    (h : wpList Tryz.prog ops Q rest (a.put o.dst (pgV zeroP)) w) : wpList Tryz.prog ops Q (o :: rest) a w := by
  refine wpList_wanted hgd fun K hK => ?_
  have hrun := run_build (P := Tryz.prog) w 96 #[] _ built_page
  unfold Oper.wp
  simp [execOp, ho, hrun, Result.andThen]
  exact hK _ _ h
theorem wpList_allocP (hgd : Region.wanted o (yielded ops a.tmps) = true) (ho : o.op = .alloc 96)
    (h : ∀ g w', Hid (g = w.heap.size) → BxV w' g 96 (pgv zeroP) → Fr noB w w' → w.heap.size ≤ g → wpList Tryz.prog ops Q rest (a.put o.dst (.pointer (some ⟨g, 0, none⟩))) w') : wpList Tryz.prog ops Q (o :: rest) a w :=
  wpList_allocV hgd 96 ho _ zero_page h
theorem wpList_storeP (hgd : o.guard = none) (x y : Operand) (ho : o.op = .store 96 x y) (g : Nat) (hx : a.eval x = .pointer (some ⟨g, 0, none⟩)) (p : List Int) (hy : a.eval y = pgV p) (q : List Int) (hA : BxV w g 96 (pgv q))
    (hp : p.length = 256) (hq : q.length = 256)
    (h : ∀ w', BxV w' g 96 (pgv p) → Fr (onB1 g) w w' → wpList Tryz.prog ops Q rest (a.put o.dst undef) w') : wpList Tryz.prog ops Q (o :: rest) a w := by
  refine wpList_storeV hgd 96 x y ho g 0 hx (pgv p) hy 96 (pgv q) hA (by rw [size_page, pgv_len, hp]) (by rw [pgv_len, pgv_len, hp, hq]; exact Nat.le_refl _) (pgv_one p) ?_
  intro w' h1 h2
  rw [putAt_all _ _ (by rw [pgv_len, pgv_len, hp, hq])] at h1
  exact h w' h1 h2
end

theorem zeroP_len : zeroP.length = 256 := List.length_replicate

end Go.Proofs.YtmkinaijkgkgiaaGreat
/- Slices whose elements take several cells: what they hold, and the law of an index; no condition. -/
namespace Go.Proofs.U
open Go.RowKit

/-- v is a slice of the things l, each of sz cells, told by ec. -/
def SlR {α : Type} (ec : α → List Value) (sz : Nat) (w : World) (v : Value) (l : List α) : Prop := (∀ x ∈ l, (ec x).length = sz) ∧ Sl w sz v l.length (l.flatMap ec)
theorem SlR.fr0 {α : Type} {ec : α → List Value} {sz : Nat} {w w' : World} {v : Value} {l : List α} (h : SlR ec sz w v l) (hf : Fr noB w w') : SlR ec sz w' v l := ⟨h.1, h.2.fr0 hf⟩
theorem SlR.fr {α : Type} {S : Nat → Prop} {ec : α → List Value} {sz : Nat} {w w' : World} {v : Value} {l : List α} (h : SlR ec sz w v l) (hf : Fr S w w') (hs : ∀ k, v.ownBlock = some k → ¬ S k) : SlR ec sz w' v l := ⟨h.1, h.2.fr hf hs⟩
theorem SlR.opn {α : Type} {ec : α → List Value} {sz : Nat} {w : World} {v : Value} {l : List α} (h : SlR ec sz w v l) : ∃ a cap, v = .slice a l.length cap ∧ l.length ≤ cap := by
  obtain ⟨_, a, cap, hv, hl, _⟩ := h; exact ⟨a, cap, hv, hl⟩

theorem flat_at {α : Type} (ec : α → List Value) (sz : Nat) (l : List α) (h : ∀ x ∈ l, (ec x).length = sz) (j : Nat) (hj : j < l.length) (i : Nat) (hi : i < sz) : (l.flatMap ec)[j * sz + i]? = (ec l[j])[i]? := by
  induction l generalizing j with
  | nil => simp at hj
  | cons x l ih =>
    have hx := h x (by simp)
    simp only [List.flatMap_cons]
    cases j with
    | zero => rw [List.getElem?_append_left (by omega)]; simp
    | succ j =>
      rw [List.getElem?_append_right (by rw [hx, Nat.succ_mul]; omega), hx]
      have e : (j + 1) * sz + i - sz = j * sz + i := by rw [Nat.succ_mul]; omega
      rw [e, ih (fun y hy => h y (by simp [hy])) j (by simpa using hj)]
      simp

section
variable {P : Program} {w : World} {ops : Array Oper} {rest : List Oper} {o : Oper} {a : Act} {Q : Exit → Act → World → Prop}

/-- x[i], x a slice of things of several cells: the place of the thing, and its cells. -/
theorem wpList_idxR {α : Type} (hgd : Region.wanted o (yielded ops a.tmps) = true) (t : TypeId) (x i : Operand) (ho : o.op = .indexAddr t x i) (e : TypeId) (ht : P.underlying t = some (.slice e)) (sz : Nat) (hsz : (P.info? e).map (·.size) = some sz)
    (ec : α → List Value) (v : Value) (l : List α) (hx : a.eval x = v) (hS : SlR ec sz w v l) (h0 : 0 < sz) (k : IntKind) (z : Int) (j : Nat) (hi : a.eval i = .int k z) (hz : z = (j : Int)) (hj : j < l.length)
    (h : ∀ b off, v.ownBlock = some b → (∀ q u, (ec l[j])[q]? = some u → w.cell? ⟨b, off + q, none⟩ = some u) → wpList P ops Q rest (a.put o.dst (.pointer (some ⟨b, off, none⟩))) w) : wpList P ops Q (o :: rest) a w := by
  refine wpList_wanted hgd fun K hK => ?_
  obtain ⟨hlen, ao, cap, rfl, hcap, hcl, hnone, hsome⟩ := hS
  cases ao with
  | none => have := hnone rfl; omega
  | some ad =>
    have hcell := hsome ad rfl
    subst hz
    have hjl : j * sz < (l.flatMap ec).length := by rw [hcl]; exact (Nat.mul_lt_mul_right h0).2 hj
    have hc0 := hcell 0 _ (List.getElem?_eq_getElem (Nat.lt_of_le_of_lt (Nat.zero_le _) hjl))
    obtain ⟨b, off, sp⟩ := ad
    have hsp : sp = none := by simpa [Addr.add] using World.cell?_spot hc0
    subst hsp
    obtain ⟨ii, hinf, hsz'⟩ := Option.map_eq_some_iff.1 hsz
    have hrun : (Instr.indexAt t (.slice (some ⟨b, off, none⟩) l.length cap) (.int k (j : Int))).run P w = .ok (.pointer (some ⟨b, off + j * sz, none⟩)) w := by
      have h1 : (0 : Int) ≤ (j : Int) ∧ (j : Int) < (l.length : Int) := by omega
      simp [Instr.indexAt, asIntOf, run_underlying ht, h1, sizeOf, typeInfo, hinf, hsz', go_sem, Addr.plain]
      omega
    unfold Oper.wp
    simp [execOp, ho, hx, hi, hrun, Result.andThen]
    refine hK _ _ (h b (off + j * sz) rfl (fun q u hq => ?_))
    have hlj := hlen l[j] (by simp)
    have hqs : q < sz := by rw [← hlj]; exact (List.getElem?_eq_some_iff.1 hq).1
    have := hcell (j * sz + q) u (by rw [flat_at ec sz l hlen j hj q hqs]; exact hq)
    rwa [Addr.plain, ← Nat.add_assoc] at this
end
end Go.Proofs.U
/- The document's disk: There, act and Cut. -/
namespace Go.Proofs.YtmkinaijkgkgiaaGreat
open Go.RowKit Go.Proofs.U
set_option linter.unusedSimpArgs false
set_option linter.unusedVariables false

theorem size_int : (Tryz.prog.info? 3).map (·.size) = some 1 := by kernel_rfl
theorem size_bool : (Tryz.prog.info? 4).map (·.size) = some 1 := by kernel_rfl

section
variable {w : World} {ops : Array Oper} {rest : List Oper} {o : Oper} {a : Act} {Q : Exit → Act → World → Prop}
end
/-- What an act does: counted, left, down, error. -/
def actR (c : Bool) (l : Int) (d : Bool) : Int × Bool × Int := if d || (c && l == 0) then (l, true, 42) else if c then (l - 1, d, 0) else (l, d, 0)

end Go.Proofs.YtmkinaijkgkgiaaGreat
/- The document's disk: Read. -/
namespace Go.Proofs.YtmkinaijkgkgiaaGreat
open Go.RowKit Go.Proofs.U
set_option linter.unusedSimpArgs false
set_option linter.unusedVariables false

def encW (x : Int × List Int) : List Value := .int .i64 x.1 :: pgv x.2
/-- What a page reads as: the last write of it, or what is stable. -/
def lastW (pend : List (Int × List Int)) (i : Int) (p : List Int) : List Int := pend.foldl (fun q x => if x.1 == i then x.2 else q) p
theorem lastW_none (i : Int) (p : List Int) (l : List (Int × List Int)) (h : ∀ x ∈ l, (x.1 == i) = false) : lastW l i p = p := by
  unfold lastW
  induction l generalizing p with
  | nil => rfl
  | cons x l ih => rw [List.foldl_cons, h x (by simp)]; exact ih p (fun y hy => h y (by simp [hy]))
theorem lastW_hit (i : Int) (p : List Int) (l : List (Int × List Int)) (k : Nat) (hk : k < l.length) (hx : (l[k].1 == i) = true) (h : ∀ j (hj : j < l.length), k < j → (l[j].1 == i) = false) : lastW l i p = l[k].2 := by
  have e : l = l.take (k + 1) ++ l.drop (k + 1) := (List.take_append_drop _ _).symm
  have h2 : ∀ x ∈ l.drop (k + 1), (x.1 == i) = false := by
    intro x hx
    obtain ⟨j, hj, rfl⟩ := List.mem_iff_getElem.1 hx
    rw [List.getElem_drop]
    exact h _ _ (by omega)
  have : lastW l i p = lastW (l.drop (k + 1)) i (lastW (l.take (k + 1)) i p) := by
    conv => lhs; rw [e]
    unfold lastW; rw [List.foldl_append]
  rw [this, lastW_none _ _ _ h2, List.take_succ_eq_append_getElem hk]
  unfold lastW
  rw [List.foldl_append, List.foldl_cons, List.foldl_nil, hx]
  rfl

theorem range_of {w : World} {b o : Nat} {cs : List Value} (h : ∀ (j : Nat) (v : Value), cs[j]? = some v → w.cell? ⟨b, o + j, none⟩ = some v) : w.rangeAt b o cs := by
  intro j v hj
  exact h j v hj
section
variable {w : World} {ops : Array Oper} {rest : List Oper} {o : Oper} {a : Act} {Q : Exit → Act → World → Prop}
end

def readR (pages : List (List Int)) (bad : List Bool) (pend : List (Int × List Int)) (i : Int) : List Int × Int :=
  if 0 ≤ i ∧ i < (pages.length : Int) then (if bad.getD i.toNat false then (zeroP, 43) else (lastW pend i (pages.getD i.toNat []), 0)) else (zeroP, 41)

end Go.Proofs.YtmkinaijkgkgiaaGreat
/- Rows of the call's own making whose elements take several cells: read, stored, appended to; no condition. -/
namespace Go.Proofs.U
open Go.RowKit
set_option linter.unusedSimpArgs false
set_option linter.unusedVariables false

def OwnR {α : Type} (ec : α → List Value) (sz : Nat) (e : TypeId) (w : World) (base : Nat) (v : Value) (l : List α) : Prop := (∀ x ∈ l, (ec x).length = sz) ∧ w.ownsRow base e sz v l.length (l.flatMap ec)

section
variable {α : Type} {ec : α → List Value} {sz : Nat} {e : TypeId} {w w' : World} {base : Nat} {v : Value} {l : List α}
theorem OwnR.sl (h : OwnR ec sz e w base v l) : SlR ec sz w v l := ⟨h.1, Sl.of_owns h.2⟩
theorem OwnR.opn (h : OwnR ec sz e w base v l) : ∃ a cap, v = .slice a l.length cap := by
  obtain ⟨a, cap, hv, _⟩ := h.sl.opn; exact ⟨a, cap, hv⟩
theorem OwnR.newB (h : OwnR ec sz e w base v l) : ∀ j, v.ownBlock = some j → base ≤ j ∧ j < w.heap.size := World.ownsRow.lt h.2
theorem OwnR.fr {S : Nat → Prop} (h : OwnR ec sz e w base v l) (hf : Fr S w w') (hs : ∀ k, v.ownBlock = some k → ¬ S k) : OwnR ec sz e w' base v l := by
  refine ⟨h.1, h.2.1, ?_⟩
  rcases h.2.2 with h0 | ⟨g, cap, cur, hv, h1, h2, h3⟩
  · exact Or.inl h0
  · exact Or.inr ⟨g, cap, cur, hv, h1, (hf.block g (Array.getElem?_eq_some_iff.1 h2).1 (hs g (by rw [hv]; rfl))).trans h2, h3⟩
theorem OwnR.fr0 (h : OwnR ec sz e w base v l) (hf : Fr noB w w') : OwnR ec sz e w' base v l := h.fr hf (fun _ _ q => q)
theorem OwnR.ne {g : Nat} (h : OwnR ec sz e w base v l) (hf : Fr (onB1 g) w w') (hg : ∀ k, v.ownBlock = some k → k ≠ g) : OwnR ec sz e w' base v l := h.fr hf (fun k hk q => hg k hk q)
theorem OwnR.rebase {b : Nat} (h : OwnR ec sz e w base v l) (hb : b ≤ base) : OwnR ec sz e w b v l := by
  refine ⟨h.1, h.2.1, ?_⟩
  rcases h.2.2 with h0 | ⟨g, cap, cur, hv, h1, h3⟩
  · exact Or.inl h0
  · exact Or.inr ⟨g, cap, cur, hv, Nat.le_trans hb h1, h3⟩
/-- Rows of other types lie apart. -/
theorem OwnR.apart {β : Type} {ec' : β → List Value} {sz' : Nat} {e' : TypeId} {base' : Nat} {v' : Value} {l' : List β} (h : OwnR ec sz e w base v l) (h' : OwnR ec' sz' e' w base' v' l') (hne : e ≠ e') : ∀ q, v.ownBlock = some q → v'.ownBlock = some q → False := by
  intro q hq hq'
  rcases h.2.2 with ⟨rfl, _⟩ | ⟨g, cap, cur, rfl, _, h2, _⟩
  · simp [Value.ownBlock] at hq
  rcases h'.2.2 with ⟨rfl, _⟩ | ⟨g', cap', cur', rfl, _, h2', _⟩
  · simp [Value.ownBlock] at hq'
  simp [Value.ownBlock] at hq hq'
  subst hq hq'
  rw [h2] at h2'
  simp at h2'
  exact hne h2'.2
/-- Its block, where there is an element. -/
theorem OwnR.bx (h : OwnR ec sz e w base v l) (hl : 0 < l.length) :
    ∃ g cap cur, v = .slice (some ⟨g, 0, none⟩) l.length cap ∧ base ≤ g ∧ BxV w g e cur ∧ l.length * sz ≤ cur.length ∧ cur.take (l.length * sz) = l.flatMap ec ∧
      ∀ (w' : World) (cur' : List Value) (l' : List α), BxV w' g e cur' → cur'.length = cur.length → l'.length = l.length → (∀ x ∈ l', (ec x).length = sz) → cur'.take (l.length * sz) = l'.flatMap ec → OwnR ec sz e w' base v l' := by
  rcases h.2.2 with ⟨_, hn⟩ | ⟨g, cap, cur, hv, h1, h2, h3, h4, h5, h6⟩
  · omega
  · have hlen : l.length * sz ≤ cur.toList.length := by
      have : cur.toList.length = cap * sz := by rw [← h5]; exact Array.length_toList
      rw [this]; exact Nat.mul_le_mul_right _ h3
    refine ⟨g, cap, cur.toList, hv, h1, h2, hlen, h6, ?_⟩
    intro w' cur' l' hb hc hl' hall htk
    refine ⟨hall, ?_, Or.inr ⟨g, cap, cur'.toArray, by rw [hl']; exact hv, h1, hb, by rw [hl']; exact h3, h4, ?_, ?_⟩⟩
    · rw [← htk, List.length_take, hc, hl']; omega
    · rw [List.size_toArray, hc, Array.length_toList, h5]
    · rw [hl']; exact htk
theorem flat_put (l : List α) (hall : ∀ x ∈ l, (ec x).length = sz) (j : Nat) (hj : j < l.length) (x : α) (hx : (ec x).length = sz) (cur : List Value) (hlen : l.length * sz ≤ cur.length) (hc : cur.take (l.length * sz) = l.flatMap ec) :
    (putAt cur (j * sz) (ec x)).take (l.length * sz) = (l.set j x).flatMap ec := by
  have e1 : cur = l.flatMap ec ++ cur.drop (l.length * sz) := by rw [← hc, List.take_append_drop]
  have hfl : ∀ m : List α, (∀ x ∈ m, (ec x).length = sz) → (m.flatMap ec).length = m.length * sz := by
    intro m hm
    induction m with
    | nil => simp
    | cons y m ih => rw [List.flatMap_cons, List.length_append, hm y (by simp), ih (fun z hz => hm z (by simp [hz])), List.length_cons, Nat.succ_mul]; omega
  have hsp : l = l.take j ++ l[j] :: l.drop (j + 1) := by rw [List.getElem_cons_drop, List.take_append_drop]
  have hset : l.set j x = l.take j ++ x :: l.drop (j + 1) := by rw [List.set_eq_take_append_cons_drop, if_pos hj]
  have hA : ((l.take j).flatMap ec).length = j * sz := by rw [hfl _ (fun y hy => hall y (List.mem_of_mem_take hy))]; rw [List.length_take, Nat.min_eq_left (by omega)]
  have hlj := hall l[j] (by simp)
  have hflat : l.flatMap ec = (l.take j).flatMap ec ++ (ec l[j] ++ (l.drop (j + 1)).flatMap ec) := by
    conv => lhs; rw [hsp]
    rw [List.flatMap_append, List.flatMap_cons]
  have htake : cur.take (j * sz) = (l.take j).flatMap ec := by
    rw [e1, hflat, List.append_assoc, List.take_left' hA]
  have hdrop : cur.drop (j * sz + sz) = (l.drop (j + 1)).flatMap ec ++ cur.drop (l.length * sz) := by
    conv => lhs; rw [e1]
    rw [hflat]
    simp only [List.append_assoc]
    rw [← List.append_assoc, List.drop_left' (by rw [List.length_append, hA, hlj])]
  unfold putAt
  rw [hx, htake, hdrop, hset, List.flatMap_append, List.flatMap_cons]
  have hB : ((l.drop (j + 1)).flatMap ec).length = (l.length - (j + 1)) * sz := by rw [hfl _ (fun y hy => hall y (List.mem_of_mem_drop hy))]; simp
  have htot : ((l.take j).flatMap ec ++ ec x ++ (l.drop (j + 1)).flatMap ec).length = l.length * sz := by
    rw [List.length_append, List.length_append, hA, hx, hB]
    have : l.length = j + 1 + (l.length - (j + 1)) := by omega
    conv => rhs; rw [this, Nat.add_mul, Nat.add_mul, Nat.one_mul]
  rw [← List.append_assoc, List.take_left' htot, List.append_assoc]

variable {P : Program} {ops : Array Oper} {rest : List Oper} {o : Oper} {a : Act} {Q : Exit → Act → World → Prop}
/-- x[j], x a row of the call's own making. -/
theorem wpList_idxO (hgd : Region.wanted o (yielded ops a.tmps) = true) (t : TypeId) (x i : Operand) (ho : o.op = .indexAddr t x i) (et : TypeId) (ht : P.underlying t = some (.slice et)) (hsz : (P.info? et).map (·.size) = some sz)
    (g n cap : Nat) (hx : a.eval x = .slice (some ⟨g, 0, none⟩) n cap) (k : IntKind) (z : Int) (j : Nat) (hi : a.eval i = .int k z) (hz : z = (j : Int)) (hj : j < n)
    (h : wpList P ops Q rest (a.put o.dst (.pointer (some ⟨g, j * sz, none⟩))) w) : wpList P ops Q (o :: rest) a w := by
  refine wpList_wanted hgd fun K hK => ?_
  subst hz
  obtain ⟨ii, hinf, hsz'⟩ := Option.map_eq_some_iff.1 hsz
  have hrun : (Instr.indexAt t (.slice (some ⟨g, 0, none⟩) n cap) (.int k (j : Int))).run P w = .ok (.pointer (some ⟨g, j * sz, none⟩)) w := by
    have h1 : (0 : Int) ≤ (j : Int) ∧ (j : Int) < (n : Int) := by omega
    simp [Instr.indexAt, asIntOf, run_underlying ht, h1, sizeOf, typeInfo, hinf, hsz', go_sem, Addr.plain]
    omega
  unfold Oper.wp
  simp [execOp, ho, hx, hi, hrun, Result.andThen]
  exact hK _ _ h
theorem run_idxO (t et : TypeId) (ht : P.underlying t = some (.slice et)) (hsz : (P.info? et).map (·.size) = some sz) (g n cap : Nat) (k : IntKind) (j : Nat) (hj : j < n) :
    (Instr.indexAt t (.slice (some ⟨g, 0, none⟩) n cap) (.int k (j : Int))).run P w = .ok (.pointer (some ⟨g, j * sz, none⟩)) w := by
  obtain ⟨ii, hinf, hsz'⟩ := Option.map_eq_some_iff.1 hsz
  have h1 : (0 : Int) ≤ (j : Int) ∧ (j : Int) < (n : Int) := by omega
  simp [Instr.indexAt, asIntOf, run_underlying ht, h1, sizeOf, typeInfo, hinf, hsz', go_sem, Addr.plain]
  omega
/-- Where an element lies. -/
theorem OwnR.rangeK {g n cap : Nat} (hO : OwnR ec sz e w base (.slice (some ⟨g, 0, none⟩) n cap) l) (j : Nat) (hj : j < l.length) : w.rangeAt g (j * sz) (ec l[j]) := by
  obtain ⟨g', cap', cur, hv, h1, hB, h3, h4, h5⟩ := hO.bx (by omega)
  cases hv
  intro q u hq
  have hql : q < sz := by rw [← hO.1 l[j] (by simp)]; exact (List.getElem?_eq_some_iff.1 hq).1
  refine (hB.cell (j * sz + q) u ?_).1
  have hfl := flat_at ec sz l hO.1 j hj q hql
  rw [hq, ← h4, List.getElem?_take] at hfl
  split at hfl
  · exact hfl
  · cases hfl
/-- x[j] = y, y a value of several cells. -/
theorem wpList_stR (hgd : o.guard = none) (t : TypeId) (x y : Operand) (ho : o.op = .store t x y) (g n cap : Nat) (hO : OwnR ec sz e w base (.slice (some ⟨g, 0, none⟩) n cap) l) (j : Nat) (hj : j < l.length) (hx : a.eval x = .pointer (some ⟨g, j * sz, none⟩))
    (b : α) (hy : a.eval y = .agg (ec b).toArray) (hb : (ec b).length = sz) (hb1 : ∀ u ∈ ec b, u.oneCell' = true) (hi : (P.info? t).map (·.size) = some sz)
    (h : ∀ w', OwnR ec sz e w' base (.slice (some ⟨g, 0, none⟩) n cap) (l.set j b) → Fr (onB1 g) w w' → wpList P ops Q rest (a.put o.dst undef) w') : wpList P ops Q (o :: rest) a w := by
  obtain ⟨g', cap', cur, hv, h1, hB, h3, h4, h5⟩ := hO.bx (by omega)
  cases hv
  have hle : j * sz + sz ≤ cur.length := by
    have : (j + 1) * sz ≤ l.length * sz := Nat.mul_le_mul_right _ (by omega)
    rw [Nat.add_mul, Nat.one_mul] at this; omega
  refine wpList_storeV hgd t x y ho g (j * sz) hx (ec b) hy e cur hB (by rw [hi, hb]) (by rw [hb]; exact hle) hb1 ?_
  intro w' hB' hf
  refine h w' (h5 w' _ _ hB' ?_ (by simp) ?_ (flat_put l hO.1 j hj b hb cur h3 h4)) hf
  · unfold putAt; simp [hb]; omega
  · intro z hz
    rcases List.mem_or_eq_of_mem_set hz with hz | rfl
    · exact hO.1 z hz
    · exact hb
/-- append(s, x...). -/
theorem wpList_appR (hgd : o.guard = none) (s x : Operand) (t : TypeId) (ho : o.op = .call { callee := .builtin .append, args := #[s, x], argTypes := #[t, t] })
    (base : Nat) (e : TypeId) (z : Value) (bytes : Nat) (ht : P.underlying t = some (.slice e)) (hinfo : (P.info? e).map (fun i => (i.zero, i.size, i.bytes)) = some (some z, sz, bytes)) (hzs : z.cells.size = sz) (hsz : 0 < sz)
    (v : Value) (l : List α) (hs : a.eval s = v) (hO : OwnR ec sz e w base v l) (vx : Value) (m : List α) (hx : a.eval x = vx) (hS : SlR ec sz w vx m) (h1 : ∀ y ∈ m, ∀ u ∈ ec y, u.oneCell' = true)
    (h63 : l.length + m.length ≤ maxLen) (hbytes : (l.length + m.length) * bytes ≤ 140737488355328) (hbase : base ≤ w.heap.size)
    (h : ∀ v' w', OwnR ec sz e w' base v' (l ++ m) → w.grownBy w' v.ownBlock → wpList P ops Q rest (a.put o.dst v') w') : wpList P ops Q (o :: rest) a w := by
  refine wpList_app hgd s x t ho base e z sz bytes ht hinfo hzs hsz v l.length (l.flatMap ec) hs hO.2 vx m.length (m.flatMap ec) hx hS.2 ?_ h63 hbytes hbase ?_
  · intro u hu
    obtain ⟨y, hy, hu⟩ := List.mem_flatMap.1 hu
    exact h1 y hy u hu
  · intro v' w' ho' hg
    refine h v' w' ⟨?_, by rw [List.length_append, List.flatMap_append]; exact ho'⟩ hg
    intro y hy
    rcases List.mem_append.1 hy with hy | hy
    · exact hO.1 y hy
    · exact hS.1 y hy
/-- []T{}: a row of no elements, its block a letter. -/
theorem wpList_mk0 (ec : α → List Value) (sz : Nat) (hgd : Region.wanted o (yielded ops a.tmps) = true) (t : TypeId) (ho : o.op = .buildSlice t 0 #[]) (e : TypeId) (ht : P.underlying t = some (.slice e)) (hsz : (P.info? e).map (·.size) = some sz)
    (h : ∀ g w', OwnR ec sz e w' w.heap.size (.slice (some ⟨g, 0, none⟩) 0 0) ([] : List α) → Fr noB w w' → w.heap.size ≤ g → g < w'.heap.size → wpList P ops Q rest (a.put o.dst (.slice (some ⟨g, 0, none⟩) 0 0)) w') : wpList P ops Q (o :: rest) a w := by
  refine wpList_wanted hgd fun K hK => ?_
  obtain ⟨ii, hinf, hsz'⟩ := Option.map_eq_some_iff.1 hsz
  have hrun : (execOp a.eval o).run P w = .ok (.value (.slice (some ⟨w.heap.size, 0, none⟩) 0 0)) (w.alloc (.cells #[] e)) := by
    simp only [execOp, ho]
    simp [go_sem, run_underlying ht, sizeOf, typeInfo, hinf, hsz']
  unfold Oper.wp
  rw [hrun]
  exact hK _ _ (h w.heap.size _ ⟨by simp, World.ownsRow_made w #[] 0 (Nat.le_refl _) (Nat.zero_le _) (by simp)⟩ ((Fr.refl _ _).alloc _) (Nat.le_refl _) (by simp))
theorem OwnR.none (w : World) (e : TypeId) : OwnR ec sz e w base (.slice .none 0 0) ([] : List α) := ⟨by simp, by simp, Or.inl ⟨rfl, rfl⟩⟩
theorem OwnR.grown {S : Nat → Prop} {b0 : World} (h : OwnR ec sz e w base v l) (hf : Fr S b0 w) (hb : b0.heap.size ≤ base) (hg : w.grownBy w' v.ownBlock) : Fr S b0 w' :=
  hf.grown hg (fun k hk hlt => absurd (h.newB k hk).1 (by omega))
end
end Go.Proofs.U
/- The document's disk: Spoil and Put. -/
namespace Go.Proofs.YtmkinaijkgkgiaaGreat
open Go.RowKit Go.Proofs.U
set_option linter.unusedSimpArgs false
set_option linter.unusedVariables false

def inR (n : Nat) (i : Int) : Bool := decide (0 ≤ i) && decide (i < (n : Int))

end Go.Proofs.YtmkinaijkgkgiaaGreat
