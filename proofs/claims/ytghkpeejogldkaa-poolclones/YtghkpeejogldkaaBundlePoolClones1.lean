/- Texts Base, Y0, Base2, BaseM of the proof of PoolClones, one behind the other. -/
import Derived.WalkKit
import Derived.WalkSpells
import Derived.WalkLawsBesides
import Derived.BigQuiet
import Derived.Laws.AppendOwnNone
import Derived.Laws.BytesArg
import Derived.Laws.CopyOwn
import Derived.Deep.DeepMust
import Derived.Deep.OwnRows
/- Laws of the walk over slices, and the frame relation Fr: what a call may have turned; no condition. -/
namespace Go.Proofs.U
open Go.RowKit

/-- Of the blocks that lay in w none but those of S has turned; the streams are as they were. -/
structure Fr (S : Nat → Prop) (w w' : World) : Prop where
  os : w'.os = w.os
  tape : w'.tape = w.tape
  output : w'.output = w.output
  size : w.heap.size ≤ w'.heap.size
  block : ∀ k, k < w.heap.size → ¬ S k → w'.heap[k]? = w.heap[k]?

def noB : Nat → Prop := fun _ => False

theorem Fr.refl (S : Nat → Prop) (w : World) : Fr S w w := ⟨rfl, rfl, rfl, Nat.le_refl _, fun _ _ _ => rfl⟩
theorem Fr.trans {S : Nat → Prop} {a b c : World} (h : Fr S a b) (k : Fr S b c) : Fr S a c :=
  ⟨k.os.trans h.os, k.tape.trans h.tape, k.output.trans h.output, Nat.le_trans h.size k.size, fun i hi hs => (k.block i (Nat.lt_of_lt_of_le hi h.size) hs).trans (h.block i hi hs)⟩
theorem Fr.mono {S T : Nat → Prop} {a b : World} (h : Fr S a b) (hst : ∀ k, k < a.heap.size → S k → T k) : Fr T a b :=
  ⟨h.os, h.tape, h.output, h.size, fun i hi hs => h.block i hi fun q => hs (hst i hi q)⟩
/-- Behind a step that touched T alone, of what lay at the start only S. -/
theorem Fr.thenT {S T : Nat → Prop} {a b c : World} (h : Fr S a b) (k : Fr T b c) (hst : ∀ i, i < a.heap.size → T i → S i) : Fr S a c :=
  ⟨k.os.trans h.os, k.tape.trans h.tape, k.output.trans h.output, Nat.le_trans h.size k.size, fun i hi hs => (k.block i (Nat.lt_of_lt_of_le hi h.size) (fun q => hs (hst i hi q))).trans (h.block i hi hs)⟩
theorem Fr.thenN {S : Nat → Prop} {a b c : World} (h : Fr S a b) (k : Fr noB b c) : Fr S a c := h.thenT k fun _ _ q => q.elim
theorem Fr.drew {S : Nat → Prop} {a w : World} (h : Fr S a w) : Fr S a w.drew := ⟨h.os, h.tape, h.output, h.size, h.block⟩
theorem Fr.drewN {S : Nat → Prop} {a w : World} (h : Fr S a w) (n : Nat) : Fr S a (w.drewN n) := ⟨h.os, h.tape, h.output, h.size, h.block⟩
theorem Fr.alloc {S : Nat → Prop} {a w : World} (h : Fr S a w) (o : Obj) : Fr S a (w.alloc o) :=
  h.thenN ⟨rfl, rfl, rfl, by simp, fun k hk _ => Below.heap_alloc _ _ _ hk⟩
theorem Fr.setCell {S : Nat → Prop} {a w : World} (h : Fr S a w) (p : Addr) (u : Value) (hp : p.block < a.heap.size → S p.block) : Fr S a (w.setCell p u) :=
  h.thenT (T := fun k => k = p.block) ⟨rfl, rfl, rfl, by simp [World.setCell], fun k _ hk => Below.heap_setCell _ _ _ _ hk⟩ (fun i hi e => by subst e; exact hp hi)
theorem Fr.grown {S : Nat → Prop} {a w w' : World} {row : Option Nat} (h : Fr S a w) (hg : w.grownBy w' row) (hr : ∀ k, row = some k → k < a.heap.size → S k) : Fr S a w' :=
  h.thenT (T := fun k => row = some k) ⟨hg.os, hg.tape, hg.output, hg.size, fun k hk hn => hg.block k hk (fun e => hn e.symm)⟩ (fun i hi e => hr i e hi)
theorem Fr.of_grown {w w' : World} (hg : w.grownBy w' Option.none) : Fr noB w w' := (Fr.refl _ _).grown hg (fun _ h => by cases h)
theorem Fr.below {w w' : World} (h : Fr noB w w') : Below w.heap.size w w' := ⟨h.os, h.tape, h.output, h.size, fun k hk => h.block k hk (fun q => q)⟩
theorem Fr.of_below {w w' : World} (h : Below w.heap.size w w') : Fr noB w w' := ⟨h.os, h.tape, h.output, h.size, fun k hk _ => h.block k hk⟩
theorem Fr.cell {S : Nat → Prop} {w w' : World} (h : Fr S w w') {p : Addr} {v : Value} (hc : w.cell? p = some v) (hs : ¬ S p.block) : w'.cell? p = some v :=
  (World.cell?_of_block (w := w) (h.block p.block (World.block_lt_of_cell? w p hc) hs)).trans hc
theorem Fr.frozen {S : Nat → Prop} {w w' : World} (h : Fr S w w') {p : Addr} {v : Value} (hc : w.cell? p = some v) (hs : ¬ S p.block) : w'.frozen? p = w.frozen? p :=
  World.frozen?_of_block (w := w) (h.block p.block (World.block_lt_of_cell? w p hc) hs)

/-- v is a slice of n elements of sz cells each; these cells are cs. -/
def Sl (w : World) (sz : Nat) (v : Value) (n : Nat) (cs : List Value) : Prop :=
  ∃ a cap, v = .slice a n cap ∧ n ≤ cap ∧ cs.length = n * sz ∧ (a = none → cap = 0) ∧
    ∀ x, a = some x → ∀ j u, cs[j]? = some u → w.cell? (x.add j) = some u

theorem Sl.nil (w : World) (sz : Nat) : Sl w sz (.slice none 0 0) 0 [] := ⟨none, 0, rfl, Nat.le_refl _, by simp, fun _ => rfl, fun _ h => by cases h⟩

theorem Sl.fr {S : Nat → Prop} {w w' : World} {sz : Nat} {v : Value} {n : Nat} {cs : List Value} (h : Sl w sz v n cs) (hf : Fr S w w') (hs : ∀ k, v.ownBlock = some k → ¬ S k) : Sl w' sz v n cs := by
  obtain ⟨a, cap, rfl, h1, h2, h3, h4⟩ := h
  refine ⟨a, cap, rfl, h1, h2, h3, fun x hx => ?_⟩
  refine fun j u hj => hf.cell (h4 x hx j u hj) ?_
  subst hx
  have : (x.add j).block = x.block := by unfold Addr.add; split <;> rfl
  rw [this]; exact hs _ rfl
theorem Sl.fr0 {w w' : World} {sz : Nat} {v : Value} {n : Nat} {cs : List Value} (h : Sl w sz v n cs) (hf : Fr noB w w') : Sl w' sz v n cs := h.fr hf (fun _ _ q => q)

theorem Sl.of_owns {w : World} {base : Nat} {e : TypeId} {sz : Nat} {v : Value} {n : Nat} {xs : List Value} (h : w.ownsRow base e sz v n xs) : Sl w sz v n xs := by
  obtain ⟨h1, ⟨rfl, rfl⟩ | ⟨g, cap, cur, rfl, hg, hh, hn, hm, hcur, htake⟩⟩ := h
  · exact ⟨none, 0, rfl, Nat.le_refl _, h1, fun _ => rfl, fun _ h => by cases h⟩
  · refine ⟨some ⟨g, 0, none⟩, cap, rfl, hn, h1, (fun h => by cases h), fun x hx => ?_⟩
    cases hx
    intro j u hj
    have hadd : (⟨g, 0, none⟩ : Addr).add j = ⟨g, j, none⟩ := by unfold Addr.add; split <;> simp_all
    rw [hadd]
    subst htake
    have : cur[j]? = some u := by
      have := List.getElem?_eq_some_iff.1 hj
      obtain ⟨hlt2, he⟩ := this
      simp at hlt2 he
      rw [Array.getElem?_eq_some_iff]
      exact ⟨by omega, by simpa using he⟩
    simp [World.cell?, hh, this]

/-- a slice of integers of kind k. -/
def SlI (k : IntKind) (w : World) (v : Value) (l : List Int) : Prop := Sl w 1 v l.length (l.map (Value.int k)) ∧ ∀ n ∈ l, (Lit.int k n).wf = true
theorem SlI.nil (k : IntKind) (w : World) : SlI k w (.slice none 0 0) [] := ⟨Sl.nil w 1, by simp⟩
theorem SlI.fr {S : Nat → Prop} {k : IntKind} {w w' : World} {v : Value} {l : List Int} (h : SlI k w v l) (hf : Fr S w w') (hs : ∀ k, v.ownBlock = some k → ¬ S k) : SlI k w' v l := ⟨h.1.fr hf hs, h.2⟩
theorem SlI.fr0 {k : IntKind} {w w' : World} {v : Value} {l : List Int} (h : SlI k w v l) (hf : Fr noB w w') : SlI k w' v l := ⟨h.1.fr0 hf, h.2⟩
theorem SlI.opn {k : IntKind} {w : World} {v : Value} {l : List Int} (h : SlI k w v l) : ∃ a cap, v = .slice a l.length cap ∧ l.length ≤ cap := by
  obtain ⟨⟨a, cap, hv, hl, _⟩, _⟩ := h; exact ⟨a, cap, hv, hl⟩

theorem ones (k : IntKind) (l : List Int) : ∀ u ∈ l.map (Value.int k), u.oneCell' = true := by
  intro u hu; simp at hu; obtain ⟨x, _, rfl⟩ := hu; rfl
theorem Sl_one (w : World) (t : TypeId) (v : Value) : Sl (w.alloc (.cells #[v] t)) 1 (.slice (some ⟨w.heap.size, 0, none⟩) 1 1) 1 [v] := by
  refine ⟨_, _, rfl, Nat.le_refl _, by simp, (fun h => by cases h), fun x hx => ?_⟩
  cases hx
  intro j u hj
  cases j with
  | zero => simp at hj; subst hj; simp [Addr.add]
  | succ j => simp at hj
theorem owns_alloc {w : World} {base : Nat} {e : TypeId} {sz : Nat} {v : Value} {n : Nat} {xs : List Value} (h : w.ownsRow base e sz v n xs) (o : Obj) : (w.alloc o).ownsRow base e sz v n xs := World.ownsRow.alloc h o
theorem owns_new {w : World} {base : Nat} {e : TypeId} {sz : Nat} {v : Value} {n : Nat} {xs : List Value} (h : w.ownsRow base e sz v n xs) : ∀ k, v.ownBlock = some k → k < base → noB k := by
  intro k hk hlt; have := (h.lt k hk).1; omega

/-- a row of integers of the call's own making. -/
def OwnI (k : IntKind) (e : TypeId) (w : World) (base : Nat) (v : Value) (l : List Int) : Prop := w.ownsRow base e 1 v l.length (l.map (Value.int k))
theorem OwnI.mk {k : IntKind} {e : TypeId} {w : World} {base : Nat} {v : Value} {n : Nat} {xs : List Value} (l : List Int) (h : w.ownsRow base e 1 v n xs) (hx : xs = l.map (Value.int k)) : OwnI k e w base v l := by
  have hn : n = l.length := by have := h.1; rw [hx] at this; simpa using this.symm
  subst hx hn; exact h
theorem OwnI.fr {S : Nat → Prop} {k : IntKind} {e : TypeId} {w w' : World} {base : Nat} {v : Value} {l : List Int} (h : OwnI k e w base v l) (hf : Fr S w w') (hs : ∀ k, v.ownBlock = some k → ¬ S k) : OwnI k e w' base v l := by
  obtain ⟨h1, h2⟩ := h
  refine ⟨h1, ?_⟩
  rcases h2 with h2 | ⟨g, cap, cur, hv, hg, hh, r⟩
  · exact Or.inl h2
  · refine Or.inr ⟨g, cap, cur, hv, hg, ?_, r⟩
    rw [hf.block g (Array.getElem?_eq_some_iff.1 hh).1 (hs g (by rw [hv]; rfl))]; exact hh
theorem OwnI.opn {k : IntKind} {e : TypeId} {w : World} {base : Nat} {v : Value} {l : List Int} (h : OwnI k e w base v l) : ∃ a cap, v = .slice a l.length cap := by
  rcases h.2 with ⟨hv, hn⟩ | ⟨g, cap, cur, hv, _⟩
  · exact ⟨none, 0, by rw [hn]; exact hv⟩
  · exact ⟨_, _, hv⟩
theorem OwnI.newB {k : IntKind} {e : TypeId} {w : World} {base : Nat} {v : Value} {l : List Int} (h : OwnI k e w base v l) : ∀ j, v.ownBlock = some j → base ≤ j ∧ j < w.heap.size := World.ownsRow.lt h
theorem OwnI.rebase {k : IntKind} {e : TypeId} {w : World} {base base' : Nat} {v : Value} {l : List Int} (h : OwnI k e w base v l) (hb : base' ≤ base) : OwnI k e w base' v l := by
  obtain ⟨h1, h2⟩ := h
  refine ⟨h1, ?_⟩
  rcases h2 with h2 | ⟨g, cap, cur, hv, hg, hh, r⟩
  · exact Or.inl h2
  · exact Or.inr ⟨g, cap, cur, hv, Nat.le_trans hb hg, hh, r⟩
theorem OwnI.sl {k : IntKind} {e : TypeId} {w : World} {base : Nat} {v : Value} {l : List Int} (h : OwnI k e w base v l) (hwf : ∀ n ∈ l, (Lit.int k n).wf = true) : SlI k w v l := ⟨Sl.of_owns h, hwf⟩

theorem Addr.add_add (a : Addr) (i j : Nat) : (a.add i).add j = a.add (i + j) := by
  unfold Addr.add
  by_cases hi : i = 0
  · simp [hi]
  · by_cases hj : j = 0
    · simp [hj]
    · simp [hi, hj, Nat.add_assoc]
theorem Addr.plain (b off k : Nat) : (⟨b, off, none⟩ : Addr).add k = ⟨b, off + k, none⟩ := by unfold Addr.add; split <;> simp_all
/-- x[i:j] as a value. -/
theorem Sl.cut {w : World} {sz : Nat} {ao : Option Addr} {n cap : Nat} {cs : List Value} (hS : Sl w sz (.slice ao n cap) n cs) (i m : Nat) (hm : i + m ≤ n) {ao' : Option Addr} (ho1 : cap = i → ao' = ao) (ho2 : cap ≠ i → ao' = ao.map (·.add (i * sz))) {c' : Nat} (hc' : c' = cap - i) :
    Sl w sz (.slice ao' m c') m ((cs.drop (i * sz)).take (m * sz)) := by
  obtain ⟨a0, cap0, hv, hcap, hlen, hnone, hsome⟩ := hS
  cases hv
  subst hc'
  refine ⟨_, _, rfl, by omega, ?_, ?_, ?_⟩
  · simp [hlen]
    have : m * sz ≤ (n - i) * sz := Nat.mul_le_mul_right _ (by omega)
    have e2 : n * sz - i * sz = (n - i) * sz := (Nat.mul_sub_right_distrib _ _ _).symm
    omega
  · intro hn
    by_cases hci : cap = i
    · omega
    · rw [ho2 hci] at hn
      cases ao with
      | none => have := hnone rfl; omega
      | some ad => simp at hn
  · intro y hy
    by_cases hci : cap = i
    · rw [ho1 hci] at hy
      intro jj u hu
      exfalso
      have : jj < ((cs.drop (i * sz)).take (m * sz)).length := (List.getElem?_eq_some_iff.1 hu).1
      obtain rfl : m = 0 := by omega
      simp at this
    · rw [ho2 hci] at hy
      cases ao with
      | none => simp at hy
      | some ad =>
        simp at hy; subst hy
        intro jj u hu
        rw [Addr.add_add]
        have hjj : jj < ((cs.drop (i * sz)).take (m * sz)).length := (List.getElem?_eq_some_iff.1 hu).1
        have hj2 : jj < m * sz := by simp at hjj; omega
        rw [List.getElem?_take, if_pos hj2, List.getElem?_drop] at hu
        exact hsome ad rfl _ _ hu
theorem SlI.cut {w : World} {k : IntKind} {ao : Option Addr} {n cap : Nat} {l : List Int} (hS : SlI k w (.slice ao n cap) l) (i m : Nat) (hm : i + m ≤ l.length) {ao' : Option Addr} (ho1 : cap = i → ao' = ao) (ho2 : cap ≠ i → ao' = ao.map (·.add i)) {c' : Nat} (hc' : c' = cap - i) :
    SlI k w (.slice ao' m c') ((l.drop i).take m) := by
  have hn : n = l.length := by obtain ⟨⟨a0, cap0, hv, _⟩, _⟩ := hS; cases hv; rfl
  subst hn
  have := hS.1.cut i m hm ho1 (by simpa using ho2) hc'
  have e : ((l.drop i).take m).length = m := by simp; omega
  refine ⟨?_, fun x hx => hS.2 x (List.mem_of_mem_drop (List.mem_of_mem_take hx))⟩
  rw [e]; simpa [List.map_take, List.map_drop] using this

/-! Laws of the walk. -/
section
variable {P : Program} {w : World} {ops : Array Oper} {rest : List Oper} {o : Oper} {a : Act} {Q : Exit → Act → World → Prop}

theorem wpList_wanted (hw : Region.wanted o (yielded ops a.tmps) = true)
    (h : ∀ K : Act → World → Prop, (∀ a w, wpList P ops Q rest a w → K a w) → o.wp P a w K Q) : wpList P ops Q (o :: rest) a w :=
  wpList_step fun K hK => by rw [if_pos hw]; exact h K hK
theorem at_make (t : TypeId) (l c : Operand) (_ho : o.op = .makeSlice t l c) (h : wpList P ops Q (o :: rest) a w) : wpList P ops Q (o :: rest) a w := h
theorem at_idx (t : TypeId) (l c : Operand) (_ho : o.op = .indexAddr t l c) (h : wpList P ops Q (o :: rest) a w) : wpList P ops Q (o :: rest) a w := h
theorem at_conv (s t : TypeId) (x : Operand) (_ho : o.op = .convert s t x) (h : wpList P ops Q (o :: rest) a w) : wpList P ops Q (o :: rest) a w := h
theorem at_cut (t : TypeId) (x : Operand) (l c m : Option Operand) (_ho : o.op = .slice t x l c m) (h : wpList P ops Q (o :: rest) a w) : wpList P ops Q (o :: rest) a w := h

/-- x[i], x a slice of elements of one cell. -/
theorem wpList_idx1 (hgd : Region.wanted o (yielded ops a.tmps) = true) (t : TypeId) (x i : Operand) (ho : o.op = .indexAddr t x i) (e : TypeId) (ht : P.underlying t = some (.slice e)) (hsz : (P.info? e).map (·.size) = some 1)
    (v : Value) (n : Nat) (cs : List Value) (hx : a.eval x = v) (hS : Sl w 1 v n cs) (k : IntKind) (z : Int) (j : Nat) (hi : a.eval i = .int k z) (hz : z = (j : Int)) (hj : j < n)
    (h : ∀ p u, cs[j]? = some u → w.cell? p = some u → wpList P ops Q rest (a.put o.dst (.pointer (some p))) w) : wpList P ops Q (o :: rest) a w := by
  refine wpList_wanted hgd fun K hK => ?_
  obtain ⟨ao, cap, rfl, hcap, hlen, hnone, hsome⟩ := hS
  cases ao with
  | none => have := hnone rfl; omega
  | some ad =>
    have hcell := hsome ad rfl
    subst hz
    have hjl : j < cs.length := by omega
    obtain ⟨ii, hinf, hsz'⟩ := Option.map_eq_some_iff.1 hsz
    have hrun : (Instr.indexAt t (.slice (some ad) n cap) (.int k (j : Int))).run P w = .ok (.pointer (some (ad.add j))) w := by
      have h1 : (0 : Int) ≤ (j : Int) ∧ (j : Int) < (n : Int) := by omega
      simp [Instr.indexAt, asIntOf, run_underlying ht, h1, sizeOf, typeInfo, hinf, hsz', go_sem]
      omega
    unfold Oper.wp
    simp [execOp, ho, hx, hi, hrun, Result.andThen]
    exact hK _ _ (h _ _ (List.getElem?_eq_getElem hjl) (hcell j _ (List.getElem?_eq_getElem hjl)))

/-- append(s, x...), s of the call's own making, x any slice. -/
theorem wpList_app (hgd : o.guard = none) (s x : Operand) (t : TypeId)
    (ho : o.op = .call { callee := .builtin .append, args := #[s, x], argTypes := #[t, t] })
    (base : Nat) (e : TypeId) (z : Value) (sz bytes : Nat) (ht : P.underlying t = some (.slice e)) (hinfo : (P.info? e).map (fun i => (i.zero, i.size, i.bytes)) = some (some z, sz, bytes))
    (hzs : z.cells.size = sz) (hsz : 0 < sz)
    (v : Value) (n : Nat) (xs : List Value) (hs : a.eval s = v) (hown : w.ownsRow base e sz v n xs)
    (vx : Value) (m : Nat) (news : List Value) (hx : a.eval x = vx) (hS : Sl w sz vx m news) (h1 : ∀ u ∈ news, u.oneCell' = true)
    (h63 : n + m ≤ maxLen) (hbytes : (n + m) * bytes ≤ 140737488355328) (hbase : base ≤ w.heap.size)
    (h : ∀ v' w', w'.ownsRow base e sz v' (n + m) (xs ++ news) → w.grownBy w' v.ownBlock → wpList P ops Q rest (a.put o.dst v') w') : wpList P ops Q (o :: rest) a w := by
  obtain ⟨i, hi, hz, hsize, hby⟩ := info_parts hinfo
  obtain ⟨ao, cap, rfl, hcap, hlen, hnone, hsome⟩ := hS
  cases ao with
  | some ad =>
    have hcell := hsome ad rfl
    exact wpList_append_own w hgd s x t ho base e i z sz bytes ht hi hz hsize hby hzs hsz v n xs hs hown ad m cap news hx hlen hcell h1 h63 hbytes hbase fun v' w' p q _ => h v' w' p q
  | none =>
    obtain rfl := hnone rfl
    obtain rfl : m = 0 := by omega
    obtain rfl : news = [] := List.eq_nil_of_length_eq_zero (by simpa using hlen)
    refine wpList_plain hgd fun K hK' => ?_
    have hrun := run_append_owned_none (P := P) w base t o.type e i sz ht hi v n xs hown
    unfold Oper.wp
    simp [execOp, ho, resolve, invoke, builtin, hs, hx, hrun, Result.andThen]
    exact hK' _ _ (by simpa using h v w (by simpa using hown) (World.grownBy.refl _ _))

/-- string(b). -/
theorem wpList_str (hgd : Region.wanted o (yielded ops a.tmps) = true) (x : Operand) (src dst e : TypeId) (ho : o.op = .convert src dst x) (hs : P.underlying src = some (.slice e)) (he : P.underlying e = some (.int .u8)) (hd : P.underlying dst = some .string)
    (v : Value) (l : List Int) (hx : a.eval x = v) (hS : SlI .u8 w v l)
    (h : wpList P ops Q rest (a.put o.dst (.string (strOfNums l))) w) : wpList P ops Q (o :: rest) a w := by
  refine wpList_wanted hgd fun K hK => ?_
  obtain ⟨⟨ao, cap, rfl, hcap, hlen, hnone, hsome⟩, hwf⟩ := hS
  have hrun : (convert src dst (.slice ao l.length cap)).run P w = .ok (.string (strOfNums l)) w := by
    cases ao with
    | none =>
      obtain rfl := hnone rfl
      obtain rfl : l = [] := List.eq_nil_of_length_eq_zero (by omega)
      rw [run_convert_bytes_nil (P := P) w src e hs he _ _ dst hd]; rfl
    | some ad =>
      have hcell := hsome _ rfl
      by_cases hl0 : l.length = 0
      · obtain rfl : l = [] := List.eq_nil_of_length_eq_zero hl0
        have hl : (loadCells ad 0).run P w = .ok #[] w := by simpa using run_loadCells_list (P := P) w ad [] (by simp)
        rw [run_convert_bytes_string w src dst e _ _ cap hs he hd]
        exact run_bytesToString w ad 0 cap [] hl
      obtain ⟨b, off, sp⟩ := ad
      have hsp : sp = none := by
        have := hcell 0 _ (List.getElem?_eq_getElem (by simp; omega))
        simpa [Addr.add] using World.cell?_spot this
      subst hsp
      refine run_convert_bytes_arg (P := P) w src e hs he b off l.length cap l rfl ?_ dst hd
      intro i hi
      have := hcell i (.int .u8 (l.getD i 0)) (by simp [List.getD, hi])
      have hadd : (⟨b, off, none⟩ : Addr).add i = ⟨b, off + i, none⟩ := by unfold Addr.add; split <;> simp_all
      rwa [hadd] at this
  unfold Oper.wp
  simp [execOp, ho, hx, hrun, Result.andThen]
  exact hK _ _ h

/-- x[lo:hi]. -/
theorem wpList_cut (hgd : Region.wanted o (yielded ops a.tmps) = true) (t : TypeId) (x : Operand) (lo hi : Operand) (ho : o.op = .slice t x (some lo) (some hi) none) (e : TypeId) (ht : P.underlying t = some (.slice e)) (sz : Nat) (hsz : (P.info? e).map (·.size) = some sz)
    (v : Value) (n : Nat) (cs : List Value) (hx : a.eval x = v) (hS : Sl w sz v n cs) (kl kh : IntKind) (zl zh : Int) (i j : Nat) (hlo : a.eval lo = .int kl zl) (hhi : a.eval hi = .int kh zh) (hzl : zl = (i : Int)) (hzh : zh = (j : Int)) (hij : i ≤ j) (hj : j ≤ n)
    (h : ∀ v', Sl w sz v' (j - i) ((cs.drop (i * sz)).take ((j - i) * sz)) → (∀ k, v'.ownBlock = some k → v.ownBlock = some k) → wpList P ops Q rest (a.put o.dst v') w) : wpList P ops Q (o :: rest) a w := by
  refine wpList_wanted hgd fun K hK => ?_
  obtain ⟨ao, cap, rfl, hcap, hlen, hnone, hsome⟩ := hS
  subst hzl hzh
  obtain ⟨ii, hinf, hsz'⟩ := Option.map_eq_some_iff.1 hsz
  have hrun : (Instr.sliceAt t (.slice ao n cap) (some (.int kl (i : Int))) (some (.int kh (j : Int))) none).run P w = .ok (.slice (if cap = i then ao else ao.map (·.add (i * sz))) (j - i) (cap - i)) w := by
    simp [Instr.sliceAt, Instr.slice, Instr.sliceBounds, Instr.sliceBound, asIntOf, run_underlying ht, sizeOf, typeInfo, hinf, hsz', go_sem]
    rw [if_pos (by omega), if_pos hij]
  unfold Oper.wp
  simp [execOp, ho, hx, hlo, hhi, hrun, Result.andThen]
  refine hK _ _ (h _ ((show Sl w sz (.slice ao n cap) n cs from ⟨ao, cap, rfl, hcap, hlen, hnone, hsome⟩).cut i (j - i) (by omega) (fun e => by simp [e]) (fun e => by simp [e]) rfl) ?_)
  · intro k hk
    split at hk
    · cases ao with
      | none => simp [Value.ownBlock] at hk
      | some ad => simpa [Value.ownBlock] using hk
    · cases ao with
      | none => simp [Value.ownBlock] at hk
      | some ad =>
        simp [Value.ownBlock] at hk ⊢
        rw [← hk]; unfold Addr.add; split <;> rfl

/-- copy(d, s), d of the call's own making, elements of one cell. -/
theorem wpList_cpy (hgd : o.guard = none) (d s : Operand) (dT sT : TypeId)
    (ho : o.op = .call { callee := .builtin .copy, args := #[d, s], argTypes := #[dT, sT] }) (elem : TypeId) (hu : P.underlying dT = some (.slice elem)) (hsz : (P.info? elem).map (·.size) = some 1)
    (base : Nat) (e : TypeId) (v : Value) (n : Nat) (xs : List Value) (hd : a.eval d = v) (hown : w.ownsRow base e 1 v n xs)
    (vs : Value) (m : Nat) (cs : List Value) (hs : a.eval s = vs) (hS : Sl w 1 vs m cs) (h1 : ∀ u ∈ cs, u.oneCell' = true)
    (h : ∀ w', w'.ownsRow base e 1 v n (cs.take n ++ xs.drop m) → w.grownBy w' v.ownBlock → wpList P ops Q rest (a.put o.dst (goInt (Nat.min m n))) w') : wpList P ops Q (o :: rest) a w := by
  obtain ⟨ao, scap, rfl, hcap, hlen, hnone, hsome⟩ := hS
  have hxl := hown.1
  rw [Nat.mul_one] at hlen hxl
  by_cases h0 : Nat.min m n = 0
  · have hrun : ∃ dp dCap, v = .slice dp n dCap := by
      rcases hown.2 with ⟨rfl, rfl⟩ | ⟨g, cap, cur, rfl, _⟩
      · exact ⟨_, _, rfl⟩
      · exact ⟨_, _, rfl⟩
    obtain ⟨dp, dCap, rfl⟩ := hrun
    refine wpList_copy_nothing hgd d s dT sT ho elem hu hsz dp ao n dCap m scap hd hs h0 ?_
    have := h w (by
      have e2 : cs.take n ++ xs.drop m = xs := by
        have : m = 0 ∨ n = 0 := by have h0' : min m n = 0 := h0; omega
        rcases this with rfl | rfl
        · simp [List.eq_nil_of_length_eq_zero hlen]
        · simp [List.eq_nil_of_length_eq_zero hxl]
      rw [e2]; exact hown) (World.grownBy.refl _ _)
    rwa [h0] at this
  · rcases hown.2 with ⟨rfl, rfl⟩ | ⟨g, cap, cur, rfl, hg, hh, hn, hm, hcs, htk⟩
    · simp at h0
    · have hmin : Nat.min m n ≤ m ∧ Nat.min m n ≤ n := ⟨Nat.min_le_left _ _, Nat.min_le_right _ _⟩
      cases ao with
      | none => have := hnone rfl; omega
      | some ad =>
        have hcell := hsome ad rfl
        rw [Nat.mul_one] at hcs htk
        have hl2 : (cs.take n).length = Nat.min m n := by simp [hlen, Nat.min_comm]
        refine wpList_copy_own hgd d s dT sT ho elem hu hsz g 0 n cap ad m scap hd hs cur e hh (cs.take n) hl2 (fun j u hj => hcell j u ?_) (by rw [hl2]; omega) (fun u hu => h1 u (List.mem_of_mem_take hu)) ?_
        · rw [List.getElem?_take] at hj; split at hj
          · exact hj
          · cases hj
        · rw [hl2]
          have hsize : ((cur.toList.take 0 ++ (cs.take n ++ cur.toList.drop (0 + Nat.min m n))).toArray).size = cap := by simp [hl2, hcs]; omega
          refine h _ ⟨?_, Or.inr ⟨g, cap, _, rfl, hg, setRow_heap w g _ _ e _ hh, hn, hm, by rw [Nat.mul_one]; exact hsize, ?_⟩⟩ ⟨rfl, rfl, rfl, by simp [World.setRow], fun k hk hne => setRow_other w g k _ (fun q => hne (by rw [q]; rfl))⟩
          · simp [hlen, hxl, Nat.min_def]; split <;> omega
          · rw [Nat.mul_one, ← htk]
            simp only [List.take_zero, List.nil_append, Nat.zero_add]
            rw [List.take_append, hl2, List.take_of_length_le (by rw [hl2]; exact hmin.2)]
            congr 1
            rcases Nat.le_total m n with hmn | hmn
            · rw [show Nat.min m n = m from Nat.min_eq_left hmn, List.drop_take]
            · rw [show Nat.min m n = n from Nat.min_eq_right hmn]
              simp
              omega
end
end Go.Proofs.U
/- A pool of pages, plain: what is done with it, and what stays as it is; no condition. -/
namespace Go.Proofs.Ytghkpeejogldkaa
open Go.RowKit Go.Proofs.U
set_option linter.unusedSimpArgs false
set_option linter.unusedVariables false
/-- A page: its count, and what it is: still 0, fresh 1, young 2, spent 3, it goes 4. -/
structure Pg where
  c : Int
  s : Nat
def Pg0 : Pg := ⟨0, 0⟩
def Pg.free (x : Pg) : Bool := x.c == 0 && x.s == 0
def Pg.held (x : Pg) : Bool := !(x.c == 0) || (x.s == 1 || x.s == 2)
def Pg.ok (x : Pg) : Prop := 0 ≤ x.c ∧ x.c ≤ 255 ∧ x.s ≤ 4 ∧ (3 ≤ x.s → x.c = 0)
theorem Pg0_ok : Pg0.ok := by unfold Pg.ok Pg0; simp
def plN (n : Int) : Nat := (min (max n 0) 240).toNat
def plNew (n : Int) : List Pg := List.replicate (plN n) Pg0
theorem plN_le (n : Int) : plN n ≤ 240 := by unfold plN; omega
theorem plNew_len (n : Int) : (plNew n).length = plN n := List.length_replicate
def plIn (L : List Pg) (i : Int) : Bool := decide (0 ≤ i) && decide (i < (L.length : Int))
def plAt (L : List Pg) (i : Nat) : Pg := L.getD i Pg0
def plOk (L : List Pg) : Prop := L.length ≤ 240 ∧ ∀ i, (plAt L i).ok
theorem plAt_get (L : List Pg) (i : Nat) (h : i < L.length) : plAt L i = L[i] := by simp [plAt, List.getD, h]
theorem plAt_out (L : List Pg) (i : Nat) (h : L.length ≤ i) : plAt L i = Pg0 := by simp [plAt, List.getD, h]
theorem plAt_set (L : List Pg) (k : Nat) (x : Pg) (i : Nat) (hk : k < L.length) : plAt (L.set k x) i = if i = k then x else plAt L i := by
  unfold plAt
  simp only [List.getD]
  rw [List.getElem?_set]
  by_cases h : k = i
  · subst h; simp [hk]
  · rw [if_neg h, if_neg (fun e => h e.symm)]
theorem plAt_map (L : List Pg) (f : Pg → Pg) (h0 : f Pg0 = Pg0) (i : Nat) : plAt (L.map f) i = f (plAt L i) := by
  by_cases h : i < L.length
  · rw [plAt_get _ _ (by simpa using h), plAt_get _ _ h]; simp
  · rw [plAt_out _ _ (by simpa using h), plAt_out _ _ (by omega), h0]
theorem plNew_ok (n : Int) : plOk (plNew n) := by
  refine ⟨by rw [plNew_len]; exact plN_le n, fun i => ?_⟩
  have : plAt (plNew n) i = Pg0 := by
    unfold plAt plNew
    simp only [List.getD, List.getElem?_replicate]
    split <;> rfl
  rw [this]; exact Pg0_ok
/-- Counts that are told, as pages that are still. -/
def plLoad (n : Int) (c : List Int) : Option (List Pg) := if (c.drop (plN n)).all (fun x => x == 0) then some ((c.take (plN n)).map fun x => ⟨x, 0⟩) else none
theorem plLoad_len {n : Int} {c : List Int} (hc : c.length = 240) {L : List Pg} (h : plLoad n c = some L) : L.length = plN n := by
  unfold plLoad at h
  split at h
  · cases h
    have := plN_le n
    rw [List.length_map, List.length_take, hc]; omega
  · cases h
theorem plLoad_at {n : Int} {c : List Int} (hc : c.length = 240) {L : List Pg} (h : plLoad n c = some L) (i : Nat) : plAt L i = ⟨c.getD i 0, 0⟩ := by
  unfold plLoad at h
  split at h
  · rename_i hz
    cases h
    have hn := plN_le n
    by_cases hi : i < plN n
    · rw [plAt_get _ _ (by rw [List.length_map, List.length_take, hc]; omega)]
      simp [List.getD, show i < c.length by omega]
    · rw [plAt_out _ _ (by rw [List.length_map, List.length_take, hc]; omega)]
      have : c.getD i 0 = 0 := by
        by_cases h2 : i < c.length
        · have hm : c[i] ∈ c.drop (plN n) := by
            rw [List.mem_iff_getElem]
            exact ⟨i - plN n, by rw [List.length_drop]; omega, by rw [List.getElem_drop]; congr 1; omega⟩
          have := List.all_eq_true.1 hz _ hm
          simp [List.getD, h2]
          simpa using this
        · simp [List.getD, h2]
      rw [this]; rfl
  · cases h
theorem plLoad_ok {n : Int} {c : List Int} (hc : c.length = 240) (hb : ∀ i, 0 ≤ c.getD i 0 ∧ c.getD i 0 < 256) {L : List Pg} (h : plLoad n c = some L) : plOk L := by
  refine ⟨by rw [plLoad_len hc h]; exact plN_le n, fun i => ?_⟩
  rw [plLoad_at hc h i]
  have := hb i
  exact ⟨this.1, by show c.getD i 0 ≤ 255; omega, Nat.zero_le _, fun h => by simp at h⟩

/-- The least free one is taken. -/
def plTake (L : List Pg) : List Pg × Int × Int :=
  match L.findIdx? Pg.free with
  | some i => (L.set i ⟨0, 1⟩, (i : Int), 0)
  | none => (L, 0, 71)
theorem plTake_some (L : List Pg) (k : Nat) (hk : k < L.length) (hf : (plAt L k).free = true) (h : ∀ j, j < k → (plAt L j).free = false) : plTake L = (L.set k ⟨0, 1⟩, (k : Int), 0) := by
  have : L.findIdx? Pg.free = some k := by
    rw [List.findIdx?_eq_some_iff_getElem]
    refine ⟨hk, by rw [← plAt_get L k hk]; exact hf, fun j hj => ?_⟩
    have := h j hj
    rw [plAt_get L j (by omega)] at this
    simpa using this
  unfold plTake
  rw [this]
theorem plTake_none (L : List Pg) (h : ∀ j, j < L.length → (plAt L j).free = false) : plTake L = (L, 0, 71) := by
  have : L.findIdx? Pg.free = none := by
    rw [List.findIdx?_eq_none_iff]
    intro x hx
    obtain ⟨j, hj, rfl⟩ := List.mem_iff_getElem.1 hx
    have := h j hj
    rwa [plAt_get L j hj] at this
  unfold plTake
  rw [this]
theorem plTake_cases (L : List Pg) : (∃ k, k < L.length ∧ (plAt L k).free = true ∧ (∀ j, j < k → (plAt L j).free = false) ∧ plTake L = (L.set k ⟨0, 1⟩, (k : Int), 0)) ∨ ((∀ j, j < L.length → (plAt L j).free = false) ∧ plTake L = (L, 0, 71)) := by
  by_cases h : ∀ j, j < L.length → (plAt L j).free = false
  · exact Or.inr ⟨h, plTake_none L h⟩
  · cases hf : L.findIdx? Pg.free with
    | none =>
      exfalso; apply h
      intro j hj
      have := List.findIdx?_eq_none_iff.1 hf L[j] (by simp)
      rwa [plAt_get L j hj]
    | some k =>
      obtain ⟨hk, h1, h2⟩ := List.findIdx?_eq_some_iff_getElem.1 hf
      refine Or.inl ⟨k, hk, by rw [plAt_get L k hk]; exact h1, fun j hj => ?_, ?_⟩
      · rw [plAt_get L j (by omega)]; simpa using h2 j hj
      · unfold plTake; rw [hf]
def plHold (L : List Pg) (i : Int) : List Pg × Int :=
  if plIn L i && (plAt L i.toNat).held then (if (plAt L i.toNat).c = 255 then (L, 72) else (L.set i.toNat ⟨(plAt L i.toNat).c + 1, (plAt L i.toNat).s⟩, 0)) else (L, 73)
def dropS (s : Nat) : Nat := if s = 1 then 0 else if s = 2 then 3 else 4
def plDrop (L : List Pg) (i : Int) : List Pg × Bool × Int :=
  if plIn L i && (plAt L i.toNat).held then (if 1 < (plAt L i.toNat).c then (L.set i.toNat ⟨(plAt L i.toNat).c - 1, (plAt L i.toNat).s⟩, false, 0) else (L.set i.toNat ⟨0, dropS (plAt L i.toNat).s⟩, true, 0)) else (L, false, 73)
def markP (x : Pg) : Pg := if x.s = 1 then ⟨x.c, 2⟩ else x
def tidyP (x : Pg) : Pg := if x.s = 3 then ⟨x.c, 0⟩ else x
def commP (x : Pg) : Pg := ⟨x.c, 0⟩
def plMark (L : List Pg) : List Pg := L.map markP
def plTidy (L : List Pg) : List Pg := L.map tidyP
def plCommit (L : List Pg) : List Pg := L.map commP
/-- How many are free. -/
def plFree (L : List Pg) : Nat := L.countP Pg.free
theorem plFree_le (L : List Pg) : plFree L ≤ L.length := List.countP_le_length
theorem plFree_succ (L : List Pg) (k : Nat) (h : k < L.length) : plFree (L.take (k + 1)) = plFree (L.take k) + if (plAt L k).free then 1 else 0 := by
  unfold plFree
  rw [List.take_succ_eq_append_getElem h, List.countP_append, plAt_get L k h]
  congr 1
  simp [List.countP_cons]
/-- All counts, noughts behind those that there are. -/
def plCounts (L : List Pg) : List Int := (List.range 240).map fun i => (plAt L i).c
theorem plCounts_len (L : List Pg) : (plCounts L).length = 240 := by simp [plCounts]
theorem plCounts_at (L : List Pg) (i : Nat) (h : i < 240) : (plCounts L).getD i 0 = (plAt L i).c := by simp [plCounts, List.getD, h]

theorem plIn_lt {L : List Pg} {i : Int} (h : plIn L i = true) : i.toNat < L.length ∧ ((i.toNat : Nat) : Int) = i := by
  simp [plIn] at h; omega
theorem take_len (L : List Pg) : (plTake L).1.length = L.length := by
  rcases plTake_cases L with ⟨k, _, _, _, h⟩ | ⟨_, h⟩ <;> rw [h]
  simp
theorem hold_len (L : List Pg) (i : Int) : (plHold L i).1.length = L.length := by
  unfold plHold
  split
  · split
    · rfl
    · simp
  · rfl
theorem drop_len (L : List Pg) (i : Int) : (plDrop L i).1.length = L.length := by
  unfold plDrop
  split
  · split <;> simp
  · rfl
theorem mark_len (L : List Pg) : (plMark L).length = L.length := by simp [plMark]
theorem tidy_len (L : List Pg) : (plTidy L).length = L.length := by simp [plTidy]
theorem comm_len (L : List Pg) : (plCommit L).length = L.length := by simp [plCommit]

/-- What holds of each page and its place, and stays, whatever is done with it alone. -/
theorem take_all {R : Nat → Pg → Prop} {L : List Pg} (h : ∀ i, R i (plAt L i)) (hs : ∀ i x, R i x → x.free = true → R i ⟨0, 1⟩) : ∀ i, R i (plAt (plTake L).1 i) := by
  intro i
  rcases plTake_cases L with ⟨k, hk, hf, _, e⟩ | ⟨_, e⟩ <;> rw [e]
  · show R i (plAt (L.set k ⟨0, 1⟩) i)
    rw [plAt_set _ _ _ _ hk]
    split
    · rename_i hik; subst hik; exact hs i _ (h i) hf
    · exact h i
  · exact h i
theorem hold_all {R : Nat → Pg → Prop} {L : List Pg} (h : ∀ i, R i (plAt L i)) (k : Int) (hs : ∀ i x, R i x → x.held = true → x.c ≠ 255 → R i ⟨x.c + 1, x.s⟩) : ∀ i, R i (plAt (plHold L k).1 i) := by
  intro i
  unfold plHold
  split
  · rename_i hc
    simp only [Bool.and_eq_true] at hc
    split
    · exact h i
    · rename_i h255
      show R i (plAt (L.set k.toNat _) i)
      rw [plAt_set _ _ _ _ (plIn_lt hc.1).1]
      split
      · rename_i hik; subst hik; exact hs _ _ (h _) hc.2 h255
      · exact h i
  · exact h i
theorem drop_all {R : Nat → Pg → Prop} {L : List Pg} (h : ∀ i, R i (plAt L i)) (k : Int) (h1 : ∀ i x, R i x → x.held = true → 1 < x.c → R i ⟨x.c - 1, x.s⟩) (h2 : ∀ i x, R i x → x.held = true → ¬ 1 < x.c → R i ⟨0, dropS x.s⟩) : ∀ i, R i (plAt (plDrop L k).1 i) := by
  intro i
  unfold plDrop
  split
  · rename_i hc
    simp only [Bool.and_eq_true] at hc
    split
    · rename_i h255
      show R i (plAt (L.set k.toNat _) i)
      rw [plAt_set _ _ _ _ (plIn_lt hc.1).1]
      split
      · rename_i hik; subst hik; exact h1 _ _ (h _) hc.2 h255
      · exact h i
    · rename_i h255
      show R i (plAt (L.set k.toNat _) i)
      rw [plAt_set _ _ _ _ (plIn_lt hc.1).1]
      split
      · rename_i hik; subst hik; exact h2 _ _ (h _) hc.2 h255
      · exact h i
  · exact h i
theorem mark0 : markP Pg0 = Pg0 := rfl
theorem tidy0 : tidyP Pg0 = Pg0 := rfl
theorem comm0 : commP Pg0 = Pg0 := rfl
theorem mark_all {R : Nat → Pg → Prop} {L : List Pg} (h : ∀ i, R i (plAt L i)) (hs : ∀ i x, R i x → R i (markP x)) : ∀ i, R i (plAt (plMark L) i) := by
  intro i; unfold plMark; rw [plAt_map _ _ mark0]; exact hs i _ (h i)
theorem tidy_all {R : Nat → Pg → Prop} {L : List Pg} (h : ∀ i, R i (plAt L i)) (hs : ∀ i x, R i x → R i (tidyP x)) : ∀ i, R i (plAt (plTidy L) i) := by
  intro i; unfold plTidy; rw [plAt_map _ _ tidy0]; exact hs i _ (h i)
theorem comm_at (L : List Pg) (i : Nat) : plAt (plCommit L) i = ⟨(plAt L i).c, 0⟩ := by unfold plCommit; rw [plAt_map _ _ comm0]; rfl

theorem dropS_le (s : Nat) : dropS s ≤ 4 := by unfold dropS; split; omega; split <;> omega
theorem take_ok {L : List Pg} (h : plOk L) : plOk (plTake L).1 := ⟨by rw [take_len]; exact h.1, take_all (R := fun _ x => x.ok) h.2 (fun _ x _ _ => by unfold Pg.ok; simp)⟩
theorem hold_ok {L : List Pg} (h : plOk L) (i : Int) : plOk (plHold L i).1 := ⟨by rw [hold_len]; exact h.1, hold_all (R := fun _ x => x.ok) h.2 i (fun _ x hx hh h255 => by
  unfold Pg.ok at *
  unfold Pg.held at hh
  simp at hh
  refine ⟨by show 0 ≤ x.c + 1; omega, by show x.c + 1 ≤ 255; omega, hx.2.2.1, fun h3 => ?_⟩
  have := hx.2.2.2 h3
  have h3 : 3 ≤ x.s := h3
  omega)⟩
theorem drop_ok {L : List Pg} (h : plOk L) (i : Int) : plOk (plDrop L i).1 := ⟨by rw [drop_len]; exact h.1, drop_all (R := fun _ x => x.ok) h.2 i (fun _ x hx hh h1 => by
  unfold Pg.ok at *
  refine ⟨by show 0 ≤ x.c - 1; omega, by show x.c - 1 ≤ 255; omega, hx.2.2.1, fun h3 => ?_⟩
  have := hx.2.2.2 h3
  omega) (fun _ x hx hh h1 => by unfold Pg.ok; exact ⟨Int.le_refl _, (by decide : (0 : Int) ≤ 255), dropS_le _, fun _ => rfl⟩)⟩
theorem mark_ok {L : List Pg} (h : plOk L) : plOk (plMark L) := ⟨by rw [mark_len]; exact h.1, mark_all (R := fun _ x => x.ok) h.2 (fun _ x hx => by
  unfold markP
  split
  · unfold Pg.ok at *; exact ⟨hx.1, hx.2.1, (by decide : 2 ≤ 4), fun h => by simp at h⟩
  · exact hx)⟩
theorem tidy_ok {L : List Pg} (h : plOk L) : plOk (plTidy L) := ⟨by rw [tidy_len]; exact h.1, tidy_all (R := fun _ x => x.ok) h.2 (fun _ x hx => by
  unfold tidyP
  split
  · unfold Pg.ok at *; exact ⟨hx.1, hx.2.1, (by decide : 0 ≤ 4), fun h => by simp at h⟩
  · exact hx)⟩
theorem comm_ok {L : List Pg} (h : plOk L) : plOk (plCommit L) := ⟨by rw [comm_len]; exact h.1, fun i => by
  rw [comm_at]
  have hx := h.2 i
  unfold Pg.ok at *
  exact ⟨hx.1, hx.2.1, (by decide : 0 ≤ 4), fun h => by simp at h⟩⟩

/-- What was held at a commit isn't free before the next one. -/
def safeP (b : Int) (x : Pg) : Prop := 0 < b → (0 < x.c ∧ x.s = 0) ∨ x.s = 4
theorem safe_free {b : Int} {x : Pg} (h : safeP b x) (hf : x.free = true) : ¬ 0 < b := by
  intro hb
  unfold Pg.free at hf
  simp at hf
  rcases h hb with h | h <;> omega
theorem safe_take {base : Nat → Int} {L : List Pg} (h : ∀ i, safeP (base i) (plAt L i)) : ∀ i, safeP (base i) (plAt (plTake L).1 i) :=
  take_all (R := fun i x => safeP (base i) x) h (fun i x hx hf hb => absurd hb (safe_free hx hf))
theorem safe_hold {base : Nat → Int} {L : List Pg} (h : ∀ i, safeP (base i) (plAt L i)) (k : Int) : ∀ i, safeP (base i) (plAt (plHold L k).1 i) :=
  hold_all (R := fun i x => safeP (base i) x) h k (fun i x hx hh h255 hb => by
    rcases hx hb with h | h
    · exact Or.inl ⟨by show 0 < x.c + 1; omega, h.2⟩
    · exact Or.inr h)
theorem safe_drop {base : Nat → Int} {L : List Pg} (h : ∀ i, safeP (base i) (plAt L i)) (k : Int) : ∀ i, safeP (base i) (plAt (plDrop L k).1 i) :=
  drop_all (R := fun i x => safeP (base i) x) h k (fun i x hx hh h1 hb => by
    rcases hx hb with h | h
    · exact Or.inl ⟨by show 0 < x.c - 1; omega, h.2⟩
    · exact Or.inr h) (fun i x hx hh h1 hb => by
    rcases hx hb with h | h
    · exact Or.inr (by show dropS x.s = 4; rw [h.2]; rfl)
    · exact Or.inr (by show dropS x.s = 4; rw [h]; rfl))
theorem safe_mark {base : Nat → Int} {L : List Pg} (h : ∀ i, safeP (base i) (plAt L i)) : ∀ i, safeP (base i) (plAt (plMark L) i) :=
  mark_all (R := fun i x => safeP (base i) x) h (fun i x hx hb => by
    rcases hx hb with h | h
    · have : markP x = x := by unfold markP; rw [if_neg (by omega)]
      rw [this]; exact Or.inl h
    · have : markP x = x := by unfold markP; rw [if_neg (by omega)]
      rw [this]; exact Or.inr h)
theorem safe_tidy {base : Nat → Int} {L : List Pg} (h : ∀ i, safeP (base i) (plAt L i)) : ∀ i, safeP (base i) (plAt (plTidy L) i) :=
  tidy_all (R := fun i x => safeP (base i) x) h (fun i x hx hb => by
    rcases hx hb with h | h
    · have : tidyP x = x := by unfold tidyP; rw [if_neg (by omega)]
      rw [this]; exact Or.inl h
    · have : tidyP x = x := by unfold tidyP; rw [if_neg (by omega)]
      rw [this]; exact Or.inr h)
theorem safe_start {L : List Pg} (h : ∀ i, (plAt L i).s = 0) : ∀ i, safeP (plAt L i).c (plAt L i) := fun i hb => Or.inl ⟨hb, h i⟩
theorem comm_still (L : List Pg) (i : Nat) : (plAt (plCommit L) i).s = 0 := by rw [comm_at]
theorem load_still {n : Int} {c : List Int} (hc : c.length = 240) {L : List Pg} (h : plLoad n c = some L) (i : Nat) : (plAt L i).s = 0 := by rw [plLoad_at hc h]

/-- What was held at a mark isn't free before the next tidying or commit. -/
def keptP (b : Int) (x : Pg) : Prop := 0 < b → (0 < x.c ∧ (x.s = 0 ∨ x.s = 2)) ∨ 3 ≤ x.s
theorem kept_free {b : Int} {x : Pg} (h : keptP b x) (hf : x.free = true) : ¬ 0 < b := by
  intro hb
  unfold Pg.free at hf
  simp at hf
  rcases h hb with h | h <;> omega
theorem kept_take {base : Nat → Int} {L : List Pg} (h : ∀ i, keptP (base i) (plAt L i)) : ∀ i, keptP (base i) (plAt (plTake L).1 i) :=
  take_all (R := fun i x => keptP (base i) x) h (fun i x hx hf hb => absurd hb (kept_free hx hf))
theorem kept_hold {base : Nat → Int} {L : List Pg} (h : ∀ i, keptP (base i) (plAt L i)) (k : Int) : ∀ i, keptP (base i) (plAt (plHold L k).1 i) :=
  hold_all (R := fun i x => keptP (base i) x) h k (fun i x hx hh h255 hb => by
    rcases hx hb with h | h
    · exact Or.inl ⟨by show 0 < x.c + 1; omega, h.2⟩
    · exact Or.inr h)
theorem kept_drop {base : Nat → Int} {L : List Pg} (h : ∀ i, keptP (base i) (plAt L i)) (k : Int) : ∀ i, keptP (base i) (plAt (plDrop L k).1 i) :=
  drop_all (R := fun i x => keptP (base i) x) h k (fun i x hx hh h1 hb => by
    rcases hx hb with h | h
    · exact Or.inl ⟨by show 0 < x.c - 1; omega, h.2⟩
    · exact Or.inr h) (fun i x hx hh h1 hb => by
    refine Or.inr ?_
    show 3 ≤ dropS x.s
    unfold dropS
    rcases hx hb with ⟨_, h | h⟩ | h
    · rw [h]; decide
    · rw [h]; decide
    · rw [if_neg (by omega), if_neg (by omega)]; decide)
theorem kept_start {L : List Pg} (h : plOk L) : ∀ i, keptP (plAt (plMark L) i).c (plAt (plMark L) i) := by
  intro i hb
  unfold plMark at hb ⊢
  rw [plAt_map _ _ mark0] at hb ⊢
  have hx := h.2 i
  unfold Pg.ok at hx
  unfold markP at hb ⊢
  split
  · rename_i h1
    rw [if_pos h1] at hb
    exact Or.inl ⟨hb, Or.inr rfl⟩
  · rename_i h1
    rw [if_neg h1] at hb
    by_cases h3 : 3 ≤ (plAt L i).s
    · exact Or.inr h3
    · exact Or.inl ⟨hb, by omega⟩
/-- Of pages that are all still those are free that aren't held. -/
theorem free_still {L : List Pg} (h : ∀ i, (plAt L i).s = 0) : plFree L + L.countP (fun x => !(x.c == 0)) = L.length := by
  have : ∀ x ∈ L, x.s = 0 := by
    intro x hx
    obtain ⟨j, hj, rfl⟩ := List.mem_iff_getElem.1 hx
    have := h j
    rwa [plAt_get L j hj] at this
  clear h
  unfold plFree
  induction L with
  | nil => rfl
  | cons x L ih =>
    have hx := this x (by simp)
    have ih := ih (fun y hy => this y (by simp [hy]))
    rw [List.countP_cons, List.countP_cons, List.length_cons]
    by_cases h0 : x.c = 0
    · simp [Pg.free, hx, h0] at *; omega
    · simp [Pg.free, hx, h0] at *; omega

/-- A pool of which the first page is x, all others free. -/
def turnL (n : Nat) (x : Pg) : List Pg := x :: List.replicate n Pg0
theorem turn_new {n : Int} (h : 1 ≤ n ∧ n ≤ 240) : plNew n = turnL (n.toNat - 1) Pg0 := by
  unfold plNew turnL
  rw [← List.replicate_succ]
  congr 1
  unfold plN; omega
theorem turn_len (n : Nat) (x : Pg) : (turnL n x).length = n + 1 := by simp [turnL]
theorem turn_at0 (n : Nat) (x : Pg) : plAt (turnL n x) 0 = x := rfl
theorem turn_in (n : Nat) (x : Pg) : plIn (turnL n x) 0 = true := by simp [plIn, turn_len]
theorem turn_take (n : Nat) (x : Pg) (h : x.free = true) : plTake (turnL n x) = (turnL n ⟨0, 1⟩, 0, 0) := by
  rw [plTake_some (turnL n x) 0 (by rw [turn_len]; omega) h (fun j hj => by omega)]
  rfl
theorem turn_free (n : Nat) (x : Pg) : plFree (turnL n x) = n + if x.free then 1 else 0 := by
  unfold plFree turnL
  rw [List.countP_cons]
  have : (List.replicate n Pg0).countP Pg.free = n := by
    rw [List.countP_replicate]; simp [Pg.free, Pg0]
  rw [this]
theorem turn_hold (n : Nat) (k : Int) (s : Nat) (hh : (Pg.mk k s).held = true) : plHold (turnL n ⟨k, s⟩) 0 = if k = 255 then (turnL n ⟨k, s⟩, 72) else (turnL n ⟨k + 1, s⟩, 0) := by
  unfold plHold
  rw [turn_in, show (0 : Int).toNat = 0 from rfl, turn_at0, hh]
  rfl
theorem turn_drop (n : Nat) (k : Int) (s : Nat) (hh : (Pg.mk k s).held = true) : plDrop (turnL n ⟨k, s⟩) 0 = if 1 < k then (turnL n ⟨k - 1, s⟩, false, 0) else (turnL n ⟨0, dropS s⟩, true, 0) := by
  unfold plDrop
  rw [turn_in, show (0 : Int).toNat = 0 from rfl, turn_at0, hh]
  rfl
theorem turn_dropN (n : Nat) (k : Int) (s : Nat) (hh : (Pg.mk k s).held = false) : plDrop (turnL n ⟨k, s⟩) 0 = (turnL n ⟨k, s⟩, false, 73) := by
  unfold plDrop
  rw [show (0 : Int).toNat = 0 from rfl, turn_at0, hh, Bool.and_false]
  rfl
theorem turn_comm (n : Nat) (x : Pg) : plCommit (turnL n x) = turnL n ⟨x.c, 0⟩ := by
  unfold plCommit turnL
  rw [List.map_cons, List.map_replicate]
  rfl

/-- A page as the document's leaf, cell by cell. -/
def encG (x : Pg) : List Value := [.int .i64 x.c, .bool (x.s == 1), .bool (x.s == 2), .bool (x.s == 3), .bool (x.s == 4)]
theorem encG_len (x : Pg) : (encG x).length = 5 := rfl
theorem encG_one (x : Pg) : ∀ u ∈ encG x, u.oneCell' = true := by
  intro u hu
  simp [encG] at hu
  rcases hu with rfl | rfl | rfl | rfl | rfl <;> rfl
theorem free_leaf {x : Pg} (h : x.s ≤ 4) : x.free = (x.c == 0 && (!(x.s == 1) && (!(x.s == 2) && (!(x.s == 3) && !(x.s == 4))))) := by
  unfold Pg.free
  have : x.s = 0 ∨ x.s = 1 ∨ x.s = 2 ∨ x.s = 3 ∨ x.s = 4 := by omega
  rcases this with e | e | e | e | e <;> simp [e]
theorem held_leaf {x : Pg} (h : 0 ≤ x.c) : x.held = (decide (0 < x.c) || ((x.s == 1) || (x.s == 2))) := by
  unfold Pg.held
  congr 1
  rw [Bool.eq_iff_iff]
  simp
  omega
theorem drop_leaf (s : Nat) (h : s ≤ 4) : encG ⟨0, dropS s⟩ = [.int .i64 0, .bool false, .bool false, .bool (s == 2), .bool (!(s == 1) && !(s == 2))] := by
  have : s = 0 ∨ s = 1 ∨ s = 2 ∨ s = 3 ∨ s = 4 := by omega
  rcases this with e | e | e | e | e <;> subst e <;> rfl
theorem mark_leaf (x : Pg) : encG (markP x) = [.int .i64 x.c, .bool false, .bool ((x.s == 2) || (x.s == 1)), .bool (x.s == 3), .bool (x.s == 4)] := by
  unfold markP
  by_cases h : x.s = 1
  · rw [if_pos h]; simp [encG, h]
  · rw [if_neg h]; simp [encG, h]
theorem tidy_leaf (x : Pg) : encG (tidyP x) = [.int .i64 x.c, .bool (x.s == 1), .bool (x.s == 2), .bool false, .bool (x.s == 4)] := by
  unfold tidyP
  by_cases h : x.s = 3
  · rw [if_pos h]; simp [encG, h]
  · rw [if_neg h]; simp [encG, h]
theorem comm_leaf (x : Pg) : encG (commP x) = [.int .i64 x.c, .bool false, .bool false, .bool false, .bool false] := rfl
end Go.Proofs.Ytghkpeejogldkaa
/- More laws of the walk over slices; no condition. -/
namespace Go.Proofs.U
open Go.RowKit

/-- How many elements: for a loop's measure. -/
def lenV : Value → Nat | .slice _ n _ => n | _ => 0
section
variable {P : Program} {w : World} {ops : Array Oper} {rest : List Oper} {o : Oper} {a : Act} {Q : Exit → Act → World → Prop}

/-- x[:hi]. -/
theorem wpList_cuth (hgd : Region.wanted o (yielded ops a.tmps) = true) (t : TypeId) (x : Operand) (hi : Operand) (ho : o.op = .slice t x none (some hi) none) (e : TypeId) (ht : P.underlying t = some (.slice e)) (sz : Nat) (hsz : (P.info? e).map (·.size) = some sz)
    (ao : Option Addr) (n cap : Nat) (hx : a.eval x = .slice ao n cap) (kh : IntKind) (zh : Int) (j : Nat) (hhi : a.eval hi = .int kh zh) (hzh : zh = (j : Int)) (hj : j ≤ cap)
    (h : wpList P ops Q rest (a.put o.dst (.slice ao j cap)) w) : wpList P ops Q (o :: rest) a w := by
  refine wpList_wanted hgd fun K hK => ?_
  subst hzh
  obtain ⟨ii, hinf, hsz'⟩ := Option.map_eq_some_iff.1 hsz
  have e0 : (ao.map (·.add 0) : Option Addr) = ao := by cases ao <;> rfl
  have hrun : (Instr.sliceAt t (.slice ao n cap) none (some (.int kh (j : Int))) none).run P w = .ok (.slice ao j cap) w := by
    simp [Instr.sliceAt, Instr.slice, Instr.sliceBounds, Instr.sliceBound, asIntOf, run_underlying ht, sizeOf, typeInfo, hinf, go_sem]
    omega
  unfold Oper.wp
  simp [execOp, ho, hx, hhi, hrun, Result.andThen]
  exact hK _ _ h

theorem SlI.takeN {k : IntKind} {w : World} {ao : Option Addr} {n cap : Nat} {l : List Int} (h : SlI k w (.slice ao n cap) l) (m : Nat) (hm : m ≤ l.length) : SlI k w (.slice ao m cap) (l.take m) := by
  have e0 : (ao.map (·.add 0) : Option Addr) = ao := by cases ao <;> rfl
  have := h.cut 0 m (by omega) (ao' := ao) (fun _ => rfl) (fun _ => e0.symm) (c' := cap) rfl
  simpa using this
end
end Go.Proofs.U
/- A literal's row: what it holds. -/
namespace Go.Proofs.U
open Go.RowKit
theorem Sl_made (w : World) (t : TypeId) (cs : Array Value) (n b : Nat) (hn : cs.size = n) (hb : w.heap.size = b) : Sl (w.alloc (.cells cs t)) 1 (.slice (some ⟨b, 0, none⟩) n n) n cs.toList := by
  subst hb
  refine ⟨_, _, rfl, Nat.le_refl _, by simp [hn], (fun h => by cases h), fun x hx => ?_⟩
  cases hx
  intro j u hj
  rw [Addr.plain, Nat.zero_add]
  have h1 : cs[j]? = some u := by simpa using hj
  have h2 : (w.alloc (.cells cs t)).heap[w.heap.size]? = some (.cells cs t) := by
    show (w.heap.push _)[w.heap.size]? = _
    simp
  unfold World.cell?
  rw [h2]
  exact h1

/-- append(s, x...) as one operation, s of the call's own making, x any slice. -/
theorem wp_app {P : Program} {w : World} {o : Oper} {a : Act} {K : Act → World → Prop} {Q : Exit → Act → World → Prop} (s x : Operand) (t : TypeId)
    (ho : o.op = .call { callee := .builtin .append, args := #[s, x], argTypes := #[t, t] })
    (base : Nat) (e : TypeId) (z : Value) (sz bytes : Nat) (ht : P.underlying t = some (.slice e)) (hinfo : (P.info? e).map (fun i => (i.zero, i.size, i.bytes)) = some (some z, sz, bytes))
    (hzs : z.cells.size = sz) (hsz : 0 < sz)
    (v : Value) (n : Nat) (xs : List Value) (hs : a.eval s = v) (hown : w.ownsRow base e sz v n xs)
    (vx : Value) (m : Nat) (news : List Value) (hx : a.eval x = vx) (hS : Sl w sz vx m news) (h1 : ∀ u ∈ news, u.oneCell' = true)
    (h63 : n + m ≤ maxLen) (hbytes : (n + m) * bytes ≤ 140737488355328) (hbase : base ≤ w.heap.size)
    (h : ∀ v' w', w'.ownsRow base e sz v' (n + m) (xs ++ news) → w.grownBy w' v.ownBlock → K (a.put o.dst v') w') : o.wp P a w K Q := by
  obtain ⟨i, hi, hz, hsize, hby⟩ := info_parts hinfo
  obtain ⟨ao, cap, rfl, hcap, hlen, hnone, hsome⟩ := hS
  cases ao with
  | some ad =>
    have hcell := hsome ad rfl
    exact wp_append_own w s x t ho base e i z sz bytes ht hi hz hsize hby hzs hsz v n xs hs hown ad m cap news hx hlen hcell h1 h63 hbytes hbase fun v' w' p q _ => h v' w' p q
  | none =>
    obtain rfl := hnone rfl
    obtain rfl : m = 0 := by omega
    obtain rfl : news = [] := List.eq_nil_of_length_eq_zero (by simpa using hlen)
    have hrun := run_append_owned_none (P := P) w base t o.type e i sz ht hi v n xs hown
    unfold Oper.wp
    simp [execOp, ho, resolve, invoke, builtin, hs, hx, hrun, Result.andThen]
    exact h v w (by simpa using hown) (World.grownBy.refl _ _)

/-- s[i:]. -/
theorem run_cutl {P : Program} {w : World} (t e : TypeId) (ht : P.underlying t = some (.slice e)) (sz : Nat) (hsz : (P.info? e).map (·.size) = some sz) (ao : Option Addr) (n cap : Nat) (kl : IntKind) (i : Nat) (hi : i ≤ n) :
    (Instr.sliceAt t (.slice ao n cap) (some (.int kl (i : Int))) none none).run P w = .ok (.slice (if cap = i then ao else ao.map (·.add (i * sz))) (n - i) (cap - i)) w := by
  obtain ⟨ii, hinf, hsz'⟩ := Option.map_eq_some_iff.1 hsz
  simp [Instr.sliceAt, Instr.slice, Instr.sliceBounds, Instr.sliceBound, asIntOf, run_underlying ht, sizeOf, typeInfo, hinf, hsz', go_sem]
  intro h; omega
end Go.Proofs.U
