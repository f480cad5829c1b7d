/- Laws of the walk over slices, and the frame relation Fr: what a call may have turned; no condition. -/
import Derived.WalkKit
import Derived.WalkSpells
import Derived.WalkLawsBesides
import Derived.BigQuiet
import Derived.Laws.AppendOwnNone
import Derived.Laws.BytesArg
import Derived.Laws.CopyOwn
import Derived.Deep.DeepMust
import Derived.Deep.OwnRows
namespace Go.Proofs.U
open Go.RowKit

/-- Of the blocks that lay in w none but those of S has turned; the streams are as they were. -/
structure Fr (S : Nat → Prop) (w w' : World) : Prop where
  os : w'.os = w.os
  tape : w'.tape = w.tape
  output : w'.output = w.output
  size : w.heap.size ≤ w'.heap.size
  block : ∀ k, k < w.heap.size → ¬ S k → w'.heap[k]? = w.heap[k]?

def noB : Nat → Prop := fun _ => False

theorem Fr.refl (S : Nat → Prop) (w : World) : Fr S w w := ⟨rfl, rfl, rfl, Nat.le_refl _, fun _ _ _ => rfl⟩
theorem Fr.trans {S : Nat → Prop} {a b c : World} (h : Fr S a b) (k : Fr S b c) : Fr S a c :=
  ⟨k.os.trans h.os, k.tape.trans h.tape, k.output.trans h.output, Nat.le_trans h.size k.size, fun i hi hs => (k.block i (Nat.lt_of_lt_of_le hi h.size) hs).trans (h.block i hi hs)⟩
theorem Fr.mono {S T : Nat → Prop} {a b : World} (h : Fr S a b) (hst : ∀ k, k < a.heap.size → S k → T k) : Fr T a b :=
  ⟨h.os, h.tape, h.output, h.size, fun i hi hs => h.block i hi fun q => hs (hst i hi q)⟩
/-- Behind a step that touched T alone, of what lay at the start only S. -/
theorem Fr.thenT {S T : Nat → Prop} {a b c : World} (h : Fr S a b) (k : Fr T b c) (hst : ∀ i, i < a.heap.size → T i → S i) : Fr S a c :=
  ⟨k.os.trans h.os, k.tape.trans h.tape, k.output.trans h.output, Nat.le_trans h.size k.size, fun i hi hs => (k.block i (Nat.lt_of_lt_of_le hi h.size) (fun q => hs (hst i hi q))).trans (h.block i hi hs)⟩
theorem Fr.thenN {S : Nat → Prop} {a b c : World} (h : Fr S a b) (k : Fr noB b c) : Fr S a c := h.thenT k fun _ _ q => q.elim
theorem Fr.drew {S : Nat → Prop} {a w : World} (h : Fr S a w) : Fr S a w.drew := ⟨h.os, h.tape, h.output, h.size, h.block⟩
theorem Fr.drewN {S : Nat → Prop} {a w : World} (h : Fr S a w) (n : Nat) : Fr S a (w.drewN n) := ⟨h.os, h.tape, h.output, h.size, h.block⟩
theorem Fr.alloc {S : Nat → Prop} {a w : World} (h : Fr S a w) (o : Obj) : Fr S a (w.alloc o) :=
  h.thenN ⟨rfl, rfl, rfl, by simp, fun k hk _ => Below.heap_alloc _ _ _ hk⟩
theorem Fr.setCell {S : Nat → Prop} {a w : World} (h : Fr S a w) (p : Addr) (u : Value) (hp : p.block < a.heap.size → S p.block) : Fr S a (w.setCell p u) :=
  h.thenT (T := fun k => k = p.block) ⟨rfl, rfl, rfl, by simp [World.setCell], fun k _ hk => Below.heap_setCell _ _ _ _ hk⟩ (fun i hi e => by subst e; exact hp hi)
theorem Fr.grown {S : Nat → Prop} {a w w' : World} {row : Option Nat} (h : Fr S a w) (hg : w.grownBy w' row) (hr : ∀ k, row = some k → k < a.heap.size → S k) : Fr S a w' :=
  h.thenT (T := fun k => row = some k) ⟨hg.os, hg.tape, hg.output, hg.size, fun k hk hn => hg.block k hk (fun e => hn e.symm)⟩ (fun i hi e => hr i e hi)
theorem Fr.of_grown {w w' : World} (hg : w.grownBy w' Option.none) : Fr noB w w' := (Fr.refl _ _).grown hg (fun _ h => by cases h)
theorem Fr.below {w w' : World} (h : Fr noB w w') : Below w.heap.size w w' := ⟨h.os, h.tape, h.output, h.size, fun k hk => h.block k hk (fun q => q)⟩
theorem Fr.of_below {w w' : World} (h : Below w.heap.size w w') : Fr noB w w' := ⟨h.os, h.tape, h.output, h.size, fun k hk _ => h.block k hk⟩
theorem Fr.cell {S : Nat → Prop} {w w' : World} (h : Fr S w w') {p : Addr} {v : Value} (hc : w.cell? p = some v) (hs : ¬ S p.block) : w'.cell? p = some v :=
  (World.cell?_of_block (w := w) (h.block p.block (World.block_lt_of_cell? w p hc) hs)).trans hc
theorem Fr.frozen {S : Nat → Prop} {w w' : World} (h : Fr S w w') {p : Addr} {v : Value} (hc : w.cell? p = some v) (hs : ¬ S p.block) : w'.frozen? p = w.frozen? p :=
  World.frozen?_of_block (w := w) (h.block p.block (World.block_lt_of_cell? w p hc) hs)

/-- v is a slice of n elements of sz cells each; these cells are cs. -/
def Sl (w : World) (sz : Nat) (v : Value) (n : Nat) (cs : List Value) : Prop :=
  ∃ a cap, v = .slice a n cap ∧ n ≤ cap ∧ cs.length = n * sz ∧ (a = none → cap = 0) ∧
    ∀ x, a = some x → ∀ j u, cs[j]? = some u → w.cell? (x.add j) = some u

theorem Sl.nil (w : World) (sz : Nat) : Sl w sz (.slice none 0 0) 0 [] := ⟨none, 0, rfl, Nat.le_refl _, by simp, fun _ => rfl, fun _ h => by cases h⟩

theorem Sl.fr {S : Nat → Prop} {w w' : World} {sz : Nat} {v : Value} {n : Nat} {cs : List Value} (h : Sl w sz v n cs) (hf : Fr S w w') (hs : ∀ k, v.ownBlock = some k → ¬ S k) : Sl w' sz v n cs := by
  obtain ⟨a, cap, rfl, h1, h2, h3, h4⟩ := h
  refine ⟨a, cap, rfl, h1, h2, h3, fun x hx => ?_⟩
  refine fun j u hj => hf.cell (h4 x hx j u hj) ?_
  subst hx
  have : (x.add j).block = x.block := by unfold Addr.add; split <;> rfl
  rw [this]; exact hs _ rfl
theorem Sl.fr0 {w w' : World} {sz : Nat} {v : Value} {n : Nat} {cs : List Value} (h : Sl w sz v n cs) (hf : Fr noB w w') : Sl w' sz v n cs := h.fr hf (fun _ _ q => q)

theorem Sl.of_owns {w : World} {base : Nat} {e : TypeId} {sz : Nat} {v : Value} {n : Nat} {xs : List Value} (h : w.ownsRow base e sz v n xs) : Sl w sz v n xs := by
  obtain ⟨h1, ⟨rfl, rfl⟩ | ⟨g, cap, cur, rfl, hg, hh, hn, hm, hcur, htake⟩⟩ := h
  · exact ⟨none, 0, rfl, Nat.le_refl _, h1, fun _ => rfl, fun _ h => by cases h⟩
  · refine ⟨some ⟨g, 0, none⟩, cap, rfl, hn, h1, (fun h => by cases h), fun x hx => ?_⟩
    cases hx
    intro j u hj
    have hadd : (⟨g, 0, none⟩ : Addr).add j = ⟨g, j, none⟩ := by unfold Addr.add; split <;> simp_all
    rw [hadd]
    subst htake
    have : cur[j]? = some u := by
      have := List.getElem?_eq_some_iff.1 hj
      obtain ⟨hlt2, he⟩ := this
      simp at hlt2 he
      rw [Array.getElem?_eq_some_iff]
      exact ⟨by omega, by simpa using he⟩
    simp [World.cell?, hh, this]

/-- a slice of integers of kind k. -/
def SlI (k : IntKind) (w : World) (v : Value) (l : List Int) : Prop := Sl w 1 v l.length (l.map (Value.int k)) ∧ ∀ n ∈ l, (Lit.int k n).wf = true
theorem SlI.nil (k : IntKind) (w : World) : SlI k w (.slice none 0 0) [] := ⟨Sl.nil w 1, by simp⟩
theorem SlI.fr {S : Nat → Prop} {k : IntKind} {w w' : World} {v : Value} {l : List Int} (h : SlI k w v l) (hf : Fr S w w') (hs : ∀ k, v.ownBlock = some k → ¬ S k) : SlI k w' v l := ⟨h.1.fr hf hs, h.2⟩
theorem SlI.fr0 {k : IntKind} {w w' : World} {v : Value} {l : List Int} (h : SlI k w v l) (hf : Fr noB w w') : SlI k w' v l := ⟨h.1.fr0 hf, h.2⟩
theorem SlI.opn {k : IntKind} {w : World} {v : Value} {l : List Int} (h : SlI k w v l) : ∃ a cap, v = .slice a l.length cap ∧ l.length ≤ cap := by
  obtain ⟨⟨a, cap, hv, hl, _⟩, _⟩ := h; exact ⟨a, cap, hv, hl⟩

theorem ones (k : IntKind) (l : List Int) : ∀ u ∈ l.map (Value.int k), u.oneCell' = true := by
  intro u hu; simp at hu; obtain ⟨x, _, rfl⟩ := hu; rfl
theorem Sl_one (w : World) (t : TypeId) (v : Value) : Sl (w.alloc (.cells #[v] t)) 1 (.slice (some ⟨w.heap.size, 0, none⟩) 1 1) 1 [v] := by
  refine ⟨_, _, rfl, Nat.le_refl _, by simp, (fun h => by cases h), fun x hx => ?_⟩
  cases hx
  intro j u hj
  cases j with
  | zero => simp at hj; subst hj; simp [Addr.add]
  | succ j => simp at hj
theorem owns_alloc {w : World} {base : Nat} {e : TypeId} {sz : Nat} {v : Value} {n : Nat} {xs : List Value} (h : w.ownsRow base e sz v n xs) (o : Obj) : (w.alloc o).ownsRow base e sz v n xs := World.ownsRow.alloc h o
theorem owns_new {w : World} {base : Nat} {e : TypeId} {sz : Nat} {v : Value} {n : Nat} {xs : List Value} (h : w.ownsRow base e sz v n xs) : ∀ k, v.ownBlock = some k → k < base → noB k := by
  intro k hk hlt; have := (h.lt k hk).1; omega

/-- a row of integers of the call's own making. -/
def OwnI (k : IntKind) (e : TypeId) (w : World) (base : Nat) (v : Value) (l : List Int) : Prop := w.ownsRow base e 1 v l.length (l.map (Value.int k))
theorem OwnI.mk {k : IntKind} {e : TypeId} {w : World} {base : Nat} {v : Value} {n : Nat} {xs : List Value} (l : List Int) (h : w.ownsRow base e 1 v n xs) (hx : xs = l.map (Value.int k)) : OwnI k e w base v l := by
  have hn : n = l.length := by have := h.1; rw [hx] at this; simpa using this.symm
  subst hx hn; exact h
theorem OwnI.fr {S : Nat → Prop} {k : IntKind} {e : TypeId} {w w' : World} {base : Nat} {v : Value} {l : List Int} (h : OwnI k e w base v l) (hf : Fr S w w') (hs : ∀ k, v.ownBlock = some k → ¬ S k) : OwnI k e w' base v l := by
  obtain ⟨h1, h2⟩ := h
  refine ⟨h1, ?_⟩
  rcases h2 with h2 | ⟨g, cap, cur, hv, hg, hh, r⟩
  · exact Or.inl h2
  · refine Or.inr ⟨g, cap, cur, hv, hg, ?_, r⟩
    rw [hf.block g (Array.getElem?_eq_some_iff.1 hh).1 (hs g (by rw [hv]; rfl))]; exact hh
theorem OwnI.opn {k : IntKind} {e : TypeId} {w : World} {base : Nat} {v : Value} {l : List Int} (h : OwnI k e w base v l) : ∃ a cap, v = .slice a l.length cap := by
  rcases h.2 with ⟨hv, hn⟩ | ⟨g, cap, cur, hv, _⟩
  · exact ⟨none, 0, by rw [hn]; exact hv⟩
  · exact ⟨_, _, hv⟩
theorem OwnI.newB {k : IntKind} {e : TypeId} {w : World} {base : Nat} {v : Value} {l : List Int} (h : OwnI k e w base v l) : ∀ j, v.ownBlock = some j → base ≤ j ∧ j < w.heap.size := World.ownsRow.lt h
theorem OwnI.rebase {k : IntKind} {e : TypeId} {w : World} {base base' : Nat} {v : Value} {l : List Int} (h : OwnI k e w base v l) (hb : base' ≤ base) : OwnI k e w base' v l := by
  obtain ⟨h1, h2⟩ := h
  refine ⟨h1, ?_⟩
  rcases h2 with h2 | ⟨g, cap, cur, hv, hg, hh, r⟩
  · exact Or.inl h2
  · exact Or.inr ⟨g, cap, cur, hv, Nat.le_trans hb hg, hh, r⟩
theorem OwnI.sl {k : IntKind} {e : TypeId} {w : World} {base : Nat} {v : Value} {l : List Int} (h : OwnI k e w base v l) (hwf : ∀ n ∈ l, (Lit.int k n).wf = true) : SlI k w v l := ⟨Sl.of_owns h, hwf⟩

theorem Addr.add_add (a : Addr) (i j : Nat) : (a.add i).add j = a.add (i + j) := by
  unfold Addr.add
  by_cases hi : i = 0
  · simp [hi]
  · by_cases hj : j = 0
    · simp [hj]
    · simp [hi, hj, Nat.add_assoc]
theorem Addr.plain (b off k : Nat) : (⟨b, off, none⟩ : Addr).add k = ⟨b, off + k, none⟩ := by unfold Addr.add; split <;> simp_all
/-- x[i:j] as a value. -/
theorem Sl.cut {w : World} {sz : Nat} {ao : Option Addr} {n cap : Nat} {cs : List Value} (hS : Sl w sz (.slice ao n cap) n cs) (i m : Nat) (hm : i + m ≤ n) {ao' : Option Addr} (ho1 : cap = i → ao' = ao) (ho2 : cap ≠ i → ao' = ao.map (·.add (i * sz))) {c' : Nat} (hc' : c' = cap - i) :
    Sl w sz (.slice ao' m c') m ((cs.drop (i * sz)).take (m * sz)) := by
  obtain ⟨a0, cap0, hv, hcap, hlen, hnone, hsome⟩ := hS
  cases hv
  subst hc'
  refine ⟨_, _, rfl, by omega, ?_, ?_, ?_⟩
  · simp [hlen]
    have : m * sz ≤ (n - i) * sz := Nat.mul_le_mul_right _ (by omega)
    have e2 : n * sz - i * sz = (n - i) * sz := (Nat.mul_sub_right_distrib _ _ _).symm
    omega
  · intro hn
    by_cases hci : cap = i
    · omega
    · rw [ho2 hci] at hn
      cases ao with
      | none => have := hnone rfl; omega
      | some ad => simp at hn
  · intro y hy
    by_cases hci : cap = i
    · rw [ho1 hci] at hy
      intro jj u hu
      exfalso
      have : jj < ((cs.drop (i * sz)).take (m * sz)).length := (List.getElem?_eq_some_iff.1 hu).1
      obtain rfl : m = 0 := by omega
      simp at this
    · rw [ho2 hci] at hy
      cases ao with
      | none => simp at hy
      | some ad =>
        simp at hy; subst hy
        intro jj u hu
        rw [Addr.add_add]
        have hjj : jj < ((cs.drop (i * sz)).take (m * sz)).length := (List.getElem?_eq_some_iff.1 hu).1
        have hj2 : jj < m * sz := by simp at hjj; omega
        rw [List.getElem?_take, if_pos hj2, List.getElem?_drop] at hu
        exact hsome ad rfl _ _ hu
theorem SlI.cut {w : World} {k : IntKind} {ao : Option Addr} {n cap : Nat} {l : List Int} (hS : SlI k w (.slice ao n cap) l) (i m : Nat) (hm : i + m ≤ l.length) {ao' : Option Addr} (ho1 : cap = i → ao' = ao) (ho2 : cap ≠ i → ao' = ao.map (·.add i)) {c' : Nat} (hc' : c' = cap - i) :
    SlI k w (.slice ao' m c') ((l.drop i).take m) := by
  have hn : n = l.length := by obtain ⟨⟨a0, cap0, hv, _⟩, _⟩ := hS; cases hv; rfl
  subst hn
  have := hS.1.cut i m hm ho1 (by simpa using ho2) hc'
  have e : ((l.drop i).take m).length = m := by simp; omega
  refine ⟨?_, fun x hx => hS.2 x (List.mem_of_mem_drop (List.mem_of_mem_take hx))⟩
  rw [e]; simpa [List.map_take, List.map_drop] using this

/-! Laws of the walk. -/
section
variable {P : Program} {w : World} {ops : Array Oper} {rest : List Oper} {o : Oper} {a : Act} {Q : Exit → Act → World → Prop}

theorem wpList_wanted (hw : Region.wanted o (yielded ops a.tmps) = true)
    (h : ∀ K : Act → World → Prop, (∀ a w, wpList P ops Q rest a w → K a w) → o.wp P a w K Q) : wpList P ops Q (o :: rest) a w :=
  wpList_step fun K hK => by rw [if_pos hw]; exact h K hK
theorem at_make (t : TypeId) (l c : Operand) (_ho : o.op = .makeSlice t l c) (h : wpList P ops Q (o :: rest) a w) : wpList P ops Q (o :: rest) a w := h
theorem at_idx (t : TypeId) (l c : Operand) (_ho : o.op = .indexAddr t l c) (h : wpList P ops Q (o :: rest) a w) : wpList P ops Q (o :: rest) a w := h
theorem at_conv (s t : TypeId) (x : Operand) (_ho : o.op = .convert s t x) (h : wpList P ops Q (o :: rest) a w) : wpList P ops Q (o :: rest) a w := h
theorem at_cut (t : TypeId) (x : Operand) (l c m : Option Operand) (_ho : o.op = .slice t x l c m) (h : wpList P ops Q (o :: rest) a w) : wpList P ops Q (o :: rest) a w := h

/-- x[i], x a slice of elements of one cell. -/
theorem wpList_idx1 (hgd : Region.wanted o (yielded ops a.tmps) = true) (t : TypeId) (x i : Operand) (ho : o.op = .indexAddr t x i) (e : TypeId) (ht : P.underlying t = some (.slice e)) (hsz : (P.info? e).map (·.size) = some 1)
    (v : Value) (n : Nat) (cs : List Value) (hx : a.eval x = v) (hS : Sl w 1 v n cs) (k : IntKind) (z : Int) (j : Nat) (hi : a.eval i = .int k z) (hz : z = (j : Int)) (hj : j < n)
    (h : ∀ p u, cs[j]? = some u → w.cell? p = some u → wpList P ops Q rest (a.put o.dst (.pointer (some p))) w) : wpList P ops Q (o :: rest) a w := by
  refine wpList_wanted hgd fun K hK => ?_
  obtain ⟨ao, cap, rfl, hcap, hlen, hnone, hsome⟩ := hS
  cases ao with
  | none => have := hnone rfl; omega
  | some ad =>
    have hcell := hsome ad rfl
    subst hz
    have hjl : j < cs.length := by omega
    obtain ⟨ii, hinf, hsz'⟩ := Option.map_eq_some_iff.1 hsz
    have hrun : (Instr.indexAt t (.slice (some ad) n cap) (.int k (j : Int))).run P w = .ok (.pointer (some (ad.add j))) w := by
      have h1 : (0 : Int) ≤ (j : Int) ∧ (j : Int) < (n : Int) := by omega
      simp [Instr.indexAt, asIntOf, run_underlying ht, h1, sizeOf, typeInfo, hinf, hsz', go_sem]
      omega
    unfold Oper.wp
    simp [execOp, ho, hx, hi, hrun, Result.andThen]
    exact hK _ _ (h _ _ (List.getElem?_eq_getElem hjl) (hcell j _ (List.getElem?_eq_getElem hjl)))

/-- append(s, x...), s of the call's own making, x any slice. -/
theorem wpList_app (hgd : o.guard = none) (s x : Operand) (t : TypeId)
    (ho : o.op = .call { callee := .builtin .append, args := #[s, x], argTypes := #[t, t] })
    (base : Nat) (e : TypeId) (z : Value) (sz bytes : Nat) (ht : P.underlying t = some (.slice e)) (hinfo : (P.info? e).map (fun i => (i.zero, i.size, i.bytes)) = some (some z, sz, bytes))
    (hzs : z.cells.size = sz) (hsz : 0 < sz)
    (v : Value) (n : Nat) (xs : List Value) (hs : a.eval s = v) (hown : w.ownsRow base e sz v n xs)
    (vx : Value) (m : Nat) (news : List Value) (hx : a.eval x = vx) (hS : Sl w sz vx m news) (h1 : ∀ u ∈ news, u.oneCell' = true)
    (h63 : n + m ≤ maxLen) (hbytes : (n + m) * bytes ≤ 140737488355328) (hbase : base ≤ w.heap.size)
    (h : ∀ v' w', w'.ownsRow base e sz v' (n + m) (xs ++ news) → w.grownBy w' v.ownBlock → wpList P ops Q rest (a.put o.dst v') w') : wpList P ops Q (o :: rest) a w := by
  obtain ⟨i, hi, hz, hsize, hby⟩ := info_parts hinfo
  obtain ⟨ao, cap, rfl, hcap, hlen, hnone, hsome⟩ := hS
  cases ao with
  | some ad =>
    have hcell := hsome ad rfl
    exact wpList_append_own w hgd s x t ho base e i z sz bytes ht hi hz hsize hby hzs hsz v n xs hs hown ad m cap news hx hlen hcell h1 h63 hbytes hbase fun v' w' p q _ => h v' w' p q
  | none =>
    obtain rfl := hnone rfl
    obtain rfl : m = 0 := by omega
    obtain rfl : news = [] := List.eq_nil_of_length_eq_zero (by simpa using hlen)
    refine wpList_plain hgd fun K hK' => ?_
    have hrun := run_append_owned_none (P := P) w base t o.type e i sz ht hi v n xs hown
    unfold Oper.wp
    simp [execOp, ho, resolve, invoke, builtin, hs, hx, hrun, Result.andThen]
    exact hK' _ _ (by simpa using h v w (by simpa using hown) (World.grownBy.refl _ _))

/-- string(b). -/
theorem wpList_str (hgd : Region.wanted o (yielded ops a.tmps) = true) (x : Operand) (src dst e : TypeId) (ho : o.op = .convert src dst x) (hs : P.underlying src = some (.slice e)) (he : P.underlying e = some (.int .u8)) (hd : P.underlying dst = some .string)
    (v : Value) (l : List Int) (hx : a.eval x = v) (hS : SlI .u8 w v l)
    (h : wpList P ops Q rest (a.put o.dst (.string (strOfNums l))) w) : wpList P ops Q (o :: rest) a w := by
  refine wpList_wanted hgd fun K hK => ?_
  obtain ⟨⟨ao, cap, rfl, hcap, hlen, hnone, hsome⟩, hwf⟩ := hS
  have hrun : (convert src dst (.slice ao l.length cap)).run P w = .ok (.string (strOfNums l)) w := by
    cases ao with
    | none =>
      obtain rfl := hnone rfl
      obtain rfl : l = [] := List.eq_nil_of_length_eq_zero (by omega)
      rw [run_convert_bytes_nil (P := P) w src e hs he _ _ dst hd]; rfl
    | some ad =>
      have hcell := hsome _ rfl
      by_cases hl0 : l.length = 0
      · obtain rfl : l = [] := List.eq_nil_of_length_eq_zero hl0
        have hl : (loadCells ad 0).run P w = .ok #[] w := by simpa using run_loadCells_list (P := P) w ad [] (by simp)
        rw [run_convert_bytes_string w src dst e _ _ cap hs he hd]
        exact run_bytesToString w ad 0 cap [] hl
      obtain ⟨b, off, sp⟩ := ad
      have hsp : sp = none := by
        have := hcell 0 _ (List.getElem?_eq_getElem (by simp; omega))
        simpa [Addr.add] using World.cell?_spot this
      subst hsp
      refine run_convert_bytes_arg (P := P) w src e hs he b off l.length cap l rfl ?_ dst hd
      intro i hi
      have := hcell i (.int .u8 (l.getD i 0)) (by simp [List.getD, hi])
      have hadd : (⟨b, off, none⟩ : Addr).add i = ⟨b, off + i, none⟩ := by unfold Addr.add; split <;> simp_all
      rwa [hadd] at this
  unfold Oper.wp
  simp [execOp, ho, hx, hrun, Result.andThen]
  exact hK _ _ h

/-- x[lo:hi]. -/
theorem wpList_cut (hgd : Region.wanted o (yielded ops a.tmps) = true) (t : TypeId) (x : Operand) (lo hi : Operand) (ho : o.op = .slice t x (some lo) (some hi) none) (e : TypeId) (ht : P.underlying t = some (.slice e)) (sz : Nat) (hsz : (P.info? e).map (·.size) = some sz)
    (v : Value) (n : Nat) (cs : List Value) (hx : a.eval x = v) (hS : Sl w sz v n cs) (kl kh : IntKind) (zl zh : Int) (i j : Nat) (hlo : a.eval lo = .int kl zl) (hhi : a.eval hi = .int kh zh) (hzl : zl = (i : Int)) (hzh : zh = (j : Int)) (hij : i ≤ j) (hj : j ≤ n)
    (h : ∀ v', Sl w sz v' (j - i) ((cs.drop (i * sz)).take ((j - i) * sz)) → (∀ k, v'.ownBlock = some k → v.ownBlock = some k) → wpList P ops Q rest (a.put o.dst v') w) : wpList P ops Q (o :: rest) a w := by
  refine wpList_wanted hgd fun K hK => ?_
  obtain ⟨ao, cap, rfl, hcap, hlen, hnone, hsome⟩ := hS
  subst hzl hzh
  obtain ⟨ii, hinf, hsz'⟩ := Option.map_eq_some_iff.1 hsz
  have hrun : (Instr.sliceAt t (.slice ao n cap) (some (.int kl (i : Int))) (some (.int kh (j : Int))) none).run P w = .ok (.slice (if cap = i then ao else ao.map (·.add (i * sz))) (j - i) (cap - i)) w := by
    simp [Instr.sliceAt, Instr.slice, Instr.sliceBounds, Instr.sliceBound, asIntOf, run_underlying ht, sizeOf, typeInfo, hinf, hsz', go_sem]
    rw [if_pos (by omega), if_pos hij]
  unfold Oper.wp
  simp [execOp, ho, hx, hlo, hhi, hrun, Result.andThen]
  refine hK _ _ (h _ ((show Sl w sz (.slice ao n cap) n cs from ⟨ao, cap, rfl, hcap, hlen, hnone, hsome⟩).cut i (j - i) (by omega) (fun e => by simp [e]) (fun e => by simp [e]) rfl) ?_)
  · intro k hk
    split at hk
    · cases ao with
      | none => simp [Value.ownBlock] at hk
      | some ad => simpa [Value.ownBlock] using hk
    · cases ao with
      | none => simp [Value.ownBlock] at hk
      | some ad =>
        simp [Value.ownBlock] at hk ⊢
        rw [← hk]; unfold Addr.add; split <;> rfl

/-- copy(d, s), d of the call's own making, elements of one cell. -/
theorem wpList_cpy (hgd : o.guard = none) (d s : Operand) (dT sT : TypeId)
    (ho : o.op = .call { callee := .builtin .copy, args := #[d, s], argTypes := #[dT, sT] }) (elem : TypeId) (hu : P.underlying dT = some (.slice elem)) (hsz : (P.info? elem).map (·.size) = some 1)
    (base : Nat) (e : TypeId) (v : Value) (n : Nat) (xs : List Value) (hd : a.eval d = v) (hown : w.ownsRow base e 1 v n xs)
    (vs : Value) (m : Nat) (cs : List Value) (hs : a.eval s = vs) (hS : Sl w 1 vs m cs) (h1 : ∀ u ∈ cs, u.oneCell' = true)
    (h : ∀ w', w'.ownsRow base e 1 v n (cs.take n ++ xs.drop m) → w.grownBy w' v.ownBlock → wpList P ops Q rest (a.put o.dst (goInt (Nat.min m n))) w') : wpList P ops Q (o :: rest) a w := by
  obtain ⟨ao, scap, rfl, hcap, hlen, hnone, hsome⟩ := hS
  have hxl := hown.1
  rw [Nat.mul_one] at hlen hxl
  by_cases h0 : Nat.min m n = 0
  · have hrun : ∃ dp dCap, v = .slice dp n dCap := by
      rcases hown.2 with ⟨rfl, rfl⟩ | ⟨g, cap, cur, rfl, _⟩
      · exact ⟨_, _, rfl⟩
      · exact ⟨_, _, rfl⟩
    obtain ⟨dp, dCap, rfl⟩ := hrun
    refine wpList_copy_nothing hgd d s dT sT ho elem hu hsz dp ao n dCap m scap hd hs h0 ?_
    have := h w (by
      have e2 : cs.take n ++ xs.drop m = xs := by
        have : m = 0 ∨ n = 0 := by have h0' : min m n = 0 := h0; omega
        rcases this with rfl | rfl
        · simp [List.eq_nil_of_length_eq_zero hlen]
        · simp [List.eq_nil_of_length_eq_zero hxl]
      rw [e2]; exact hown) (World.grownBy.refl _ _)
    rwa [h0] at this
  · rcases hown.2 with ⟨rfl, rfl⟩ | ⟨g, cap, cur, rfl, hg, hh, hn, hm, hcs, htk⟩
    · simp at h0
    · have hmin : Nat.min m n ≤ m ∧ Nat.min m n ≤ n := ⟨Nat.min_le_left _ _, Nat.min_le_right _ _⟩
      cases ao with
      | none => have := hnone rfl; omega
      | some ad =>
        have hcell := hsome ad rfl
        rw [Nat.mul_one] at hcs htk
        have hl2 : (cs.take n).length = Nat.min m n := by simp [hlen, Nat.min_comm]
        refine wpList_copy_own hgd d s dT sT ho elem hu hsz g 0 n cap ad m scap hd hs cur e hh (cs.take n) hl2 (fun j u hj => hcell j u ?_) (by rw [hl2]; omega) (fun u hu => h1 u (List.mem_of_mem_take hu)) ?_
        · rw [List.getElem?_take] at hj; split at hj
          · exact hj
          · cases hj
        · rw [hl2]
          have hsize : ((cur.toList.take 0 ++ (cs.take n ++ cur.toList.drop (0 + Nat.min m n))).toArray).size = cap := by simp [hl2, hcs]; omega
          refine h _ ⟨?_, Or.inr ⟨g, cap, _, rfl, hg, setRow_heap w g _ _ e _ hh, hn, hm, by rw [Nat.mul_one]; exact hsize, ?_⟩⟩ ⟨rfl, rfl, rfl, by simp [World.setRow], fun k hk hne => setRow_other w g k _ (fun q => hne (by rw [q]; rfl))⟩
          · simp [hlen, hxl, Nat.min_def]; split <;> omega
          · rw [Nat.mul_one, ← htk]
            simp only [List.take_zero, List.nil_append, Nat.zero_add]
            rw [List.take_append, hl2, List.take_of_length_le (by rw [hl2]; exact hmin.2)]
            congr 1
            rcases Nat.le_total m n with hmn | hmn
            · rw [show Nat.min m n = m from Nat.min_eq_left hmn, List.drop_take]
            · rw [show Nat.min m n = n from Nat.min_eq_right hmn]
              simp
              omega
end
end Go.Proofs.U
