/- Texts Base, Z0, A1, A2, Base2, R0, BaseM, PG, P1 of the proof of RootRuns, one behind the other. -/
import Derived.WalkKit
import Derived.WalkSpells
import Derived.WalkLawsBesides
import Derived.BigQuiet
import Derived.Laws.AppendOwnNone
import Derived.Laws.BytesArg
import Derived.Laws.CopyOwn
import Derived.Deep.DeepMust
import Derived.Deep.OwnRows
import Derived.Test.YtijgfojnppcbjaaRows
import Derived.Deep.MidRow
import Derived.Laws.ResultCell
import Derived.Laws.Rows
/- Laws of the walk over slices, and the frame relation Fr: what a call may have turned; no condition. -/
namespace Go.Proofs.U
open Go.RowKit

/-- Of the blocks that lay in w none but those of S has turned; the streams are as they were. -/
structure Fr (S : Nat → Prop) (w w' : World) : Prop where
  os : w'.os = w.os
  tape : w'.tape = w.tape
  output : w'.output = w.output
  size : w.heap.size ≤ w'.heap.size
  block : ∀ k, k < w.heap.size → ¬ S k → w'.heap[k]? = w.heap[k]?

def noB : Nat → Prop := fun _ => False

theorem Fr.refl (S : Nat → Prop) (w : World) : Fr S w w := ⟨rfl, rfl, rfl, Nat.le_refl _, fun _ _ _ => rfl⟩
theorem Fr.trans {S : Nat → Prop} {a b c : World} (h : Fr S a b) (k : Fr S b c) : Fr S a c :=
  ⟨k.os.trans h.os, k.tape.trans h.tape, k.output.trans h.output, Nat.le_trans h.size k.size, fun i hi hs => (k.block i (Nat.lt_of_lt_of_le hi h.size) hs).trans (h.block i hi hs)⟩
theorem Fr.mono {S T : Nat → Prop} {a b : World} (h : Fr S a b) (hst : ∀ k, k < a.heap.size → S k → T k) : Fr T a b :=
  ⟨h.os, h.tape, h.output, h.size, fun i hi hs => h.block i hi fun q => hs (hst i hi q)⟩
/-- Behind a step that touched T alone, of what lay at the start only S. -/
theorem Fr.thenT {S T : Nat → Prop} {a b c : World} (h : Fr S a b) (k : Fr T b c) (hst : ∀ i, i < a.heap.size → T i → S i) : Fr S a c :=
  ⟨k.os.trans h.os, k.tape.trans h.tape, k.output.trans h.output, Nat.le_trans h.size k.size, fun i hi hs => (k.block i (Nat.lt_of_lt_of_le hi h.size) (fun q => hs (hst i hi q))).trans (h.block i hi hs)⟩
theorem Fr.thenN {S : Nat → Prop} {a b c : World} (h : Fr S a b) (k : Fr noB b c) : Fr S a c := h.thenT k fun _ _ q => q.elim
theorem Fr.drew {S : Nat → Prop} {a w : World} (h : Fr S a w) : Fr S a w.drew := ⟨h.os, h.tape, h.output, h.size, h.block⟩
theorem Fr.drewN {S : Nat → Prop} {a w : World} (h : Fr S a w) (n : Nat) : Fr S a (w.drewN n) := ⟨h.os, h.tape, h.output, h.size, h.block⟩
theorem Fr.alloc {S : Nat → Prop} {a w : World} (h : Fr S a w) (o : Obj) : Fr S a (w.alloc o) :=
  h.thenN ⟨rfl, rfl, rfl, by simp, fun k hk _ => Below.heap_alloc _ _ _ hk⟩
theorem Fr.setCell {S : Nat → Prop} {a w : World} (h : Fr S a w) (p : Addr) (u : Value) (hp : p.block < a.heap.size → S p.block) : Fr S a (w.setCell p u) :=
  h.thenT (T := fun k => k = p.block) ⟨rfl, rfl, rfl, by simp [World.setCell], fun k _ hk => Below.heap_setCell _ _ _ _ hk⟩ (fun i hi e => by subst e; exact hp hi)
theorem Fr.grown {S : Nat → Prop} {a w w' : World} {row : Option Nat} (h : Fr S a w) (hg : w.grownBy w' row) (hr : ∀ k, row = some k → k < a.heap.size → S k) : Fr S a w' :=
  h.thenT (T := fun k => row = some k) ⟨hg.os, hg.tape, hg.output, hg.size, fun k hk hn => hg.block k hk (fun e => hn e.symm)⟩ (fun i hi e => hr i e hi)
theorem Fr.of_grown {w w' : World} (hg : w.grownBy w' Option.none) : Fr noB w w' := (Fr.refl _ _).grown hg (fun _ h => by cases h)
theorem Fr.below {w w' : World} (h : Fr noB w w') : Below w.heap.size w w' := ⟨h.os, h.tape, h.output, h.size, fun k hk => h.block k hk (fun q => q)⟩
theorem Fr.of_below {w w' : World} (h : Below w.heap.size w w') : Fr noB w w' := ⟨h.os, h.tape, h.output, h.size, fun k hk _ => h.block k hk⟩
theorem Fr.cell {S : Nat → Prop} {w w' : World} (h : Fr S w w') {p : Addr} {v : Value} (hc : w.cell? p = some v) (hs : ¬ S p.block) : w'.cell? p = some v :=
  (World.cell?_of_block (w := w) (h.block p.block (World.block_lt_of_cell? w p hc) hs)).trans hc
theorem Fr.frozen {S : Nat → Prop} {w w' : World} (h : Fr S w w') {p : Addr} {v : Value} (hc : w.cell? p = some v) (hs : ¬ S p.block) : w'.frozen? p = w.frozen? p :=
  World.frozen?_of_block (w := w) (h.block p.block (World.block_lt_of_cell? w p hc) hs)

/-- v is a slice of n elements of sz cells each; these cells are cs. -/
def Sl (w : World) (sz : Nat) (v : Value) (n : Nat) (cs : List Value) : Prop :=
  ∃ a cap, v = .slice a n cap ∧ n ≤ cap ∧ cs.length = n * sz ∧ (a = none → cap = 0) ∧
    ∀ x, a = some x → ∀ j u, cs[j]? = some u → w.cell? (x.add j) = some u

theorem Sl.nil (w : World) (sz : Nat) : Sl w sz (.slice none 0 0) 0 [] := ⟨none, 0, rfl, Nat.le_refl _, by simp, fun _ => rfl, fun _ h => by cases h⟩

theorem Sl.fr {S : Nat → Prop} {w w' : World} {sz : Nat} {v : Value} {n : Nat} {cs : List Value} (h : Sl w sz v n cs) (hf : Fr S w w') (hs : ∀ k, v.ownBlock = some k → ¬ S k) : Sl w' sz v n cs := by
  obtain ⟨a, cap, rfl, h1, h2, h3, h4⟩ := h
  refine ⟨a, cap, rfl, h1, h2, h3, fun x hx => ?_⟩
  refine fun j u hj => hf.cell (h4 x hx j u hj) ?_
  subst hx
  have : (x.add j).block = x.block := by unfold Addr.add; split <;> rfl
  rw [this]; exact hs _ rfl
theorem Sl.fr0 {w w' : World} {sz : Nat} {v : Value} {n : Nat} {cs : List Value} (h : Sl w sz v n cs) (hf : Fr noB w w') : Sl w' sz v n cs := h.fr hf (fun _ _ q => q)

theorem Sl.of_owns {w : World} {base : Nat} {e : TypeId} {sz : Nat} {v : Value} {n : Nat} {xs : List Value} (h : w.ownsRow base e sz v n xs) : Sl w sz v n xs := by
  obtain ⟨h1, ⟨rfl, rfl⟩ | ⟨g, cap, cur, rfl, hg, hh, hn, hm, hcur, htake⟩⟩ := h
  · exact ⟨none, 0, rfl, Nat.le_refl _, h1, fun _ => rfl, fun _ h => by cases h⟩
  · refine ⟨some ⟨g, 0, none⟩, cap, rfl, hn, h1, (fun h => by cases h), fun x hx => ?_⟩
    cases hx
    intro j u hj
    have hadd : (⟨g, 0, none⟩ : Addr).add j = ⟨g, j, none⟩ := by unfold Addr.add; split <;> simp_all
    rw [hadd]
    subst htake
    have : cur[j]? = some u := by
      have := List.getElem?_eq_some_iff.1 hj
      obtain ⟨hlt2, he⟩ := this
      simp at hlt2 he
      rw [Array.getElem?_eq_some_iff]
      exact ⟨by omega, by simpa using he⟩
    simp [World.cell?, hh, this]

/-- a slice of integers of kind k. -/
def SlI (k : IntKind) (w : World) (v : Value) (l : List Int) : Prop := Sl w 1 v l.length (l.map (Value.int k)) ∧ ∀ n ∈ l, (Lit.int k n).wf = true
theorem SlI.nil (k : IntKind) (w : World) : SlI k w (.slice none 0 0) [] := ⟨Sl.nil w 1, by simp⟩
theorem SlI.fr {S : Nat → Prop} {k : IntKind} {w w' : World} {v : Value} {l : List Int} (h : SlI k w v l) (hf : Fr S w w') (hs : ∀ k, v.ownBlock = some k → ¬ S k) : SlI k w' v l := ⟨h.1.fr hf hs, h.2⟩
theorem SlI.fr0 {k : IntKind} {w w' : World} {v : Value} {l : List Int} (h : SlI k w v l) (hf : Fr noB w w') : SlI k w' v l := ⟨h.1.fr0 hf, h.2⟩
theorem SlI.opn {k : IntKind} {w : World} {v : Value} {l : List Int} (h : SlI k w v l) : ∃ a cap, v = .slice a l.length cap ∧ l.length ≤ cap := by
  obtain ⟨⟨a, cap, hv, hl, _⟩, _⟩ := h; exact ⟨a, cap, hv, hl⟩

theorem ones (k : IntKind) (l : List Int) : ∀ u ∈ l.map (Value.int k), u.oneCell' = true := by
  intro u hu; simp at hu; obtain ⟨x, _, rfl⟩ := hu; rfl
theorem Sl_one (w : World) (t : TypeId) (v : Value) : Sl (w.alloc (.cells #[v] t)) 1 (.slice (some ⟨w.heap.size, 0, none⟩) 1 1) 1 [v] := by
  refine ⟨_, _, rfl, Nat.le_refl _, by simp, (fun h => by cases h), fun x hx => ?_⟩
  cases hx
  intro j u hj
  cases j with
  | zero => simp at hj; subst hj; simp [Addr.add]
  | succ j => simp at hj
theorem owns_alloc {w : World} {base : Nat} {e : TypeId} {sz : Nat} {v : Value} {n : Nat} {xs : List Value} (h : w.ownsRow base e sz v n xs) (o : Obj) : (w.alloc o).ownsRow base e sz v n xs := World.ownsRow.alloc h o
theorem owns_new {w : World} {base : Nat} {e : TypeId} {sz : Nat} {v : Value} {n : Nat} {xs : List Value} (h : w.ownsRow base e sz v n xs) : ∀ k, v.ownBlock = some k → k < base → noB k := by
  intro k hk hlt; have := (h.lt k hk).1; omega

/-- a row of integers of the call's own making. -/
def OwnI (k : IntKind) (e : TypeId) (w : World) (base : Nat) (v : Value) (l : List Int) : Prop := w.ownsRow base e 1 v l.length (l.map (Value.int k))
theorem OwnI.mk {k : IntKind} {e : TypeId} {w : World} {base : Nat} {v : Value} {n : Nat} {xs : List Value} (l : List Int) (h : w.ownsRow base e 1 v n xs) (hx : xs = l.map (Value.int k)) : OwnI k e w base v l := by
  have hn : n = l.length := by have := h.1; rw [hx] at this; simpa using this.symm
  subst hx hn; exact h
theorem OwnI.fr {S : Nat → Prop} {k : IntKind} {e : TypeId} {w w' : World} {base : Nat} {v : Value} {l : List Int} (h : OwnI k e w base v l) (hf : Fr S w w') (hs : ∀ k, v.ownBlock = some k → ¬ S k) : OwnI k e w' base v l := by
  obtain ⟨h1, h2⟩ := h
  refine ⟨h1, ?_⟩
  rcases h2 with h2 | ⟨g, cap, cur, hv, hg, hh, r⟩
  · exact Or.inl h2
  · refine Or.inr ⟨g, cap, cur, hv, hg, ?_, r⟩
    rw [hf.block g (Array.getElem?_eq_some_iff.1 hh).1 (hs g (by rw [hv]; rfl))]; exact hh
theorem OwnI.opn {k : IntKind} {e : TypeId} {w : World} {base : Nat} {v : Value} {l : List Int} (h : OwnI k e w base v l) : ∃ a cap, v = .slice a l.length cap := by
  rcases h.2 with ⟨hv, hn⟩ | ⟨g, cap, cur, hv, _⟩
  · exact ⟨none, 0, by rw [hn]; exact hv⟩
  · exact ⟨_, _, hv⟩
theorem OwnI.newB {k : IntKind} {e : TypeId} {w : World} {base : Nat} {v : Value} {l : List Int} (h : OwnI k e w base v l) : ∀ j, v.ownBlock = some j → base ≤ j ∧ j < w.heap.size := World.ownsRow.lt h
theorem OwnI.rebase {k : IntKind} {e : TypeId} {w : World} {base base' : Nat} {v : Value} {l : List Int} (h : OwnI k e w base v l) (hb : base' ≤ base) : OwnI k e w base' v l := by
  obtain ⟨h1, h2⟩ := h
  refine ⟨h1, ?_⟩
  rcases h2 with h2 | ⟨g, cap, cur, hv, hg, hh, r⟩
  · exact Or.inl h2
  · exact Or.inr ⟨g, cap, cur, hv, Nat.le_trans hb hg, hh, r⟩
theorem OwnI.sl {k : IntKind} {e : TypeId} {w : World} {base : Nat} {v : Value} {l : List Int} (h : OwnI k e w base v l) (hwf : ∀ n ∈ l, (Lit.int k n).wf = true) : SlI k w v l := ⟨Sl.of_owns h, hwf⟩

theorem Addr.add_add (a : Addr) (i j : Nat) : (a.add i).add j = a.add (i + j) := by
  unfold Addr.add
  by_cases hi : i = 0
  · simp [hi]
  · by_cases hj : j = 0
    · simp [hj]
    · simp [hi, hj, Nat.add_assoc]
theorem Addr.plain (b off k : Nat) : (⟨b, off, none⟩ : Addr).add k = ⟨b, off + k, none⟩ := by unfold Addr.add; split <;> simp_all
/-- x[i:j] as a value. -/
theorem Sl.cut {w : World} {sz : Nat} {ao : Option Addr} {n cap : Nat} {cs : List Value} (hS : Sl w sz (.slice ao n cap) n cs) (i m : Nat) (hm : i + m ≤ n) {ao' : Option Addr} (ho1 : cap = i → ao' = ao) (ho2 : cap ≠ i → ao' = ao.map (·.add (i * sz))) {c' : Nat} (hc' : c' = cap - i) :
    Sl w sz (.slice ao' m c') m ((cs.drop (i * sz)).take (m * sz)) := by
  obtain ⟨a0, cap0, hv, hcap, hlen, hnone, hsome⟩ := hS
  cases hv
  subst hc'
  refine ⟨_, _, rfl, by omega, ?_, ?_, ?_⟩
  · simp [hlen]
    have : m * sz ≤ (n - i) * sz := Nat.mul_le_mul_right _ (by omega)
    have e2 : n * sz - i * sz = (n - i) * sz := (Nat.mul_sub_right_distrib _ _ _).symm
    omega
  · intro hn
    by_cases hci : cap = i
    · omega
    · rw [ho2 hci] at hn
      cases ao with
      | none => have := hnone rfl; omega
      | some ad => simp at hn
  · intro y hy
    by_cases hci : cap = i
    · rw [ho1 hci] at hy
      intro jj u hu
      exfalso
      have : jj < ((cs.drop (i * sz)).take (m * sz)).length := (List.getElem?_eq_some_iff.1 hu).1
      obtain rfl : m = 0 := by omega
      simp at this
    · rw [ho2 hci] at hy
      cases ao with
      | none => simp at hy
      | some ad =>
        simp at hy; subst hy
        intro jj u hu
        rw [Addr.add_add]
        have hjj : jj < ((cs.drop (i * sz)).take (m * sz)).length := (List.getElem?_eq_some_iff.1 hu).1
        have hj2 : jj < m * sz := by simp at hjj; omega
        rw [List.getElem?_take, if_pos hj2, List.getElem?_drop] at hu
        exact hsome ad rfl _ _ hu
theorem SlI.cut {w : World} {k : IntKind} {ao : Option Addr} {n cap : Nat} {l : List Int} (hS : SlI k w (.slice ao n cap) l) (i m : Nat) (hm : i + m ≤ l.length) {ao' : Option Addr} (ho1 : cap = i → ao' = ao) (ho2 : cap ≠ i → ao' = ao.map (·.add i)) {c' : Nat} (hc' : c' = cap - i) :
    SlI k w (.slice ao' m c') ((l.drop i).take m) := by
  have hn : n = l.length := by obtain ⟨⟨a0, cap0, hv, _⟩, _⟩ := hS; cases hv; rfl
  subst hn
  have := hS.1.cut i m hm ho1 (by simpa using ho2) hc'
  have e : ((l.drop i).take m).length = m := by simp; omega
  refine ⟨?_, fun x hx => hS.2 x (List.mem_of_mem_drop (List.mem_of_mem_take hx))⟩
  rw [e]; simpa [List.map_take, List.map_drop] using this

/-! Laws of the walk. -/
section
variable {P : Program} {w : World} {ops : Array Oper} {rest : List Oper} {o : Oper} {a : Act} {Q : Exit → Act → World → Prop}

theorem wpList_wanted (hw : Region.wanted o (yielded ops a.tmps) = true)
    (h : ∀ K : Act → World → Prop, (∀ a w, wpList P ops Q rest a w → K a w) → o.wp P a w K Q) : wpList P ops Q (o :: rest) a w :=
  wpList_step fun K hK => by rw [if_pos hw]; exact h K hK
theorem at_make (t : TypeId) (l c : Operand) (_ho : o.op = .makeSlice t l c) (h : wpList P ops Q (o :: rest) a w) : wpList P ops Q (o :: rest) a w := h
theorem at_idx (t : TypeId) (l c : Operand) (_ho : o.op = .indexAddr t l c) (h : wpList P ops Q (o :: rest) a w) : wpList P ops Q (o :: rest) a w := h
theorem at_conv (s t : TypeId) (x : Operand) (_ho : o.op = .convert s t x) (h : wpList P ops Q (o :: rest) a w) : wpList P ops Q (o :: rest) a w := h
theorem at_cut (t : TypeId) (x : Operand) (l c m : Option Operand) (_ho : o.op = .slice t x l c m) (h : wpList P ops Q (o :: rest) a w) : wpList P ops Q (o :: rest) a w := h

/-- x[i], x a slice of elements of one cell. -/
theorem wpList_idx1 (hgd : Region.wanted o (yielded ops a.tmps) = true) (t : TypeId) (x i : Operand) (ho : o.op = .indexAddr t x i) (e : TypeId) (ht : P.underlying t = some (.slice e)) (hsz : (P.info? e).map (·.size) = some 1)
    (v : Value) (n : Nat) (cs : List Value) (hx : a.eval x = v) (hS : Sl w 1 v n cs) (k : IntKind) (z : Int) (j : Nat) (hi : a.eval i = .int k z) (hz : z = (j : Int)) (hj : j < n)
    (h : ∀ p u, cs[j]? = some u → w.cell? p = some u → wpList P ops Q rest (a.put o.dst (.pointer (some p))) w) : wpList P ops Q (o :: rest) a w := by
  refine wpList_wanted hgd fun K hK => ?_
  obtain ⟨ao, cap, rfl, hcap, hlen, hnone, hsome⟩ := hS
  cases ao with
  | none => have := hnone rfl; omega
  | some ad =>
    have hcell := hsome ad rfl
    subst hz
    have hjl : j < cs.length := by omega
    obtain ⟨ii, hinf, hsz'⟩ := Option.map_eq_some_iff.1 hsz
    have hrun : (Instr.indexAt t (.slice (some ad) n cap) (.int k (j : Int))).run P w = .ok (.pointer (some (ad.add j))) w := by
      have h1 : (0 : Int) ≤ (j : Int) ∧ (j : Int) < (n : Int) := by omega
      simp [Instr.indexAt, asIntOf, run_underlying ht, h1, sizeOf, typeInfo, hinf, hsz', go_sem]
      omega
    unfold Oper.wp
    simp [execOp, ho, hx, hi, hrun, Result.andThen]
    exact hK _ _ (h _ _ (List.getElem?_eq_getElem hjl) (hcell j _ (List.getElem?_eq_getElem hjl)))

/-- append(s, x...), s of the call's own making, x any slice. -/
theorem wpList_app (hgd : o.guard = none) (s x : Operand) (t : TypeId)
    (ho : o.op = .call { callee := .builtin .append, args := #[s, x], argTypes := #[t, t] })
    (base : Nat) (e : TypeId) (z : Value) (sz bytes : Nat) (ht : P.underlying t = some (.slice e)) (hinfo : (P.info? e).map (fun i => (i.zero, i.size, i.bytes)) = some (some z, sz, bytes))
    (hzs : z.cells.size = sz) (hsz : 0 < sz)
    (v : Value) (n : Nat) (xs : List Value) (hs : a.eval s = v) (hown : w.ownsRow base e sz v n xs)
    (vx : Value) (m : Nat) (news : List Value) (hx : a.eval x = vx) (hS : Sl w sz vx m news) (h1 : ∀ u ∈ news, u.oneCell' = true)
    (h63 : n + m ≤ maxLen) (hbytes : (n + m) * bytes ≤ 140737488355328) (hbase : base ≤ w.heap.size)
    (h : ∀ v' w', w'.ownsRow base e sz v' (n + m) (xs ++ news) → w.grownBy w' v.ownBlock → wpList P ops Q rest (a.put o.dst v') w') : wpList P ops Q (o :: rest) a w := by
  obtain ⟨i, hi, hz, hsize, hby⟩ := info_parts hinfo
  obtain ⟨ao, cap, rfl, hcap, hlen, hnone, hsome⟩ := hS
  cases ao with
  | some ad =>
    have hcell := hsome ad rfl
    exact wpList_append_own w hgd s x t ho base e i z sz bytes ht hi hz hsize hby hzs hsz v n xs hs hown ad m cap news hx hlen hcell h1 h63 hbytes hbase fun v' w' p q _ => h v' w' p q
  | none =>
    obtain rfl := hnone rfl
    obtain rfl : m = 0 := by omega
    obtain rfl : news = [] := List.eq_nil_of_length_eq_zero (by simpa using hlen)
    refine wpList_plain hgd fun K hK' => ?_
    have hrun := run_append_owned_none (P := P) w base t o.type e i sz ht hi v n xs hown
    unfold Oper.wp
    simp [execOp, ho, resolve, invoke, builtin, hs, hx, hrun, Result.andThen]
    exact hK' _ _ (by simpa using h v w (by simpa using hown) (World.grownBy.refl _ _))

/-- string(b). -/
theorem wpList_str (hgd : Region.wanted o (yielded ops a.tmps) = true) (x : Operand) (src dst e : TypeId) (ho : o.op = .convert src dst x) (hs : P.underlying src = some (.slice e)) (he : P.underlying e = some (.int .u8)) (hd : P.underlying dst = some .string)
    (v : Value) (l : List Int) (hx : a.eval x = v) (hS : SlI .u8 w v l)
    (h : wpList P ops Q rest (a.put o.dst (.string (strOfNums l))) w) : wpList P ops Q (o :: rest) a w := by
  refine wpList_wanted hgd fun K hK => ?_
  obtain ⟨⟨ao, cap, rfl, hcap, hlen, hnone, hsome⟩, hwf⟩ := hS
  have hrun : (convert src dst (.slice ao l.length cap)).run P w = .ok (.string (strOfNums l)) w := by
    cases ao with
    | none =>
      obtain rfl := hnone rfl
      obtain rfl : l = [] := List.eq_nil_of_length_eq_zero (by omega)
      rw [run_convert_bytes_nil (P := P) w src e hs he _ _ dst hd]; rfl
    | some ad =>
      have hcell := hsome _ rfl
      by_cases hl0 : l.length = 0
      · obtain rfl : l = [] := List.eq_nil_of_length_eq_zero hl0
        have hl : (loadCells ad 0).run P w = .ok #[] w := by simpa using run_loadCells_list (P := P) w ad [] (by simp)
        rw [run_convert_bytes_string w src dst e _ _ cap hs he hd]
        exact run_bytesToString w ad 0 cap [] hl
      obtain ⟨b, off, sp⟩ := ad
      have hsp : sp = none := by
        have := hcell 0 _ (List.getElem?_eq_getElem (by simp; omega))
        simpa [Addr.add] using World.cell?_spot this
      subst hsp
      refine run_convert_bytes_arg (P := P) w src e hs he b off l.length cap l rfl ?_ dst hd
      intro i hi
      have := hcell i (.int .u8 (l.getD i 0)) (by simp [List.getD, hi])
      have hadd : (⟨b, off, none⟩ : Addr).add i = ⟨b, off + i, none⟩ := by unfold Addr.add; split <;> simp_all
      rwa [hadd] at this
  unfold Oper.wp
  simp [execOp, ho, hx, hrun, Result.andThen]
  exact hK _ _ h

/-- x[lo:hi]. -/
theorem wpList_cut (hgd : Region.wanted o (yielded ops a.tmps) = true) (t : TypeId) (x : Operand) (lo hi : Operand) (ho : o.op = .slice t x (some lo) (some hi) none) (e : TypeId) (ht : P.underlying t = some (.slice e)) (sz : Nat) (hsz : (P.info? e).map (·.size) = some sz)
    (v : Value) (n : Nat) (cs : List Value) (hx : a.eval x = v) (hS : Sl w sz v n cs) (kl kh : IntKind) (zl zh : Int) (i j : Nat) (hlo : a.eval lo = .int kl zl) (hhi : a.eval hi = .int kh zh) (hzl : zl = (i : Int)) (hzh : zh = (j : Int)) (hij : i ≤ j) (hj : j ≤ n)
    (h : ∀ v', Sl w sz v' (j - i) ((cs.drop (i * sz)).take ((j - i) * sz)) → (∀ k, v'.ownBlock = some k → v.ownBlock = some k) → wpList P ops Q rest (a.put o.dst v') w) : wpList P ops Q (o :: rest) a w := by
  refine wpList_wanted hgd fun K hK => ?_
  obtain ⟨ao, cap, rfl, hcap, hlen, hnone, hsome⟩ := hS
  subst hzl hzh
  obtain ⟨ii, hinf, hsz'⟩ := Option.map_eq_some_iff.1 hsz
  have hrun : (Instr.sliceAt t (.slice ao n cap) (some (.int kl (i : Int))) (some (.int kh (j : Int))) none).run P w = .ok (.slice (if cap = i then ao else ao.map (·.add (i * sz))) (j - i) (cap - i)) w := by
    simp [Instr.sliceAt, Instr.slice, Instr.sliceBounds, Instr.sliceBound, asIntOf, run_underlying ht, sizeOf, typeInfo, hinf, hsz', go_sem]
    rw [if_pos (by omega), if_pos hij]
  unfold Oper.wp
  simp [execOp, ho, hx, hlo, hhi, hrun, Result.andThen]
  refine hK _ _ (h _ ((show Sl w sz (.slice ao n cap) n cs from ⟨ao, cap, rfl, hcap, hlen, hnone, hsome⟩).cut i (j - i) (by omega) (fun e => by simp [e]) (fun e => by simp [e]) rfl) ?_)
  · intro k hk
    split at hk
    · cases ao with
      | none => simp [Value.ownBlock] at hk
      | some ad => simpa [Value.ownBlock] using hk
    · cases ao with
      | none => simp [Value.ownBlock] at hk
      | some ad =>
        simp [Value.ownBlock] at hk ⊢
        rw [← hk]; unfold Addr.add; split <;> rfl

/-- copy(d, s), d of the call's own making, elements of one cell. -/
theorem wpList_cpy (hgd : o.guard = none) (d s : Operand) (dT sT : TypeId)
    (ho : o.op = .call { callee := .builtin .copy, args := #[d, s], argTypes := #[dT, sT] }) (elem : TypeId) (hu : P.underlying dT = some (.slice elem)) (hsz : (P.info? elem).map (·.size) = some 1)
    (base : Nat) (e : TypeId) (v : Value) (n : Nat) (xs : List Value) (hd : a.eval d = v) (hown : w.ownsRow base e 1 v n xs)
    (vs : Value) (m : Nat) (cs : List Value) (hs : a.eval s = vs) (hS : Sl w 1 vs m cs) (h1 : ∀ u ∈ cs, u.oneCell' = true)
    (h : ∀ w', w'.ownsRow base e 1 v n (cs.take n ++ xs.drop m) → w.grownBy w' v.ownBlock → wpList P ops Q rest (a.put o.dst (goInt (Nat.min m n))) w') : wpList P ops Q (o :: rest) a w := by
  obtain ⟨ao, scap, rfl, hcap, hlen, hnone, hsome⟩ := hS
  have hxl := hown.1
  rw [Nat.mul_one] at hlen hxl
  by_cases h0 : Nat.min m n = 0
  · have hrun : ∃ dp dCap, v = .slice dp n dCap := by
      rcases hown.2 with ⟨rfl, rfl⟩ | ⟨g, cap, cur, rfl, _⟩
      · exact ⟨_, _, rfl⟩
      · exact ⟨_, _, rfl⟩
    obtain ⟨dp, dCap, rfl⟩ := hrun
    refine wpList_copy_nothing hgd d s dT sT ho elem hu hsz dp ao n dCap m scap hd hs h0 ?_
    have := h w (by
      have e2 : cs.take n ++ xs.drop m = xs := by
        have : m = 0 ∨ n = 0 := by have h0' : min m n = 0 := h0; omega
        rcases this with rfl | rfl
        · simp [List.eq_nil_of_length_eq_zero hlen]
        · simp [List.eq_nil_of_length_eq_zero hxl]
      rw [e2]; exact hown) (World.grownBy.refl _ _)
    rwa [h0] at this
  · rcases hown.2 with ⟨rfl, rfl⟩ | ⟨g, cap, cur, rfl, hg, hh, hn, hm, hcs, htk⟩
    · simp at h0
    · have hmin : Nat.min m n ≤ m ∧ Nat.min m n ≤ n := ⟨Nat.min_le_left _ _, Nat.min_le_right _ _⟩
      cases ao with
      | none => have := hnone rfl; omega
      | some ad =>
        have hcell := hsome ad rfl
        rw [Nat.mul_one] at hcs htk
        have hl2 : (cs.take n).length = Nat.min m n := by simp [hlen, Nat.min_comm]
        refine wpList_copy_own hgd d s dT sT ho elem hu hsz g 0 n cap ad m scap hd hs cur e hh (cs.take n) hl2 (fun j u hj => hcell j u ?_) (by rw [hl2]; omega) (fun u hu => h1 u (List.mem_of_mem_take hu)) ?_
        · rw [List.getElem?_take] at hj; split at hj
          · exact hj
          · cases hj
        · rw [hl2]
          have hsize : ((cur.toList.take 0 ++ (cs.take n ++ cur.toList.drop (0 + Nat.min m n))).toArray).size = cap := by simp [hl2, hcs]; omega
          refine h _ ⟨?_, Or.inr ⟨g, cap, _, rfl, hg, setRow_heap w g _ _ e _ hh, hn, hm, by rw [Nat.mul_one]; exact hsize, ?_⟩⟩ ⟨rfl, rfl, rfl, by simp [World.setRow], fun k hk hne => setRow_other w g k _ (fun q => hne (by rw [q]; rfl))⟩
          · simp [hlen, hxl, Nat.min_def]; split <;> omega
          · rw [Nat.mul_one, ← htk]
            simp only [List.take_zero, List.nil_append, Nat.zero_add]
            rw [List.take_append, hl2, List.take_of_length_le (by rw [hl2]; exact hmin.2)]
            congr 1
            rcases Nat.le_total m n with hmn | hmn
            · rw [show Nat.min m n = m from Nat.min_eq_left hmn, List.drop_take]
            · rw [show Nat.min m n = n from Nat.min_eq_right hmn]
              simp
              omega
end
end Go.Proofs.U
/- Small facts that the texts of several layers share. -/
namespace Go.Proofs.Ytijgfojnppcbjaa
open Go.RowKit Go.Proofs.U
theorem Hid.mk {p : Prop} (h : p) : Hid p := h
theorem info5 : (Try.prog.info? 5).map (fun i => (i.zero, i.size, i.bytes)) = some (some (.int .u8 0), 1, 1) := by kernel_rfl
theorem size5 : (Try.prog.info? 5).map (·.size) = some 1 := by kernel_rfl
theorem getu (k : IntKind) (l : List Int) (j : Nat) (u : Value) (h : (l.map (Value.int k))[j]? = some u) : u = .int k (l.getD j 0) := by
  simp at h; obtain ⟨x, hx, rfl⟩ := h; simp [List.getD, hx]
theorem u8_bd {x : Int} (h : (Lit.int .u8 x).wf = true) : 0 ≤ x ∧ x < 256 := by
  simp [Lit.wf, IntKind.min, IntKind.max, IntKind.signed, IntKind.bits] at h; omega
end Go.Proofs.Ytijgfojnppcbjaa
/- Contracts of isWidth and allFit of package ends, for every list of at most 10^12 numbers. -/
namespace Go.Proofs.Ytijgfojnppcbjaa
open Go.RowKit Go.Proofs.U

def isW (n : Int) : Bool := n == 1 || n == 2 || n == 4 || n == 8

set_option maxHeartbeats 400000 in
theorem isWidth_any (n : Int) (w : World) :
    Calls Try.prog 62 #[.int .i64 n] w fun e w' => e = .returned (.bool (isW n)) ∧ w = w' := by
  go_enter Try.func62, Try.ntmps62
  go_wp2
  all_goals go_ret
  all_goals refine ⟨?_, rfl⟩
  all_goals simp_all [isW]

theorem size26 : (Try.prog.info? 25).map (·.size) = some 1 := by kernel_rfl



def lim (width : Int) : Int := if width = 1 then 256 else if width = 2 then 65536 else if width = 4 then 4294967296 else 18446744073709551616
def fits (width x : Int) : Bool := decide (x < lim width)

theorem u64_bd {x : Int} (h : (Lit.int .u64 x).wf = true) : 0 ≤ x ∧ x < 18446744073709551616 := by
  simp [Lit.wf, IntKind.min, IntKind.max, IntKind.signed, IntKind.bits] at h; omega

theorem all_take_succ (f : Int → Bool) (l : List Int) (k : Nat) (h : k < l.length) : (l.take (k+1)).all f = ((l.take k).all f && f l[k]) := by
  rw [List.take_succ_eq_append_getElem h, List.all_append]; simp

theorem all_of_bad (f : Int → Bool) (l : List Int) (k : Nat) (h : k < l.length) (hf : f l[k] = false) : l.all f = false := by
  rw [List.all_eq_false]; exact ⟨l[k], by simp, by simp [hf]⟩

theorem fits_yes {d x : Int} {width : Int} (_h0 : 0 ≤ x) (hl : lim width = d) (hd : 0 < d) (h : (x / d != 0) = false) : fits width x = true := by
  have h1 : x / d = 0 := by simpa using h
  simp [fits, hl]
  rcases Int.lt_or_le x d with h3 | h3
  · exact h3
  · have := (Int.le_ediv_iff_mul_le hd (a := 1) (b := x)).2 (by omega); omega
theorem fits_no {d x : Int} {width : Int} (h0 : 0 ≤ x) (hl : lim width = d) (h : (x / d != 0) = true) : fits width x = false := by
  have h1 : x / d ≠ 0 := by simpa using h
  simp [fits, hl]
  rcases Int.lt_or_le x d with h3 | h3
  · exact absurd (Int.ediv_eq_zero_of_lt h0 h3) h1
  · exact h3

theorem fits_8 {x : Int} (h : x < 18446744073709551616) : fits 8 x = true := by
  simp [fits, lim, h]
set_option maxHeartbeats 1000000 in
theorem allFit_any (width : Int) (hwd : isW width = true) (vl : Value) (l : List Int) (w : World) (hl : SlI .u64 w vl l) (hm : l.length ≤ 1000000000000) :
    Calls Try.prog 63 #[.int .i64 width, vl] w fun e w' => e = .returned (.bool (l.all (fits width))) ∧ w = w' := by
  obtain ⟨a, cap, rfl, hcap⟩ := hl.opn
  have hS := hl.1
  have hwf := hl.2
  have hcase : width = 1 ∨ width = 2 ∨ width = 4 ∨ width = 8 := by simpa [isW, or_assoc] using hwd
  clear hl hwd
  obtain ⟨F, HF⟩ : ∃ F, Hid (F = fits width) := ⟨_, rfl⟩
  rw [← HF.out]
  rcases hcase with rfl | rfl | rfl | rfl
  rotate_left 3
  · go_enter Try.func63, Try.ntmps63
    go_wp2
    go_loop [9] (fun i => ∃ k : Nat, k ≤ l.length ∧ i = .int .i64 k ∧ Hid ((l.take k).all F = true)) (fun i => l.length - (intOf i).toNat)
    case atStart => exact ⟨0, Nat.zero_le _, rfl, show _ = _ by simp⟩
    case round =>
      obtain ⟨k, hk, rfl, hall⟩ := hrel
      by_cases hlt : k < l.length
      · have hb := u64_bd (hwf l[k] (by simp))
        go_wp2_with (refine wpList_idx1 rfl 121 _ _ rfl 25 Try.underlying121 size26 _ _ _ rfl hS _ _ k rfl rfl hlt ?_; intro p u hu hc; obtain rfl := getu _ _ _ _ hu)
        · go_round
          case rel => exact ⟨k + 1, by omega, by go_num, show _ = _ by rw [all_take_succ _ _ _ hlt, hall.out, HF.out, fits_8 hb.2]; rfl⟩
          case measure => simp [intOf]; omega
      · go_wp2
        go_ret
        have e : k = l.length := by omega
        subst e
        have hall := hall.out
        rw [List.take_length] at hall
        exact ⟨by rw [hall]; rfl, rfl⟩
  all_goals
    go_enter Try.func63, Try.ntmps63
    go_wp2
    go_loop [9] (fun i => ∃ k : Nat, k ≤ l.length ∧ i = .int .i64 k ∧ Hid ((l.take k).all F = true)) (fun i => l.length - (intOf i).toNat)
    case atStart => exact ⟨0, Nat.zero_le _, rfl, show _ = _ by simp⟩
    case round =>
      obtain ⟨k, hk, rfl, hall⟩ := hrel
      by_cases hlt : k < l.length
      · have hb := u64_bd (hwf l[k] (by simp))
        go_wp2_with (refine wpList_idx1 rfl 121 _ _ rfl 25 Try.underlying121 size26 _ _ _ rfl hS _ _ k rfl rfl hlt ?_; intro p u hu hc; obtain rfl := getu _ _ _ _ hu)
        · go_ret
          exact ⟨by rw [all_of_bad F l k hlt (by rw [HF.out]; exact fits_no hb.1 rfl ‹_›)]; rfl, rfl⟩
        · go_round
          case rel => exact ⟨k + 1, by omega, by go_num, show _ = _ by rw [all_take_succ _ _ _ hlt, hall.out, HF.out, fits_yes hb.1 rfl (by decide) ‹_›]; rfl⟩
          case measure => simp [intOf]; omega
      · go_wp2
        go_ret
        have e : k = l.length := by omega
        subst e
        have hall := hall.out
        rw [List.take_length] at hall
        exact ⟨by rw [hall]; rfl, rfl⟩
end Go.Proofs.Ytijgfojnppcbjaa
/- Contract of ends.Put where it answers bytes, for lists of at most 10^12 numbers. -/
namespace Go.Proofs.Ytijgfojnppcbjaa
open Go.RowKit Go.Proofs.U


def leB : Nat → Int → List Int
  | 0, _ => []
  | n + 1, x => x % 256 :: leB n (x / 256)
def putB (width : Nat) (l : List Int) : List Int := l.flatMap (leB width)

theorem leB_snoc (q : Nat) (x : Int) (_h : 0 ≤ x) : leB (q + 1) x = leB q x ++ [x / 256 ^ q % 256] := by
  induction q generalizing x with
  | zero => simp [leB]
  | succ q ih =>
    rw [leB, ih (x / 256) (by omega)]
    simp only [leB, List.cons_append]
    rw [Int.ediv_ediv_of_nonneg (by decide), Int.pow_succ, Int.mul_comm]
theorem leB_length (q : Nat) (x : Int) : (leB q x).length = q := by
  induction q generalizing x with
  | zero => rfl
  | succ q ih => simp [leB, ih]
theorem putB_length (W : Nat) (l : List Int) : (putB W l).length = l.length * W := by
  induction l with
  | nil => simp [putB]
  | cons x l ih => simp only [putB, List.flatMap_cons, List.length_append, leB_length, List.length_cons] at *; rw [ih, Nat.add_mul]; omega
theorem putB_take (W : Nat) (l : List Int) (k : Nat) (h : k < l.length) : putB W (l.take (k + 1)) = putB W (l.take k) ++ leB W l[k] := by
  unfold putB; rw [List.take_succ_eq_append_getElem h, List.flatMap_append]; simp
theorem div_step (x : Int) (q : Nat) : x / 256 ^ q / 256 = x / 256 ^ (q + 1) := by
  rw [Int.ediv_ediv_of_nonneg (Int.le_of_lt (Int.pow_pos (by decide))), Int.pow_succ]
theorem div_bd (x : Int) (q : Nat) (h : 0 ≤ x ∧ x < 18446744073709551616) : 0 ≤ x / 256 ^ q ∧ x / 256 ^ q < 18446744073709551616 := by
  have hp : (0 : Int) < 256 ^ q := Int.pow_pos (by decide)
  have h1 := Int.ediv_nonneg h.1 (Int.le_of_lt hp)
  have h2 := Int.ediv_le_self (256 ^ q) h.1
  omega

set_option maxHeartbeats 1000000 in
theorem put_yes (width : Int) (hwd : isW width = true) (vb vl : Value) (bs l : List Int) (w : World) (hb : SlI .u8 w vb bs) (hl : SlI .u64 w vl l) (hbm : bs.length ≤ 1000000000000) (hm : l.length ≤ 1000000000000) (hfit : l.all (fits width) = true) :
    Calls Try.prog 50 #[vb, .int .i64 width, vl] w fun e w' => ∃ v, e = .returned (.tuple #[v, .int .i64 0]) ∧ OwnI .u8 5 w' w.heap.size v (bs ++ putB width.toNat l) ∧ Fr noB w w' := by
  have hw1 : 1 ≤ width ∧ width ≤ 8 := by
    have : width = 1 ∨ width = 2 ∨ width = 4 ∨ width = 8 := by simpa [isW, or_assoc] using hwd
    omega
  obtain ⟨W, rfl⟩ := Int.eq_ofNat_of_zero_le (show 0 ≤ width by omega)
  obtain ⟨a, cap, rfl, hcap⟩ := hb.opn
  obtain ⟨a2, cap2, rfl, hcap2⟩ := hl.opn
  obtain ⟨i5, hi5, hz5, hs5, hy5⟩ := info_parts info5
  have Hwd : Hid (isW (W : Int) = true) := hwd
  have Hfit : Hid (l.all (fits W) = true) := hfit
  clear hwd hfit
  have hmul : (W : Int) * (l.length : Int) ≤ 8000000000000 := by
    have := Int.mul_le_mul (a := (W : Int)) (b := (l.length : Int)) (c := 8) (d := 1000000000000) (by omega) (by omega) (by omega) (by omega)
    omega
  have hmulN : W * l.length ≤ 8000000000000 := by have : ((W * l.length : Nat) : Int) = (W : Int) * (l.length : Int) := by simp
                                                  omega
  have hmul0 : 0 ≤ (W : Int) * (l.length : Int) := Int.mul_nonneg (by omega) (by omega)
  go_enter Try.func50, Try.ntmps50
  go_wp2_with (first | (go_at_call 62; refine (isWidth_any _ _).mono ?_; rintro e w' ⟨rfl, rfl⟩; rw [Hwd.out]) | (go_at_call 63; refine (allFit_any _ Hwd.out _ l _ hl hm).mono ?_; rintro e w' ⟨rfl, rfl⟩; rw [Hfit.out]) | (refine at_make 24 _ _ rfl ?_; go_must (refine wpList_make_own _ rfl _ _ 24 rfl w.heap.size 5 i5 _ 1 Try.underlying24 hi5 hz5 hs5 .i64 .i64 _ (bs.length + W * l.length) rfl rfl (by simp) ?hb2 ?hb3 (Nat.le_refl _) ?_; rotate_left 2; intro w1 hown hgr; have hf1 := Fr.of_grown hgr; have hbS := hb.1.fr0 hf1)) | (at_builtin; go_must (refine wpList_app rfl _ _ 24 rfl w.heap.size 5 _ 1 1 Try.underlying24 info5 rfl (by decide) _ _ _ rfl hown _ _ _ rfl hbS (ones _ _) ?hq1 ?hq2 hf1.size ?_; rotate_left 2; intro v2 w2 hown2 hgr2; have hf2 := hf1.grown hgr2 (owns_new hown))))
  case hb2 => rw [hy5]; omega
  case hb3 => unfold maxLen; omega
  case hq1 => unfold maxLen; omega
  case hq2 => omega
  have ho2 : OwnI .u8 5 w2 w.heap.size v2 bs := OwnI.mk _ hown2 (by simp)
  clear hown2 hgr2 hown hbS hgr
  go_loopw [8, 33] (fun out i wr => ∃ k : Nat, k ≤ l.length ∧ i = .int .i64 k ∧ OwnI .u8 5 wr w.heap.size out (bs ++ putB W (l.take k)) ∧ Fr noB w wr) (fun _ i _ => l.length - (intOf i).toNat)
  case atStart => exact ⟨0, Nat.zero_le _, rfl, by simpa [putB] using ho2, hf2⟩
  case round =>
    obtain ⟨k, hk, rfl, ho, hf⟩ := hrel
    rename_i out _ _
    by_cases hlt : k < l.length
    · have hbd := u64_bd (hl.2 l[k] (by simp))
      have hlS := hl.1.fr0 hf
      go_wp2_with (refine wpList_idx1 rfl 121 _ _ rfl 25 Try.underlying121 size26 _ _ _ rfl hlS _ _ k rfl rfl hlt ?_; intro p u hu hc; obtain rfl := getu _ _ _ _ hu)
      generalize hx : l[k] = x at *
      have HX := Hid.mk hx
      clear hx
      go_loopw [8, 10, 38] (fun out n j wr' => ∃ q : Nat, q ≤ W ∧ j = .int .i64 q ∧ n = .int .u64 (x / 256 ^ q) ∧ OwnI .u8 5 wr' w.heap.size out (bs ++ putB W (l.take k) ++ leB q x) ∧ Fr noB w wr') (fun _ _ j _ => W - (intOf j).toNat)
      case atStart => exact ⟨0, Nat.zero_le _, rfl, by simp, by simpa [leB] using ho, hf⟩
      case round =>
        obtain ⟨q, hq, rfl, rfl, ho', hf'⟩ := hrel
        have hxd := div_bd x q hbd
        generalize hy : x / 256 ^ q = y at *
        have HY := Hid.mk hy
        clear hy
        have hlen : (bs ++ putB W (l.take k) ++ leB q x).length ≤ 9000000000008 := by
          have h9 : k * W ≤ l.length * W := Nat.mul_le_mul_right _ hk
          simp [leB_length, putB_length, Nat.min_eq_left hk]
          rw [Nat.mul_comm l.length W] at h9; omega
        by_cases hqlt : q < W
        · go_wp2_with (at_builtin; go_must (refine wpList_app rfl _ _ 24 rfl w.heap.size 5 _ 1 1 Try.underlying24 info5 rfl (by decide) _ _ _ rfl (owns_alloc ho' _) _ _ _ rfl (Sl_one _ _ _) ?h1 ?hq1 ?hq2 ?hq3 ?_; rotate_left 4; intro v3 w3 hown3 hgr3))
          case h1 => simp [Value.oneCell']
          case hq1 => unfold maxLen; omega
          case hq2 => omega
          case hq3 => have := hf'.size; simp; omega
          have hf3 := (hf'.alloc _).grown hgr3 (owns_new ho')
          go_roundw
          case rel => exact ⟨q + 1, by omega, by go_num, by rw [← div_step, HY.out], OwnI.mk _ hown3 (by rw [leB_snoc q x hbd.1, HY.out]; simp), hf3⟩
          case measure => simp [intOf]; omega
        · go_wp2
          go_roundw
          case rel => exact ⟨k + 1, by omega, by go_num, by have eq : q = W := (by omega); rw [putB_take W l k hlt, HX.out, ← List.append_assoc]; rw [eq] at ho'; exact ho', hf'⟩
          case measure => simp [intOf]; omega
    · go_wp2
      go_ret2
      have e : k = l.length := by omega
      subst e
      simp only [List.take_length] at ho
      exact ⟨_, rfl, ho, hf⟩
end Go.Proofs.Ytijgfojnppcbjaa
/- More laws of the walk over slices; no condition. -/
namespace Go.Proofs.U
open Go.RowKit

/-- How many elements: for a loop's measure. -/
def lenV : Value → Nat | .slice _ n _ => n | _ => 0
section
variable {P : Program} {w : World} {ops : Array Oper} {rest : List Oper} {o : Oper} {a : Act} {Q : Exit → Act → World → Prop}

/-- x[:hi]. -/
theorem wpList_cuth (hgd : Region.wanted o (yielded ops a.tmps) = true) (t : TypeId) (x : Operand) (hi : Operand) (ho : o.op = .slice t x none (some hi) none) (e : TypeId) (ht : P.underlying t = some (.slice e)) (sz : Nat) (hsz : (P.info? e).map (·.size) = some sz)
    (ao : Option Addr) (n cap : Nat) (hx : a.eval x = .slice ao n cap) (kh : IntKind) (zh : Int) (j : Nat) (hhi : a.eval hi = .int kh zh) (hzh : zh = (j : Int)) (hj : j ≤ cap)
    (h : wpList P ops Q rest (a.put o.dst (.slice ao j cap)) w) : wpList P ops Q (o :: rest) a w := by
  refine wpList_wanted hgd fun K hK => ?_
  subst hzh
  obtain ⟨ii, hinf, hsz'⟩ := Option.map_eq_some_iff.1 hsz
  have e0 : (ao.map (·.add 0) : Option Addr) = ao := by cases ao <;> rfl
  have hrun : (Instr.sliceAt t (.slice ao n cap) none (some (.int kh (j : Int))) none).run P w = .ok (.slice ao j cap) w := by
    simp [Instr.sliceAt, Instr.slice, Instr.sliceBounds, Instr.sliceBound, asIntOf, run_underlying ht, sizeOf, typeInfo, hinf, go_sem]
    omega
  unfold Oper.wp
  simp [execOp, ho, hx, hhi, hrun, Result.andThen]
  exact hK _ _ h

theorem SlI.takeN {k : IntKind} {w : World} {ao : Option Addr} {n cap : Nat} {l : List Int} (h : SlI k w (.slice ao n cap) l) (m : Nat) (hm : m ≤ l.length) : SlI k w (.slice ao m cap) (l.take m) := by
  have e0 : (ao.map (·.add 0) : Option Addr) = ao := by cases ao <;> rfl
  have := h.cut 0 m (by omega) (ao' := ao) (fun _ => rfl) (fun _ => e0.symm) (c' := cap) rfl
  simpa using this
end
end Go.Proofs.U
/- Contract of the document's Bytes. -/
namespace Go.Proofs.Ytijgfojnppcbjaa
open Go.RowKit Go.Proofs.U
set_option maxHeartbeats 1000000 in
theorem bytes_any (n : Int) (W : Nat) (w : World) (hn : 0 ≤ n ∧ n < 18446744073709551616) (hW : W ≤ 1000) :
    Calls Try.prog 55 #[.int .u64 n, .int .i64 W] w fun e w' => ∃ v, e = .returned (.tuple #[v, .bool (n / 256 ^ W == 0)]) ∧ OwnI .u8 5 w' w.heap.size v (leB W n) ∧ Fr noB w w' := by
  go_enter Try.func55, Try.ntmps55
  go_wp2
  go_loopw [0, 6] (fun x out wr => ∃ q : Nat, q ≤ W ∧ x = .int .u64 (n / 256 ^ q) ∧ OwnI .u8 5 wr w.heap.size out (leB q n) ∧ Fr noB w wr) (fun _ out _ => W - lenV out)
  case atStart => exact ⟨0, Nat.zero_le _, by simp, OwnI.mk [] (World.ownsRow_made _ #[] 0 (Nat.le_refl _) (Nat.zero_le _) rfl) rfl, (Fr.refl _ _).alloc _⟩
  case round =>
    obtain ⟨q, hq, rfl, ho, hf⟩ := hrel
    obtain ⟨a1, c1, rfl⟩ := ho.opn
    have hxd := div_bd n q hn
    have HD := Hid.mk (div_step n q)
    generalize hy : n / 256 ^ q = y at *
    have HY := Hid.mk hy
    clear hy
    have hlen := leB_length q n
    by_cases hlt : q < W
    · go_wp2_with (at_builtin; go_must (refine wpList_app rfl _ _ 24 rfl w.heap.size 5 _ 1 1 Try.underlying24 info5 rfl (by decide) _ _ _ rfl (owns_alloc ho _) _ _ _ rfl (Sl_one _ _ _) ?h1 ?hq1 ?hq2 ?hq3 ?_; rotate_left 4; intro v3 w3 hown3 hgr3))
      case h1 => simp [Value.oneCell']
      case hq1 => unfold maxLen; omega
      case hq2 => omega
      case hq3 => have := hf.size; simp; omega
      have o3 : OwnI .u8 5 w3 w.heap.size v3 (leB (q + 1) n) := OwnI.mk _ hown3 (by rw [leB_snoc q n hn.1, HY.out]; simp)
      obtain ⟨a3, c3, rfl⟩ := o3.opn
      have hf3 := (hf.alloc _).grown hgr3 (owns_new ho)
      go_roundw
      case rel => exact ⟨q + 1, by omega, by rw [HD.out], o3, hf3⟩
      case measure => simp only [lenV, leB_length]; omega
    · obtain rfl : q = W := by omega
      go_wp2
      go_ret2
      exact ⟨_, by rw [HY.out]; rfl, ho, hf⟩
end Go.Proofs.Ytijgfojnppcbjaa
/- A literal's row: what it holds. -/
namespace Go.Proofs.U
open Go.RowKit
theorem Sl_made (w : World) (t : TypeId) (cs : Array Value) (n b : Nat) (hn : cs.size = n) (hb : w.heap.size = b) : Sl (w.alloc (.cells cs t)) 1 (.slice (some ⟨b, 0, none⟩) n n) n cs.toList := by
  subst hb
  refine ⟨_, _, rfl, Nat.le_refl _, by simp [hn], (fun h => by cases h), fun x hx => ?_⟩
  cases hx
  intro j u hj
  rw [Addr.plain, Nat.zero_add]
  have h1 : cs[j]? = some u := by simpa using hj
  have h2 : (w.alloc (.cells cs t)).heap[w.heap.size]? = some (.cells cs t) := by
    show (w.heap.push _)[w.heap.size]? = _
    simp
  unfold World.cell?
  rw [h2]
  exact h1

/-- append(s, x...) as one operation, s of the call's own making, x any slice. -/
theorem wp_app {P : Program} {w : World} {o : Oper} {a : Act} {K : Act → World → Prop} {Q : Exit → Act → World → Prop} (s x : Operand) (t : TypeId)
    (ho : o.op = .call { callee := .builtin .append, args := #[s, x], argTypes := #[t, t] })
    (base : Nat) (e : TypeId) (z : Value) (sz bytes : Nat) (ht : P.underlying t = some (.slice e)) (hinfo : (P.info? e).map (fun i => (i.zero, i.size, i.bytes)) = some (some z, sz, bytes))
    (hzs : z.cells.size = sz) (hsz : 0 < sz)
    (v : Value) (n : Nat) (xs : List Value) (hs : a.eval s = v) (hown : w.ownsRow base e sz v n xs)
    (vx : Value) (m : Nat) (news : List Value) (hx : a.eval x = vx) (hS : Sl w sz vx m news) (h1 : ∀ u ∈ news, u.oneCell' = true)
    (h63 : n + m ≤ maxLen) (hbytes : (n + m) * bytes ≤ 140737488355328) (hbase : base ≤ w.heap.size)
    (h : ∀ v' w', w'.ownsRow base e sz v' (n + m) (xs ++ news) → w.grownBy w' v.ownBlock → K (a.put o.dst v') w') : o.wp P a w K Q := by
  obtain ⟨i, hi, hz, hsize, hby⟩ := info_parts hinfo
  obtain ⟨ao, cap, rfl, hcap, hlen, hnone, hsome⟩ := hS
  cases ao with
  | some ad =>
    have hcell := hsome ad rfl
    exact wp_append_own w s x t ho base e i z sz bytes ht hi hz hsize hby hzs hsz v n xs hs hown ad m cap news hx hlen hcell h1 h63 hbytes hbase fun v' w' p q _ => h v' w' p q
  | none =>
    obtain rfl := hnone rfl
    obtain rfl : m = 0 := by omega
    obtain rfl : news = [] := List.eq_nil_of_length_eq_zero (by simpa using hlen)
    have hrun := run_append_owned_none (P := P) w base t o.type e i sz ht hi v n xs hown
    unfold Oper.wp
    simp [execOp, ho, resolve, invoke, builtin, hs, hx, hrun, Result.andThen]
    exact h v w (by simpa using hown) (World.grownBy.refl _ _)

/-- s[i:]. -/
theorem run_cutl {P : Program} {w : World} (t e : TypeId) (ht : P.underlying t = some (.slice e)) (sz : Nat) (hsz : (P.info? e).map (·.size) = some sz) (ao : Option Addr) (n cap : Nat) (kl : IntKind) (i : Nat) (hi : i ≤ n) :
    (Instr.sliceAt t (.slice ao n cap) (some (.int kl (i : Int))) none none).run P w = .ok (.slice (if cap = i then ao else ao.map (·.add (i * sz))) (n - i) (cap - i)) w := by
  obtain ⟨ii, hinf, hsz'⟩ := Option.map_eq_some_iff.1 hsz
  simp [Instr.sliceAt, Instr.slice, Instr.sliceBounds, Instr.sliceBound, asIntOf, run_underlying ht, sizeOf, typeInfo, hinf, hsz', go_sem]
  intro h; omega
end Go.Proofs.U
/- Variables of several cells, whatever they hold: how they are made, read, stored, handed back; no condition. -/
namespace Go.Proofs.U
open Go.RowKit
set_option linter.unusedSimpArgs false
set_option linter.unusedVariables false

/-- Block g is a variable of type t that holds the cells cs. -/
def BxV (w : World) (g : Nat) (t : TypeId) (cs : List Value) : Prop := w.heap[g]? = some (.cells cs.toArray t (0, 0))
def onB1 (g : Nat) : Nat → Prop := fun k => k = g
theorem BxV.lt {w : World} {g : Nat} {t : TypeId} {cs : List Value} (h : BxV w g t cs) : g < w.heap.size := (Array.getElem?_eq_some_iff.mp h).1
theorem BxV.fr {S : Nat → Prop} {w w' : World} {g : Nat} {t : TypeId} {cs : List Value} (h : BxV w g t cs) (f : Fr S w w') (hs : ¬ S g) : BxV w' g t cs := (f.block g h.lt hs).trans h
theorem BxV.fr0 {w w' : World} {g : Nat} {t : TypeId} {cs : List Value} (h : BxV w g t cs) (f : Fr noB w w') : BxV w' g t cs := h.fr f (fun q => q)
theorem BxV.ne {w w' : World} {g g' : Nat} {t : TypeId} {cs : List Value} (h : BxV w g t cs) (f : Fr (onB1 g') w w') (hne : g ≠ g') : BxV w' g t cs := h.fr f (fun q => hne q)
theorem BxV.cell {w : World} {g : Nat} {t : TypeId} {cs : List Value} (h : BxV w g t cs) (i : Nat) (v : Value) (hv : cs[i]? = some v) : w.cell? ⟨g, i, none⟩ = some v ∧ w.frozen? ⟨g, i, none⟩ = false := by
  have h' : w.heap[g]? = _ := h
  constructor
  · unfold World.cell?; rw [h']; simpa using hv
  · simp [World.frozen?, h']
theorem BxV.range {w : World} {g : Nat} {t : TypeId} {cs : List Value} (h : BxV w g t cs) (o : Nat) (ds : List Value) (hd : (cs.drop o).take ds.length = ds) : w.rangeAt g o ds := by
  intro j v hj
  refine (h.cell (o + j) v ?_).1
  have hjl := (List.getElem?_eq_some_iff.1 hj).1
  have : ((cs.drop o).take ds.length)[j]? = some v := by rw [hd]; exact hj
  rw [List.getElem?_take, if_pos hjl, List.getElem?_drop] at this
  exact this
theorem BxV.thereR {w : World} {g : Nat} {t : TypeId} {cs : List Value} (h : BxV w g t cs) (o n : Nat) (hn : o + n ≤ cs.length) : w.there g o n := by
  intro j hj
  have h1 := h.cell (o + j) cs[o + j] (List.getElem?_eq_getElem (by omega))
  exact ⟨by rw [h1.1]; rfl, h1.2⟩
theorem BxV.set {w : World} {g : Nat} {t : TypeId} {cs : List Value} (h : BxV w g t cs) (i : Nat) (v : Value) : BxV (w.setCell ⟨g, i, none⟩ v) g t (cs.set i v) := by
  have h' : w.heap[g]? = _ := h
  have hlt := h.lt
  have e1 : w.heap[g] = .cells cs.toArray t (0, 0) := by
    rw [Array.getElem?_eq_getElem hlt] at h'; exact Option.some.inj h'
  show _ = _
  simp [World.setCell, Array.getElem_modify, hlt, e1]
theorem BxV.six {w : World} {g : Nat} {t : TypeId} {x0 x1 x2 x3 x4 x5 : Value} (h : BxV w g t [x0, x1, x2, x3, x4, x5]) :
    (w.cell? ⟨g, 0, none⟩ = some x0 ∧ w.cell? ⟨g, 1, none⟩ = some x1 ∧ w.cell? ⟨g, 2, none⟩ = some x2 ∧ w.cell? ⟨g, 3, none⟩ = some x3 ∧ w.cell? ⟨g, 4, none⟩ = some x4 ∧ w.cell? ⟨g, 5, none⟩ = some x5) :=
  ⟨(h.cell 0 _ rfl).1, (h.cell 1 _ rfl).1, (h.cell 2 _ rfl).1, (h.cell 3 _ rfl).1, (h.cell 4 _ rfl).1, (h.cell 5 _ rfl).1⟩
theorem setCells_fr1 (w : World) (g : Nat) (vs : List Value) : ∀ o, Fr (onB1 g) w (w.setCells g o vs) := by
  induction vs generalizing w with
  | nil => intro o; exact Fr.refl _ _
  | cons v vs ih =>
    intro o
    exact ((Fr.refl (onB1 g) w).setCell ⟨g, o, none⟩ v (fun _ => rfl)).trans (ih (w.setCell ⟨g, o, none⟩ v) (o + 1))
/-- ds in the place of as many cells, from o on. -/
def putAt (cs : List Value) (o : Nat) (ds : List Value) : List Value := cs.take o ++ ds ++ cs.drop (o + ds.length)
theorem putAt_nil (cs : List Value) (o : Nat) : putAt cs o [] = cs := by simp [putAt]
theorem putAt_cons (cs : List Value) (o : Nat) (v : Value) (ds : List Value) (h : o < cs.length) : putAt (cs.set o v) (o + 1) ds = putAt cs o (v :: ds) := by
  unfold putAt
  rw [List.take_succ_eq_append_getElem (by simpa using h), List.take_set_of_le (Nat.le_refl _)]
  simp
  rw [List.drop_set_of_lt (by omega)]
  congr 1; omega
theorem putAt_all (cs ds : List Value) (h : ds.length = cs.length) : putAt cs 0 ds = ds := by simp [putAt, h]
theorem setCells_bx {g : Nat} {t : TypeId} (ds : List Value) : ∀ (o : Nat) (w : World) (cs : List Value), BxV w g t cs → o + ds.length ≤ cs.length → BxV (w.setCells g o ds) g t (putAt cs o ds) := by
  induction ds with
  | nil => intro o w cs h _; rw [putAt_nil]; exact h
  | cons v ds ih =>
    intro o w cs h hl
    simp at hl
    have := ih (o + 1) _ (cs.set o v) (h.set o v) (by simp; omega)
    rw [putAt_cons cs o v ds (by omega)] at this
    exact this

section
variable {P : Program} {w : World} {ops : Array Oper} {rest : List Oper} {o : Oper} {a : Act} {Q : Exit → Act → World → Prop}
theorem at_wpP {l : List Oper} (h : wpList P ops Q l a w) : wpList P ops Q l a w := h

theorem at_st (t : TypeId) (x y : Operand) (_ho : o.op = .store t x y) (h : wpList P ops Q (o :: rest) a w) : wpList P ops Q (o :: rest) a w := h
theorem at_ld (t : TypeId) (x : Operand) (_ho : o.op = .load t x) (h : wpList P ops Q (o :: rest) a w) : wpList P ops Q (o :: rest) a w := h
/-- A new variable: its block is a letter. -/
theorem wpList_allocV (hgd : Region.wanted o (yielded ops a.tmps) = true) (t : TypeId) (ho : o.op = .alloc t) (zs : List Value) (hz : (P.info? t).map (·.zero) = some (some (.agg zs.toArray)))
    (h : ∀ g w', Hid (g = w.heap.size) → BxV w' g t zs → Fr noB w w' → w.heap.size ≤ g → wpList P ops Q rest (a.put o.dst (.pointer (some ⟨g, 0, none⟩))) w') : wpList P ops Q (o :: rest) a w := by
  refine wpList_wanted hgd fun K hK => ?_
  obtain ⟨i, hi, hz'⟩ := Option.map_eq_some_iff.1 hz
  unfold Oper.wp
  have hrun : (execOp a.eval o).run P w = .ok (.value (.pointer (some ⟨w.heap.size, 0, none⟩))) (w.alloc (.cells zs.toArray t)) := by
    simp [execOp, ho, go_sem, zeroValue, typeInfo, hi, hz', Value.cells]
  rw [hrun]
  refine hK _ _ (h w.heap.size _ rfl ?_ ((Fr.refl _ _).alloc _) (Nat.le_refl _))
  show (w.heap.push _)[w.heap.size]? = _
  rw [Array.getElem?_push, if_pos rfl]

/-- An argument's own variable. -/
theorem wpList_boxV (hgd : Region.wanted o (yielded ops a.tmps) = true) (t : TypeId) (x : Operand) (ho : o.op = .box t x) (cs : List Value) (hx : a.eval x = .agg cs.toArray)
    (h : ∀ g w', Hid (g = w.heap.size) → BxV w' g t cs → Fr noB w w' → w.heap.size ≤ g → wpList P ops Q rest (a.put o.dst (.pointer (some ⟨g, 0, none⟩))) w') : wpList P ops Q (o :: rest) a w := by
  refine wpList_wanted hgd fun K hK => ?_
  have hrun : (execOp a.eval o).run P w = .ok (.value (.pointer (some ⟨w.heap.size, 0, none⟩))) (w.alloc (.cells cs.toArray t)) := by
    simp only [execOp, ho, hx]
    simp [go_sem, Value.cells]
  unfold Oper.wp
  rw [hrun]
  refine hK _ _ (h w.heap.size _ rfl ?_ ((Fr.refl _ _).alloc _) (Nat.le_refl _))
  show (w.heap.push _)[w.heap.size]? = _
  rw [Array.getElem?_push, if_pos rfl]

/-- A whole variable read. -/
theorem wpList_loadV (hgd : o.guard = none) (t : TypeId) (x : Operand) (ho : o.op = .load t x) (g off : Nat) (hx : a.eval x = .pointer (some ⟨g, off, none⟩)) (t' : TypeId) (cs ds : List Value) (d : TypeDesc) (hA : BxV w g t' cs)
    (hu : P.underlying t = some d) (hd : d.isRow = true) (hi : (P.info? t).map (·.size) = some ds.length) (hds : (cs.drop off).take ds.length = ds)
    (h : wpList P ops Q rest (a.put o.dst (.agg ds.toArray)) w) : wpList P ops Q (o :: rest) a w :=
  wpList_load_mid hgd t x ho g off hx ds d (hA.range off ds hds) hu hd hi h

/-- A value stored into a variable, from off on. -/
theorem wpList_storeV (hgd : o.guard = none) (t : TypeId) (x y : Operand) (ho : o.op = .store t x y) (g off : Nat) (hx : a.eval x = .pointer (some ⟨g, off, none⟩)) (ds : List Value) (hy : a.eval y = .agg ds.toArray) (t' : TypeId) (cs : List Value) (hA : BxV w g t' cs)
    (hi : (P.info? t).map (·.size) = some ds.length) (hl : off + ds.length ≤ cs.length) (h1 : ∀ v ∈ ds, v.oneCell' = true)
    (h : ∀ w', BxV w' g t' (putAt cs off ds) → Fr (onB1 g) w w' → wpList P ops Q rest (a.put o.dst undef) w') : wpList P ops Q (o :: rest) a w := by
  refine wpList_store_mid hgd t x y ho g off ds.toArray hx hy (by simpa using hA.thereR off ds.length hl) (by simpa using hi) (all_oneCell_toArray h1) (h _ ?_ ?_)
  · exact setCells_bx ds off w cs hA hl
  · exact setCells_fr1 w g _ off

/-- One cell stored into a variable. -/
theorem wpList_store1 (hgd : o.guard = none) (t : TypeId) (x y : Operand) (ho : o.op = .store t x y) (g off : Nat) (hx : a.eval x = .pointer (some ⟨g, off, none⟩)) (v : Value) (hy : a.eval y = v) (hv : v.oneCell' = true) (t' : TypeId) (cs : List Value) (hA : BxV w g t' cs)
    (hi : (P.info? t).map (·.size) = some 1) (hl : off < cs.length)
    (h : ∀ w', BxV w' g t' (cs.set off v) → Fr (onB1 g) w w' → wpList P ops Q rest (a.put o.dst undef) w') : wpList P ops Q (o :: rest) a w := by
  refine wpList_wanted (by simp [Region.wanted, hgd]) fun K hK => ?_
  obtain ⟨i, hii, hs⟩ := Option.map_eq_some_iff.1 hi
  have hc := hA.cell off cs[off] (List.getElem?_eq_getElem hl)
  have hst : (Instr.storeAt t (.pointer (some ⟨g, off, none⟩)) v).run P w = .ok () (w.setCell ⟨g, off, none⟩ v) := by
    cases v with
    | agg cs => simp [Value.oneCell'] at hv
    | _ =>
      have hrs := run_store P w ⟨g, off, none⟩ _ .plain hv
      first
        | (simp [Instr.storeAt, Instr.sureAddr, storeVar, sizeOf, typeInfo, hii, hs, Value.cells, go_sem, hc.1, hc.2]; done)
        | (simp [Instr.storeAt, Instr.sureAddr, storeVar, sizeOf, typeInfo, hii, hs, Value.cells, go_sem, hc.1, hc.2, hrs]; done)
        | (simp [Instr.storeAt, Instr.sureAddr, storeVar, sizeOf, typeInfo, hii, hs, Value.cells, go_sem]; rw [hrs]; simp [hc.1, hc.2])
  unfold Oper.wp execOp
  simp only [ho, hx, hy, Sem.run_bind, hst, Result.andThen_ok]
  exact hK _ _ (h _ (hA.set off v) (Fr.setCell (S := onB1 g) (Fr.refl _ _) _ _ (fun _ => rfl)))
end
end Go.Proofs.U
/- Pages: the laws' own full. -/
namespace Go.Proofs.Ytijgfojnppcbjaa
open Go.RowKit Go.Proofs.U
set_option linter.unusedSimpArgs false
set_option linter.unusedVariables false

abbrev tP : TypeId := 46
def pgv (p : List Int) : List Value := p.map (Value.int .u8)
/-- A page as a value. -/
def pgV (p : List Int) : Value := .agg (pgv p).toArray
theorem pgv_len (p : List Int) : (pgv p).length = p.length := by simp [pgv]
theorem pgv_one (p : List Int) : ∀ v ∈ pgv p, v.oneCell' = true := by
  intro v hv; simp [pgv] at hv; obtain ⟨_, _, rfl⟩ := hv; rfl
theorem pgv_get (p : List Int) (i : Nat) (h : i < p.length) : (pgv p)[i]? = some (.int .u8 p[i]) := by simp [pgv, h]
theorem pgv_set (p : List Int) (i : Nat) (c : Int) : (pgv p).set i (.int .u8 c) = pgv (p.set i c) := by simp [pgv, List.map_set]
def zeroP : List Int := List.replicate 256 0
theorem zero_page : (Try.prog.info? 46).map (·.zero) = some (some (.agg (pgv zeroP).toArray)) := by kernel_rfl
theorem size_page : (Try.prog.info? 46).map (·.size) = some 256 := by kernel_rfl
theorem built_page : Try.prog.built 46 [] = some (pgv zeroP).toArray := by kernel_rfl
theorem size_u8 : (Try.prog.info? 5).map (·.size) = some 1 := by kernel_rfl
theorem len_page : Try.prog.arrayLen 46 = 256 := by kernel_rfl

section
variable {w : World} {ops : Array Oper} {rest : List Oper} {o : Oper} {a : Act} {Q : Exit → Act → World → Prop}
theorem wpList_buildP (hgd : Region.wanted o (yielded ops a.tmps) = true) (ho : o.op = .build 46 #[])
    (h : wpList Try.prog ops Q rest (a.put o.dst (pgV zeroP)) w) : wpList Try.prog ops Q (o :: rest) a w := by
  refine wpList_wanted hgd fun K hK => ?_
  have hrun := run_build (P := Try.prog) w 46 #[] _ built_page
  unfold Oper.wp
  simp [execOp, ho, hrun, Result.andThen]
  exact hK _ _ h
theorem wpList_allocP (hgd : Region.wanted o (yielded ops a.tmps) = true) (ho : o.op = .alloc 46)
    (h : ∀ g w', Hid (g = w.heap.size) → BxV w' g 46 (pgv zeroP) → Fr noB w w' → w.heap.size ≤ g → wpList Try.prog ops Q rest (a.put o.dst (.pointer (some ⟨g, 0, none⟩))) w') : wpList Try.prog ops Q (o :: rest) a w :=
  wpList_allocV hgd 46 ho _ zero_page h
theorem wpList_storeP (hgd : o.guard = none) (x y : Operand) (ho : o.op = .store 46 x y) (g : Nat) (hx : a.eval x = .pointer (some ⟨g, 0, none⟩)) (p : List Int) (hy : a.eval y = pgV p) (q : List Int) (hA : BxV w g 46 (pgv q))
    (hp : p.length = 256) (hq : q.length = 256)
    (h : ∀ w', BxV w' g 46 (pgv p) → Fr (onB1 g) w w' → wpList Try.prog ops Q rest (a.put o.dst undef) w') : wpList Try.prog ops Q (o :: rest) a w := by
  refine wpList_storeV hgd 46 x y ho g 0 hx (pgv p) hy 46 (pgv q) hA (by rw [size_page, pgv_len, hp]) (by rw [pgv_len, pgv_len, hp, hq]; exact Nat.le_refl _) (pgv_one p) ?_
  intro w' h1 h2
  rw [putAt_all _ _ (by rw [pgv_len, pgv_len, hp, hq])] at h1
  exact h w' h1 h2
theorem wpList_loadP (hgd : o.guard = none) (x : Operand) (ho : o.op = .load 46 x) (g : Nat) (hx : a.eval x = .pointer (some ⟨g, 0, none⟩)) (p : List Int) (hA : BxV w g 46 (pgv p)) (hp : p.length = 256)
    (h : wpList Try.prog ops Q rest (a.put o.dst (pgV p)) w) : wpList Try.prog ops Q (o :: rest) a w :=
  wpList_loadV hgd 46 x ho g 0 hx 46 (pgv p) (pgv p) _ hA Try.underlying46 rfl (by rw [size_page, pgv_len, hp]) (by simp) h
end

theorem results_page {fn : Func} {q : Tmp} (h : fn.results = #[.cell q 46]) (tmps : Array Value) (w : World) (g : Nat) (p : List Int) (hq : tmps.getD q undef = .pointer (some ⟨g, 0, none⟩)) (hA : BxV w g 46 (pgv p)) (hp : p.length = 256) :
    (results fn tmps).run Try.prog w = .ok (pgV p) w :=
  results_cell_row h tmps w g 46 (pgv p).toArray (0, 0) _ hq hA Try.underlying46 rfl (by rw [size_page]; simp [pgv_len, hp])

theorem zeroP_len : zeroP.length = 256 := List.length_replicate

def fillP (c : Int) (k : Nat) : List Int := List.replicate k c ++ List.replicate (256 - k) 0
theorem fill_zero (c : Int) : fillP c 0 = zeroP := by simp only [fillP, List.replicate_zero, List.nil_append]; rfl
theorem fill_end (c : Int) : fillP c 256 = List.replicate 256 c := by simp only [fillP, Nat.sub_self, List.replicate_zero, List.append_nil]
theorem fill_len (c : Int) (k : Nat) (h : k ≤ 256) : (fillP c k).length = 256 := by simp only [fillP, List.length_append, List.length_replicate]; omega
theorem fill_set (c : Int) (k : Nat) (h : k < 256) : (fillP c k).set k c = fillP c (k + 1) := by
  unfold fillP
  rw [List.set_append_right _ _ (by simp only [List.length_replicate]; exact Nat.le_refl _), List.length_replicate, Nat.sub_self]
  rw [show 256 - k = (256 - (k + 1)) + 1 by omega, List.replicate_succ, List.set_cons_zero, List.replicate_succ', List.append_assoc]
  rfl

end Go.Proofs.Ytijgfojnppcbjaa
