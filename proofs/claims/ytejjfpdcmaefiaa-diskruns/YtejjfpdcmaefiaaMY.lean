/- DiskKeeps: the row of rows that it keeps; what lies in memory while its regions run. -/
import Derived.Test.YtejjfpdcmaefiaaKM
import Derived.Test.YtejjfpdcmaefiaaOT
namespace Go.Proofs.U
open Go.RowKit
set_option linter.unusedSimpArgs false
set_option linter.unusedVariables false
abbrev enV (v : Value) : List Value := [v]
def upd {α : Type} (f : Nat → α) (j : Nat) (x : α) : Nat → α := fun i => if i = j then x else f i
theorem upd_self {α : Type} (f : Nat → α) (j : Nat) (x : α) : upd f j x j = x := by simp [upd]
theorem upd_ne {α : Type} (f : Nat → α) {j : Nat} (x : α) {i : Nat} (h : i ≠ j) : upd f j x i = f i := by simp [upd, h]
theorem set_upd {α : Type} (f : Nat → α) (j : Nat) (x : α) (n : Nat) : ((List.range n).map f).set j x = (List.range n).map (upd f j x) := by
  apply List.ext_getElem
  · simp
  · intro i h1 h2
    rw [List.getElem_set]
    by_cases h : j = i
    · subst h; simp [upd]
    · have h' : ¬ i = j := fun e => h e.symm
      simp [upd, h, h']
theorem map_const_range {α : Type} (x : α) (n : Nat) : (List.range n).map (fun _ => x) = List.replicate n x := by simp [List.map_const']
theorem flat_enV : ∀ l : List Value, l.flatMap enV = l
  | [] => rfl
  | x :: l => by rw [List.flatMap_cons, flat_enV l]; rfl
theorem bx_full {w : World} {base g N : Nat} {e : TypeId} {l : List Value} (h : OwnR enV 1 e w base (.slice (some ⟨g, 0, none⟩) N N) l) (hl : l.length = N) : BxV w g e l := by
  obtain ⟨_, h1, h2⟩ := h
  rcases h2 with ⟨h2, _⟩ | ⟨g', cap, cur, hv, _, hg, _, _, hcs, ht⟩
  · cases hv : h2
  · obtain ⟨rfl, hN, rfl⟩ : g = g' ∧ N = l.length ∧ N = cap := by simpa using hv
    rw [flat_enV] at ht
    unfold BxV
    rw [hg]
    have : cur.toList = l := by
      rw [← ht, List.take_of_length_le]
      rw [Array.length_toList, hcs, hN]; omega
    rw [← this]
section
variable {P : Program} {w : World} {ops : Array Oper} {rest : List Oper} {o : Oper} {a : Act} {Q : Exit → Act → World → Prop} {e : TypeId} {K : Act → World → Prop} {b : Nat} {xs : List Value}
theorem wpList_mkT (hgd : Region.wanted o (yielded ops a.tmps) = true) (t : TypeId) (y : Operand) (ho : o.op = .buildSlice t 1 #[(0, y)]) (e : TypeId) (ht : P.underlying t = some (.slice e)) (z : Value) (hinfo : (P.info? e).map (fun i => (i.zero, i.size)) = some (some z, 1))
    (x : Value) (hy : a.eval y = x) (hV : x.cells = #[x])
    (h : ∀ g w', OwnT e w' g (.slice (some ⟨g, 0, none⟩) 1 1) [x] → Fr noB w w' → w.heap.size ≤ g → wpList P ops Q rest (a.put o.dst (.slice (some ⟨g, 0, none⟩) 1 1)) w') : wpList P ops Q (o :: rest) a w := by
  refine wpList_wanted hgd fun K hK => ?_
  have hr := run_mk1 (P := P) (ec := enV) (sz := 1) t ht z hinfo (by decide) (by decide) x x (by rw [hV]) rfl w
  unfold Oper.wp
  simp only [execOp, ho]
  simp [hy, hr, Result.andThen]
  exact hK _ _ (h w.heap.size _ (OwnT.made w x e) ((Fr.refl _ _).alloc _) (Nat.le_refl _))
theorem wp_appT (s x : Operand) (t : TypeId) (ho : o.op = .call { callee := .builtin .append, args := #[s, x], argTypes := #[t, t] })
    (z : Value) (ht : P.underlying t = some (.slice e)) (hinfo : (P.info? e).map (fun i => (i.zero, i.size, i.bytes)) = some (some z, 1, 1)) (hzs : z.cells.size = 1)
    (v : Value) (hs : a.eval s = v) (hO : OwnT e w b v xs) (g : Nat) (hx : a.eval x = .slice (some ⟨g, 0, none⟩) 1 1) (y : Value) (hc : w.cell? ⟨g, 0, none⟩ = some y) (h1 : y.oneCell' = true) (hl : xs.length ≤ 100000)
    (h : ∀ v' w' b', OwnT e w' b' v' (xs ++ [y]) → Fr (onB1 b) w w' → (b' = b ∨ w.heap.size ≤ b') → K (a.put o.dst v') w') : o.wp P a w K Q := by
  obtain ⟨i0, hi, hz0, hz1, hz2⟩ := info_parts hinfo
  obtain ⟨v', w', b', hr, h2, h3, h5⟩ := run_append_T (P := P) t o.type i0 z ht hi hz0 hz1 hz2 hzs hO g y hc h1 hl
  unfold Oper.wp execOp
  simp only [ho, resolve, invoke, builtin, Sem.run_bind, Sem.run_pure, Result.andThen_ok, List.map_toArray, List.map_cons, List.map_nil, hs, hx, hr]
  exact h v' w' b' h2 h3 h5
theorem run_ld1 (t : TypeId) (e : TypeId) (ht : P.underlying t = some (.slice e)) (g off : Nat) (v : Value) (hc : w.cell? ⟨g, off, none⟩ = some v) : (Instr.loadAt t (.pointer (some ⟨g, off, none⟩))).run P w = .ok v w := by
  simp [Instr.loadAt, Instr.sureAddr, loadVar, isAgg, run_underlying ht, go_sem, hc]
end
end Go.Proofs.U
namespace Go.Proofs.Ytejjfpdcmaefiaa
open Go.RowKit Go.Proofs.U
set_option linter.unusedSimpArgs false
set_option linter.unusedVariables false
theorem act_zero : (Try.prog.info? 43).map (·.zero) = some (some (.agg (encA ⟨0, 0, 0, .slice none 0 0, []⟩).toArray)) := by kernel_rfl
theorem act_size : (Try.prog.info? 43).map (·.size) = some 4 := by kernel_rfl
theorem under_act : Try.prog.underlying 43 = some (.struct (Try.prog.fieldsOf 43)) := by kernel_rfl
theorem act_sizeE (x : ActR) : (Try.prog.info? 43).map (·.size) = some (encA x).length := act_size
theorem encA_le (x y : ActR) : 0 + (encA x).length ≤ (encA y).length := by simp [encA]
theorem encA_eq (x y : ActR) : (encA x).length = (encA y).length := rfl
theorem wf64 {z : Int} (h : (Lit.int .i64 z).wf = true) : -9223372036854775808 ≤ z ∧ z ≤ 9223372036854775807 := by
  simp [Lit.wf, IntKind.min, IntKind.max, IntKind.signed, IntKind.bits] at h; omega
theorem encA_one {w : World} {x : ActR} (h : ActOk w x) : ∀ u ∈ encA x, u.oneCell' = true := by
  obtain ⟨a, c, e, _⟩ := h.2.2.2.opn
  intro u hu
  simp [encA, e] at hu
  rcases hu with rfl | rfl | rfl | rfl <;> rfl
theorem wrapN (n : Nat) (h : n ≤ 1000) : IntKind.i64.wrap (n : Int) = n := by rw [IntKind.wrap_i64]; omega
section
variable {w : World} {ops : Array Oper} {rest : List Oper} {o : Oper} {a : Act} {Q : Exit → Act → World → Prop}
theorem at_index (t : TypeId) (x y : Operand) (_ho : o.op = .index t x y) (h : wpList Try.prog ops Q (o :: rest) a w) : wpList Try.prog ops Q (o :: rest) a w := h
theorem wpList_indexP (hgd : Region.wanted o (yielded ops a.tmps) = true) (x y : Operand) (ho : o.op = .index 25 x y) (p : List Int) (hx : a.eval x = pgV p) (hl : p.length = 256) (i : Nat) (hy : a.eval y = .int .i64 (i : Int)) (hi : i < 256)
    (h : wpList Try.prog ops Q rest (a.put o.dst (.int .u8 (p.getD i 0))) w) : wpList Try.prog ops Q (o :: rest) a w := by
  refine wpList_wanted hgd fun K hK => ?_
  have hrun : (Instr.index 25 (pgV p) (.int .i64 (i : Int))).run Try.prog w = .ok (.int .u8 (p.getD i 0)) w := by
    obtain ⟨ii, hii, hs⟩ := Option.map_eq_some_iff.1 size_u8
    have ht : Try.prog.underlying 25 = some (.array 256 5) := by kernel_rfl
    have he : Try.prog.underlying 5 = some (.int .u8) := Try.underlying5
    have hgi : p[i]? = some (p.getD i 0) := by simp [List.getD, show i < p.length by omega]
    generalize p.getD i 0 = y at hgi
    have h1 : (i : Int) < 256 := by omega
    unfold pgV pgv
    simp [Instr.index, asIntOf, run_underlying ht, run_underlying he, part, isAgg, sizeOf, typeInfo, hii, hs, go_sem, h1, hgi]
    intro hh; omega
  unfold Oper.wp
  simp [execOp, ho, hx, hy, hrun, Result.andThen]
  exact hK _ _ h
theorem wpList_ld1w (hgd : Region.wanted o (yielded ops a.tmps) = true) (t e : TypeId) (ht : Try.prog.underlying t = some (.slice e)) (x : Operand) (ho : o.op = .load t x) (g off : Nat) (hx : a.eval x = .pointer (some ⟨g, off, none⟩)) (v : Value) (hc : w.cell? ⟨g, off, none⟩ = some v)
    (h : wpList Try.prog ops Q rest (a.put o.dst v) w) : wpList Try.prog ops Q (o :: rest) a w := by
  refine wpList_wanted hgd fun K hK => ?_
  have hr := run_ld1 (P := Try.prog) (w := w) t e ht g off v hc
  unfold Oper.wp
  simp [execOp, ho, hx, hr, Result.andThen]
  exact hK _ _ h
end
def JN (w0 : World) : List Value → World → Prop := fun _ W => W = w0

/-- Rows of bytes in blocks of their own, held by a row. -/
structure May (w : World) (lo g N : Nat) (vs : Nat → Value) (bs : Nat → Nat) (ls : Nat → List Int) (K : Nat) : Prop where
  out : BxV w g 41 ((List.range N).map vs)
  each : ∀ i, i < K → OwnT 5 w (bs i) (vs i) ((ls i).map (Value.int .u8))
  inj : ∀ i j, i < K → j < K → bs i = bs j → i = j
  low : ∀ i, i < K → lo ≤ bs i
section
variable {w w' : World} {lo g N K : Nat} {vs : Nat → Value} {bs : Nat → Nat} {ls ls' : Nat → List Int} {S : Nat → Prop}
theorem May.ne (h : May w lo g N vs bs ls K) : ∀ i, i < K → bs i ≠ g := by
  intro i hi e
  obtain ⟨cur, hc⟩ := (h.each i hi).blk
  have := h.out
  unfold BxV at this
  rw [e, this] at hc
  simp at hc
theorem May.fr (h : May w lo g N vs bs ls K) (f : Fr S w w') (hg : ¬ S g) (hb : ∀ i, i < K → ¬ S (bs i)) : May w' lo g N vs bs ls K :=
  ⟨h.out.fr f hg, fun i hi => (h.each i hi).fr f (hb i hi), h.inj, h.low⟩
theorem May.fr0 (h : May w lo g N vs bs ls K) (f : Fr noB w w') : May w' lo g N vs bs ls K := h.fr f (fun q => q) (fun _ _ q => q)
theorem May.congr (h : May w lo g N vs bs ls K) (hl : ∀ i, i < K → ls i = ls' i) : May w lo g N vs bs ls' K :=
  ⟨h.out, fun i hi => hl i hi ▸ h.each i hi, h.inj, h.low⟩
end
/-- While a page is written. -/
def JK (w0 : World) (F : Nat → Prop) (gd : Nat) (E : Int) (Y : DSt) (P : List Int) : List Value → World → Prop
  | [], W => W = w0
  | [v], W => v = pgV P ∧ Fr noB w0 W
  | [_, e], W => e = .int .i64 E ∧ Fr F w0 W ∧ ∃ F', Disk W F' gd Y ∧ ∀ q, F' q → q < W.heap.size ∧ (F q ∨ w0.heap.size ≤ q)
  | _, _ => False
theorem JK.fr {w0 : World} {F : Nat → Prop} {gd : Nat} {E : Int} {Y : DSt} {P : List Int} : ∀ {hv : List Value} {W : World}, JK w0 F gd E Y P hv W → Fr F w0 W
  | [], _, h => by cases h; exact Fr.refl _ _
  | [_], _, h => h.2.mono (fun _ _ q => q.elim)
  | [_, _], _, h => h.2.1
  | _ :: _ :: _ :: _, _, h => h.elim
/-- While a byte is appended to one of the rows. -/
def JA (w0 : World) (g2 bj j : Nat) (L xs : List Value) (c : Int) : List Value → World → Prop
  | [], W => W = w0
  | [v], W => v = .slice (some ⟨w0.heap.size, 0, none⟩) 1 1 ∧ W = w0.alloc (.cells #[.int .u8 c] 5)
  | [_, v], W => ∃ b', OwnT 5 W b' v (xs ++ [.int .u8 c]) ∧ Fr (onB1 bj) w0 W ∧ (b' = bj ∨ w0.heap.size ≤ b')
  | [_, v, _], W => ∃ b', OwnT 5 W b' v (xs ++ [.int .u8 c]) ∧ BxV W g2 41 (L.set j v) ∧ Fr (fun q => q = bj ∨ q = g2) w0 W ∧ (b' = bj ∨ w0.heap.size ≤ b')
  | _, _ => False
theorem JA.fr {w0 : World} {g2 bj j : Nat} {L xs : List Value} {c : Int} : ∀ {hv : List Value} {W : World}, JA w0 g2 bj j L xs c hv W → Fr (fun q => q = bj ∨ q = g2) w0 W
  | [], _, h => by cases h; exact Fr.refl _ _
  | [_], _, h => by obtain ⟨_, rfl⟩ := h; exact ((Fr.refl noB w0).alloc _).mono (fun _ _ q => q.elim)
  | [_, _], _, h => by obtain ⟨_, _, h, _⟩ := h; exact h.mono (fun _ _ q => Or.inl q)
  | [_, _, _], _, h => by obtain ⟨_, _, _, h, _⟩ := h; exact h
  | _ :: _ :: _ :: _ :: _, _, h => h.elim
/-- While one of the rows is cut. -/
def JU (w0 : World) (g2 : Nat) (L : List Value) : List Value → World → Prop
  | [], W => W = w0
  | [_], W => BxV W g2 41 L ∧ Fr (onB1 g2) w0 W
  | _, _ => False
end Go.Proofs.Ytejjfpdcmaefiaa
