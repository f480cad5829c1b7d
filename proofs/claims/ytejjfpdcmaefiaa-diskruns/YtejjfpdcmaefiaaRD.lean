/- DiskRuns: the document's disk in memory, apart from the program's; what lies in memory while the regions run. -/
import Derived.Test.YtejjfpdcmaefiaaRS
namespace Go.Proofs.Ytejjfpdcmaefiaa
open Go.RowKit Go.Proofs.U
set_option linter.unusedSimpArgs false
set_option linter.unusedVariables false
theorem slW_nil (w : World) : SlWr w (.slice none 0 0) [] := ⟨by simp, Sl.nil _ _⟩
structure DocD (w : World) (g6 : Nat) (v1 v2 v3 : Value) (c : Bool) (l : Int) (d : Bool) (pages : List (List Int)) (bad : List Bool) (pend : List (Int × List Int)) : Prop where
  bx : BxV w g6 39 (dkL v1 v2 v3 c l d)
  s1 : SlPg w v1 pages
  s2 : SlBo w v2 bad
  s3 : SlWr w v3 pend
  n1 : ∀ q, v1.ownBlock = some q → q ≠ g6 ∧ q < w.heap.size
  n2 : ∀ q, v2.ownBlock = some q → q ≠ g6 ∧ q < w.heap.size
  n3 : ∀ q, v3.ownBlock = some q → q ≠ g6 ∧ q < w.heap.size
abbrev Sep (F : Nat → Prop) (w : World) (lo g6 : Nat) (v1 v2 v3 : Value) : Prop := ∀ q, F q → lo ≤ q ∧ q < w.heap.size ∧ q ≠ g6 ∧ v1.ownBlock ≠ some q ∧ v2.ownBlock ≠ some q ∧ v3.ownBlock ≠ some q
section
variable {S F F' : Nat → Prop} {w w' w'' : World} {g6 lo : Nat} {v v' v1 v2 v3 v1' v2' v3' : Value} {c : Bool} {l : Int} {d : Bool} {pages : List (List Int)} {bad : List Bool} {pend : List (Int × List Int)}
theorem DocD.fr (h : DocD w g6 v1 v2 v3 c l d pages bad pend) (f : Fr S w w') (hg : ¬ S g6) (h1 : ∀ q, v1.ownBlock = some q → ¬ S q) (h2 : ∀ q, v2.ownBlock = some q → ¬ S q) (h3 : ∀ q, v3.ownBlock = some q → ¬ S q) : DocD w' g6 v1 v2 v3 c l d pages bad pend :=
  have z := f.size
  ⟨h.bx.fr f hg, h.s1.fr f h1, h.s2.fr f h2, h.s3.fr f h3, fun q hq => ⟨(h.n1 q hq).1, by have := (h.n1 q hq).2; omega⟩, fun q hq => ⟨(h.n2 q hq).1, by have := (h.n2 q hq).2; omega⟩, fun q hq => ⟨(h.n3 q hq).1, by have := (h.n3 q hq).2; omega⟩⟩
theorem DocD.fr0 (h : DocD w g6 v1 v2 v3 c l d pages bad pend) (f : Fr noB w w') : DocD w' g6 v1 v2 v3 c l d pages bad pend := h.fr f (fun q => q) (fun _ _ q => q) (fun _ _ q => q) (fun _ _ q => q)
theorem DocD.put (f : Fr (onB1 g6) w w') (b : BxV w' g6 39 (dkL v1 v2 v3 c l d)) (s1 : SlPg w v1 pages) (s2 : SlBo w v2 bad) (s3 : SlWr w v3 pend)
    (n1 : ∀ q, v1.ownBlock = some q → q ≠ g6 ∧ q < w.heap.size) (n2 : ∀ q, v2.ownBlock = some q → q ≠ g6 ∧ q < w.heap.size) (n3 : ∀ q, v3.ownBlock = some q → q ≠ g6 ∧ q < w.heap.size) : DocD w' g6 v1 v2 v3 c l d pages bad pend :=
  have z := f.size
  ⟨b, s1.fr f (fun q hq e => (n1 q hq).1 e), s2.fr f (fun q hq e => (n2 q hq).1 e), s3.fr f (fun q hq e => (n3 q hq).1 e), fun q hq => ⟨(n1 q hq).1, by have := (n1 q hq).2; omega⟩, fun q hq => ⟨(n2 q hq).1, by have := (n2 q hq).2; omega⟩, fun q hq => ⟨(n3 q hq).1, by have := (n3 q hq).2; omega⟩⟩
theorem nwB.refl (w w' : World) (v : Value) : nwB w w' v v := fun _ h => Or.inl h
theorem nwB.none (w w' : World) (v : Value) : nwB w w' v (.slice Option.none 0 0) := fun _ h => by simp [Value.ownBlock] at h
theorem nwB.of (h : ∀ q, v'.ownBlock = some q → w.heap.size ≤ q ∧ q < w'.heap.size) : nwB w w' v v' := fun q hq => Or.inr (h q hq)
theorem none_n (g n : Nat) : ∀ q, (Value.slice Option.none 0 0).ownBlock = some q → q ≠ g ∧ q < n := fun _ h => by simp [Value.ownBlock] at h
theorem nwB.wid {w0 : World} (h : nwB w w' v v') (h0 : w0.heap.size ≤ w.heap.size) (h1 : w'.heap.size ≤ w''.heap.size) : nwB w0 w'' v v' := fun q hq => by
  rcases h q hq with e | e
  · exact Or.inl e
  · exact Or.inr (by omega)
theorem nwB.n (h : nwB w w' v v') (hn : ∀ q, v.ownBlock = some q → q ≠ g6 ∧ q < w.heap.size) (hg : g6 < w.heap.size) (hs : w.heap.size ≤ w'.heap.size) : ∀ q, v'.ownBlock = some q → q ≠ g6 ∧ q < w'.heap.size := fun q hq => by
  rcases h q hq with e | e
  · have := hn q e; omega
  · omega
theorem Sep.size (h : Sep F w lo g6 v1 v2 v3) (hs : w.heap.size ≤ w'.heap.size) : Sep F w' lo g6 v1 v2 v3 := fun q hq => by
  have h1 := h q hq
  exact ⟨h1.1, by omega, h1.2.2⟩
theorem Sep.ng (h : Sep F w lo g6 v1 v2 v3) : ∀ q, q < w'.heap.size → F q → ¬ onB1 g6 q := fun q _ hq e => (h q hq).2.2.1 e
theorem Sep.doc (h : Sep F w lo g6 v1 v2 v3) (hs : w.heap.size ≤ w'.heap.size) (n1 : nwB w w' v1 v1') (n2 : nwB w w' v2 v2') (n3 : nwB w w' v3 v3') : Sep F w' lo g6 v1' v2' v3' := fun q hq => by
  have h1 := h q hq
  refine ⟨h1.1, by omega, h1.2.2.1, fun e => ?_, fun e => ?_, fun e => ?_⟩
  · rcases n1 q e with e | e
    · exact h1.2.2.2.1 e
    · omega
  · rcases n2 q e with e | e
    · exact h1.2.2.2.2.1 e
    · omega
  · rcases n3 q e with e | e
    · exact h1.2.2.2.2.2 e
    · omega
theorem DocD.prog (hd : DocD w g6 v1 v2 v3 c l d pages bad pend) (h : Sep F w lo g6 v1 v2 v3) (f : Fr F w w') : DocD w' g6 v1 v2 v3 c l d pages bad pend :=
  hd.fr f (fun q => (h _ q).2.2.1 rfl) (fun q hq q' => (h q q').2.2.2.1 hq) (fun q hq q' => (h q q').2.2.2.2.1 hq) (fun q hq q' => (h q q').2.2.2.2.2 hq)
theorem Sep.prog (h : Sep F w lo g6 v1 v2 v3) (hd : DocD w g6 v1 v2 v3 c l d pages bad pend) (hlo : lo ≤ w.heap.size) (hF : ∀ q, F' q → q < w'.heap.size ∧ (F q ∨ w.heap.size ≤ q)) : Sep F' w' lo g6 v1 v2 v3 := fun q hq => by
  obtain ⟨h1, h2⟩ := hF q hq
  rcases h2 with h2 | h2
  · have h3 := h q h2; exact ⟨h3.1, h1, h3.2.2⟩
  · have hl := hd.bx.lt
    exact ⟨by omega, h1, by omega, fun e => by have := hd.n1 q e; omega, fun e => by have := hd.n2 q e; omega, fun e => by have := hd.n3 q e; omega⟩
end
theorem run_ldD (w : World) (g : Nat) (v1 v2 v3 : Value) (c : Bool) (l : Int) (d : Bool) (h : BxV w g 39 (dkL v1 v2 v3 c l d)) : (Instr.loadAt 39 (.pointer (some ⟨g, 0, none⟩))).run Try.prog w = .ok (dkV v1 v2 v3 c l d) w :=
  run_loadAt_mid w g 0 39 (dkL v1 v2 v3 c l d) _ (h.range 0 _ (by simp)) Try.underlying39 rfl (by rw [size_disk]; rfl)
theorem wp_stD {w : World} {o : Oper} {a : Act} {K : Act → World → Prop} {Q : Exit → Act → World → Prop} (x y : Operand) (ho : o.op = .store 39 x y) (g : Nat) (hx : a.eval x = .pointer (some ⟨g, 0, none⟩)) (v1 v2 v3 : Value) (c : Bool) (l : Int) (d : Bool) (hy : a.eval y = dkV v1 v2 v3 c l d) (cs : List Value) (hA : BxV w g 39 cs) (hl : cs.length = 6)
    (h1 : isSl v1) (h2 : isSl v2) (h3 : isSl v3)
    (h : ∀ w', BxV w' g 39 (dkL v1 v2 v3 c l d) → Fr (onB1 g) w w' → K (a.put o.dst undef) w') : o.wp Try.prog a w K Q := by
  refine wp_store_mid 39 x y ho g 0 (dkL v1 v2 v3 c l d).toArray hx hy (by simpa [hl] using hA.thereR 0 6 (by omega)) (by rw [size_disk]; rfl) ?_ (h _ ?_ ?_)
  · obtain ⟨_, _, _, rfl⟩ := h1
    obtain ⟨_, _, _, rfl⟩ := h2
    obtain ⟨_, _, _, rfl⟩ := h3
    refine all_oneCell_toArray ?_
    intro v hv
    simp at hv
    rcases hv with rfl | rfl | rfl | rfl | rfl | rfl <;> rfl
  · have := setCells_bx (dkL v1 v2 v3 c l d) 0 w cs hA (by rw [hl]; exact Nat.le_refl _)
    rw [putAt_all _ _ (by rw [hl]; rfl)] at this
    exact this
  · exact setCells_fr1 w g _ 0
/-- While the document puts a page. -/
def JP (w0 : World) (g6 : Nat) (v1 v2 v3 : Value) (c : Bool) (l : Int) (d : Bool) (E : Int) (pend : List (Int × List Int)) (P : List Int) : List Value → World → Prop
  | [], W => W = w0
  | [v], W => v = pgV P ∧ Fr noB w0 W
  | [_, t], W => ∃ v3', t = .tuple #[dkV v1 v2 v3' c l d, .int .i64 E] ∧ SlWr W v3' pend ∧ Fr noB w0 W ∧ nwB w0 W v3 v3'
  | [_, _, t], W => ∃ v3', t = .tuple #[dkV v1 v2 v3' c l d, .int .i64 E] ∧ SlWr W v3' pend ∧ Fr noB w0 W ∧ nwB w0 W v3 v3'
  | [_, _, t, x], W => ∃ v3', t = .tuple #[dkV v1 v2 v3' c l d, .int .i64 E] ∧ x = dkV v1 v2 v3' c l d ∧ SlWr W v3' pend ∧ Fr noB w0 W ∧ nwB w0 W v3 v3'
  | [_, _, t, _, _], W => ∃ v3' W1, t = .tuple #[dkV v1 v2 v3' c l d, .int .i64 E] ∧ SlWr W1 v3' pend ∧ Fr noB w0 W1 ∧ nwB w0 W1 v3 v3' ∧ BxV W g6 39 (dkL v1 v2 v3' c l d) ∧ Fr (onB1 g6) W1 W
  | _, _ => False
section
variable {w0 : World} {g6 : Nat} {v1 v2 v3 : Value} {c : Bool} {l : Int} {d : Bool} {E : Int} {pend : List (Int × List Int)} {P : List Int}
theorem JP.fr : ∀ {hv : List Value} {W : World}, JP w0 g6 v1 v2 v3 c l d E pend P hv W → Fr (onB1 g6) w0 W
  | [], _, h => by cases h; exact Fr.refl _ _
  | [_], _, h => h.2.mono (fun _ _ q => q.elim)
  | [_, _], _, h => by obtain ⟨_, _, _, h, _⟩ := h; exact h.mono (fun _ _ q => q.elim)
  | [_, _, _], _, h => by obtain ⟨_, _, _, h, _⟩ := h; exact h.mono (fun _ _ q => q.elim)
  | [_, _, _, _], _, h => by obtain ⟨_, _, _, _, h, _⟩ := h; exact h.mono (fun _ _ q => q.elim)
  | [_, _, _, _, _], _, h => by obtain ⟨_, _, _, _, h, _, _, h'⟩ := h; exact (h.mono (fun _ _ q => q.elim)).thenT h' (fun _ _ q => q)
  | _ :: _ :: _ :: _ :: _ :: _ :: _, _, h => h.elim
theorem JP.tup : ∀ {hv : List Value} {W : World}, JP w0 g6 v1 v2 v3 c l d E pend P hv W → ∀ t, hv[2]? = some t → ∃ x, t = .tuple #[x, .int .i64 E]
  | [], _, _, _, h => by simp at h
  | [_], _, _, _, h => by simp at h
  | [_, _], _, _, _, h => by simp at h
  | [_, _, _], _, hJ, _, h => by obtain ⟨_, e, _⟩ := hJ; simp at h; exact ⟨_, h.symm.trans e⟩
  | [_, _, _, _], _, hJ, _, h => by obtain ⟨_, e, _⟩ := hJ; simp at h; exact ⟨_, h.symm.trans e⟩
  | [_, _, _, _, _], _, hJ, _, h => by obtain ⟨_, _, e, _⟩ := hJ; simp at h; exact ⟨_, h.symm.trans e⟩
  | _ :: _ :: _ :: _ :: _ :: _ :: _, _, hJ, _, _ => hJ.elim
end
/-- While all is compared. -/
def JQ (w0 : World) (D : Bool) (pend : List (Int × List Int)) : List Value → World → Prop
  | [], W => W = w0
  | [v], W => v = .bool D ∧ W = w0
  | [v, b], W => v = .bool D ∧ b = .bool false ∧ W = w0
  | [v, b, u], W => v = .bool D ∧ b = .bool false ∧ SlR en64 1 W u (pend.map (·.1)) ∧ Fr noB w0 W
  | [v, b, _, s], W => v = .bool D ∧ b = .bool false ∧ s = .bool true ∧ Fr noB w0 W
  | _, _ => False
section
variable {w0 : World} {D : Bool} {pend : List (Int × List Int)}
theorem JQ.fr : ∀ {hv : List Value} {W : World}, JQ w0 D pend hv W → Fr noB w0 W
  | [], _, h => by cases h; exact Fr.refl _ _
  | [_], _, h => by obtain ⟨_, rfl⟩ := h; exact Fr.refl _ _
  | [_, _], _, h => by obtain ⟨_, _, rfl⟩ := h; exact Fr.refl _ _
  | [_, _, _], _, h => h.2.2.2
  | [_, _, _, _], _, h => h.2.2.2
  | _ :: _ :: _ :: _ :: _ :: _, _, h => h.elim
theorem JQ.fst : ∀ {hv : List Value} {W : World}, JQ w0 D pend hv W → ∀ t, hv[0]? = some t → t = .bool D
  | [], _, _, _, h => by simp at h
  | [_], _, hJ, _, h => by simp at h; exact h.symm.trans hJ.1
  | [_, _], _, hJ, _, h => by simp at h; exact h.symm.trans hJ.1
  | [_, _, _], _, hJ, _, h => by simp at h; exact h.symm.trans hJ.1
  | [_, _, _, _], _, hJ, _, h => by simp at h; exact h.symm.trans hJ.1
  | _ :: _ :: _ :: _ :: _ :: _, _, hJ, _, _ => hJ.elim
theorem JQ.snd : ∀ {hv : List Value} {W : World}, JQ w0 D pend hv W → ∀ t, hv[1]? = some t → t = .bool false
  | [], _, _, _, h => by simp at h
  | [_], _, _, _, h => by simp at h
  | [_, _], _, hJ, _, h => by simp at h; exact h.symm.trans hJ.2.1
  | [_, _, _], _, hJ, _, h => by simp at h; exact h.symm.trans hJ.2.1
  | [_, _, _, _], _, hJ, _, h => by simp at h; exact h.symm.trans hJ.2.1
  | _ :: _ :: _ :: _ :: _ :: _, _, hJ, _, _ => hJ.elim
theorem JQ.frt : ∀ {hv : List Value} {W : World}, JQ w0 D pend hv W → ∀ t, hv[3]? = some t → t = .bool true
  | [], _, _, _, h => by simp at h
  | [_], _, _, _, h => by simp at h
  | [_, _], _, _, _, h => by simp at h
  | [_, _, _], _, _, _, h => by simp at h
  | [_, _, _, _], _, hJ, _, h => by simp at h; exact h.symm.trans hJ.2.2.1
  | _ :: _ :: _ :: _ :: _ :: _, _, hJ, _, _ => hJ.elim
end
/-- While one call is made that only reads. -/
def JO (w0 : World) (u : Value) : List Value → World → Prop
  | [], W => W = w0
  | [v], W => v = u ∧ W = w0
  | _, _ => False
theorem JO.eq {w0 : World} {u : Value} : ∀ {hv : List Value} {W : World}, JO w0 u hv W → W = w0
  | [], _, h => h
  | [_], _, h => h.2
  | _ :: _ :: _, _, h => h.elim
end Go.Proofs.Ytejjfpdcmaefiaa
