/- Texts RD, W4, V9, V10 of the proof of RootRuns, one behind the other. -/
import Derived.Test.YtijgfojnppcbjaaBundleRootRuns1
import Derived.Test.YtijgfojnppcbjaaBundleRootRuns2
import Derived.Test.YtijgfojnppcbjaaBundleRootRuns3
import Derived.Test.YtijgfojnppcbjaaBundleRootRuns4
import Derived.Test.YtijgfojnppcbjaaBundleRootRuns5
import Derived.Test.YtijgfojnppcbjaaBundleRootRuns6
import Derived.Test.YtijgfojnppcbjaaBundleRootRuns7
import Derived.Test.YtijgfojnppcbjaaBundleRootRuns8
import Derived.Test.YtijgfojnppcbjaaBundleRootRuns9
import Derived.Test.YtijgfojnppcbjaaBundleRootRuns10
import Derived.Test.YtijgfojnppcbjaaBundleRootRuns11
import Derived.Test.YtijgfojnppcbjaaBundleRootRuns12
import Derived.Test.YtijgfojnppcbjaaBundleRootRuns13
import Derived.Test.YtijgfojnppcbjaaBundleRootRuns14
/- DiskRuns: the document's disk in memory, apart from the program's; what lies in memory while the regions run. -/
namespace Go.Proofs.Ytijgfojnppcbjaa
open Go.RowKit Go.Proofs.U
set_option linter.unusedSimpArgs false
set_option linter.unusedVariables false
theorem slW_nil (w : World) : SlWr w (.slice none 0 0) [] := ⟨by simp, Sl.nil _ _⟩
structure DocD (w : World) (g6 : Nat) (v1 v2 v3 : Value) (c : Bool) (l : Int) (d : Bool) (pages : List (List Int)) (bad : List Bool) (pend : List (Int × List Int)) : Prop where
  bx : BxV w g6 39 (dkL v1 v2 v3 c l d)
  s1 : SlPg w v1 pages
  s2 : SlBo w v2 bad
  s3 : SlWr w v3 pend
  n1 : ∀ q, v1.ownBlock = some q → q ≠ g6 ∧ q < w.heap.size
  n2 : ∀ q, v2.ownBlock = some q → q ≠ g6 ∧ q < w.heap.size
  n3 : ∀ q, v3.ownBlock = some q → q ≠ g6 ∧ q < w.heap.size
abbrev Sep (F : Nat → Prop) (w : World) (lo g6 : Nat) (v1 v2 v3 : Value) : Prop := ∀ q, F q → lo ≤ q ∧ q < w.heap.size ∧ q ≠ g6 ∧ v1.ownBlock ≠ some q ∧ v2.ownBlock ≠ some q ∧ v3.ownBlock ≠ some q
section
variable {S F F' : Nat → Prop} {w w' w'' : World} {g6 lo : Nat} {v v' v1 v2 v3 v1' v2' v3' : Value} {c : Bool} {l : Int} {d : Bool} {pages : List (List Int)} {bad : List Bool} {pend : List (Int × List Int)}
theorem DocD.fr (h : DocD w g6 v1 v2 v3 c l d pages bad pend) (f : Fr S w w') (hg : ¬ S g6) (h1 : ∀ q, v1.ownBlock = some q → ¬ S q) (h2 : ∀ q, v2.ownBlock = some q → ¬ S q) (h3 : ∀ q, v3.ownBlock = some q → ¬ S q) : DocD w' g6 v1 v2 v3 c l d pages bad pend :=
  have z := f.size
  ⟨h.bx.fr f hg, h.s1.fr f h1, h.s2.fr f h2, h.s3.fr f h3, fun q hq => ⟨(h.n1 q hq).1, by have := (h.n1 q hq).2; omega⟩, fun q hq => ⟨(h.n2 q hq).1, by have := (h.n2 q hq).2; omega⟩, fun q hq => ⟨(h.n3 q hq).1, by have := (h.n3 q hq).2; omega⟩⟩
theorem DocD.fr0 (h : DocD w g6 v1 v2 v3 c l d pages bad pend) (f : Fr noB w w') : DocD w' g6 v1 v2 v3 c l d pages bad pend := h.fr f (fun q => q) (fun _ _ q => q) (fun _ _ q => q) (fun _ _ q => q)
theorem DocD.put (f : Fr (onB1 g6) w w') (b : BxV w' g6 39 (dkL v1 v2 v3 c l d)) (s1 : SlPg w v1 pages) (s2 : SlBo w v2 bad) (s3 : SlWr w v3 pend)
    (n1 : ∀ q, v1.ownBlock = some q → q ≠ g6 ∧ q < w.heap.size) (n2 : ∀ q, v2.ownBlock = some q → q ≠ g6 ∧ q < w.heap.size) (n3 : ∀ q, v3.ownBlock = some q → q ≠ g6 ∧ q < w.heap.size) : DocD w' g6 v1 v2 v3 c l d pages bad pend :=
  have z := f.size
  ⟨b, s1.fr f (fun q hq e => (n1 q hq).1 e), s2.fr f (fun q hq e => (n2 q hq).1 e), s3.fr f (fun q hq e => (n3 q hq).1 e), fun q hq => ⟨(n1 q hq).1, by have := (n1 q hq).2; omega⟩, fun q hq => ⟨(n2 q hq).1, by have := (n2 q hq).2; omega⟩, fun q hq => ⟨(n3 q hq).1, by have := (n3 q hq).2; omega⟩⟩
theorem nwB.refl (w w' : World) (v : Value) : nwB w w' v v := fun _ h => Or.inl h
theorem nwB.none (w w' : World) (v : Value) : nwB w w' v (.slice Option.none 0 0) := fun _ h => by simp [Value.ownBlock] at h
theorem nwB.of (h : ∀ q, v'.ownBlock = some q → w.heap.size ≤ q ∧ q < w'.heap.size) : nwB w w' v v' := fun q hq => Or.inr (h q hq)
theorem none_n (g n : Nat) : ∀ q, (Value.slice Option.none 0 0).ownBlock = some q → q ≠ g ∧ q < n := fun _ h => by simp [Value.ownBlock] at h
theorem nwB.wid {w0 : World} (h : nwB w w' v v') (h0 : w0.heap.size ≤ w.heap.size) (h1 : w'.heap.size ≤ w''.heap.size) : nwB w0 w'' v v' := fun q hq => by
  rcases h q hq with e | e
  · exact Or.inl e
  · exact Or.inr (by omega)
theorem nwB.n (h : nwB w w' v v') (hn : ∀ q, v.ownBlock = some q → q ≠ g6 ∧ q < w.heap.size) (hg : g6 < w.heap.size) (hs : w.heap.size ≤ w'.heap.size) : ∀ q, v'.ownBlock = some q → q ≠ g6 ∧ q < w'.heap.size := fun q hq => by
  rcases h q hq with e | e
  · have := hn q e; omega
  · omega
theorem Sep.size (h : Sep F w lo g6 v1 v2 v3) (hs : w.heap.size ≤ w'.heap.size) : Sep F w' lo g6 v1 v2 v3 := fun q hq => by
  have h1 := h q hq
  exact ⟨h1.1, by omega, h1.2.2⟩
theorem Sep.ng (h : Sep F w lo g6 v1 v2 v3) : ∀ q, q < w'.heap.size → F q → ¬ onB1 g6 q := fun q _ hq e => (h q hq).2.2.1 e
theorem Sep.doc (h : Sep F w lo g6 v1 v2 v3) (hs : w.heap.size ≤ w'.heap.size) (n1 : nwB w w' v1 v1') (n2 : nwB w w' v2 v2') (n3 : nwB w w' v3 v3') : Sep F w' lo g6 v1' v2' v3' := fun q hq => by
  have h1 := h q hq
  refine ⟨h1.1, by omega, h1.2.2.1, fun e => ?_, fun e => ?_, fun e => ?_⟩
  · rcases n1 q e with e | e
    · exact h1.2.2.2.1 e
    · omega
  · rcases n2 q e with e | e
    · exact h1.2.2.2.2.1 e
    · omega
  · rcases n3 q e with e | e
    · exact h1.2.2.2.2.2 e
    · omega
theorem DocD.prog (hd : DocD w g6 v1 v2 v3 c l d pages bad pend) (h : Sep F w lo g6 v1 v2 v3) (f : Fr F w w') : DocD w' g6 v1 v2 v3 c l d pages bad pend :=
  hd.fr f (fun q => (h _ q).2.2.1 rfl) (fun q hq q' => (h q q').2.2.2.1 hq) (fun q hq q' => (h q q').2.2.2.2.1 hq) (fun q hq q' => (h q q').2.2.2.2.2 hq)
theorem Sep.prog (h : Sep F w lo g6 v1 v2 v3) (hd : DocD w g6 v1 v2 v3 c l d pages bad pend) (hlo : lo ≤ w.heap.size) (hF : ∀ q, F' q → q < w'.heap.size ∧ (F q ∨ w.heap.size ≤ q)) : Sep F' w' lo g6 v1 v2 v3 := fun q hq => by
  obtain ⟨h1, h2⟩ := hF q hq
  rcases h2 with h2 | h2
  · have h3 := h q h2; exact ⟨h3.1, h1, h3.2.2⟩
  · have hl := hd.bx.lt
    exact ⟨by omega, h1, by omega, fun e => by have := hd.n1 q e; omega, fun e => by have := hd.n2 q e; omega, fun e => by have := hd.n3 q e; omega⟩
end
theorem run_ldD (w : World) (g : Nat) (v1 v2 v3 : Value) (c : Bool) (l : Int) (d : Bool) (h : BxV w g 39 (dkL v1 v2 v3 c l d)) : (Instr.loadAt 39 (.pointer (some ⟨g, 0, none⟩))).run Try.prog w = .ok (dkV v1 v2 v3 c l d) w :=
  run_loadAt_mid w g 0 39 (dkL v1 v2 v3 c l d) _ (h.range 0 _ (by simp)) Try.underlying39 rfl (by rw [size_disk]; rfl)
theorem wp_stD {w : World} {o : Oper} {a : Act} {K : Act → World → Prop} {Q : Exit → Act → World → Prop} (x y : Operand) (ho : o.op = .store 39 x y) (g : Nat) (hx : a.eval x = .pointer (some ⟨g, 0, none⟩)) (v1 v2 v3 : Value) (c : Bool) (l : Int) (d : Bool) (hy : a.eval y = dkV v1 v2 v3 c l d) (cs : List Value) (hA : BxV w g 39 cs) (hl : cs.length = 6)
    (h1 : isSl v1) (h2 : isSl v2) (h3 : isSl v3)
    (h : ∀ w', BxV w' g 39 (dkL v1 v2 v3 c l d) → Fr (onB1 g) w w' → K (a.put o.dst undef) w') : o.wp Try.prog a w K Q := by
  refine wp_store_mid 39 x y ho g 0 (dkL v1 v2 v3 c l d).toArray hx hy (by simpa [hl] using hA.thereR 0 6 (by omega)) (by rw [size_disk]; rfl) ?_ (h _ ?_ ?_)
  · obtain ⟨_, _, _, rfl⟩ := h1
    obtain ⟨_, _, _, rfl⟩ := h2
    obtain ⟨_, _, _, rfl⟩ := h3
    refine all_oneCell_toArray ?_
    intro v hv
    simp at hv
    rcases hv with rfl | rfl | rfl | rfl | rfl | rfl <;> rfl
  · have := setCells_bx (dkL v1 v2 v3 c l d) 0 w cs hA (by rw [hl]; exact Nat.le_refl _)
    rw [putAt_all _ _ (by rw [hl]; rfl)] at this
    exact this
  · exact setCells_fr1 w g _ 0
/-- While the document puts a page. -/
def JP (w0 : World) (g6 : Nat) (v1 v2 v3 : Value) (c : Bool) (l : Int) (d : Bool) (E : Int) (pend : List (Int × List Int)) (P : List Int) : List Value → World → Prop
  | [], W => W = w0
  | [v], W => v = pgV P ∧ Fr noB w0 W
  | [_, t], W => ∃ v3', t = .tuple #[dkV v1 v2 v3' c l d, .int .i64 E] ∧ SlWr W v3' pend ∧ Fr noB w0 W ∧ nwB w0 W v3 v3'
  | [_, _, t], W => ∃ v3', t = .tuple #[dkV v1 v2 v3' c l d, .int .i64 E] ∧ SlWr W v3' pend ∧ Fr noB w0 W ∧ nwB w0 W v3 v3'
  | [_, _, t, x], W => ∃ v3', t = .tuple #[dkV v1 v2 v3' c l d, .int .i64 E] ∧ x = dkV v1 v2 v3' c l d ∧ SlWr W v3' pend ∧ Fr noB w0 W ∧ nwB w0 W v3 v3'
  | [_, _, t, _, _], W => ∃ v3' W1, t = .tuple #[dkV v1 v2 v3' c l d, .int .i64 E] ∧ SlWr W1 v3' pend ∧ Fr noB w0 W1 ∧ nwB w0 W1 v3 v3' ∧ BxV W g6 39 (dkL v1 v2 v3' c l d) ∧ Fr (onB1 g6) W1 W
  | _, _ => False
section
variable {w0 : World} {g6 : Nat} {v1 v2 v3 : Value} {c : Bool} {l : Int} {d : Bool} {E : Int} {pend : List (Int × List Int)} {P : List Int}
theorem JP.fr : ∀ {hv : List Value} {W : World}, JP w0 g6 v1 v2 v3 c l d E pend P hv W → Fr (onB1 g6) w0 W
  | [], _, h => by cases h; exact Fr.refl _ _
  | [_], _, h => h.2.mono (fun _ _ q => q.elim)
  | [_, _], _, h => by obtain ⟨_, _, _, h, _⟩ := h; exact h.mono (fun _ _ q => q.elim)
  | [_, _, _], _, h => by obtain ⟨_, _, _, h, _⟩ := h; exact h.mono (fun _ _ q => q.elim)
  | [_, _, _, _], _, h => by obtain ⟨_, _, _, _, h, _⟩ := h; exact h.mono (fun _ _ q => q.elim)
  | [_, _, _, _, _], _, h => by obtain ⟨_, _, _, _, h, _, _, h'⟩ := h; exact (h.mono (fun _ _ q => q.elim)).thenT h' (fun _ _ q => q)
  | _ :: _ :: _ :: _ :: _ :: _ :: _, _, h => h.elim
theorem JP.tup : ∀ {hv : List Value} {W : World}, JP w0 g6 v1 v2 v3 c l d E pend P hv W → ∀ t, hv[2]? = some t → ∃ x, t = .tuple #[x, .int .i64 E]
  | [], _, _, _, h => by simp at h
  | [_], _, _, _, h => by simp at h
  | [_, _], _, _, _, h => by simp at h
  | [_, _, _], _, hJ, _, h => by obtain ⟨_, e, _⟩ := hJ; simp at h; exact ⟨_, h.symm.trans e⟩
  | [_, _, _, _], _, hJ, _, h => by obtain ⟨_, e, _⟩ := hJ; simp at h; exact ⟨_, h.symm.trans e⟩
  | [_, _, _, _, _], _, hJ, _, h => by obtain ⟨_, _, e, _⟩ := hJ; simp at h; exact ⟨_, h.symm.trans e⟩
  | _ :: _ :: _ :: _ :: _ :: _ :: _, _, hJ, _, _ => hJ.elim
end
/-- While all is compared. -/
def JQ (w0 : World) (D : Bool) (pend : List (Int × List Int)) : List Value → World → Prop
  | [], W => W = w0
  | [v], W => v = .bool D ∧ W = w0
  | [v, b], W => v = .bool D ∧ b = .bool false ∧ W = w0
  | [v, b, u], W => v = .bool D ∧ b = .bool false ∧ SlR en64 1 W u (pend.map (·.1)) ∧ Fr noB w0 W
  | [v, b, _, s], W => v = .bool D ∧ b = .bool false ∧ s = .bool true ∧ Fr noB w0 W
  | _, _ => False
section
variable {w0 : World} {D : Bool} {pend : List (Int × List Int)}
theorem JQ.fr : ∀ {hv : List Value} {W : World}, JQ w0 D pend hv W → Fr noB w0 W
  | [], _, h => by cases h; exact Fr.refl _ _
  | [_], _, h => by obtain ⟨_, rfl⟩ := h; exact Fr.refl _ _
  | [_, _], _, h => by obtain ⟨_, _, rfl⟩ := h; exact Fr.refl _ _
  | [_, _, _], _, h => h.2.2.2
  | [_, _, _, _], _, h => h.2.2.2
  | _ :: _ :: _ :: _ :: _ :: _, _, h => h.elim
theorem JQ.fst : ∀ {hv : List Value} {W : World}, JQ w0 D pend hv W → ∀ t, hv[0]? = some t → t = .bool D
  | [], _, _, _, h => by simp at h
  | [_], _, hJ, _, h => by simp at h; exact h.symm.trans hJ.1
  | [_, _], _, hJ, _, h => by simp at h; exact h.symm.trans hJ.1
  | [_, _, _], _, hJ, _, h => by simp at h; exact h.symm.trans hJ.1
  | [_, _, _, _], _, hJ, _, h => by simp at h; exact h.symm.trans hJ.1
  | _ :: _ :: _ :: _ :: _ :: _, _, hJ, _, _ => hJ.elim
theorem JQ.snd : ∀ {hv : List Value} {W : World}, JQ w0 D pend hv W → ∀ t, hv[1]? = some t → t = .bool false
  | [], _, _, _, h => by simp at h
  | [_], _, _, _, h => by simp at h
  | [_, _], _, hJ, _, h => by simp at h; exact h.symm.trans hJ.2.1
  | [_, _, _], _, hJ, _, h => by simp at h; exact h.symm.trans hJ.2.1
  | [_, _, _, _], _, hJ, _, h => by simp at h; exact h.symm.trans hJ.2.1
  | _ :: _ :: _ :: _ :: _ :: _, _, hJ, _, _ => hJ.elim
theorem JQ.frt : ∀ {hv : List Value} {W : World}, JQ w0 D pend hv W → ∀ t, hv[3]? = some t → t = .bool true
  | [], _, _, _, h => by simp at h
  | [_], _, _, _, h => by simp at h
  | [_, _], _, _, _, h => by simp at h
  | [_, _, _], _, _, _, h => by simp at h
  | [_, _, _, _], _, hJ, _, h => by simp at h; exact h.symm.trans hJ.2.2.1
  | _ :: _ :: _ :: _ :: _ :: _, _, hJ, _, _ => hJ.elim
end
/-- While one call is made that only reads. -/
def JO (w0 : World) (u : Value) : List Value → World → Prop
  | [], W => W = w0
  | [v], W => v = u ∧ W = w0
  | _, _ => False
theorem JO.eq {w0 : World} {u : Value} : ∀ {hv : List Value} {W : World}, JO w0 u hv W → W = w0
  | [], _, h => h
  | [_], _, h => h.2
  | _ :: _ :: _, _, h => h.elim
end Go.Proofs.Ytijgfojnppcbjaa
/- The document's Read of roots. -/
namespace Go.Proofs.Ytijgfojnppcbjaa
open Go.RowKit Go.Proofs.U
set_option linter.unusedSimpArgs false
set_option linter.unusedVariables false
theorem opn_cases {p : List Int} (hb : Byt p) (s : Nat) :
    ((opn p s).2.2 = true ∧ rootOf p = ((opn p s).2.1, (opn p s).1) ∧ (rootOf p).1 % 2 = (s : Int) ∧ 0 < (rootOf p).1) ∨ ((opn p s).2.2 = false ∧ ∀ t : Int, 0 ≤ t → ¬ ((rootOf p).1 % 2 = (s : Int) ∧ t < (rootOf p).1)) := by
  have hg := genAt_bd hb 0
  unfold opn rootOf
  by_cases h1 : genAt p 0 = 0 ∨ genAt p 0 % 2 ≠ (s : Int) ∨ 186 < lenOf p
  · rw [if_pos h1]
    refine Or.inr ⟨rfl, ?_⟩
    rintro t ht ⟨h2, h3⟩
    split at h3
    · simp at h3; omega
    · rename_i h4
      rw [if_neg h4] at h2
      split at h3
      · rename_i h5; rw [if_pos h5] at h2; simp only at h2 h3; omega
      · simp at h3; omega
  · rw [if_neg h1]
    have h4 : ¬ 186 < lenOf p := by omega
    rw [if_neg h4]
    by_cases h5 : (rootP (genAt p 0) (contOf p) == p) = true
    · rw [if_pos h5]
      exact Or.inl ⟨h5, rfl, by simp only; omega, by simp only; omega⟩
    · rw [if_neg h5]
      refine Or.inr ⟨by simpa using h5, ?_⟩
      rintro t ht ⟨h2, h3⟩
      simp at h3; omega

/-- What the document's Read answers. -/
def DReadIs (w w' : World) (X : DSt) (e : Ending) : Prop := ∃ v, e = .returned (.tuple #[v, .int .u64 (rRead X).2.1, .int .i64 (rRead X).2.2]) ∧ SlI .u8 w' v (rRead X).1 ∧ Fr noB w w'
/-- The document's disk as it is handed over. -/
structure DocV (w : World) (v1 v2 v3 : Value) (X : DSt) (bad : List Bool) : Prop where
  s1 : SlPg w v1 X.pages
  s2 : SlBo w v2 bad
  s3 : SlWr w v3 X.pend
  lb : bad.length = X.pages.length
  pg : X.pages.length ≤ 100000
  pn : X.pend.length ≤ 100000
  rd : ∀ i, readR X.pages bad X.pend i = readP X i
theorem DocV.fr0 {w w' : World} {v1 v2 v3 : Value} {X : DSt} {bad : List Bool} (h : DocV w v1 v2 v3 X bad) (f : Fr noB w w') : DocV w' v1 v2 v3 X bad := { h with s1 := h.s1.fr0 f, s2 := h.s2.fr0 f, s3 := h.s3.fr0 f }

set_option maxRecDepth 100000 in
set_option maxHeartbeats 4000000 in
theorem dread_any {X : DSt} (v1 v2 v3 : Value) (bad : List Bool) (c : Bool) (l : Int) (d : Bool) (w : World) (hV : DocV w v1 v2 v3 X bad) (hl0 : (readP X 0).1.length = 256) (hl1 : (readP X 1).1.length = 256) (hb : X.byt) :
    Calls Try.prog 25 #[dkV v1 v2 v3 c l d] w fun e w' => DReadIs w w' X e := by
  have b0 := readP_byt hb 0
  have b1 := readP_byt hb 1
  have r0 := show Hid _ from fun (W : World) (h : DocV W v1 v2 v3 X bad) => rread_any v1 v2 v3 X.pages bad X.pend c l d 0 W h.s1 h.s2 h.s3 h.lb h.pg h.pn
  have r1 := show Hid _ from fun (W : World) (h : DocV W v1 v2 v3 X bad) => rread_any v1 v2 v3 X.pages bad X.pend c l d 1 W h.s1 h.s2 h.s3 h.lb h.pg h.pn
  simp only [hV.rd] at r0 r1
  have hRR : Hid (rRead X = if (readP X 0).2 = 0 then (if (readP X 1).2 = 0 then (if (newest (readP X 0).1 (readP X 1).1).1 = 0 then ([], 0, 51) else ((newest (readP X 0).1 (readP X 1).1).2, (newest (readP X 0).1 (readP X 1).1).1, 0)) else ([], 0, (readP X 1).2)) else ([], 0, (readP X 0).2)) := by
    show _ = _
    unfold rRead rdE nwst
    by_cases h0 : (readP X 0).2 = 0
    · rw [if_pos h0, if_pos h0]
    · rw [if_neg h0, if_neg h0, if_neg h0]
  unfold DReadIs
  obtain ⟨⟨P0, E0⟩, H0⟩ : ∃ R, Hid (readP X 0 = R) := ⟨_, rfl⟩
  obtain ⟨⟨P1, E1⟩, H1⟩ : ∃ R, Hid (readP X 1 = R) := ⟨_, rfl⟩
  simp only [H0.out, H1.out] at r0 r1 b0 b1 hl0 hl1 hRR
  have hl0 := show Hid _ from hl0
  have hl1 := show Hid _ from hl1
  have hs1 := SlR.isSl hV.s1
  have hs2 := SlR.isSl hV.s2
  have hs3 := SlR.isSl hV.s3
  obtain ⟨Z, HZ⟩ : ∃ Z, Hid (zeroP = Z) := ⟨_, rfl⟩
  have hZl : Hid (Z.length = 256) := by show _ = _; rw [← HZ.out]; exact zeroP_len
  obtain ⟨RR, HRR⟩ : ∃ R, Hid (rRead X = R) := ⟨_, rfl⟩
  rw [HRR.out] at hRR ⊢
  go_enter Try.func25, Try.ntmps25
  go_wp2_with (first
    | (with_reducible refine at_wpP ?_; refine wpList_boxV rfl 39 _ rfl (dkL v1 v2 v3 c l d) rfl ?_; intro g1 w1 hg1 bx1 f1 s1))
  have z1 := f1.size
  go_loopw [5, 6, 7] (fun best most i wr => ∃ (k : Nat) (n1 : Int) (n2 : List Int), k ≤ 2 ∧ i = .int .i64 (k : Int) ∧ most = .int .u64 n1 ∧ SlI .u8 wr best n2 ∧ Hid ((n1, n2) = nwK P0 P1 k) ∧ Hid (k = 0 ∨ (k = 1 ∧ E0 = 0) ∨ (k = 2 ∧ E0 = 0 ∧ E1 = 0)) ∧ BxV wr g1 39 (dkL v1 v2 v3 c l d) ∧ Fr noB w wr) (fun _ _ i _ => 2 - (intOf i).toNat)
  case atStart => exact ⟨0, 0, [], by omega, rfl, rfl, ⟨by simpa using Sl_made w1 5 #[] 0 _ rfl rfl, by intro n hn; simp at hn⟩, (rfl : ((0 : Int), ([] : List Int)) = nwK P0 P1 0), show _ ∨ _ from Or.inl rfl, bx1.fr0 ((Fr.refl _ _).alloc _), f1.alloc _⟩
  case round =>
    obtain ⟨k, n1, n2, hk, rfl, rfl, hI, hn, hc, hBx, hf⟩ := hrel
    rcases hc.out with rfl | ⟨rfl, rfl⟩ | ⟨rfl, rfl, rfl⟩
    · clear hc
      by_cases he : E0 = 0
      · subst he
        have hsucc := show Hid _ from nwK_succ P0 P1 0 (by decide)
        rw [← hn.out] at hsucc
        have hpk : pick2 P0 P1 0 = P0 := by simp [pick2]
        rw [hpk] at hsucc
        have hop := show Hid _ from fun W => open_any P0 hl0.out b0 0 (by decide) W
        unfold OpenIs at hop
        have hcs := opn_cases b0 0
        have hnb := nwK_bd b0 b1 0
        rw [← hn.out] at hnb
        simp only at hnb
        obtain ⟨⟨C, G, ok⟩, HO⟩ : ∃ R, Hid (opn P0 0 = R) := ⟨_, rfl⟩
        simp only [HO.out] at hop hcs
        rcases hcs with ⟨rfl, hr, hr2, hr3⟩ | ⟨rfl, hno⟩
        · rw [hr] at hsucc hr2 hr3
          simp only at hsucc hr2 hr3
          by_cases hgt : n1 < G
          · rw [if_pos ⟨hr2, hgt⟩] at hsucc
            have hgt2 : decide (n1 < G) = true := by simpa using hgt
            clear hr
            go_wp2_with (first
          | (with_reducible refine at_wpP ?_; refine wpList_ldD rfl _ rfl g1 rfl _ _ _ _ _ _ hBx ?_)
          | (go_at_call 45; go_must (refine (r0.out _ (hV.fr0 hf)).mono ?_; rintro e w2 ⟨rfl, f2⟩))
          | (with_reducible refine at_wpP ?_; refine wpList_allocP rfl rfl ?_; rw [HZ.out]; intro g8 w3 hg8 b3 f3 s3; have l3 := b3.lt; have zf := hf.size; have zf2 := f2.size; have lBx := hBx.lt)
          | (with_reducible refine at_wpP ?_; refine at_st 46 _ _ rfl ?_; go_must (refine wpList_storeP rfl _ _ rfl g8 rfl P0 rfl _ b3 hl0.out hZl.out ?_; intro w4 b4 f4; have B4 := ((hBx.fr0 f2).fr0 f3).ne f4 (by omega); have F4 : Fr noB wr w4 := (f2.thenN f3).thenT f4 (fun i hi q => (by unfold onB1 at q; omega))))
          | (with_reducible refine at_wpP ?_; refine at_ld 46 _ rfl ?_; go_must (refine wpList_loadP rfl _ rfl g8 rfl _ b4 hl0.out ?_))
          | (go_at_call 46; go_must (refine (hop.out _).mono ?_; rintro e w5 ⟨v5, rfl, i5, f5⟩)))
            go_roundw
            case rel => exact ⟨0 + 1, G, C, by omega, by go_num, rfl, i5, show _ = _ from hsucc.out.symm, by show _ ∨ _; simp, B4.fr0 f5, (hf.thenN F4).thenN f5⟩
            case measure => simp [intOf]
          · rw [if_neg (fun h => hgt h.2)] at hsucc
            have hgt2 : decide (n1 < G) = false := by simpa using hgt
            clear hr
            go_wp2_with (first
          | (with_reducible refine at_wpP ?_; refine wpList_ldD rfl _ rfl g1 rfl _ _ _ _ _ _ hBx ?_)
          | (go_at_call 45; go_must (refine (r0.out _ (hV.fr0 hf)).mono ?_; rintro e w2 ⟨rfl, f2⟩))
          | (with_reducible refine at_wpP ?_; refine wpList_allocP rfl rfl ?_; rw [HZ.out]; intro g8 w3 hg8 b3 f3 s3; have l3 := b3.lt; have zf := hf.size; have zf2 := f2.size; have lBx := hBx.lt)
          | (with_reducible refine at_wpP ?_; refine at_st 46 _ _ rfl ?_; go_must (refine wpList_storeP rfl _ _ rfl g8 rfl P0 rfl _ b3 hl0.out hZl.out ?_; intro w4 b4 f4; have B4 := ((hBx.fr0 f2).fr0 f3).ne f4 (by omega); have F4 : Fr noB wr w4 := (f2.thenN f3).thenT f4 (fun i hi q => (by unfold onB1 at q; omega))))
          | (with_reducible refine at_wpP ?_; refine at_ld 46 _ rfl ?_; go_must (refine wpList_loadP rfl _ rfl g8 rfl _ b4 hl0.out ?_))
          | (go_at_call 46; go_must (refine (hop.out _).mono ?_; rintro e w5 ⟨v5, rfl, i5, f5⟩)))
            go_roundw
            case rel => exact ⟨0 + 1, n1, n2, by omega, by go_num, rfl, (hI.fr0 F4).fr0 f5, show _ = _ from hsucc.out.symm, by show _ ∨ _; simp, B4.fr0 f5, (hf.thenN F4).thenN f5⟩
            case measure => simp [intOf]
        · rw [if_neg (hno n1 hnb.1)] at hsucc
          go_wp2_with (first
          | (with_reducible refine at_wpP ?_; refine wpList_ldD rfl _ rfl g1 rfl _ _ _ _ _ _ hBx ?_)
          | (go_at_call 45; go_must (refine (r0.out _ (hV.fr0 hf)).mono ?_; rintro e w2 ⟨rfl, f2⟩))
          | (with_reducible refine at_wpP ?_; refine wpList_allocP rfl rfl ?_; rw [HZ.out]; intro g8 w3 hg8 b3 f3 s3; have l3 := b3.lt; have zf := hf.size; have zf2 := f2.size; have lBx := hBx.lt)
          | (with_reducible refine at_wpP ?_; refine at_st 46 _ _ rfl ?_; go_must (refine wpList_storeP rfl _ _ rfl g8 rfl P0 rfl _ b3 hl0.out hZl.out ?_; intro w4 b4 f4; have B4 := ((hBx.fr0 f2).fr0 f3).ne f4 (by omega); have F4 : Fr noB wr w4 := (f2.thenN f3).thenT f4 (fun i hi q => (by unfold onB1 at q; omega))))
          | (with_reducible refine at_wpP ?_; refine at_ld 46 _ rfl ?_; go_must (refine wpList_loadP rfl _ rfl g8 rfl _ b4 hl0.out ?_))
          | (go_at_call 46; go_must (refine (hop.out _).mono ?_; rintro e w5 ⟨v5, rfl, i5, f5⟩)))
          go_roundw
          case rel => exact ⟨0 + 1, n1, n2, by omega, by go_num, rfl, (hI.fr0 F4).fr0 f5, show _ = _ from hsucc.out.symm, by show _ ∨ _; simp, B4.fr0 f5, (hf.thenN F4).thenN f5⟩
          case measure => simp [intOf]
      · have hRE : RR = ([], 0, E0) := by rw [hRR.out]; simp [he]
        subst hRE
        go_wp2_with (first
          | (with_reducible refine at_wpP ?_; refine wpList_ldD rfl _ rfl g1 rfl _ _ _ _ _ _ hBx ?_)
          | (go_at_call 45; go_must (refine (r0.out _ (hV.fr0 hf)).mono ?_; rintro e w2 ⟨rfl, f2⟩))
          | (with_reducible refine at_wpP ?_; refine wpList_allocP rfl rfl ?_; rw [HZ.out]; intro g8 w3 hg8 b3 f3 s3; have l3 := b3.lt; have zf := hf.size; have zf2 := f2.size; have lBx := hBx.lt)
          | (with_reducible refine at_wpP ?_; refine at_st 46 _ _ rfl ?_; go_must (refine wpList_storeP rfl _ _ rfl g8 rfl P0 rfl _ b3 hl0.out hZl.out ?_; intro w4 b4 f4; have B4 := ((hBx.fr0 f2).fr0 f3).ne f4 (by omega); have F4 : Fr noB wr w4 := (f2.thenN f3).thenT f4 (fun i hi q => (by unfold onB1 at q; omega)))))
        go_ret3
        exact ⟨_, rfl, SlI.nil _ _, hf.thenN F4⟩
    · clear hc
      by_cases he : E1 = 0
      · subst he
        have hsucc := show Hid _ from nwK_succ P0 P1 1 (by decide)
        rw [← hn.out] at hsucc
        have hpk : pick2 P0 P1 1 = P1 := by simp [pick2]
        rw [hpk] at hsucc
        have hop := show Hid _ from fun W => open_any P1 hl1.out b1 1 (by decide) W
        unfold OpenIs at hop
        have hcs := opn_cases b1 1
        have hnb := nwK_bd b0 b1 1
        rw [← hn.out] at hnb
        simp only at hnb
        obtain ⟨⟨C, G, ok⟩, HO⟩ : ∃ R, Hid (opn P1 1 = R) := ⟨_, rfl⟩
        simp only [HO.out] at hop hcs
        rcases hcs with ⟨rfl, hr, hr2, hr3⟩ | ⟨rfl, hno⟩
        · rw [hr] at hsucc hr2 hr3
          simp only at hsucc hr2 hr3
          by_cases hgt : n1 < G
          · rw [if_pos ⟨hr2, hgt⟩] at hsucc
            have hgt2 : decide (n1 < G) = true := by simpa using hgt
            clear hr
            go_wp2_with (first
          | (with_reducible refine at_wpP ?_; refine wpList_ldD rfl _ rfl g1 rfl _ _ _ _ _ _ hBx ?_)
          | (go_at_call 45; go_must (refine (r1.out _ (hV.fr0 hf)).mono ?_; rintro e w2 ⟨rfl, f2⟩))
          | (with_reducible refine at_wpP ?_; refine wpList_allocP rfl rfl ?_; rw [HZ.out]; intro g8 w3 hg8 b3 f3 s3; have l3 := b3.lt; have zf := hf.size; have zf2 := f2.size; have lBx := hBx.lt)
          | (with_reducible refine at_wpP ?_; refine at_st 46 _ _ rfl ?_; go_must (refine wpList_storeP rfl _ _ rfl g8 rfl P1 rfl _ b3 hl1.out hZl.out ?_; intro w4 b4 f4; have B4 := ((hBx.fr0 f2).fr0 f3).ne f4 (by omega); have F4 : Fr noB wr w4 := (f2.thenN f3).thenT f4 (fun i hi q => (by unfold onB1 at q; omega))))
          | (with_reducible refine at_wpP ?_; refine at_ld 46 _ rfl ?_; go_must (refine wpList_loadP rfl _ rfl g8 rfl _ b4 hl1.out ?_))
          | (go_at_call 46; go_must (refine (hop.out _).mono ?_; rintro e w5 ⟨v5, rfl, i5, f5⟩)))
            go_roundw
            case rel => exact ⟨1 + 1, G, C, by omega, by go_num, rfl, i5, show _ = _ from hsucc.out.symm, by show _ ∨ _; simp, B4.fr0 f5, (hf.thenN F4).thenN f5⟩
            case measure => simp [intOf]
          · rw [if_neg (fun h => hgt h.2)] at hsucc
            have hgt2 : decide (n1 < G) = false := by simpa using hgt
            clear hr
            go_wp2_with (first
          | (with_reducible refine at_wpP ?_; refine wpList_ldD rfl _ rfl g1 rfl _ _ _ _ _ _ hBx ?_)
          | (go_at_call 45; go_must (refine (r1.out _ (hV.fr0 hf)).mono ?_; rintro e w2 ⟨rfl, f2⟩))
          | (with_reducible refine at_wpP ?_; refine wpList_allocP rfl rfl ?_; rw [HZ.out]; intro g8 w3 hg8 b3 f3 s3; have l3 := b3.lt; have zf := hf.size; have zf2 := f2.size; have lBx := hBx.lt)
          | (with_reducible refine at_wpP ?_; refine at_st 46 _ _ rfl ?_; go_must (refine wpList_storeP rfl _ _ rfl g8 rfl P1 rfl _ b3 hl1.out hZl.out ?_; intro w4 b4 f4; have B4 := ((hBx.fr0 f2).fr0 f3).ne f4 (by omega); have F4 : Fr noB wr w4 := (f2.thenN f3).thenT f4 (fun i hi q => (by unfold onB1 at q; omega))))
          | (with_reducible refine at_wpP ?_; refine at_ld 46 _ rfl ?_; go_must (refine wpList_loadP rfl _ rfl g8 rfl _ b4 hl1.out ?_))
          | (go_at_call 46; go_must (refine (hop.out _).mono ?_; rintro e w5 ⟨v5, rfl, i5, f5⟩)))
            go_roundw
            case rel => exact ⟨1 + 1, n1, n2, by omega, by go_num, rfl, (hI.fr0 F4).fr0 f5, show _ = _ from hsucc.out.symm, by show _ ∨ _; simp, B4.fr0 f5, (hf.thenN F4).thenN f5⟩
            case measure => simp [intOf]
        · rw [if_neg (hno n1 hnb.1)] at hsucc
          go_wp2_with (first
          | (with_reducible refine at_wpP ?_; refine wpList_ldD rfl _ rfl g1 rfl _ _ _ _ _ _ hBx ?_)
          | (go_at_call 45; go_must (refine (r1.out _ (hV.fr0 hf)).mono ?_; rintro e w2 ⟨rfl, f2⟩))
          | (with_reducible refine at_wpP ?_; refine wpList_allocP rfl rfl ?_; rw [HZ.out]; intro g8 w3 hg8 b3 f3 s3; have l3 := b3.lt; have zf := hf.size; have zf2 := f2.size; have lBx := hBx.lt)
          | (with_reducible refine at_wpP ?_; refine at_st 46 _ _ rfl ?_; go_must (refine wpList_storeP rfl _ _ rfl g8 rfl P1 rfl _ b3 hl1.out hZl.out ?_; intro w4 b4 f4; have B4 := ((hBx.fr0 f2).fr0 f3).ne f4 (by omega); have F4 : Fr noB wr w4 := (f2.thenN f3).thenT f4 (fun i hi q => (by unfold onB1 at q; omega))))
          | (with_reducible refine at_wpP ?_; refine at_ld 46 _ rfl ?_; go_must (refine wpList_loadP rfl _ rfl g8 rfl _ b4 hl1.out ?_))
          | (go_at_call 46; go_must (refine (hop.out _).mono ?_; rintro e w5 ⟨v5, rfl, i5, f5⟩)))
          go_roundw
          case rel => exact ⟨1 + 1, n1, n2, by omega, by go_num, rfl, (hI.fr0 F4).fr0 f5, show _ = _ from hsucc.out.symm, by show _ ∨ _; simp, B4.fr0 f5, (hf.thenN F4).thenN f5⟩
          case measure => simp [intOf]
      · have hRE : RR = ([], 0, E1) := by rw [hRR.out]; simp [he]
        subst hRE
        go_wp2_with (first
          | (with_reducible refine at_wpP ?_; refine wpList_ldD rfl _ rfl g1 rfl _ _ _ _ _ _ hBx ?_)
          | (go_at_call 45; go_must (refine (r1.out _ (hV.fr0 hf)).mono ?_; rintro e w2 ⟨rfl, f2⟩))
          | (with_reducible refine at_wpP ?_; refine wpList_allocP rfl rfl ?_; rw [HZ.out]; intro g8 w3 hg8 b3 f3 s3; have l3 := b3.lt; have zf := hf.size; have zf2 := f2.size; have lBx := hBx.lt)
          | (with_reducible refine at_wpP ?_; refine at_st 46 _ _ rfl ?_; go_must (refine wpList_storeP rfl _ _ rfl g8 rfl P1 rfl _ b3 hl1.out hZl.out ?_; intro w4 b4 f4; have B4 := ((hBx.fr0 f2).fr0 f3).ne f4 (by omega); have F4 : Fr noB wr w4 := (f2.thenN f3).thenT f4 (fun i hi q => (by unfold onB1 at q; omega)))))
        go_ret3
        exact ⟨_, rfl, SlI.nil _ _, hf.thenN F4⟩
    · clear hc
      have hnN : newest P0 P1 = (n1, n2) := by rw [hn.out]; rfl
      rw [hnN] at hRR
      simp only [if_true] at hRR
      clear hnN
      by_cases hz : n1 = 0
      · subst hz
        have hRE : RR = ([], 0, 51) := by rw [hRR.out]; rfl
        subst hRE
        go_wp2
        go_ret3
        exact ⟨_, rfl, SlI.nil _ _, hf⟩
      · have hRE : RR = (n2, n1, 0) := by rw [hRR.out, if_neg hz]
        subst hRE
        have hz2 : (n1 == 0) = false := by simpa using hz
        go_wp2
        go_ret3
        exact ⟨_, rfl, hI, hf⟩
end Go.Proofs.Ytijgfojnppcbjaa
/- Next of package root. -/
namespace Go.Proofs.Ytijgfojnppcbjaa
open Go.RowKit Go.Proofs.U
set_option linter.unusedSimpArgs false
set_option linter.unusedVariables false

theorem slotOf_q (g : Int) (h : 0 ≤ g ∧ g < 18446744073709551616) (w : World) :
    Calls Try.prog 31 #[.int .u64 g] w fun e w' => e = .returned (.int .i64 (g % 2)) ∧ ∃ m, w' = w.drewN m := by
  refine (slotOf_any g h w).mono ?_
  rintro e w' ⟨rfl, rfl⟩
  exact ⟨rfl, 0, rfl⟩
set_option maxRecDepth 100000 in
set_option maxHeartbeats 2000000 in
theorem rnext_p {F : Nat → Prop} {X : DSt} (g : Nat) (w : World) (hD : Disk w F g X) (hm : X.pend.length ≤ 100000) (hb : X.byt) :
    Calls Try.prog 11 #[ptr g] w fun e w' => e = .returned (.tuple #[.int .u64 (rNext X).1, .int .i64 (rNext X).2]) ∧ Fr noB w w' := by
  have hsl := show Hid _ from fun (W : World) (h : Disk W F g X) => slots_any g W h hm
  have hA : (slA X).length = 256 := by unfold slA; split <;> first | exact readP_len hD 0 | exact zeroP_len
  have hB : (slB X).length = 256 := by unfold slB; split <;> first | exact readP_len hD 1 | exact zeroP_len
  obtain ⟨Z, HZ⟩ : ∃ Z, Hid (zeroP = Z) := ⟨_, rfl⟩
  have hZl : Hid (Z.length = 256) := by show _ = _; rw [← HZ.out]; exact zeroP_len
  have b0 := readP_byt hb 0
  have b1 := readP_byt hb 1
  obtain ⟨E, HE⟩ : ∃ E, Hid (rdE X = E) := ⟨_, rfl⟩
  by_cases he : E = 0
  · subst he
    have hsA : slA X = (readP X 0).1 := by unfold slA; rw [HE.out]; rfl
    have hsB : slB X = (readP X 1).1 := by unfold slB; rw [HE.out]; rfl
    have hnw := show Hid _ from fun W => newestOf_any _ _ (hsA ▸ hA) (hsB ▸ hB) b0 b1 W
    have htp := show Hid _ from fun W => topOf_any _ _ (hsA ▸ hA) (hsB ▸ hB) b0 b1 W
    have hrr : rNext X = if 18446744073709551612 < tp X then (0, 51) else (nextG X, 0) := by unfold rNext; rw [HE.out]; rfl
    rw [hrr]
    unfold nextG nwst tp
    have hnb := newest_bd b0 b1
    have htb := top_bd b0 b1
    rw [hsA] at hA
    rw [hsB] at hB
    simp only [hsA, hsB, HE.out] at hsl
    clear hsA hsB hrr b0 b1
    obtain ⟨P0, H0⟩ : ∃ P, Hid ((readP X 0).1 = P) := ⟨_, rfl⟩
    obtain ⟨P1, H1⟩ : ∃ P, Hid ((readP X 1).1 = P) := ⟨_, rfl⟩
    simp only [H0.out, H1.out] at hA hB hsl hnw hnb htp htb ⊢
    obtain ⟨⟨G, C⟩, HN⟩ : ∃ R, Hid (newest P0 P1 = R) := ⟨_, rfl⟩
    obtain ⟨T, HT⟩ : ∃ T, Hid (top P0 P1 = T) := ⟨_, rfl⟩
    simp only [HN.out, HT.out] at hnw hnb htp htb ⊢
    have hA := show Hid _ from hA
    have hB := show Hid _ from hB
    obtain ⟨ht0, ht1⟩ := htb
    by_cases hT : 18446744073709551612 < T
    · rw [if_pos hT]
      go_enter Try.func11, Try.ntmps11
      go_wp2_with (first
        | (go_at_call 29; go_must (refine (hsl.out _ hD).mono ?_; rintro e w1 ⟨rfl, f1⟩))
        | (with_reducible refine at_wpP ?_; refine wpList_alloc2 rfl rfl ?_; rw [HZ.out]; intro g2 w2 hg2 b2 f2 s2; have l2 := b2.lt; have z1 := f1.size)
        | (with_reducible refine at_wpP ?_; refine at_st 73 _ _ rfl ?_; go_must (refine wpList_st2P rfl _ _ rfl g2 rfl P0 P1 Z Z rfl b2 hA.out hB.out hZl.out hZl.out ?_; intro w3 b3 f3; have z3 := f3.size))
        | (with_reducible refine at_wpP ?_; refine at_ld 73 _ rfl ?_; go_must (refine wpList_ld2 rfl _ rfl g2 rfl P0 P1 b3 hA.out hB.out ?_))
        | (go_at_call 34; go_must (refine (htp.out _).mono ?_; rintro e w4 ⟨rfl, f4⟩)))
      go_ret2
      exact ⟨rfl, ((f1.thenN f2).thenT f3 (fun i hi q => by unfold onB1 at q; omega)).thenN f4⟩
    · rw [if_neg hT]
      have hT1 : (Lit.int .u64 (T + 1)).wf = true := u64_wf (by omega) (by omega)
      have hq1 : IntKind.u64.wrap (T + 1) = T + 1 := wrap_u64_id _ (by omega) (by omega)
      by_cases hG : G = 0
      · subst hG
        have hres : (if (0 : Int) ≠ 0 ∧ (T + 1) % 2 = 0 % 2 then T + 2 else T + 1) = T + 1 := by simp
        simp only [hres]
        go_enter Try.func11, Try.ntmps11
        go_wp2_with (first
          | (go_at_call 29; go_must (refine (hsl.out _ hD).mono ?_; rintro e w1 ⟨rfl, f1⟩))
          | (with_reducible refine at_wpP ?_; refine wpList_alloc2 rfl rfl ?_; rw [HZ.out]; intro g2 w2 hg2 b2 f2 s2; have l2 := b2.lt; have z1 := f1.size)
          | (with_reducible refine at_wpP ?_; refine at_st 73 _ _ rfl ?_; go_must (refine wpList_st2P rfl _ _ rfl g2 rfl P0 P1 Z Z rfl b2 hA.out hB.out hZl.out hZl.out ?_; intro w3 b3 f3; have z3 := f3.size))
          | (with_reducible refine at_wpP ?_; refine at_ld 73 _ rfl ?_; have f4' := f4; go_must (refine wpList_ld2 rfl _ rfl g2 rfl P0 P1 (b3.fr0 f4) hA.out hB.out ?_))
          | (with_reducible refine at_wpP ?_; refine at_ld 73 _ rfl ?_; go_must (refine wpList_ld2 rfl _ rfl g2 rfl P0 P1 b3 hA.out hB.out ?_))
          | (go_at_call 34; go_must (refine (htp.out _).mono ?_; rintro e w4 ⟨rfl, f4⟩))
          | (go_at_call 30; go_must (refine (hnw.out _).mono ?_; rintro e w5 ⟨v5, rfl, i5, n5, f5⟩; have isv : isSl v5 := (by obtain ⟨a, c, rfl, _⟩ := i5.opn; exact isSl_mk _ _ _)))
          | (with_reducible refine at_wpP ?_; refine wpList_allocRt rfl rfl ?_; intro g6 w6 hg6 b6 f6 s6; have l6 := b6.lt; have z4 := f4.size; have z5 := f5.size)
          | (with_reducible refine at_wpP ?_; refine at_st 77 _ _ rfl ?_; go_must (refine wpList_stRt rfl _ _ rfl g6 rfl 0 v5 rfl isv _ _ b6 ?_; intro w7 b7 f7; obtain ⟨q0, _⟩ := b7.cell 0 _ rfl)))
        have F7 : Fr noB w w7 := (((((f1.thenN f2).thenT f3 (fun i hi q => by unfold onB1 at q; omega)).thenN f4).thenN f5).thenN f6).thenT f7 (fun i hi q => by unfold onB1 at q; omega)
        go_quiet (fail)
        go_wp2
        go_ret2
        exact ⟨rfl, F7.drewN nq⟩
      · have hG2 : ¬ (G = 0) := hG
        obtain ⟨hnb0, hnb1⟩ := hnb
        by_cases hpar : (T + 1) % 2 = G % 2
        · rw [if_pos ⟨hG, hpar⟩]
          have hq2 : IntKind.u64.wrap (T + 1 + 1) = T + 2 := by rw [wrap_u64_id _ (by omega) (by omega)]; omega
          have hpb : ((T + 1) % 2 == G % 2) = true := by simpa using hpar
          go_enter Try.func11, Try.ntmps11
          go_wp2_with (first
            | (go_at_call 29; go_must (refine (hsl.out _ hD).mono ?_; rintro e w1 ⟨rfl, f1⟩))
            | (with_reducible refine at_wpP ?_; refine wpList_alloc2 rfl rfl ?_; rw [HZ.out]; intro g2 w2 hg2 b2 f2 s2; have l2 := b2.lt; have z1 := f1.size)
            | (with_reducible refine at_wpP ?_; refine at_st 73 _ _ rfl ?_; go_must (refine wpList_st2P rfl _ _ rfl g2 rfl P0 P1 Z Z rfl b2 hA.out hB.out hZl.out hZl.out ?_; intro w3 b3 f3; have z3 := f3.size))
            | (with_reducible refine at_wpP ?_; refine at_ld 73 _ rfl ?_; have f4' := f4; go_must (refine wpList_ld2 rfl _ rfl g2 rfl P0 P1 (b3.fr0 f4) hA.out hB.out ?_))
            | (with_reducible refine at_wpP ?_; refine at_ld 73 _ rfl ?_; go_must (refine wpList_ld2 rfl _ rfl g2 rfl P0 P1 b3 hA.out hB.out ?_))
            | (go_at_call 34; go_must (refine (htp.out _).mono ?_; rintro e w4 ⟨rfl, f4⟩))
            | (go_at_call 30; go_must (refine (hnw.out _).mono ?_; rintro e w5 ⟨v5, rfl, i5, n5, f5⟩; have isv : isSl v5 := (by obtain ⟨a, c, rfl, _⟩ := i5.opn; exact isSl_mk _ _ _)))
            | (with_reducible refine at_wpP ?_; refine wpList_allocRt rfl rfl ?_; intro g6 w6 hg6 b6 f6 s6; have l6 := b6.lt; have z4 := f4.size; have z5 := f5.size)
            | (with_reducible refine at_wpP ?_; refine at_st 77 _ _ rfl ?_; go_must (refine wpList_stRt rfl _ _ rfl g6 rfl G v5 rfl isv _ _ b6 ?_; intro w7 b7 f7; obtain ⟨q0, _⟩ := b7.cell 0 _ rfl)))
          have F7 : Fr noB w w7 := (((((f1.thenN f2).thenT f3 (fun i hi q => by unfold onB1 at q; omega)).thenN f4).thenN f5).thenN f6).thenT f7 (fun i hi q => by unfold onB1 at q; omega)
          go_quiet ((go_at_call 31; exact Calls.quiet_of (slotOf_q _ (by constructor <;> omega) _)))
          go_wp2
          go_ret2
          exact ⟨rfl, F7.drewN nq⟩
        · rw [if_neg (fun h => hpar h.2)]
          have hpb : ((T + 1) % 2 == G % 2) = false := by simpa using hpar
          go_enter Try.func11, Try.ntmps11
          go_wp2_with (first
            | (go_at_call 29; go_must (refine (hsl.out _ hD).mono ?_; rintro e w1 ⟨rfl, f1⟩))
            | (with_reducible refine at_wpP ?_; refine wpList_alloc2 rfl rfl ?_; rw [HZ.out]; intro g2 w2 hg2 b2 f2 s2; have l2 := b2.lt; have z1 := f1.size)
            | (with_reducible refine at_wpP ?_; refine at_st 73 _ _ rfl ?_; go_must (refine wpList_st2P rfl _ _ rfl g2 rfl P0 P1 Z Z rfl b2 hA.out hB.out hZl.out hZl.out ?_; intro w3 b3 f3; have z3 := f3.size))
            | (with_reducible refine at_wpP ?_; refine at_ld 73 _ rfl ?_; have f4' := f4; go_must (refine wpList_ld2 rfl _ rfl g2 rfl P0 P1 (b3.fr0 f4) hA.out hB.out ?_))
            | (with_reducible refine at_wpP ?_; refine at_ld 73 _ rfl ?_; go_must (refine wpList_ld2 rfl _ rfl g2 rfl P0 P1 b3 hA.out hB.out ?_))
            | (go_at_call 34; go_must (refine (htp.out _).mono ?_; rintro e w4 ⟨rfl, f4⟩))
            | (go_at_call 30; go_must (refine (hnw.out _).mono ?_; rintro e w5 ⟨v5, rfl, i5, n5, f5⟩; have isv : isSl v5 := (by obtain ⟨a, c, rfl, _⟩ := i5.opn; exact isSl_mk _ _ _)))
            | (with_reducible refine at_wpP ?_; refine wpList_allocRt rfl rfl ?_; intro g6 w6 hg6 b6 f6 s6; have l6 := b6.lt; have z4 := f4.size; have z5 := f5.size)
            | (with_reducible refine at_wpP ?_; refine at_st 77 _ _ rfl ?_; go_must (refine wpList_stRt rfl _ _ rfl g6 rfl G v5 rfl isv _ _ b6 ?_; intro w7 b7 f7; obtain ⟨q0, _⟩ := b7.cell 0 _ rfl)))
          have F7 : Fr noB w w7 := (((((f1.thenN f2).thenT f3 (fun i hi q => by unfold onB1 at q; omega)).thenN f4).thenN f5).thenN f6).thenT f7 (fun i hi q => by unfold onB1 at q; omega)
          go_quiet ((go_at_call 31; exact Calls.quiet_of (slotOf_q _ (by constructor <;> omega) _)))
          go_wp2
          go_ret2
          exact ⟨rfl, F7.drewN nq⟩
  · have hrr : rNext X = (0, E) := by unfold rNext; rw [HE.out, if_neg he]
    rw [hrr]
    have hsA : slA X = Z := by unfold slA; rw [HE.out, if_neg he]; exact HZ.out
    have hsB : slB X = Z := by unfold slB; rw [HE.out, if_neg he]; exact HZ.out
    simp only [hsA, hsB, HE.out] at hsl
    clear hsA hsB hrr hA hB b0 b1
    go_enter Try.func11, Try.ntmps11
    go_wp2_with (first
      | (go_at_call 29; go_must (refine (hsl.out _ hD).mono ?_; rintro e w1 ⟨rfl, f1⟩))
      | (with_reducible refine at_wpP ?_; refine wpList_alloc2 rfl rfl ?_; rw [HZ.out]; intro g2 w2 hg2 b2 f2 s2; have l2 := b2.lt; have z1 := f1.size)
      | (with_reducible refine at_wpP ?_; refine at_st 73 _ _ rfl ?_; go_must (refine wpList_st2P rfl _ _ rfl g2 rfl Z Z Z Z rfl b2 hZl.out hZl.out hZl.out hZl.out ?_; intro w3 b3 f3; have z3 := f3.size)))
    go_ret2
    exact ⟨rfl, (f1.thenN f2).thenT f3 (fun i hi q => by unfold onB1 at q; omega)⟩
end Go.Proofs.Ytijgfojnppcbjaa
/- Write of package root. -/
namespace Go.Proofs.Ytijgfojnppcbjaa
open Go.RowKit Go.Proofs.U
set_option linter.unusedSimpArgs false
set_option linter.unusedVariables false
theorem nextG_bd {X : DSt} (hb : X.byt) (h : (rNext X).2 = 0) : 0 ≤ (rNext X).1 ∧ (rNext X).1 < 18446744073709551616 := by
  have ht := top_bd (readP_byt hb 0) (readP_byt hb 1)
  unfold rNext at h ⊢
  split
  · rename_i he
    rw [if_pos he] at h
    split
    · decide
    · rename_i h1
      have h2 : 0 ≤ tp X ∧ tp X < 18446744073709551616 := ht
      simp only [nextG]
      split <;> omega
  · exact ⟨Int.le_refl _, (by decide : (0 : Int) < 18446744073709551616)⟩

theorem write_pend (X : DSt) (i : Int) (p : List Int) {n : Nat} (h : X.pend.length + 1 ≤ n) : (X.write i p).pend.length ≤ n := by
  unfold DSt.write
  split
  · split
    · show (X.pend ++ [(i, p)]).length ≤ n
      rw [List.length_append]; exact h
    · show X.pend.length ≤ n
      omega
  · omega

set_option maxRecDepth 100000 in
set_option maxHeartbeats 2000000 in
theorem rwrite_p {F : Nat → Prop} {X : DSt} (g : Nat) (vc : Value) (c : List Int) (w : World) (hD : Disk w F g X) (hm : X.pend.length ≤ 90000) (hb : X.byt) (hS : SlI .u8 w vc c) :
    Calls Try.prog 10 #[ptr g, vc] w fun e w' => e = .returned (.tuple #[.int .u64 (rWrite X c).2.1, .int .i64 (rWrite X c).2.2]) ∧ Disk w' (orNew F w) g (rWrite X c).1 ∧ Fr F w w' := by
  obtain ⟨ac, cc, rfl, hcc⟩ := hS.opn
  unfold rWrite
  by_cases hc : 186 < c.length
  · rw [if_pos hc]
    have hc' : (186 : Int) < (c.length : Int) := by omega
    go_enter Try.func10, Try.ntmps10
    go_wp2
    go_ret2
    exact ⟨rfl, hD.mono (fun k _ q => Or.inl q), Fr.refl _ _⟩
  · rw [if_neg hc]
    have hc' : ¬ (186 : Int) < (c.length : Int) := by omega
    have hnx := show Hid _ from fun (W : World) (h : Disk W F g X) => rnext_p g W h (by omega) hb
    have hgb := nextG_bd hb
    obtain ⟨⟨G, E⟩, HN⟩ : ∃ R, Hid (rNext X = R) := ⟨_, rfl⟩
    simp only [HN.out] at hnx hgb ⊢
    by_cases hE : E = 0
    · subst hE
      have hgb := hgb rfl
      obtain ⟨hg0, hg1⟩ := hgb
      simp only [ne_eq, not_true_eq_false, if_false]
      obtain ⟨P, HP⟩ : ∃ P, Hid (rootP G c = P) := ⟨_, rfl⟩
      have hPl : P.length = 256 := by rw [← HP.out, rootP_len]
      have hpg := show Hid _ from fun (W : World) (h : SlI .u8 W (.slice ac c.length cc) c) => pageOf_any G ⟨hg0, hg1⟩ _ c (by omega) W h
      simp only [HP.out] at hpg ⊢
      have hwr := show Hid _ from fun (W : World) (h : Disk W F g X) => write_any g (G % 2) P hPl W h (by omega)
      have hPl := show Hid _ from hPl
      have hYp : (X.write (G % 2) P).pend.length ≤ 100000 := write_pend X _ P (by omega)
      obtain ⟨Y, HY⟩ : ∃ Y, Hid (X.write (G % 2) P = Y) := ⟨_, rfl⟩
      obtain ⟨E1, HE1⟩ : ∃ E, Hid (X.writeE (G % 2) = E) := ⟨_, rfl⟩
      simp only [HY.out, HE1.out] at hwr hYp ⊢
      by_cases hE1 : E1 = 0
      · subst hE1
        have hsy := show Hid _ from fun (F : Nat → Prop) (W : World) (h : Disk W F g Y) => sync_any g W h hYp
        obtain ⟨E2, HE2⟩ : ∃ E, Hid (Y.actE = E) := ⟨_, rfl⟩
        simp only [HE2.out] at hsy ⊢
        by_cases hE2 : E2 = 0
        · subst hE2
          simp only [ne_eq, not_true_eq_false, if_false]
          go_enter Try.func10, Try.ntmps10
          go_wp2_with (first
            | (go_at_call 11; go_must (refine (hnx.out _ hD).mono ?_; rintro e w1 ⟨rfl, f1⟩))
            | (go_at_call 31; go_must (refine (slotOf_any G ⟨hg0, hg1⟩ _).mono ?_; rintro e w' ⟨rfl, rfl⟩))
            | (go_at_call 32; go_must (refine (hpg.out _ (hS.fr0 f1)).mono ?_; rintro e w2 ⟨rfl, f2⟩))
            | (go_at_call 17; go_must (refine (hwr.out _ ((hD.fr0 f1).fr0 f2)).mono ?_; rintro e w3 ⟨rfl, d3, f3⟩))
            | (go_at_call 33; go_must (refine (hsy.out _ _ d3).mono ?_; rintro e w4 ⟨rfl, d4, f4⟩)))
          go_ret2
          have z1 := f1.size
          have z2 := f2.size
          exact ⟨rfl, d4.mono (fun k _ q => by unfold orNew at q ⊢; rcases q with q | q; exact Or.inl q; exact Or.inr (by omega)), ((((f1.thenN f2).mono (fun _ _ q => q.elim)).thenT f3 (fun _ _ q => q))).thenT f4 (fun i hi q => by unfold orNew at q; rcases q with q | q; exact q; omega)⟩
        · rw [if_pos hE2]
          simp only [ne_eq, not_true_eq_false, if_false]
          go_enter Try.func10, Try.ntmps10
          go_wp2_with (first
            | (go_at_call 11; go_must (refine (hnx.out _ hD).mono ?_; rintro e w1 ⟨rfl, f1⟩))
            | (go_at_call 31; go_must (refine (slotOf_any G ⟨hg0, hg1⟩ _).mono ?_; rintro e w' ⟨rfl, rfl⟩))
            | (go_at_call 32; go_must (refine (hpg.out _ (hS.fr0 f1)).mono ?_; rintro e w2 ⟨rfl, f2⟩))
            | (go_at_call 17; go_must (refine (hwr.out _ ((hD.fr0 f1).fr0 f2)).mono ?_; rintro e w3 ⟨rfl, d3, f3⟩))
            | (go_at_call 33; go_must (refine (hsy.out _ _ d3).mono ?_; rintro e w4 ⟨rfl, d4, f4⟩)))
          go_ret2
          have z1 := f1.size
          have z2 := f2.size
          exact ⟨rfl, d4.mono (fun k _ q => by unfold orNew at q ⊢; rcases q with q | q; exact Or.inl q; exact Or.inr (by omega)), ((((f1.thenN f2).mono (fun _ _ q => q.elim)).thenT f3 (fun _ _ q => q))).thenT f4 (fun i hi q => by unfold orNew at q; rcases q with q | q; exact q; omega)⟩
      · rw [if_pos hE1]
        go_enter Try.func10, Try.ntmps10
        go_wp2_with (first
          | (go_at_call 11; go_must (refine (hnx.out _ hD).mono ?_; rintro e w1 ⟨rfl, f1⟩))
          | (go_at_call 31; go_must (refine (slotOf_any G ⟨hg0, hg1⟩ _).mono ?_; rintro e w' ⟨rfl, rfl⟩))
          | (go_at_call 32; go_must (refine (hpg.out _ (hS.fr0 f1)).mono ?_; rintro e w2 ⟨rfl, f2⟩))
          | (go_at_call 17; go_must (refine (hwr.out _ ((hD.fr0 f1).fr0 f2)).mono ?_; rintro e w3 ⟨rfl, d3, f3⟩)))
        go_ret2
        have z1 := f1.size
        have z2 := f2.size
        exact ⟨rfl, d3.mono (fun k _ q => by unfold orNew at q ⊢; rcases q with q | q; exact Or.inl q; exact Or.inr (by omega)), (((f1.thenN f2).mono (fun _ _ q => q.elim)).thenT f3 (fun _ _ q => q))⟩
    · rw [if_pos hE]
      go_enter Try.func10, Try.ntmps10
      go_wp2_with (first
        | (go_at_call 11; go_must (refine (hnx.out _ hD).mono ?_; rintro e w1 ⟨rfl, f1⟩)))
      go_ret2
      exact ⟨rfl, (hD.fr0 f1).mono (fun k _ q => Or.inl q), f1.mono (fun _ _ q => q.elim)⟩
end Go.Proofs.Ytijgfojnppcbjaa
