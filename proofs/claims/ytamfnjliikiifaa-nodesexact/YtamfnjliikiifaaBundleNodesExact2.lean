/- Texts OR, P5, BD, P6, RI, RI2, RI3 of the proof of NodesExact, one behind the other. -/
import Derived.Laws.Tables
import Derived.Orders
import Derived.Test.YtamfnjliikiifaaBundleNodesExact1
/- Rows of the call's own making whose elements take several cells: read, stored, appended to; no condition. -/
namespace Go.Proofs.U
open Go.RowKit
set_option linter.unusedSimpArgs false
set_option linter.unusedVariables false

def OwnR {α : Type} (ec : α → List Value) (sz : Nat) (e : TypeId) (w : World) (base : Nat) (v : Value) (l : List α) : Prop := (∀ x ∈ l, (ec x).length = sz) ∧ w.ownsRow base e sz v l.length (l.flatMap ec)

section
variable {α : Type} {ec : α → List Value} {sz : Nat} {e : TypeId} {w w' : World} {base : Nat} {v : Value} {l : List α}
theorem OwnR.sl (h : OwnR ec sz e w base v l) : SlR ec sz w v l := ⟨h.1, Sl.of_owns h.2⟩
theorem OwnR.opn (h : OwnR ec sz e w base v l) : ∃ a cap, v = .slice a l.length cap := by
  obtain ⟨a, cap, hv, _⟩ := h.sl.opn; exact ⟨a, cap, hv⟩
theorem OwnR.newB (h : OwnR ec sz e w base v l) : ∀ j, v.ownBlock = some j → base ≤ j ∧ j < w.heap.size := World.ownsRow.lt h.2
theorem OwnR.fr {S : Nat → Prop} (h : OwnR ec sz e w base v l) (hf : Fr S w w') (hs : ∀ k, v.ownBlock = some k → ¬ S k) : OwnR ec sz e w' base v l := by
  refine ⟨h.1, h.2.1, ?_⟩
  rcases h.2.2 with h0 | ⟨g, cap, cur, hv, h1, h2, h3⟩
  · exact Or.inl h0
  · exact Or.inr ⟨g, cap, cur, hv, h1, (hf.block g (Array.getElem?_eq_some_iff.1 h2).1 (hs g (by rw [hv]; rfl))).trans h2, h3⟩
theorem OwnR.fr0 (h : OwnR ec sz e w base v l) (hf : Fr noB w w') : OwnR ec sz e w' base v l := h.fr hf (fun _ _ q => q)
theorem OwnR.ne {g : Nat} (h : OwnR ec sz e w base v l) (hf : Fr (onB1 g) w w') (hg : ∀ k, v.ownBlock = some k → k ≠ g) : OwnR ec sz e w' base v l := h.fr hf (fun k hk q => hg k hk q)
theorem OwnR.rebase {b : Nat} (h : OwnR ec sz e w base v l) (hb : b ≤ base) : OwnR ec sz e w b v l := by
  refine ⟨h.1, h.2.1, ?_⟩
  rcases h.2.2 with h0 | ⟨g, cap, cur, hv, h1, h3⟩
  · exact Or.inl h0
  · exact Or.inr ⟨g, cap, cur, hv, Nat.le_trans hb h1, h3⟩
/-- Rows of other types lie apart. -/
theorem OwnR.apart {β : Type} {ec' : β → List Value} {sz' : Nat} {e' : TypeId} {base' : Nat} {v' : Value} {l' : List β} (h : OwnR ec sz e w base v l) (h' : OwnR ec' sz' e' w base' v' l') (hne : e ≠ e') : ∀ q, v.ownBlock = some q → v'.ownBlock = some q → False := by
  intro q hq hq'
  rcases h.2.2 with ⟨rfl, _⟩ | ⟨g, cap, cur, rfl, _, h2, _⟩
  · simp [Value.ownBlock] at hq
  rcases h'.2.2 with ⟨rfl, _⟩ | ⟨g', cap', cur', rfl, _, h2', _⟩
  · simp [Value.ownBlock] at hq'
  simp [Value.ownBlock] at hq hq'
  subst hq hq'
  rw [h2] at h2'
  simp at h2'
  exact hne h2'.2
/-- Its block, where there is an element. -/
theorem OwnR.bx (h : OwnR ec sz e w base v l) (hl : 0 < l.length) :
    ∃ g cap cur, v = .slice (some ⟨g, 0, none⟩) l.length cap ∧ base ≤ g ∧ BxV w g e cur ∧ l.length * sz ≤ cur.length ∧ cur.take (l.length * sz) = l.flatMap ec ∧
      ∀ (w' : World) (cur' : List Value) (l' : List α), BxV w' g e cur' → cur'.length = cur.length → l'.length = l.length → (∀ x ∈ l', (ec x).length = sz) → cur'.take (l.length * sz) = l'.flatMap ec → OwnR ec sz e w' base v l' := by
  rcases h.2.2 with ⟨_, hn⟩ | ⟨g, cap, cur, hv, h1, h2, h3, h4, h5, h6⟩
  · omega
  · have hlen : l.length * sz ≤ cur.toList.length := by
      have : cur.toList.length = cap * sz := by rw [← h5]; exact Array.length_toList
      rw [this]; exact Nat.mul_le_mul_right _ h3
    refine ⟨g, cap, cur.toList, hv, h1, h2, hlen, h6, ?_⟩
    intro w' cur' l' hb hc hl' hall htk
    refine ⟨hall, ?_, Or.inr ⟨g, cap, cur'.toArray, by rw [hl']; exact hv, h1, hb, by rw [hl']; exact h3, h4, ?_, ?_⟩⟩
    · rw [← htk, List.length_take, hc, hl']; omega
    · rw [List.size_toArray, hc, Array.length_toList, h5]
    · rw [hl']; exact htk
theorem flat_put (l : List α) (hall : ∀ x ∈ l, (ec x).length = sz) (j : Nat) (hj : j < l.length) (x : α) (hx : (ec x).length = sz) (cur : List Value) (hlen : l.length * sz ≤ cur.length) (hc : cur.take (l.length * sz) = l.flatMap ec) :
    (putAt cur (j * sz) (ec x)).take (l.length * sz) = (l.set j x).flatMap ec := by
  have e1 : cur = l.flatMap ec ++ cur.drop (l.length * sz) := by rw [← hc, List.take_append_drop]
  have hfl : ∀ m : List α, (∀ x ∈ m, (ec x).length = sz) → (m.flatMap ec).length = m.length * sz := by
    intro m hm
    induction m with
    | nil => simp
    | cons y m ih => rw [List.flatMap_cons, List.length_append, hm y (by simp), ih (fun z hz => hm z (by simp [hz])), List.length_cons, Nat.succ_mul]; omega
  have hsp : l = l.take j ++ l[j] :: l.drop (j + 1) := by rw [List.getElem_cons_drop, List.take_append_drop]
  have hset : l.set j x = l.take j ++ x :: l.drop (j + 1) := by rw [List.set_eq_take_append_cons_drop, if_pos hj]
  have hA : ((l.take j).flatMap ec).length = j * sz := by rw [hfl _ (fun y hy => hall y (List.mem_of_mem_take hy))]; rw [List.length_take, Nat.min_eq_left (by omega)]
  have hlj := hall l[j] (by simp)
  have hflat : l.flatMap ec = (l.take j).flatMap ec ++ (ec l[j] ++ (l.drop (j + 1)).flatMap ec) := by
    conv => lhs; rw [hsp]
    rw [List.flatMap_append, List.flatMap_cons]
  have htake : cur.take (j * sz) = (l.take j).flatMap ec := by
    rw [e1, hflat, List.append_assoc, List.take_left' hA]
  have hdrop : cur.drop (j * sz + sz) = (l.drop (j + 1)).flatMap ec ++ cur.drop (l.length * sz) := by
    conv => lhs; rw [e1]
    rw [hflat]
    simp only [List.append_assoc]
    rw [← List.append_assoc, List.drop_left' (by rw [List.length_append, hA, hlj])]
  unfold putAt
  rw [hx, htake, hdrop, hset, List.flatMap_append, List.flatMap_cons]
  have hB : ((l.drop (j + 1)).flatMap ec).length = (l.length - (j + 1)) * sz := by rw [hfl _ (fun y hy => hall y (List.mem_of_mem_drop hy))]; simp
  have htot : ((l.take j).flatMap ec ++ ec x ++ (l.drop (j + 1)).flatMap ec).length = l.length * sz := by
    rw [List.length_append, List.length_append, hA, hx, hB]
    have : l.length = j + 1 + (l.length - (j + 1)) := by omega
    conv => rhs; rw [this, Nat.add_mul, Nat.add_mul, Nat.one_mul]
  rw [← List.append_assoc, List.take_left' htot, List.append_assoc]

variable {P : Program} {ops : Array Oper} {rest : List Oper} {o : Oper} {a : Act} {Q : Exit → Act → World → Prop}
/-- x[j], x a row of the call's own making. -/
theorem wpList_idxO (hgd : Region.wanted o (yielded ops a.tmps) = true) (t : TypeId) (x i : Operand) (ho : o.op = .indexAddr t x i) (et : TypeId) (ht : P.underlying t = some (.slice et)) (hsz : (P.info? et).map (·.size) = some sz)
    (g n cap : Nat) (hx : a.eval x = .slice (some ⟨g, 0, none⟩) n cap) (k : IntKind) (z : Int) (j : Nat) (hi : a.eval i = .int k z) (hz : z = (j : Int)) (hj : j < n)
    (h : wpList P ops Q rest (a.put o.dst (.pointer (some ⟨g, j * sz, none⟩))) w) : wpList P ops Q (o :: rest) a w := by
  refine wpList_wanted hgd fun K hK => ?_
  subst hz
  obtain ⟨ii, hinf, hsz'⟩ := Option.map_eq_some_iff.1 hsz
  have hrun : (Instr.indexAt t (.slice (some ⟨g, 0, none⟩) n cap) (.int k (j : Int))).run P w = .ok (.pointer (some ⟨g, j * sz, none⟩)) w := by
    have h1 : (0 : Int) ≤ (j : Int) ∧ (j : Int) < (n : Int) := by omega
    simp [Instr.indexAt, asIntOf, run_underlying ht, h1, sizeOf, typeInfo, hinf, hsz', go_sem, Addr.plain]
    omega
  unfold Oper.wp
  simp [execOp, ho, hx, hi, hrun, Result.andThen]
  exact hK _ _ h
theorem run_idxO (t et : TypeId) (ht : P.underlying t = some (.slice et)) (hsz : (P.info? et).map (·.size) = some sz) (g n cap : Nat) (k : IntKind) (j : Nat) (hj : j < n) :
    (Instr.indexAt t (.slice (some ⟨g, 0, none⟩) n cap) (.int k (j : Int))).run P w = .ok (.pointer (some ⟨g, j * sz, none⟩)) w := by
  obtain ⟨ii, hinf, hsz'⟩ := Option.map_eq_some_iff.1 hsz
  have h1 : (0 : Int) ≤ (j : Int) ∧ (j : Int) < (n : Int) := by omega
  simp [Instr.indexAt, asIntOf, run_underlying ht, h1, sizeOf, typeInfo, hinf, hsz', go_sem, Addr.plain]
  omega
/-- Where an element lies. -/
theorem OwnR.rangeK {g n cap : Nat} (hO : OwnR ec sz e w base (.slice (some ⟨g, 0, none⟩) n cap) l) (j : Nat) (hj : j < l.length) : w.rangeAt g (j * sz) (ec l[j]) := by
  obtain ⟨g', cap', cur, hv, h1, hB, h3, h4, h5⟩ := hO.bx (by omega)
  cases hv
  intro q u hq
  have hql : q < sz := by rw [← hO.1 l[j] (by simp)]; exact (List.getElem?_eq_some_iff.1 hq).1
  refine (hB.cell (j * sz + q) u ?_).1
  have hfl := flat_at ec sz l hO.1 j hj q hql
  rw [hq, ← h4, List.getElem?_take] at hfl
  split at hfl
  · exact hfl
  · cases hfl
theorem wp_stR {K : Act → World → Prop} (t : TypeId) (x y : Operand) (ho : o.op = .store t x y) (g n cap : Nat) (hO : OwnR ec sz e w base (.slice (some ⟨g, 0, none⟩) n cap) l) (j : Nat) (hj : j < l.length) (hx : a.eval x = .pointer (some ⟨g, j * sz, none⟩))
    (b : α) (hy : a.eval y = .agg (ec b).toArray) (hb : (ec b).length = sz) (hb1 : ∀ u ∈ ec b, u.oneCell' = true) (hi : (P.info? t).map (·.size) = some sz)
    (h : ∀ w', OwnR ec sz e w' base (.slice (some ⟨g, 0, none⟩) n cap) (l.set j b) → Fr (onB1 g) w w' → K (a.put o.dst undef) w') : o.wp P a w K Q := by
  obtain ⟨g', cap', cur, hv, h1, hB, h3, h4, h5⟩ := hO.bx (by omega)
  cases hv
  have hle : j * sz + sz ≤ cur.length := by
    have : (j + 1) * sz ≤ l.length * sz := Nat.mul_le_mul_right _ (by omega)
    rw [Nat.add_mul, Nat.one_mul] at this; omega
  refine wp_store_mid t x y ho g (j * sz) (ec b).toArray hx hy (by simpa using hB.thereR (j * sz) (ec b).length (by rw [hb]; exact hle)) (by rw [hi]; simp [hb]) (all_oneCell_toArray hb1) (h _ ?_ (setCells_fr1 w g _ _))
  have hB' := setCells_bx (ec b) (j * sz) w cur hB (by rw [hb]; exact hle)
  refine h5 _ _ _ hB' ?_ (by simp) ?_ (flat_put l hO.1 j hj b hb cur h3 h4)
  · unfold putAt; simp [hb]; omega
  · intro z hz
    rcases List.mem_or_eq_of_mem_set hz with hz | rfl
    · exact hO.1 z hz
    · exact hb
/-- x[j] = y, y a value of several cells. -/
theorem wpList_stR (hgd : o.guard = none) (t : TypeId) (x y : Operand) (ho : o.op = .store t x y) (g n cap : Nat) (hO : OwnR ec sz e w base (.slice (some ⟨g, 0, none⟩) n cap) l) (j : Nat) (hj : j < l.length) (hx : a.eval x = .pointer (some ⟨g, j * sz, none⟩))
    (b : α) (hy : a.eval y = .agg (ec b).toArray) (hb : (ec b).length = sz) (hb1 : ∀ u ∈ ec b, u.oneCell' = true) (hi : (P.info? t).map (·.size) = some sz)
    (h : ∀ w', OwnR ec sz e w' base (.slice (some ⟨g, 0, none⟩) n cap) (l.set j b) → Fr (onB1 g) w w' → wpList P ops Q rest (a.put o.dst undef) w') : wpList P ops Q (o :: rest) a w := by
  obtain ⟨g', cap', cur, hv, h1, hB, h3, h4, h5⟩ := hO.bx (by omega)
  cases hv
  have hle : j * sz + sz ≤ cur.length := by
    have : (j + 1) * sz ≤ l.length * sz := Nat.mul_le_mul_right _ (by omega)
    rw [Nat.add_mul, Nat.one_mul] at this; omega
  refine wpList_storeV hgd t x y ho g (j * sz) hx (ec b) hy e cur hB (by rw [hi, hb]) (by rw [hb]; exact hle) hb1 ?_
  intro w' hB' hf
  refine h w' (h5 w' _ _ hB' ?_ (by simp) ?_ (flat_put l hO.1 j hj b hb cur h3 h4)) hf
  · unfold putAt; simp [hb]; omega
  · intro z hz
    rcases List.mem_or_eq_of_mem_set hz with hz | rfl
    · exact hO.1 z hz
    · exact hb
/-- x[j] = y, y of one cell. -/
theorem wpList_stR1 {ec : α → List Value} {l : List α} (hgd : o.guard = none) (t : TypeId) (x y : Operand) (ho : o.op = .store t x y) (g n cap : Nat) (hO : OwnR ec 1 e w base (.slice (some ⟨g, 0, none⟩) n cap) l) (j : Nat) (hj : j < l.length) (hx : a.eval x = .pointer (some ⟨g, j, none⟩))
    (b : α) (u : Value) (hb : ec b = [u]) (hy : a.eval y = u) (hb1 : u.oneCell' = true) (hi : (P.info? t).map (·.size) = some 1)
    (h : ∀ w', OwnR ec 1 e w' base (.slice (some ⟨g, 0, none⟩) n cap) (l.set j b) → Fr (onB1 g) w w' → wpList P ops Q rest (a.put o.dst undef) w') : wpList P ops Q (o :: rest) a w := by
  obtain ⟨g', cap', cur, hv, h1, hB, h3, h4, h5⟩ := hO.bx (by omega)
  cases hv
  refine wpList_store1 hgd t x y ho g (j * 1) (by rw [Nat.mul_one]; exact hx) u hy hb1 e cur hB hi (by omega) ?_
  intro w' hB' hf
  have hp : cur.set (j * 1) u = putAt cur (j * 1) (ec b) := by
    rw [hb]; unfold putAt
    rw [List.set_eq_take_append_cons_drop, if_pos (by omega)]; simp
  rw [hp] at hB'
  refine h w' (h5 w' _ _ hB' ?_ (by simp) ?_ (flat_put l hO.1 j hj b (by rw [hb]; rfl) cur h3 h4)) hf
  · rw [← hp]; simp
  · intro z hz
    rcases List.mem_or_eq_of_mem_set hz with hz | rfl
    · exact hO.1 z hz
    · rw [hb]; rfl
/-- append(s, x...). -/
theorem wpList_appR (hgd : o.guard = none) (s x : Operand) (t : TypeId) (ho : o.op = .call { callee := .builtin .append, args := #[s, x], argTypes := #[t, t] })
    (base : Nat) (e : TypeId) (z : Value) (bytes : Nat) (ht : P.underlying t = some (.slice e)) (hinfo : (P.info? e).map (fun i => (i.zero, i.size, i.bytes)) = some (some z, sz, bytes)) (hzs : z.cells.size = sz) (hsz : 0 < sz)
    (v : Value) (l : List α) (hs : a.eval s = v) (hO : OwnR ec sz e w base v l) (vx : Value) (m : List α) (hx : a.eval x = vx) (hS : SlR ec sz w vx m) (h1 : ∀ y ∈ m, ∀ u ∈ ec y, u.oneCell' = true)
    (h63 : l.length + m.length ≤ maxLen) (hbytes : (l.length + m.length) * bytes ≤ 140737488355328) (hbase : base ≤ w.heap.size)
    (h : ∀ v' w', OwnR ec sz e w' base v' (l ++ m) → w.grownBy w' v.ownBlock → wpList P ops Q rest (a.put o.dst v') w') : wpList P ops Q (o :: rest) a w := by
  refine wpList_app hgd s x t ho base e z sz bytes ht hinfo hzs hsz v l.length (l.flatMap ec) hs hO.2 vx m.length (m.flatMap ec) hx hS.2 ?_ h63 hbytes hbase ?_
  · intro u hu
    obtain ⟨y, hy, hu⟩ := List.mem_flatMap.1 hu
    exact h1 y hy u hu
  · intro v' w' ho' hg
    refine h v' w' ⟨?_, by rw [List.length_append, List.flatMap_append]; exact ho'⟩ hg
    intro y hy
    rcases List.mem_append.1 hy with hy | hy
    · exact hO.1 y hy
    · exact hS.1 y hy
/-- []T{}: a row of no elements, its block a letter. -/
theorem wpList_mk0 (ec : α → List Value) (sz : Nat) (hgd : Region.wanted o (yielded ops a.tmps) = true) (t : TypeId) (ho : o.op = .buildSlice t 0 #[]) (e : TypeId) (ht : P.underlying t = some (.slice e)) (hsz : (P.info? e).map (·.size) = some sz)
    (h : ∀ g w', OwnR ec sz e w' w.heap.size (.slice (some ⟨g, 0, none⟩) 0 0) ([] : List α) → Fr noB w w' → w.heap.size ≤ g → g < w'.heap.size → wpList P ops Q rest (a.put o.dst (.slice (some ⟨g, 0, none⟩) 0 0)) w') : wpList P ops Q (o :: rest) a w := by
  refine wpList_wanted hgd fun K hK => ?_
  obtain ⟨ii, hinf, hsz'⟩ := Option.map_eq_some_iff.1 hsz
  have hrun : (execOp a.eval o).run P w = .ok (.value (.slice (some ⟨w.heap.size, 0, none⟩) 0 0)) (w.alloc (.cells #[] e)) := by
    simp only [execOp, ho]
    simp [go_sem, run_underlying ht, sizeOf, typeInfo, hinf, hsz']
  unfold Oper.wp
  rw [hrun]
  exact hK _ _ (h w.heap.size _ ⟨by simp, World.ownsRow_made w #[] 0 (Nat.le_refl _) (Nat.zero_le _) (by simp)⟩ ((Fr.refl _ _).alloc _) (Nat.le_refl _) (by simp))
theorem OwnR.empty (w : World) (e : TypeId) (hb : base ≤ w.heap.size) : OwnR ec sz e (w.alloc (.cells #[] e)) base (.slice (some ⟨w.heap.size, 0, none⟩) 0 0) ([] : List α) :=
  ⟨by simp, World.ownsRow_made w #[] 0 hb (Nat.zero_le _) (by simp)⟩
theorem OwnR.none (w : World) (e : TypeId) : OwnR ec sz e w base (.slice .none 0 0) ([] : List α) := ⟨by simp, by simp, Or.inl ⟨rfl, rfl⟩⟩
theorem OwnR.grown {S : Nat → Prop} {b0 : World} (h : OwnR ec sz e w base v l) (hf : Fr S b0 w) (hb : b0.heap.size ≤ base) (hg : w.grownBy w' v.ownBlock) : Fr S b0 w' :=
  hf.grown hg (fun k hk hlt => absurd (h.newB k hk).1 (by omega))
end
end Go.Proofs.U
/- The document's disk: Spoil and Put. -/
namespace Go.Proofs.Ytamfnjliikiifaa
open Go.RowKit Go.Proofs.U
set_option linter.unusedSimpArgs false
set_option linter.unusedVariables false

theorem info_bool : (Try.prog.info? 4).map (fun i => (i.zero, i.size, i.bytes)) = some (some (.bool false), 1, 1) := by kernel_rfl
theorem isSl_mk (a : Option Addr) (n c : Nat) : isSl (.slice a n c) := ⟨a, n, c, rfl⟩
/-- A slice that is the old one, or lies in new memory. -/
def nwB (w w' : World) (v v' : Value) : Prop := ∀ q, v'.ownBlock = some q → v.ownBlock = some q ∨ (w.heap.size ≤ q ∧ q < w'.heap.size)
def inR (n : Nat) (i : Int) : Bool := decide (0 ≤ i) && decide (i < (n : Int))

end Go.Proofs.Ytamfnjliikiifaa
/- Values of several cells, put together out of parts; a row of one of them; no condition. -/
namespace Go.Proofs.U
open Go.RowKit
set_option linter.unusedSimpArgs false
set_option linter.unusedVariables false

theorem zip_put (off : Nat) : ∀ (ds : List Value) (k : Nat) (cells : List Value), off + k + ds.length ≤ cells.length →
    (ds.zipIdx k).foldl (fun (cs : Array Value) x => cs.setIfInBounds (off + x.2) x.1) cells.toArray = (putAt cells (off + k) ds).toArray := by
  intro ds
  induction ds with
  | nil => intro k cells _; rw [putAt_nil]; rfl
  | cons d ds ih =>
    intro k cells h
    simp at h
    rw [List.zipIdx_cons, List.foldl_cons]
    simp only [List.setIfInBounds_toArray]
    rw [ih (k + 1) (cells.set (off + k) d) (by simp; omega), ← putAt_cons cells (off + k) d ds (by omega)]
    rfl
theorem fill_put (place : Nat → Option (Nat × Nat)) (cells : List Value) (k off sz : Nat) (v : Value) (ds : List Value) (hv : v.cells = ds.toArray) (hp : place k = some (off, sz)) (hs : ds.length = sz) (hl : off + sz ≤ cells.length) (rest : List (Nat × Value)) :
    Instr.fill place cells.toArray ((k, v) :: rest) = Instr.fill place (putAt cells off ds).toArray rest := by
  have hz : Array.foldl (fun (cs : Array Value) x => cs.setIfInBounds (off + x.2) x.1) cells.toArray ds.toArray.zipIdx = (putAt cells off ds).toArray := by
    have := zip_put off ds 0 cells (by omega)
    rw [Nat.add_zero] at this
    rw [← this]
    simp
  conv => lhs; unfold Instr.fill
  simp only [hp, hv]
  rw [if_neg (by simp; omega)]
  exact congrArg (fun z => Instr.fill place z rest) hz
theorem built_struct {P : Program} (t : TypeId) (fields : Array Field) (hu : P.underlying t = some (.struct fields)) (zs : List Value) (hz : (P.info? t).map (·.zero) = some (some (.agg zs.toArray))) (places : List (Nat × Nat))
    (hp : fields.toList.mapM (fun f => (P.info? f.type).map fun i => (f.offset, i.size)) = some places) (parts : List (Nat × Value)) : P.built t parts = Instr.fill (places.toArray[·]?) zs.toArray parts := by
  obtain ⟨i, hi, hz'⟩ := Option.map_eq_some_iff.1 hz
  unfold Program.built
  rw [hi, hu]
  simp only [hz', hp, Value.cells]

section
variable {α : Type} {ec : α → List Value} {sz : Nat} {w : World} {P : Program} {ops : Array Oper} {rest : List Oper} {o : Oper} {a : Act} {Q : Exit → Act → World → Prop}
/-- []T{y}: a row of one element, its block a letter. -/
theorem wpList_mk1 (hgd : Region.wanted o (yielded ops a.tmps) = true) (t : TypeId) (y : Operand) (ho : o.op = .buildSlice t 1 #[(0, y)]) (e : TypeId) (ht : P.underlying t = some (.slice e)) (z : Value) (hinfo : (P.info? e).map (fun i => (i.zero, i.size)) = some (some z, sz)) (hsz : 0 < sz) (hbig : sz ≤ 16777216)
    (x : α) (V : Value) (hy : a.eval y = V) (hV : V.cells = (ec x).toArray) (hx : (ec x).length = sz)
    (h : ∀ g w', SlR ec sz w' (.slice (some ⟨g, 0, none⟩) 1 1) [x] → Fr noB w w' → w.heap.size ≤ g → g < w'.heap.size → wpList P ops Q rest (a.put o.dst (.slice (some ⟨g, 0, none⟩) 1 1)) w') : wpList P ops Q (o :: rest) a w := by
  refine wpList_wanted hgd fun K hK => ?_
  obtain ⟨ii, hinf, hq⟩ := Option.map_eq_some_iff.1 hinfo
  simp only [Prod.mk.injEq] at hq
  have hfill : ∀ X : Array Value, X.size = sz → Instr.fill (fun i => some (i * sz, sz)) X [(0, V)] = some (ec x).toArray := by
    intro X hX
    have h1 := fill_put (fun i => some (i * sz, sz)) X.toList 0 0 sz V (ec x) hV (by simp) hx (by rw [Array.length_toList, hX]; omega) []
    have e1 : X.toList.toArray = X := by simp
    rw [e1] at h1
    rw [h1, putAt_all _ _ (by rw [hx, ← hX]; exact Array.length_toList.symm)]
    rfl
  have hbs : (Instr.buildSlice t 1 #[(0, V)]).run P w = .ok (.slice (some ⟨w.heap.size, 0, none⟩) 1 1) (w.alloc (.cells (ec x).toArray e)) := by
    have hne : ¬ sz = 0 := by omega
    have hnb : ¬ 16777216 < sz := by omega
    have hf := hfill ((Array.range sz).map (fun k => z.cells[k % z.cells.size]!)) (by simp)
    unfold Instr.buildSlice
    simp [run_underlying ht, sizeOf, typeInfo, zeroValue, hinf, hq.1, hq.2, hne, hnb, hf, Sem.run_bind, Result.andThen]
    simp [go_sem]
  have hrun : (execOp a.eval o).run P w = .ok (.value (.slice (some ⟨w.heap.size, 0, none⟩) 1 1)) (w.alloc (.cells (ec x).toArray e)) := by
    simp only [execOp, ho]
    simp [hy, hbs, Result.andThen]
  unfold Oper.wp
  rw [hrun]
  refine hK _ _ (h w.heap.size _ ⟨?_, ?_⟩ ((Fr.refl _ _).alloc _) (Nat.le_refl _) (by simp))
  · intro y hy; simp at hy; subst hy; exact hx
  · refine ⟨some ⟨w.heap.size, 0, none⟩, 1, rfl, Nat.le_refl _, by simp [hx], (fun h => by cases h), fun ad had j u hj => ?_⟩
    cases had
    have hj' : (ec x)[j]? = some u := by simpa using hj
    rw [Addr.plain, Nat.zero_add, World.cell?_alloc_new]
    simpa using hj'
end
end Go.Proofs.U
/- The document's disk: Put. -/
namespace Go.Proofs.Ytamfnjliikiifaa
open Go.RowKit Go.Proofs.U
set_option linter.unusedSimpArgs false
set_option linter.unusedVariables false

theorem encW_len (x : Int × List Int) (h : x.2.length = 256) : (encW x).length = 257 := by simp [encW, pgv_len, h]
theorem encW_one (x : Int × List Int) : ∀ u ∈ encW x, u.oneCell' = true := by
  intro u hu
  rcases List.mem_cons.1 hu with rfl | hu
  · rfl
  · exact pgv_one _ u hu
section
variable {w : World} {ops : Array Oper} {rest : List Oper} {o : Oper} {a : Act} {Q : Exit → Act → World → Prop}
end

end Go.Proofs.Ytamfnjliikiifaa
/- Regions that draw their order, whose operations lay new memory alone: whatever the order, if each operation, behind those that it waits for, hands what is said of it; no condition. -/
namespace Go.Proofs.U
open Go.RowKit
set_option linter.unusedVariables false

section
variable {P : Program} {ops : Array Oper} {Q : Exit → Act → World → Prop} {md : Region.Mode}

/-- What each operation keeps holds at the end, whatever the order. -/
theorem wpAny_inv (I : Array Bool → Act → World → Prop)
    (hstep : ∀ listed a w i, I listed a w → i ∈ Region.ready md ops listed → wpOp P ops Q i (fun a' w' => I (listed.setIfInBounds i true) a' w') a w)
    (hstop : ∀ listed a w, I listed a w → Region.ready md ops listed = [] → Q .normal a w) :
    ∀ (fuel : Nat) (R : List Nat) (listed : Array Bool) (a : Act) (w : World), (∀ i, listed.getD i true = false → i ∈ R) → R.length ≤ fuel → I listed a w → wpAny P md ops Q fuel listed a w := by
  intro fuel
  induction fuel with
  | zero =>
    intro R listed a w hR hl hI
    have hR0 : R = [] := List.eq_nil_of_length_eq_zero (by omega)
    have h0 : Region.ready md ops listed = [] := by
      apply List.eq_nil_iff_forall_not_mem.2
      intro j hj
      have := hR j (mem_ready.1 hj).1
      rw [hR0] at this; cases this
    exact ⟨h0, hstop _ _ _ hI h0⟩
  | succ fuel ih =>
    intro R listed a w hR hl hI
    refine ⟨fun h0 => hstop _ _ _ hI h0, fun i hi => ?_⟩
    refine wpOp_mono (fun a' w' hI' => ?_) (hstep _ _ _ i hI hi)
    have hin := hR i (mem_ready.1 hi).1
    refine ih (R.erase i) _ a' w' ?_ (by rw [List.length_erase_of_mem hin]; have := List.length_pos_of_mem hin; omega) hI'
    intro j hj
    have hlt : i < listed.size := by
      have h1 := (mem_ready.1 hi).1
      rcases Nat.lt_or_ge i listed.size with h' | h'
      · exact h'
      · simp [Array.getElem?_eq_none h'] at h1
    by_cases hji : i = j
    · subst hji
      simp [hlt] at hj
    · refine (List.mem_erase_of_ne (fun e => hji e.symm)).2 (hR j ?_)
      simpa [Array.getElem?_setIfInBounds, hji] using hj

def dstAt (ops : Array Oper) (i : Nat) : Option Nat := (ops[i]?).bind (·.dst)

/-- What is known while the region runs: of each operation that came up what F says of its value. -/
structure Know (ops : Array Oper) (F : Nat → Value → World → Prop) (a0 : Act) (w0 : World) (listed : Array Bool) (a : Act) (w : World) : Prop where
  fr : Fr noB w0 w
  dfr : a.defers = a0.defers
  sz : a.tmps.size = a0.tmps.size
  base : ∀ s, (∀ i, dstAt ops i ≠ some s) → a.tmps.getD s undef = a0.tmps.getD s undef
  fact : ∀ i d, listed.getD i false = true → dstAt ops i = some d → F i (a.tmps.getD d undef) w

/-- What is asked of one operation: behind those that it waits for it hands a value of which F says so. -/
def Hands (P : Program) (ops : Array Oper) (F : Nat → Value → World → Prop) (a0 : Act) (w0 : World) (Q : Exit → Act → World → Prop) (i : Nat) (o : Oper) : Prop :=
  ∀ (a : Act) (w : World), Fr noB w0 w → a.defers = a0.defers → (∀ s, (∀ i, dstAt ops i ≠ some s) → a.eval (.tmp s) = a0.eval (.tmp s)) →
    (∀ e ∈ o.after, ∀ d, dstAt ops e.on = some d → F e.on (a.eval (.tmp d)) w) →
    if Region.wanted o (yielded ops a.tmps) = true then o.wp P a w (fun a' w' => ∃ v, a' = a.put o.dst v ∧ Fr noB w w' ∧ F i v w') Q else F i undef w

theorem wp_region_know {id : Nat} {a0 : Act} {w : World} (hm : P.follows .mixedOrders = true) (F : Nat → Value → World → Prop)
    (hmono : ∀ i v w w', Fr noB w w' → F i v w → F i v w')
    (hbind : ∀ (i : Nat) (o : Oper), ops[i]? = some o → ∀ e ∈ o.after, Region.binds .any e = true)
    (hlow : ∀ (i : Nat) (o : Oper), ops[i]? = some o → ∀ e ∈ o.after, e.on < i)
    (hdist : ∀ i j d, dstAt ops i = some d → dstAt ops j = some d → i = j)
    (hin : ∀ i d, dstAt ops i = some d → d < a0.tmps.size)
    (hob : ∀ (i : Nat) (o : Oper), ops[i]? = some o → Hands P ops F a0 w.drew Q i o)
    (hend : ∀ a w', Fr noB w.drew w' → a.defers = a0.defers → a.tmps.size = a0.tmps.size → (∀ s, (∀ i, dstAt ops i ≠ some s) → a.eval (.tmp s) = a0.eval (.tmp s)) →
      (∀ i d, dstAt ops i = some d → F i (a.eval (.tmp d)) w') → Q .normal a w') : (Code.region id ops true).wp P Q a0 w := by
  refine wp_region_any hm ?_
  show wpAny P .any ops Q ops.size (Array.replicate ops.size false) a0 w.drew
  refine wpAny_inv (fun listed a w' => listed.size = ops.size ∧ Know ops F a0 w.drew listed a w' ∧ ∀ i, listed.getD i false = true → ∀ o, ops[i]? = some o → ∀ e ∈ o.after, listed.getD e.on false = true) ?_ ?_ ops.size (List.range ops.size) _ a0 w.drew ?_ (by simp) ?_
  · rintro listed a w' i ⟨hsz, hK, hcl⟩ hi
    obtain ⟨hun, o, ho, hall⟩ := mem_ready.1 hi
    have hilt : i < listed.size := by
      rcases Nat.lt_or_ge i listed.size with h' | h'
      · exact h'
      · simp [Array.getElem?_eq_none h'] at hun
    have key := hob i o ho a w' hK.fr hK.dfr hK.base (fun e he d hd => hK.fact e.on d (hall e he (hbind i o ho e he)) hd)
    have next : ∀ v w'', Fr noB w' w'' → F i v w'' → (listed.setIfInBounds i true).size = ops.size ∧ Know ops F a0 w.drew (listed.setIfInBounds i true) (a.put o.dst v) w'' ∧ ∀ j, (listed.setIfInBounds i true).getD j false = true → ∀ o, ops[j]? = some o → ∀ e ∈ o.after, (listed.setIfInBounds i true).getD e.on false = true := by
      intro v w'' hf hF
      have lk : ∀ j, listed.getD j false = true → (listed.setIfInBounds i true).getD j false = true := by
        intro j hj
        by_cases hij : i = j
        · subst hij; simp [hilt]
        · simpa [Array.getElem?_setIfInBounds, hij] using hj
      have ldj : ∀ j, (listed.setIfInBounds i true).getD j false = true → j = i ∨ listed.getD j false = true := by
        intro j hj
        by_cases hij : i = j
        · exact Or.inl hij.symm
        · exact Or.inr (by simpa [Array.getElem?_setIfInBounds, hij] using hj)
      have hdo : dstAt ops i = o.dst := by simp [dstAt, ho]
      refine ⟨by simpa using hsz, ⟨hK.fr.trans hf, ?_, ?_, ?_, ?_⟩, ?_⟩
      · cases hd : o.dst <;> simpa [Act.put] using hK.dfr
      · cases hd : o.dst <;> simpa [Act.put] using hK.sz
      · intro s hs
        cases hd : o.dst with
        | none => simpa [Act.put] using hK.base s hs
        | some d =>
          have hds : d ≠ s := fun e => hs i (by rw [hdo, hd, e])
          have := hK.base s hs
          simp only [Act.put, Array.getD_eq_getD_getElem?, Array.getElem?_setIfInBounds, hds, if_false] at this ⊢
          exact this
      · intro j d hj hdj
        rcases ldj j hj with rfl | hj'
        · rw [hdo] at hdj
          have hlt : d < a.tmps.size := by rw [hK.sz]; exact hin j d (by rw [hdo]; exact hdj)
          have : (a.put o.dst v).tmps.getD d undef = v := by
            rw [hdj]
            simp [Act.put, hlt]
          rw [this]; exact hF
        · have hne : o.dst ≠ some d := fun e => by
            have := hdist i j d (by rw [hdo]; exact e) hdj
            subst this
            have h2 : listed.getD i true = listed.getD i false := by simp [hilt]
            rw [h2, hj'] at hun; cases hun
          have h1 := hmono j _ _ _ hf (hK.fact j d hj' hdj)
          have : (a.put o.dst v).tmps.getD d undef = a.tmps.getD d undef := by
            cases hd : o.dst with
            | none => rfl
            | some d' =>
              have hds : d' ≠ d := fun e => hne (by rw [hd, e])
              simp only [Act.put, Array.getD_eq_getD_getElem?, Array.getElem?_setIfInBounds, hds, if_false]
          rw [this]; exact h1
      · intro j hj oj hoj e he
        rcases ldj j hj with rfl | hj'
        · rw [ho] at hoj; cases hoj
          exact lk _ (hall e he (hbind j o ho e he))
        · exact lk _ (hcl j hj' oj hoj e he)
    unfold wpOp
    simp only [ho]
    by_cases hw : Region.wanted o (yielded ops a.tmps) = true
    · rw [if_pos hw] at key ⊢
      refine Or.inl (Oper.wp_mono ?_ key)
      rintro a' w'' ⟨v, rfl, hf, hF⟩
      exact next v w'' hf hF
    · rw [if_neg hw] at key ⊢
      exact next undef w' (Fr.refl _ _) key
  · rintro listed a w' ⟨hsz, hK, hcl⟩ h0
    have hall : ∀ n i, i < n → i < ops.size → listed.getD i false = true := by
      intro n
      induction n with
      | zero => intro i h; omega
      | succ n ihn =>
        intro i hi hlt
        rcases Nat.lt_or_ge i n with hn | hn
        · exact ihn i hn hlt
        · obtain rfl : i = n := by omega
          cases hq : listed.getD i false with
          | true => rfl
          | false =>
            exfalso
            have hls : i < listed.size := by omega
            have ho : ops[i]? = some ops[i] := Array.getElem?_eq_getElem hlt
            have hmem : i ∈ Region.ready .any ops listed := mem_ready.2 ⟨by
              have h2 : listed.getD i true = listed.getD i false := by simp [hls]
              rw [h2]; exact hq, ops[i], ho, fun e he _ => ihn e.on (hlow i _ ho e he) (by have := hlow i _ ho e he; omega)⟩
            rw [h0] at hmem; cases hmem
    refine hend a w' hK.fr hK.dfr hK.sz hK.base (fun i d hd => hK.fact i d ?_ hd)
    have hlt : i < ops.size := by
      rcases Nat.lt_or_ge i ops.size with h' | h'
      · exact h'
      · simp [dstAt, Array.getElem?_eq_none h'] at hd
    exact hall (i + 1) i (by omega) hlt
  · intro i hi
    rcases Nat.lt_or_ge i ops.size with h' | h'
    · simpa using h'
    · simp [h'] at hi
  · refine ⟨by simp, ⟨Fr.refl _ _, rfl, rfl, fun _ _ => rfl, fun i d hl => ?_⟩, fun i hl => ?_⟩
    · exfalso
      rcases Nat.lt_or_ge i ops.size with h' | h' <;> simp [h'] at hl
    · exfalso
      rcases Nat.lt_or_ge i ops.size with h' | h' <;> simp [h'] at hl
end
end Go.Proofs.U
/- The law of regions that draw their order, by facts in a list; no condition. -/
namespace Go.Proofs.U
open Go.RowKit
set_option linter.unusedVariables false

/-- What is said of a value, and stays when memory grows. -/
structure MFact where
  p : Value → World → Prop
  mono : ∀ v w w', Fr noB w w' → p v w → p v w'
def MFact.any : MFact := ⟨fun _ _ => True, fun _ _ _ _ h => h⟩
def MFact.is (c : Value) : MFact := ⟨fun v _ => v = c, fun _ _ _ _ h => h⟩
def MFact.sl (k : IntKind) (l : List Int) : MFact := ⟨fun v w => SlI k w v l, fun _ _ _ hf h => h.fr0 hf⟩
def MFact.one (c : Value) : MFact := ⟨fun v w => ∃ g, v = .slice (some ⟨g, 0, none⟩) 1 1 ∧ w.cell? ⟨g, 0, none⟩ = some c, fun _ _ _ hf ⟨g, e, h⟩ => ⟨g, e, hf.cell h (fun q => q)⟩⟩
def factAt (fs : List MFact) (i : Nat) : Value → World → Prop := (fs.getD i MFact.any).p

def notDst (ops : Array Oper) (s : Nat) : Bool := (List.range ops.size).all fun i => dstAt ops i != some s
def depOn (ops : Array Oper) (k j : Nat) : Bool := match ops[k]? with | some o => o.after.any (fun e => e.on == j) | none => false
def regionOk (ops : Array Oper) (n : Nat) : Bool :=
  ((List.range ops.size).all fun i => match ops[i]? with
    | some o => o.after.all (fun e => Region.binds .any e && decide (e.on < i)) && (match o.dst with | some d => decide (d < n) | none => true)
    | none => true) &&
  ((List.range ops.size).all fun i => (List.range ops.size).all fun j => i == j || (dstAt ops i).isNone || dstAt ops i != dstAt ops j)

theorem notDst_spec {ops : Array Oper} {s : Nat} (h : notDst ops s = true) : ∀ i, dstAt ops i ≠ some s := by
  intro i hi
  have hlt : i < ops.size := by
    rcases Nat.lt_or_ge i ops.size with h' | h'
    · exact h'
    · simp [dstAt, Array.getElem?_eq_none h'] at hi
  have := List.all_eq_true.1 h i (by simpa using hlt)
  simp [hi] at this

section
variable {P : Program} {ops : Array Oper} {Q : Exit → Act → World → Prop}

def Hand (P : Program) (ops : Array Oper) (fs : List MFact) (a0 : Act) (w0 : World) (Q : Exit → Act → World → Prop) (k : Nat) (o : Oper) : Prop :=
  ∀ (a : Act) (w : World), Fr noB w0 w → (∀ s, notDst ops s = true → a.eval (.tmp s) = a0.eval (.tmp s)) →
    (∀ j d, depOn ops k j = true → dstAt ops j = some d → factAt fs j (a.eval (.tmp d)) w) →
    if Region.wanted o (yielded ops a.tmps) = true then o.wp P a w (fun a' w' => ∃ v, a' = a.put o.dst v ∧ Fr noB w w' ∧ factAt fs k v w') Q else factAt fs k undef w
def HandAll (P : Program) (ops : Array Oper) (fs : List MFact) (a0 : Act) (w0 : World) (Q : Exit → Act → World → Prop) : Nat → List Oper → Prop
  | _, [] => True
  | k, o :: r => Hand P ops fs a0 w0 Q k o ∧ HandAll P ops fs a0 w0 Q (k + 1) r

theorem handAll_get {fs : List MFact} {a0 : Act} {w0 : World} : ∀ (l : List Oper) (k : Nat), HandAll P ops fs a0 w0 Q k l → ∀ i o, l[i]? = some o → Hand P ops fs a0 w0 Q (k + i) o
  | [], _, _, i, o, ho => by simp at ho
  | x :: l, k, h, 0, o, ho => by simp at ho; subst ho; exact h.1
  | x :: l, k, h, i + 1, o, ho => by
    have := handAll_get l (k + 1) h.2 i o (by simpa using ho)
    rwa [show k + (i + 1) = k + 1 + i by omega]

theorem wp_region_facts {id : Nat} {a0 : Act} {w : World} (hm : P.follows .mixedOrders = true) (fs : List MFact) (hok : regionOk ops a0.tmps.size = true)
    (hob : HandAll P ops fs a0 w.drew Q 0 ops.toList)
    (hend : ∀ a w', Fr noB w.drew w' → a.defers = a0.defers → a.tmps.size = a0.tmps.size → (∀ s, notDst ops s = true → a.eval (.tmp s) = a0.eval (.tmp s)) →
      (∀ i d, dstAt ops i = some d → factAt fs i (a.eval (.tmp d)) w') → Q .normal a w') : (Code.region id ops true).wp P Q a0 w := by
  unfold regionOk at hok
  rw [Bool.and_eq_true] at hok
  have h1 : ∀ (i : Nat) (o : Oper), ops[i]? = some o → (o.after.all (fun e => Region.binds .any e && decide (e.on < i)) && (match o.dst with | some d => decide (d < a0.tmps.size) | none => true)) = true := by
    intro i o ho
    have hlt : i < ops.size := by
      rcases Nat.lt_or_ge i ops.size with h' | h'
      · exact h'
      · rw [Array.getElem?_eq_none h'] at ho; cases ho
    have := List.all_eq_true.1 hok.1 i (by simpa using hlt)
    simpa only [ho] using this
  have inb : ∀ i d, dstAt ops i = some d → i < ops.size := by
    intro i d hd
    rcases Nat.lt_or_ge i ops.size with h' | h'
    · exact h'
    · simp [dstAt, Array.getElem?_eq_none h'] at hd
  refine wp_region_know hm (factAt fs) (fun i v w w' hf h => (fs.getD i MFact.any).mono v w w' hf h) ?_ ?_ ?_ ?_ ?_ ?_
  · intro i o ho e he
    have h2 := h1 i o ho
    rw [Bool.and_eq_true] at h2
    have h3 := Array.all_eq_true_iff_forall_mem.1 h2.1 e he
    rw [Bool.and_eq_true] at h3
    exact h3.1
  · intro i o ho e he
    have h2 := h1 i o ho
    rw [Bool.and_eq_true] at h2
    have h3 := Array.all_eq_true_iff_forall_mem.1 h2.1 e he
    rw [Bool.and_eq_true] at h3
    exact of_decide_eq_true h3.2
  · intro i j d hi hj
    have h2 := List.all_eq_true.1 (List.all_eq_true.1 hok.2 i (by simpa using inb i d hi)) j (by simpa using inb j d hj)
    simp [hi, hj] at h2
    exact h2
  · intro i d hd
    have hlt := inb i d hd
    have ho : ops[i]? = some ops[i] := Array.getElem?_eq_getElem hlt
    have h2 := h1 i _ ho
    rw [Bool.and_eq_true] at h2
    have hdd : ops[i].dst = some d := by simpa [dstAt, ho] using hd
    have h3 := h2.2
    rw [hdd] at h3
    exact of_decide_eq_true h3
  · intro i o ho a w' hfr hdf hbase hdep
    have := handAll_get ops.toList 0 hob i o (by simpa using ho)
    rw [Nat.zero_add] at this
    refine this a w' hfr (fun s hs => hbase s (notDst_spec hs)) (fun j d hj hd => ?_)
    unfold depOn at hj
    rw [ho] at hj
    simp only at hj
    obtain ⟨n, hn, heq⟩ := Array.any_eq_true.1 hj
    have : (o.after[n]).on = j := by simpa using heq
    subst this
    exact hdep _ (Array.getElem_mem hn) d hd
  · intro a w' hfr hdf hsz hbase hall
    exact hend a w' hfr hdf hsz (fun s hs => hbase s (notDst_spec hs)) hall

/-- the frame behind them all. -/
def layL : List Oper → Nat → (Nat → Value) → Act → Act
  | [], _, _, a => a
  | o :: r, i, vs, a => layL r (i + 1) vs (a.put o.dst (vs i))
theorem layL_size (l : List Oper) : ∀ (i : Nat) (vs : Nat → Value) (a : Act), (layL l i vs a).tmps.size = a.tmps.size ∧ (layL l i vs a).defers = a.defers := by
  induction l with
  | nil => intro i vs a; exact ⟨rfl, rfl⟩
  | cons o l ih =>
    intro i vs a
    have := ih (i + 1) vs (a.put o.dst (vs i))
    rw [layL]
    cases hd : o.dst <;> simp [hd, Act.put] at this ⊢ <;> exact this
/-- a frame that has these values where the operations write, and else what was there, is that one. -/
theorem layL_is (b : Act) (l : List Oper) : ∀ (i : Nat) (vs : Nat → Value) (a : Act), a.tmps.size = b.tmps.size → (∀ (j : Nat) (o : Oper) (d : Nat), l[j]? = some o → o.dst = some d → b.eval (.tmp d) = vs (i + j)) →
    (∀ s, b.eval (.tmp s) = a.eval (.tmp s) ∨ ∃ (j : Nat) (o : Oper), l[j]? = some o ∧ o.dst = some s) → ∀ s, (layL l i vs a).eval (.tmp s) = b.eval (.tmp s) := by
  induction l with
  | nil =>
    intro i vs a hsz hv hb s
    rcases hb s with h | ⟨j, o, h, _⟩
    · exact h.symm
    · simp at h
  | cons o l ih =>
    intro i vs a hsz hv hb
    rw [layL]
    refine ih (i + 1) vs _ ?_ (fun j o' d ho hd => ?_) (fun s => ?_)
    · cases hd : o.dst <;> simpa [Act.put] using hsz
    · rw [hv (j + 1) o' d (by simpa using ho) hd]; congr 1; omega
    · by_cases hs : o.dst = some s
      · left
        have h0 := hv 0 o s (by simp) hs
        rw [h0, hs]
        by_cases hlt : s < a.tmps.size
        · simp [Act.put, Act.eval, hlt]
        · have hge : a.tmps.size ≤ s := Nat.le_of_not_lt hlt
          have hb2 : b.eval (.tmp s) = undef := by simp [Act.eval, Array.getElem?_eq_none (show b.tmps.size ≤ s from hsz ▸ hge)]
          rw [← h0, hb2]
          simp [Act.put, Act.eval]
          intro hh; exact absurd hh hlt
      · rcases hb s with h | ⟨j, o', ho', hd'⟩
        · left
          rw [h]
          cases hd : o.dst with
          | none => rfl
          | some d =>
            have hds : d ≠ s := fun e => hs (by rw [hd, e])
            simp [Act.put, Act.eval, hds]
        · cases j with
          | zero => simp at ho'; subst ho'; exact absurd hd' hs
          | succ j => exact Or.inr ⟨j, o', by simpa using ho', hd'⟩

/-- The law: each operation hands what is said of it; so do all, whatever the order. -/
theorem wp_region_lay {id : Nat} {l : List Oper} {a0 : Act} {w : World} (hm : P.follows .mixedOrders = true) (fs : List MFact) (hok : regionOk l.toArray a0.tmps.size = true)
    (hob : HandAll P l.toArray fs a0 w.drew Q 0 l)
    (hend : ∀ (vs : Nat → Value) w', Fr noB w.drew w' → (∀ i, (l[i]?.bind (·.dst)).isSome = true → factAt fs i (vs i) w') → Q .normal (layL l 0 vs a0) w') : (Code.region id l.toArray true).wp P Q a0 w := by
  refine wp_region_facts hm fs hok (by simpa using hob) (fun a w' hfr hdf hsz hbase hall => ?_)
  have hdl : ∀ i, dstAt l.toArray i = l[i]?.bind (·.dst) := fun i => by simp [dstAt]
  have h := hend (fun i => match l[i]?.bind (·.dst) with | some d => a.eval (.tmp d) | none => undef) w' hfr (fun i hi => by
    cases hd : l[i]?.bind (·.dst) with
    | none => rw [hd] at hi; cases hi
    | some d => simpa only [hd] using hall i d (by rw [hdl]; exact hd))
  have e : layL l 0 (fun i => match l[i]?.bind (·.dst) with | some d => a.eval (.tmp d) | none => undef) a0 = a := by
    have h2 := layL_size l 0 (fun i => match l[i]?.bind (·.dst) with | some d => a.eval (.tmp d) | none => undef) a0
    have h3 := layL_is a l 0 (fun i => match l[i]?.bind (·.dst) with | some d => a.eval (.tmp d) | none => undef) a0 hsz.symm (fun j o d ho hd => by simp [ho, hd]) (fun s => by
      cases hn : notDst l.toArray s with
      | true => exact Or.inl (hbase s hn)
      | false =>
        right
        unfold notDst at hn
        rw [List.all_eq_false] at hn
        obtain ⟨j, hj, hq⟩ := hn
        have hd : dstAt l.toArray j = some s := by simpa using hq
        rw [hdl] at hd
        obtain ⟨o, ho, hod⟩ := Option.bind_eq_some_iff.1 hd
        exact ⟨j, o, ho, hod⟩)
    generalize layL l 0 (fun i => match l[i]?.bind (·.dst) with | some d => a.eval (.tmp d) | none => undef) a0 = b at *
    obtain ⟨bt, bd⟩ := b
    obtain ⟨at', ad⟩ := a
    simp only at h2 hsz hdf
    have hd : bd = ad := by rw [h2.2, hdf]
    have ht : bt = at' := by
      apply Array.ext
      · omega
      · intro i hi hi'
        have := h3 i
        simpa [Act.eval, hi, hi'] using this
    rw [hd, ht]
  rwa [e] at h

variable {a : Act} {w : World} {o : Oper} {fs : List MFact} {k : Nat}
theorem hands_val {v : Value} {w' : World} (hw : Region.wanted o (yielded ops a.tmps) = true) (hrun : (execOp a.eval o).run P w = .ok (.value v) w') (hf : Fr noB w w') (hF : factAt fs k v w') :
    if Region.wanted o (yielded ops a.tmps) = true then o.wp P a w (fun a' w' => ∃ v, a' = a.put o.dst v ∧ Fr noB w w' ∧ factAt fs k v w') Q else factAt fs k undef w := by
  rw [if_pos hw]
  unfold Oper.wp
  rw [hrun]
  exact ⟨v, rfl, hf, hF⟩
theorem hands_call {f : FuncId} {args : Array Value} (hw : Region.wanted o (yielded ops a.tmps) = true) (hrun : (execOp a.eval o).run P w = .ok (.enter f args) w)
    (hc : Calls P f args w fun e w' => ∃ v, e = .returned v ∧ Fr noB w w' ∧ factAt fs k v w') :
    if Region.wanted o (yielded ops a.tmps) = true then o.wp P a w (fun a' w' => ∃ v, a' = a.put o.dst v ∧ Fr noB w w' ∧ factAt fs k v w') Q else factAt fs k undef w := by
  rw [if_pos hw]
  unfold Oper.wp
  rw [hrun]
  refine hc.mono ?_
  rintro e w' ⟨v, rfl, hf, hF⟩
  exact ⟨v, rfl, hf, hF⟩
theorem wanted_of {j d : Nat} {b : Bool} (hg : o.guard = some (j, b)) (hd : dstAt ops j = some d) (h : a.eval (.tmp d) = .bool b) : Region.wanted o (yielded ops a.tmps) = true := by
  have h1 : a.tmps[d]? = some (.bool b) := by
    have h2 : a.tmps.getD d undef = .bool b := h
    rw [Array.getD_eq_getD_getElem?] at h2
    cases hq : a.tmps[d]? with
    | none => rw [hq] at h2; simp [undef] at h2
    | some v => rw [hq] at h2; simp at h2; rw [h2]
  unfold dstAt at hd
  simp [Region.wanted, hg, yielded, hd, h1]
end
theorem run_cuth {P : Program} {w : World} (t e : TypeId) (ht : P.underlying t = some (.slice e)) (sz : Nat) (hsz : (P.info? e).map (·.size) = some sz) (ao : Option Addr) (n cap : Nat) (kh : IntKind) (j : Nat) (hj : j ≤ cap) :
    (Instr.sliceAt t (.slice ao n cap) none (some (.int kh (j : Int))) none).run P w = .ok (.slice ao j cap) w := by
  obtain ⟨ii, hinf, hsz'⟩ := Option.map_eq_some_iff.1 hsz
  have e0 : (ao.map (·.add 0) : Option Addr) = ao := by cases ao <;> rfl
  simp [Instr.sliceAt, Instr.slice, Instr.sliceBounds, Instr.sliceBound, asIntOf, run_underlying ht, sizeOf, typeInfo, hinf, go_sem]
  omega
end Go.Proofs.U
/- Regions that draw their order, some of whose operations turn memory, each of these waiting for the one before it; no condition. -/
namespace Go.Proofs.U
open Go.RowKit
set_option linter.unusedVariables false

section
variable {P : Program} {ops : Array Oper} {Q : Exit → Act → World → Prop}

/-- What is known while such a region runs: hv are the values of those of hs that came up. -/
structure KnowC (ops : Array Oper) (hs : List Nat) (F : Nat → Value → Prop) (J : List Value → World → Prop) (a0 : Act) (listed : Array Bool) (a : Act) (w : World) (hv : List Value) : Prop where
  len : hv.length ≤ hs.length
  pre : ∀ (k i : Nat), hs[k]? = some i → (listed.getD i false = true ↔ k < hv.length)
  val : ∀ (k i d : Nat) (v : Value), hs[k]? = some i → hv[k]? = some v → dstAt ops i = some d → a.tmps.getD d undef = v
  dfr : a.defers = a0.defers
  sz : a.tmps.size = a0.tmps.size
  base : ∀ s, (∀ i, dstAt ops i ≠ some s) → a.tmps.getD s undef = a0.tmps.getD s undef
  fact : ∀ i d, i ∉ hs → listed.getD i false = true → dstAt ops i = some d → F i (a.tmps.getD d undef)
  inv : J hv w

/-- What is asked of one operation. -/
def HandsC (P : Program) (ops : Array Oper) (hs : List Nat) (F : Nat → Value → Prop) (J : List Value → World → Prop) (a0 : Act) (Q : Exit → Act → World → Prop) (i : Nat) (o : Oper) : Prop :=
  ∀ (a : Act) (w : World) (hv : List Value), hv.length ≤ hs.length → (∀ (p j : Nat) (o' : Oper), hs[p]? = some j → ops[j]? = some o' → (∃ e ∈ o'.after, Region.binds .any e = true ∧ e.on = i) → hv.length ≤ p) → J hv w → (∀ s, (∀ i, dstAt ops i ≠ some s) → a.eval (.tmp s) = a0.eval (.tmp s)) →
    (∀ e ∈ o.after, Region.binds .any e = true → ∀ d, dstAt ops e.on = some d → (e.on ∉ hs → F e.on (a.eval (.tmp d))) ∧ ∀ (k : Nat), hs[k]? = some e.on → hv[k]? = some (a.eval (.tmp d))) →
    (i ∉ hs → if Region.wanted o (yielded ops a.tmps) = true then o.wp P a w (fun a' w' => ∃ v, a' = a.put o.dst v ∧ J hv w' ∧ F i v) Q else F i undef) ∧
    (∀ (k : Nat), hs[k]? = some i → hv.length = k → if Region.wanted o (yielded ops a.tmps) = true then o.wp P a w (fun a' w' => ∃ v, a' = a.put o.dst v ∧ J (hv ++ [v]) w') Q else J (hv ++ [undef]) w)

theorem put_other {a : Act} {o : Oper} {v : Value} {d : Nat} (hne : o.dst ≠ some d) : (a.put o.dst v).tmps.getD d undef = a.tmps.getD d undef := by
  cases hd : o.dst with
  | none => rfl
  | some d' =>
    have hds : d' ≠ d := fun e => hne (by rw [hd, e])
    simp only [Act.put, Array.getD_eq_getD_getElem?, Array.getElem?_setIfInBounds, hds, if_false]
theorem put_same {a : Act} {o : Oper} {v : Value} {d : Nat} (he : o.dst = some d) (hlt : d < a.tmps.size) : (a.put o.dst v).tmps.getD d undef = v := by
  rw [he]; simp [Act.put, hlt]

theorem wp_region_chain {id : Nat} {a0 : Act} {w : World} (hm : P.follows .mixedOrders = true) (hs : List Nat) (F : Nat → Value → Prop) (J : List Value → World → Prop) (hJ : J [] w.drew)
    (hlow : ∀ (i : Nat) (o : Oper), ops[i]? = some o → ∀ e ∈ o.after, Region.binds .any e = true → e.on < i)
    (hdist : ∀ i j d, dstAt ops i = some d → dstAt ops j = some d → i = j)
    (hin : ∀ i d, dstAt ops i = some d → d < a0.tmps.size)
    (hhs : ∀ (k i : Nat), hs[k]? = some i → i < ops.size)
    (hnd : hs.Nodup)
    (hch : ∀ (k i j : Nat) (o : Oper), hs[k]? = some i → hs[k + 1]? = some j → ops[j]? = some o → ∃ e ∈ o.after, Region.binds .any e = true ∧ e.on = i)
    (hob : ∀ (i : Nat) (o : Oper), ops[i]? = some o → HandsC P ops hs F J a0 Q i o)
    (hend : ∀ a w' hv, hv.length = hs.length → J hv w' → a.defers = a0.defers → a.tmps.size = a0.tmps.size → (∀ s, (∀ i, dstAt ops i ≠ some s) → a.eval (.tmp s) = a0.eval (.tmp s)) →
      (∀ i d, i ∉ hs → dstAt ops i = some d → F i (a.eval (.tmp d))) → (∀ (k i d : Nat) (v : Value), hs[k]? = some i → hv[k]? = some v → dstAt ops i = some d → a.eval (.tmp d) = v) → Q .normal a w') : (Code.region id ops true).wp P Q a0 w := by
  have uniq : ∀ (k k' i : Nat), hs[k]? = some i → hs[k']? = some i → k = k' := by
    intro k k' i h1 h2
    obtain ⟨l1, e1⟩ := List.getElem?_eq_some_iff.1 h1
    obtain ⟨l2, e2⟩ := List.getElem?_eq_some_iff.1 h2
    exact (List.getElem_inj hnd).1 (e1.trans e2.symm)
  refine wp_region_any hm ?_
  show wpAny P .any ops Q ops.size (Array.replicate ops.size false) a0 w.drew
  refine wpAny_inv (fun listed a w' => listed.size = ops.size ∧ (∃ hv, KnowC ops hs F J a0 listed a w' hv) ∧ ∀ i, listed.getD i false = true → ∀ o, ops[i]? = some o → ∀ e ∈ o.after, Region.binds .any e = true → listed.getD e.on false = true) ?_ ?_ ops.size (List.range ops.size) _ a0 _ ?_ (by simp) ?_
  · rintro listed a w' i ⟨hsz, ⟨hv, hK⟩, hcl⟩ hi
    obtain ⟨hun, o, ho, hall⟩ := mem_ready.1 hi
    have hilt : i < listed.size := by
      rcases Nat.lt_or_ge i listed.size with h' | h'
      · exact h'
      · simp [Array.getElem?_eq_none h'] at hun
    have hunf : listed.getD i false = false := by
      have h2 : listed.getD i true = listed.getD i false := by simp [hilt]
      rw [← h2]; exact hun
    have hdo : dstAt ops i = o.dst := by simp [dstAt, ho]
    have hdep : ∀ e ∈ o.after, Region.binds .any e = true → ∀ d, dstAt ops e.on = some d → (e.on ∉ hs → F e.on (a.eval (.tmp d))) ∧ ∀ (k : Nat), hs[k]? = some e.on → hv[k]? = some (a.eval (.tmp d)) := by
      intro e he hb d hd
      have hl := hall e he hb
      refine ⟨fun hn => hK.fact e.on d hn hl hd, fun k hk => ?_⟩
      have hlt := (hK.pre k e.on hk).1 hl
      have := hK.val k e.on d hv[k] hk (List.getElem?_eq_getElem hlt) hd
      rw [List.getElem?_eq_getElem hlt, ← this]; rfl
    have hbef : ∀ (p j : Nat) (o' : Oper), hs[p]? = some j → ops[j]? = some o' → (∃ e ∈ o'.after, Region.binds .any e = true ∧ e.on = i) → hv.length ≤ p := by
      intro p j o' hp hj he
      obtain ⟨e, he, hbe, hei⟩ := he
      rcases Nat.lt_or_ge p hv.length with hlt | hge
      · have h1 := hcl j ((hK.pre p j hp).2 hlt) o' hj e he hbe
        rw [hei, hunf] at h1; cases h1
      · exact hge
    have key := hob i o ho a w' hv hK.len hbef hK.inv hK.base hdep
    have lk : ∀ j, listed.getD j false = true → (listed.setIfInBounds i true).getD j false = true := by
      intro j hj
      by_cases hij : i = j
      · subst hij; simp [hilt]
      · simpa [Array.getElem?_setIfInBounds, hij] using hj
    have ldj : ∀ j, (listed.setIfInBounds i true).getD j false = true → j = i ∨ listed.getD j false = true := by
      intro j hj
      by_cases hij : i = j
      · exact Or.inl hij.symm
      · exact Or.inr (by simpa [Array.getElem?_setIfInBounds, hij] using hj)
    have lsame : (listed.setIfInBounds i true).getD i false = true := by simp [hilt]
    have lother : ∀ j, j ≠ i → (listed.setIfInBounds i true).getD j false = listed.getD j false := by
      intro j hj
      simp [Ne.symm hj]
    have closed : ∀ j, (listed.setIfInBounds i true).getD j false = true → ∀ o, ops[j]? = some o → ∀ e ∈ o.after, Region.binds .any e = true → (listed.setIfInBounds i true).getD e.on false = true := by
      intro j hj oj hoj e he hbe
      rcases ldj j hj with rfl | hj'
      · rw [ho] at hoj; cases hoj
        exact lk _ (hall e he hbe)
      · exact lk _ (hcl j hj' oj hoj e he hbe)
    have cdfr : ∀ v, (a.put o.dst v).defers = a0.defers := fun v => by cases hd : o.dst <;> simpa [Act.put] using hK.dfr
    have csz : ∀ v, (a.put o.dst v).tmps.size = a0.tmps.size := fun v => by cases hd : o.dst <;> simpa [Act.put] using hK.sz
    have cbase : ∀ v s, (∀ i, dstAt ops i ≠ some s) → (a.put o.dst v).tmps.getD s undef = a0.tmps.getD s undef := fun v s hs' => by
      rw [put_other (fun e => hs' i (by rw [hdo]; exact e))]; exact hK.base s hs'
    have ne_dst : ∀ j d, j ≠ i → dstAt ops j = some d → o.dst ≠ some d := fun j d hj hd e => hj (hdist j i d hd (by rw [hdo]; exact e))
    unfold wpOp
    simp only [ho]
    by_cases hh : i ∈ hs
    · -- one of the chain
      obtain ⟨k, hk⟩ := List.getElem?_of_mem hh
      have hnk : ¬ k < hv.length := fun h => by have := (hK.pre k i hk).2 h; rw [hunf] at this; cases this
      have hlen : hv.length = k := by
        rcases Nat.eq_zero_or_pos k with h0 | h0
        · omega
        · obtain ⟨k', rfl⟩ : ∃ k', k = k' + 1 := ⟨k - 1, by omega⟩
          obtain ⟨hkl, _⟩ := List.getElem?_eq_some_iff.1 hk
          have hk' : hs[k']? = some (hs[k']'(by omega)) := List.getElem?_eq_getElem (by omega)
          obtain ⟨e, he, hbe, hei⟩ := hch k' _ i o hk' hk ho
          have := (hK.pre k' _ hk').1 (by rw [← hei]; exact hall e he hbe)
          omega
      have hkl : k < hs.length := (List.getElem?_eq_some_iff.1 hk).1
      have next : ∀ v w'', J (hv ++ [v]) w'' → (listed.setIfInBounds i true).size = ops.size ∧ (∃ hv, KnowC ops hs F J a0 (listed.setIfInBounds i true) (a.put o.dst v) w'' hv) ∧ ∀ j, (listed.setIfInBounds i true).getD j false = true → ∀ o, ops[j]? = some o → ∀ e ∈ o.after, Region.binds .any e = true → (listed.setIfInBounds i true).getD e.on false = true := by
        intro v w'' hJ'
        refine ⟨by simpa using hsz, ⟨hv ++ [v], ?_, ?_, ?_, cdfr v, csz v, cbase v, ?_, hJ'⟩, closed⟩
        · simp; omega
        · intro k2 i2 hk2
          by_cases hii : i2 = i
          · subst hii
            have := uniq k2 k i2 hk2 hk
            subst this
            simp [lsame]; omega
          · rw [lother i2 hii, hK.pre k2 i2 hk2]
            have : k2 ≠ k := fun e => hii (by rw [e, hk] at hk2; exact (Option.some.inj hk2).symm)
            simp; omega
        · intro k2 i2 d v2 hk2 hv2 hd2
          by_cases hii : i2 = i
          · subst hii
            have := uniq k2 k i2 hk2 hk
            subst this
            rw [hdo] at hd2
            rw [put_same hd2 (by rw [hK.sz]; exact hin i2 d (by rw [hdo]; exact hd2))]
            rw [List.getElem?_append_right (by omega)] at hv2
            simpa [hlen] using hv2
          · rw [put_other (ne_dst i2 d hii hd2)]
            have hkne : k2 ≠ k := fun e => hii (by rw [e, hk] at hk2; exact (Option.some.inj hk2).symm)
            have hlt2 : k2 < (hv ++ [v]).length := (List.getElem?_eq_some_iff.1 hv2).1
            rw [List.getElem?_append_left (by simp at hlt2; omega)] at hv2
            exact hK.val k2 i2 d v2 hk2 hv2 hd2
        · intro j d hj hl hd
          have hji : j ≠ i := fun e => hj (e ▸ hh)
          rw [put_other (ne_dst j d hji hd)]
          rw [lother j hji] at hl
          exact hK.fact j d hj hl hd
      have key2 := key.2 k hk hlen
      by_cases hw : Region.wanted o (yielded ops a.tmps) = true
      · rw [if_pos hw] at key2 ⊢
        refine Or.inl (Oper.wp_mono ?_ key2)
        rintro a' w'' ⟨v, rfl, hF⟩
        exact next v w'' hF
      · rw [if_neg hw] at key2 ⊢
        exact next undef w' key2
    · have next : ∀ v w'', J hv w'' → F i v → (listed.setIfInBounds i true).size = ops.size ∧ (∃ hv, KnowC ops hs F J a0 (listed.setIfInBounds i true) (a.put o.dst v) w'' hv) ∧ ∀ j, (listed.setIfInBounds i true).getD j false = true → ∀ o, ops[j]? = some o → ∀ e ∈ o.after, Region.binds .any e = true → (listed.setIfInBounds i true).getD e.on false = true := by
        intro v w'' hJ' hF
        refine ⟨by simpa using hsz, ⟨hv, hK.len, ?_, ?_, cdfr v, csz v, cbase v, ?_, hJ'⟩, closed⟩
        · intro k2 i2 hk2
          have hii : i2 ≠ i := fun e => hh (e ▸ List.mem_of_getElem? hk2)
          rw [lother i2 hii]; exact hK.pre k2 i2 hk2
        · intro k2 i2 d v2 hk2 hv2 hd2
          have hii : i2 ≠ i := fun e => hh (e ▸ List.mem_of_getElem? hk2)
          rw [put_other (ne_dst i2 d hii hd2)]
          exact hK.val k2 i2 d v2 hk2 hv2 hd2
        · intro j d hj hl hd
          by_cases hji : j = i
          · subst hji
            rw [hdo] at hd
            rw [put_same hd (by rw [hK.sz]; exact hin j d (by rw [hdo]; exact hd))]
            exact hF
          · rw [put_other (ne_dst j d hji hd)]
            rw [lother j hji] at hl
            exact hK.fact j d hj hl hd
      have key1 := key.1 hh
      by_cases hw : Region.wanted o (yielded ops a.tmps) = true
      · rw [if_pos hw] at key1 ⊢
        refine Or.inl (Oper.wp_mono ?_ key1)
        rintro a' w'' ⟨v, rfl, hJ', hF⟩
        exact next v w'' hJ' hF
      · rw [if_neg hw] at key1 ⊢
        exact next undef w' hK.inv key1
  · rintro listed a w' ⟨hsz, ⟨hv, hK⟩, hcl⟩ h0
    have hall : ∀ n i, i < n → i < ops.size → listed.getD i false = true := by
      intro n
      induction n with
      | zero => intro i h; omega
      | succ n ihn =>
        intro i hi hlt
        rcases Nat.lt_or_ge i n with hn | hn
        · exact ihn i hn hlt
        · obtain rfl : i = n := by omega
          cases hq : listed.getD i false with
          | true => rfl
          | false =>
            exfalso
            have hls : i < listed.size := by omega
            have ho : ops[i]? = some ops[i] := Array.getElem?_eq_getElem hlt
            have hmem : i ∈ Region.ready .any ops listed := mem_ready.2 ⟨by
              have h2 : listed.getD i true = listed.getD i false := by simp [hls]
              rw [h2]; exact hq, ops[i], ho, fun e he hbe => ihn e.on (hlow i _ ho e he hbe) (by have := hlow i _ ho e he hbe; omega)⟩
            rw [h0] at hmem; cases hmem
    have inb : ∀ i d, dstAt ops i = some d → i < ops.size := by
      intro i d hd
      rcases Nat.lt_or_ge i ops.size with h' | h'
      · exact h'
      · simp [dstAt, Array.getElem?_eq_none h'] at hd
    have hfull : hv.length = hs.length := by
      rcases Nat.lt_or_ge hv.length hs.length with h' | h'
      · exfalso
        have hk : hs[hv.length]? = some hs[hv.length] := List.getElem?_eq_getElem h'
        have := (hK.pre _ _ hk).1 (hall _ _ (Nat.lt_succ_self _) (hhs _ _ hk))
        omega
      · have := hK.len; omega
    exact hend a w' hv hfull hK.inv hK.dfr hK.sz hK.base (fun i d hn hd => hK.fact i d hn (hall (i + 1) i (by omega) (inb i d hd)) hd) hK.val
  · intro i hi
    rcases Nat.lt_or_ge i ops.size with h' | h'
    · simpa using h'
    · simp [h'] at hi
  · have nolist : ∀ i, (Array.replicate ops.size false).getD i false = false := fun i => by
      rcases Nat.lt_or_ge i ops.size with h' | h' <;> simp [h']
    refine ⟨by simp, ⟨[], Nat.zero_le _, fun k i hk => ?_, fun k i d v _ h => by simp at h, rfl, rfl, fun _ _ => rfl, fun i d _ hl => ?_, hJ⟩, fun i hl => ?_⟩
    · rw [nolist i]; simp
    · rw [nolist i] at hl; cases hl
    · rw [nolist i] at hl; cases hl
end
end Go.Proofs.U
