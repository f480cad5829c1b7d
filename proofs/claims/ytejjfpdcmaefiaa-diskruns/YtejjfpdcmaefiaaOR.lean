/- Rows of the call's own making whose elements take several cells: read, stored, appended to; no condition. -/
import Derived.Test.YtejjfpdcmaefiaaPG
import Derived.Test.YtejjfpdcmaefiaaBase3
namespace Go.Proofs.U
open Go.RowKit
set_option linter.unusedSimpArgs false
set_option linter.unusedVariables false

def OwnR {α : Type} (ec : α → List Value) (sz : Nat) (e : TypeId) (w : World) (base : Nat) (v : Value) (l : List α) : Prop := (∀ x ∈ l, (ec x).length = sz) ∧ w.ownsRow base e sz v l.length (l.flatMap ec)

section
variable {α : Type} {ec : α → List Value} {sz : Nat} {e : TypeId} {w w' : World} {base : Nat} {v : Value} {l : List α}
theorem OwnR.sl (h : OwnR ec sz e w base v l) : SlR ec sz w v l := ⟨h.1, Sl.of_owns h.2⟩
theorem OwnR.opn (h : OwnR ec sz e w base v l) : ∃ a cap, v = .slice a l.length cap := by
  obtain ⟨a, cap, hv, _⟩ := h.sl.opn; exact ⟨a, cap, hv⟩
theorem OwnR.newB (h : OwnR ec sz e w base v l) : ∀ j, v.ownBlock = some j → base ≤ j ∧ j < w.heap.size := World.ownsRow.lt h.2
theorem OwnR.fr {S : Nat → Prop} (h : OwnR ec sz e w base v l) (hf : Fr S w w') (hs : ∀ k, v.ownBlock = some k → ¬ S k) : OwnR ec sz e w' base v l := by
  refine ⟨h.1, h.2.1, ?_⟩
  rcases h.2.2 with h0 | ⟨g, cap, cur, hv, h1, h2, h3⟩
  · exact Or.inl h0
  · exact Or.inr ⟨g, cap, cur, hv, h1, (hf.block g (Array.getElem?_eq_some_iff.1 h2).1 (hs g (by rw [hv]; rfl))).trans h2, h3⟩
theorem OwnR.fr0 (h : OwnR ec sz e w base v l) (hf : Fr noB w w') : OwnR ec sz e w' base v l := h.fr hf (fun _ _ q => q)
theorem OwnR.ne {g : Nat} (h : OwnR ec sz e w base v l) (hf : Fr (onB1 g) w w') (hg : ∀ k, v.ownBlock = some k → k ≠ g) : OwnR ec sz e w' base v l := h.fr hf (fun k hk q => hg k hk q)
theorem OwnR.rebase {b : Nat} (h : OwnR ec sz e w base v l) (hb : b ≤ base) : OwnR ec sz e w b v l := by
  refine ⟨h.1, h.2.1, ?_⟩
  rcases h.2.2 with h0 | ⟨g, cap, cur, hv, h1, h3⟩
  · exact Or.inl h0
  · exact Or.inr ⟨g, cap, cur, hv, Nat.le_trans hb h1, h3⟩
/-- Rows of other types lie apart. -/
theorem OwnR.apart {β : Type} {ec' : β → List Value} {sz' : Nat} {e' : TypeId} {base' : Nat} {v' : Value} {l' : List β} (h : OwnR ec sz e w base v l) (h' : OwnR ec' sz' e' w base' v' l') (hne : e ≠ e') : ∀ q, v.ownBlock = some q → v'.ownBlock = some q → False := by
  intro q hq hq'
  rcases h.2.2 with ⟨rfl, _⟩ | ⟨g, cap, cur, rfl, _, h2, _⟩
  · simp [Value.ownBlock] at hq
  rcases h'.2.2 with ⟨rfl, _⟩ | ⟨g', cap', cur', rfl, _, h2', _⟩
  · simp [Value.ownBlock] at hq'
  simp [Value.ownBlock] at hq hq'
  subst hq hq'
  rw [h2] at h2'
  simp at h2'
  exact hne h2'.2
/-- Its block, where there is an element. -/
theorem OwnR.bx (h : OwnR ec sz e w base v l) (hl : 0 < l.length) :
    ∃ g cap cur, v = .slice (some ⟨g, 0, none⟩) l.length cap ∧ base ≤ g ∧ BxV w g e cur ∧ l.length * sz ≤ cur.length ∧ cur.take (l.length * sz) = l.flatMap ec ∧
      ∀ (w' : World) (cur' : List Value) (l' : List α), BxV w' g e cur' → cur'.length = cur.length → l'.length = l.length → (∀ x ∈ l', (ec x).length = sz) → cur'.take (l.length * sz) = l'.flatMap ec → OwnR ec sz e w' base v l' := by
  rcases h.2.2 with ⟨_, hn⟩ | ⟨g, cap, cur, hv, h1, h2, h3, h4, h5, h6⟩
  · omega
  · have hlen : l.length * sz ≤ cur.toList.length := by
      have : cur.toList.length = cap * sz := by rw [← h5]; exact Array.length_toList
      rw [this]; exact Nat.mul_le_mul_right _ h3
    refine ⟨g, cap, cur.toList, hv, h1, h2, hlen, h6, ?_⟩
    intro w' cur' l' hb hc hl' hall htk
    refine ⟨hall, ?_, Or.inr ⟨g, cap, cur'.toArray, by rw [hl']; exact hv, h1, hb, by rw [hl']; exact h3, h4, ?_, ?_⟩⟩
    · rw [← htk, List.length_take, hc, hl']; omega
    · rw [List.size_toArray, hc, Array.length_toList, h5]
    · rw [hl']; exact htk
theorem flat_put (l : List α) (hall : ∀ x ∈ l, (ec x).length = sz) (j : Nat) (hj : j < l.length) (x : α) (hx : (ec x).length = sz) (cur : List Value) (hlen : l.length * sz ≤ cur.length) (hc : cur.take (l.length * sz) = l.flatMap ec) :
    (putAt cur (j * sz) (ec x)).take (l.length * sz) = (l.set j x).flatMap ec := by
  have e1 : cur = l.flatMap ec ++ cur.drop (l.length * sz) := by rw [← hc, List.take_append_drop]
  have hfl : ∀ m : List α, (∀ x ∈ m, (ec x).length = sz) → (m.flatMap ec).length = m.length * sz := by
    intro m hm
    induction m with
    | nil => simp
    | cons y m ih => rw [List.flatMap_cons, List.length_append, hm y (by simp), ih (fun z hz => hm z (by simp [hz])), List.length_cons, Nat.succ_mul]; omega
  have hsp : l = l.take j ++ l[j] :: l.drop (j + 1) := by rw [List.getElem_cons_drop, List.take_append_drop]
  have hset : l.set j x = l.take j ++ x :: l.drop (j + 1) := by rw [List.set_eq_take_append_cons_drop, if_pos hj]
  have hA : ((l.take j).flatMap ec).length = j * sz := by rw [hfl _ (fun y hy => hall y (List.mem_of_mem_take hy))]; rw [List.length_take, Nat.min_eq_left (by omega)]
  have hlj := hall l[j] (by simp)
  have hflat : l.flatMap ec = (l.take j).flatMap ec ++ (ec l[j] ++ (l.drop (j + 1)).flatMap ec) := by
    conv => lhs; rw [hsp]
    rw [List.flatMap_append, List.flatMap_cons]
  have htake : cur.take (j * sz) = (l.take j).flatMap ec := by
    rw [e1, hflat, List.append_assoc, List.take_left' hA]
  have hdrop : cur.drop (j * sz + sz) = (l.drop (j + 1)).flatMap ec ++ cur.drop (l.length * sz) := by
    conv => lhs; rw [e1]
    rw [hflat]
    simp only [List.append_assoc]
    rw [← List.append_assoc, List.drop_left' (by rw [List.length_append, hA, hlj])]
  unfold putAt
  rw [hx, htake, hdrop, hset, List.flatMap_append, List.flatMap_cons]
  have hB : ((l.drop (j + 1)).flatMap ec).length = (l.length - (j + 1)) * sz := by rw [hfl _ (fun y hy => hall y (List.mem_of_mem_drop hy))]; simp
  have htot : ((l.take j).flatMap ec ++ ec x ++ (l.drop (j + 1)).flatMap ec).length = l.length * sz := by
    rw [List.length_append, List.length_append, hA, hx, hB]
    have : l.length = j + 1 + (l.length - (j + 1)) := by omega
    conv => rhs; rw [this, Nat.add_mul, Nat.add_mul, Nat.one_mul]
  rw [← List.append_assoc, List.take_left' htot, List.append_assoc]

variable {P : Program} {ops : Array Oper} {rest : List Oper} {o : Oper} {a : Act} {Q : Exit → Act → World → Prop}
/-- x[j], x a row of the call's own making. -/
theorem wpList_idxO (hgd : Region.wanted o (yielded ops a.tmps) = true) (t : TypeId) (x i : Operand) (ho : o.op = .indexAddr t x i) (et : TypeId) (ht : P.underlying t = some (.slice et)) (hsz : (P.info? et).map (·.size) = some sz)
    (g n cap : Nat) (hx : a.eval x = .slice (some ⟨g, 0, none⟩) n cap) (k : IntKind) (z : Int) (j : Nat) (hi : a.eval i = .int k z) (hz : z = (j : Int)) (hj : j < n)
    (h : wpList P ops Q rest (a.put o.dst (.pointer (some ⟨g, j * sz, none⟩))) w) : wpList P ops Q (o :: rest) a w := by
  refine wpList_wanted hgd fun K hK => ?_
  subst hz
  obtain ⟨ii, hinf, hsz'⟩ := Option.map_eq_some_iff.1 hsz
  have hrun : (Instr.indexAt t (.slice (some ⟨g, 0, none⟩) n cap) (.int k (j : Int))).run P w = .ok (.pointer (some ⟨g, j * sz, none⟩)) w := by
    have h1 : (0 : Int) ≤ (j : Int) ∧ (j : Int) < (n : Int) := by omega
    simp [Instr.indexAt, asIntOf, run_underlying ht, h1, sizeOf, typeInfo, hinf, hsz', go_sem, Addr.plain]
    omega
  unfold Oper.wp
  simp [execOp, ho, hx, hi, hrun, Result.andThen]
  exact hK _ _ h
theorem run_idxO (t et : TypeId) (ht : P.underlying t = some (.slice et)) (hsz : (P.info? et).map (·.size) = some sz) (g n cap : Nat) (k : IntKind) (j : Nat) (hj : j < n) :
    (Instr.indexAt t (.slice (some ⟨g, 0, none⟩) n cap) (.int k (j : Int))).run P w = .ok (.pointer (some ⟨g, j * sz, none⟩)) w := by
  obtain ⟨ii, hinf, hsz'⟩ := Option.map_eq_some_iff.1 hsz
  have h1 : (0 : Int) ≤ (j : Int) ∧ (j : Int) < (n : Int) := by omega
  simp [Instr.indexAt, asIntOf, run_underlying ht, h1, sizeOf, typeInfo, hinf, hsz', go_sem, Addr.plain]
  omega
/-- Where an element lies. -/
theorem OwnR.rangeK {g n cap : Nat} (hO : OwnR ec sz e w base (.slice (some ⟨g, 0, none⟩) n cap) l) (j : Nat) (hj : j < l.length) : w.rangeAt g (j * sz) (ec l[j]) := by
  obtain ⟨g', cap', cur, hv, h1, hB, h3, h4, h5⟩ := hO.bx (by omega)
  cases hv
  intro q u hq
  have hql : q < sz := by rw [← hO.1 l[j] (by simp)]; exact (List.getElem?_eq_some_iff.1 hq).1
  refine (hB.cell (j * sz + q) u ?_).1
  have hfl := flat_at ec sz l hO.1 j hj q hql
  rw [hq, ← h4, List.getElem?_take] at hfl
  split at hfl
  · exact hfl
  · cases hfl
theorem wp_stR {K : Act → World → Prop} (t : TypeId) (x y : Operand) (ho : o.op = .store t x y) (g n cap : Nat) (hO : OwnR ec sz e w base (.slice (some ⟨g, 0, none⟩) n cap) l) (j : Nat) (hj : j < l.length) (hx : a.eval x = .pointer (some ⟨g, j * sz, none⟩))
    (b : α) (hy : a.eval y = .agg (ec b).toArray) (hb : (ec b).length = sz) (hb1 : ∀ u ∈ ec b, u.oneCell' = true) (hi : (P.info? t).map (·.size) = some sz)
    (h : ∀ w', OwnR ec sz e w' base (.slice (some ⟨g, 0, none⟩) n cap) (l.set j b) → Fr (onB1 g) w w' → K (a.put o.dst undef) w') : o.wp P a w K Q := by
  obtain ⟨g', cap', cur, hv, h1, hB, h3, h4, h5⟩ := hO.bx (by omega)
  cases hv
  have hle : j * sz + sz ≤ cur.length := by
    have : (j + 1) * sz ≤ l.length * sz := Nat.mul_le_mul_right _ (by omega)
    rw [Nat.add_mul, Nat.one_mul] at this; omega
  refine wp_store_mid t x y ho g (j * sz) (ec b).toArray hx hy (by simpa using hB.thereR (j * sz) (ec b).length (by rw [hb]; exact hle)) (by rw [hi]; simp [hb]) (all_oneCell_toArray hb1) (h _ ?_ (setCells_fr1 w g _ _))
  have hB' := setCells_bx (ec b) (j * sz) w cur hB (by rw [hb]; exact hle)
  refine h5 _ _ _ hB' ?_ (by simp) ?_ (flat_put l hO.1 j hj b hb cur h3 h4)
  · unfold putAt; simp [hb]; omega
  · intro z hz
    rcases List.mem_or_eq_of_mem_set hz with hz | rfl
    · exact hO.1 z hz
    · exact hb
/-- x[j] = y, y a value of several cells. -/
theorem wpList_stR (hgd : o.guard = none) (t : TypeId) (x y : Operand) (ho : o.op = .store t x y) (g n cap : Nat) (hO : OwnR ec sz e w base (.slice (some ⟨g, 0, none⟩) n cap) l) (j : Nat) (hj : j < l.length) (hx : a.eval x = .pointer (some ⟨g, j * sz, none⟩))
    (b : α) (hy : a.eval y = .agg (ec b).toArray) (hb : (ec b).length = sz) (hb1 : ∀ u ∈ ec b, u.oneCell' = true) (hi : (P.info? t).map (·.size) = some sz)
    (h : ∀ w', OwnR ec sz e w' base (.slice (some ⟨g, 0, none⟩) n cap) (l.set j b) → Fr (onB1 g) w w' → wpList P ops Q rest (a.put o.dst undef) w') : wpList P ops Q (o :: rest) a w := by
  obtain ⟨g', cap', cur, hv, h1, hB, h3, h4, h5⟩ := hO.bx (by omega)
  cases hv
  have hle : j * sz + sz ≤ cur.length := by
    have : (j + 1) * sz ≤ l.length * sz := Nat.mul_le_mul_right _ (by omega)
    rw [Nat.add_mul, Nat.one_mul] at this; omega
  refine wpList_storeV hgd t x y ho g (j * sz) hx (ec b) hy e cur hB (by rw [hi, hb]) (by rw [hb]; exact hle) hb1 ?_
  intro w' hB' hf
  refine h w' (h5 w' _ _ hB' ?_ (by simp) ?_ (flat_put l hO.1 j hj b hb cur h3 h4)) hf
  · unfold putAt; simp [hb]; omega
  · intro z hz
    rcases List.mem_or_eq_of_mem_set hz with hz | rfl
    · exact hO.1 z hz
    · exact hb
/-- x[j] = y, y of one cell. -/
theorem wpList_stR1 {ec : α → List Value} {l : List α} (hgd : o.guard = none) (t : TypeId) (x y : Operand) (ho : o.op = .store t x y) (g n cap : Nat) (hO : OwnR ec 1 e w base (.slice (some ⟨g, 0, none⟩) n cap) l) (j : Nat) (hj : j < l.length) (hx : a.eval x = .pointer (some ⟨g, j, none⟩))
    (b : α) (u : Value) (hb : ec b = [u]) (hy : a.eval y = u) (hb1 : u.oneCell' = true) (hi : (P.info? t).map (·.size) = some 1)
    (h : ∀ w', OwnR ec 1 e w' base (.slice (some ⟨g, 0, none⟩) n cap) (l.set j b) → Fr (onB1 g) w w' → wpList P ops Q rest (a.put o.dst undef) w') : wpList P ops Q (o :: rest) a w := by
  obtain ⟨g', cap', cur, hv, h1, hB, h3, h4, h5⟩ := hO.bx (by omega)
  cases hv
  refine wpList_store1 hgd t x y ho g (j * 1) (by rw [Nat.mul_one]; exact hx) u hy hb1 e cur hB hi (by omega) ?_
  intro w' hB' hf
  have hp : cur.set (j * 1) u = putAt cur (j * 1) (ec b) := by
    rw [hb]; unfold putAt
    rw [List.set_eq_take_append_cons_drop, if_pos (by omega)]; simp
  rw [hp] at hB'
  refine h w' (h5 w' _ _ hB' ?_ (by simp) ?_ (flat_put l hO.1 j hj b (by rw [hb]; rfl) cur h3 h4)) hf
  · rw [← hp]; simp
  · intro z hz
    rcases List.mem_or_eq_of_mem_set hz with hz | rfl
    · exact hO.1 z hz
    · rw [hb]; rfl
/-- append(s, x...). -/
theorem wpList_appR (hgd : o.guard = none) (s x : Operand) (t : TypeId) (ho : o.op = .call { callee := .builtin .append, args := #[s, x], argTypes := #[t, t] })
    (base : Nat) (e : TypeId) (z : Value) (bytes : Nat) (ht : P.underlying t = some (.slice e)) (hinfo : (P.info? e).map (fun i => (i.zero, i.size, i.bytes)) = some (some z, sz, bytes)) (hzs : z.cells.size = sz) (hsz : 0 < sz)
    (v : Value) (l : List α) (hs : a.eval s = v) (hO : OwnR ec sz e w base v l) (vx : Value) (m : List α) (hx : a.eval x = vx) (hS : SlR ec sz w vx m) (h1 : ∀ y ∈ m, ∀ u ∈ ec y, u.oneCell' = true)
    (h63 : l.length + m.length ≤ maxLen) (hbytes : (l.length + m.length) * bytes ≤ 140737488355328) (hbase : base ≤ w.heap.size)
    (h : ∀ v' w', OwnR ec sz e w' base v' (l ++ m) → w.grownBy w' v.ownBlock → wpList P ops Q rest (a.put o.dst v') w') : wpList P ops Q (o :: rest) a w := by
  refine wpList_app hgd s x t ho base e z sz bytes ht hinfo hzs hsz v l.length (l.flatMap ec) hs hO.2 vx m.length (m.flatMap ec) hx hS.2 ?_ h63 hbytes hbase ?_
  · intro u hu
    obtain ⟨y, hy, hu⟩ := List.mem_flatMap.1 hu
    exact h1 y hy u hu
  · intro v' w' ho' hg
    refine h v' w' ⟨?_, by rw [List.length_append, List.flatMap_append]; exact ho'⟩ hg
    intro y hy
    rcases List.mem_append.1 hy with hy | hy
    · exact hO.1 y hy
    · exact hS.1 y hy
/-- []T{}: a row of no elements, its block a letter. -/
theorem wpList_mk0 (ec : α → List Value) (sz : Nat) (hgd : Region.wanted o (yielded ops a.tmps) = true) (t : TypeId) (ho : o.op = .buildSlice t 0 #[]) (e : TypeId) (ht : P.underlying t = some (.slice e)) (hsz : (P.info? e).map (·.size) = some sz)
    (h : ∀ g w', OwnR ec sz e w' w.heap.size (.slice (some ⟨g, 0, none⟩) 0 0) ([] : List α) → Fr noB w w' → w.heap.size ≤ g → g < w'.heap.size → wpList P ops Q rest (a.put o.dst (.slice (some ⟨g, 0, none⟩) 0 0)) w') : wpList P ops Q (o :: rest) a w := by
  refine wpList_wanted hgd fun K hK => ?_
  obtain ⟨ii, hinf, hsz'⟩ := Option.map_eq_some_iff.1 hsz
  have hrun : (execOp a.eval o).run P w = .ok (.value (.slice (some ⟨w.heap.size, 0, none⟩) 0 0)) (w.alloc (.cells #[] e)) := by
    simp only [execOp, ho]
    simp [go_sem, run_underlying ht, sizeOf, typeInfo, hinf, hsz']
  unfold Oper.wp
  rw [hrun]
  exact hK _ _ (h w.heap.size _ ⟨by simp, World.ownsRow_made w #[] 0 (Nat.le_refl _) (Nat.zero_le _) (by simp)⟩ ((Fr.refl _ _).alloc _) (Nat.le_refl _) (by simp))
theorem OwnR.empty (w : World) (e : TypeId) (hb : base ≤ w.heap.size) : OwnR ec sz e (w.alloc (.cells #[] e)) base (.slice (some ⟨w.heap.size, 0, none⟩) 0 0) ([] : List α) :=
  ⟨by simp, World.ownsRow_made w #[] 0 hb (Nat.zero_le _) (by simp)⟩
theorem OwnR.none (w : World) (e : TypeId) : OwnR ec sz e w base (.slice .none 0 0) ([] : List α) := ⟨by simp, by simp, Or.inl ⟨rfl, rfl⟩⟩
theorem OwnR.grown {S : Nat → Prop} {b0 : World} (h : OwnR ec sz e w base v l) (hf : Fr S b0 w) (hb : b0.heap.size ≤ base) (hg : w.grownBy w' v.ownBlock) : Fr S b0 w' :=
  hf.grown hg (fun k hk hlt => absurd (h.newB k hk).1 (by omega))
end
end Go.Proofs.U
