/- Texts J9, JA, JB, H4, H5 of the proof of TreeSplits, one behind the other. -/
import Derived.Lib.AppendZerosOnto
import Derived.Lib.Overlaps
import Derived.Laws.Externs
import Derived.Test.YtkhdniccnefdhaaBundleTreeSplits1
import Derived.Test.YtkhdniccnefdhaaBundleTreeSplits2
import Derived.Test.YtkhdniccnefdhaaBundleTreeSplits3
import Derived.Test.YtkhdniccnefdhaaBundleTreeSplits4
import Derived.Test.YtkhdniccnefdhaaBundleTreeSplits5
import Derived.Test.YtkhdniccnefdhaaBundleTreeSplits6
import Derived.Test.YtkhdniccnefdhaaBundleTreeSplits7
import Derived.Test.YtkhdniccnefdhaaBundleTreeSplits8
import Derived.Test.YtkhdniccnefdhaaBundleTreeSplits9
import Derived.Test.YtkhdniccnefdhaaBundleTreeSplits10
/- Entries moved in rows of the call's own making: slices.Insert; no condition. -/
namespace Go.Proofs.U
open Go.RowKit
set_option linter.unusedSimpArgs false
set_option linter.unusedVariables false
/-- What was moved behind a gap, and what is put into the gap. -/
theorem put_gap {c A M B : List Value} (hc : c.take A.length = A) (hl : A.length + M.length + B.length ≤ c.length) :
    (putAt (putAt c (A.length + M.length) B) A.length M).take (A.length + M.length + B.length) = A ++ (M ++ B) := by
  have h1 : (c.take (A.length + M.length)).length = A.length + M.length := by rw [List.length_take]; omega
  have hin : putAt c (A.length + M.length) B = c.take (A.length + M.length) ++ (B ++ c.drop (A.length + M.length + B.length)) := by unfold putAt; rw [List.append_assoc]
  have ht : (putAt c (A.length + M.length) B).take A.length = A := by
    rw [hin, List.take_append_of_le_length (by omega), List.take_take, Nat.min_eq_left (by omega), hc]
  have hd : (putAt c (A.length + M.length) B).drop (A.length + M.length) = B ++ c.drop (A.length + M.length + B.length) := by
    rw [hin, List.drop_left' h1]
  have e0 : ∀ X : List Value, putAt X A.length M = X.take A.length ++ M ++ X.drop (A.length + M.length) := fun _ => rfl
  rw [e0, ht, hd]
  have e : A ++ M ++ (B ++ c.drop (A.length + M.length + B.length)) = (A ++ (M ++ B)) ++ c.drop (A.length + M.length + B.length) := by simp
  rw [e, List.take_left' (by simp; omega)]
theorem put_gap' {c A M B : List Value} (hc : c.take A.length = A) (hl : A.length + M.length + B.length ≤ c.length) :
    (putAt (putAt c A.length M) (A.length + M.length) B).take (A.length + M.length + B.length) = A ++ (M ++ B) := by
  have hin : putAt c A.length M = (A ++ M) ++ c.drop (A.length + M.length) := by unfold putAt; rw [hc]
  have hAM : (A ++ M).length = A.length + M.length := by simp
  unfold putAt
  rw [show c.take A.length ++ M ++ c.drop (A.length + M.length) = (A ++ M) ++ c.drop (A.length + M.length) by rw [hc], List.take_left' hAM]
  rw [show A ++ M ++ B = A ++ (M ++ B) by simp]
  rw [List.take_left' (by simp; omega)]
variable {P : Program}
/-- copy into a block of whatever cells. -/
theorem run_cpyN {w : World} {g : Nat} {t : TypeId} {cur : List Value} (hB : BxV w g t cur) (dT sT ty elem : TypeId) (sz : Nat) (hu : P.underlying dT = some (.slice elem)) (hs : (P.info? elem).map (·.size) = some sz)
    (off n dcap m sCap : Nat) (a : Addr) (cs : List Value) (hl : cs.length = min m n * sz) (hsrc : ∀ j u, cs[j]? = some u → w.cell? (a.add j) = some u) (hfit : off + cs.length ≤ cur.length) (h1 : ∀ u ∈ cs, u.oneCell' = true) :
    (Builtin.copy_ #[dT, sT] ty #[.slice (some ⟨g, off, none⟩) n dcap, .slice (some a) m sCap]).run P w = .ok (goInt (min m n : Nat)) (w.setCells g off cs) := by
  obtain ⟨i, hq, hi⟩ := Option.map_eq_some_iff.1 hs
  have hf := run_firstCells_some (P := P) w sz (min m n) a m sCap cs hl hsrc
  have hst := run_storeCells_cells (P := P) g off cs 0 w (fun j hj => (hB.thereR off cs.length hfit j hj).1) (fun j hj => (hB.thereR off cs.length hfit j hj).2) h1
  simp only [Nat.add_zero] at hst
  have hmin : Nat.min m n = min m n := rfl
  simp [Builtin.copy_, run_underlying hu, Builtin.lenOf, sizeOf, typeInfo, hq, hi, hmin, hf, hst]
theorem wpList_extern {w : World} {ops : Array Oper} {rest : List Oper} {o : Oper} {a : Act} {Q : Exit → Act → World → Prop} (hgd : Region.wanted o (yielded ops a.tmps) = true) (f : FuncId) (x y : Operand) (ts : Array TypeId)
    (ho : o.op = .call { callee := .value (.func f), args := #[x, y], argTypes := ts }) (vx vy : Value) (hx : a.eval x = vx) (hy : a.eval y = vy) {v : Value} (hr : (callFunc f #[vx, vy]).run P w = .ok (.value v) w) (h : wpList P ops Q rest (a.put o.dst v) w) : wpList P ops Q (o :: rest) a w := by
  refine wpList_wanted hgd fun K hK => ?_
  have hf : a.eval (.func f) = Value.func (Fn.func f) #[] #[] := rfl
  have hrun : (execOp a.eval o).run P w = .ok (.value v) w := by
    have hr' := hr
    rw [← hx, ← hy] at hr'
    simp [execOp, ho, resolve, invoke, Deferred.ofValue, hf, Result.andThen, go_sem]
    simpa [Act.eval] using hr'
  unfold Oper.wp
  rw [hrun]
  exact hK _ _ h
/-- x[i:], exactly. -/
theorem wpList_cutlo {w : World} {ops : Array Oper} {rest : List Oper} {o : Oper} {a : Act} {Q : Exit → Act → World → Prop} (hgd : Region.wanted o (yielded ops a.tmps) = true) (t : TypeId) (x lo : Operand) (ho : o.op = .slice t x (some lo) none none) (e : TypeId) (ht : P.underlying t = some (.slice e)) (sz : Nat) (hsz : (P.info? e).map (·.size) = some sz)
    (ao : Option Addr) (n cap : Nat) (hx : a.eval x = .slice ao n cap) (kl : IntKind) (zl : Int) (i : Nat) (hlo : a.eval lo = .int kl zl) (hzl : zl = (i : Int)) (hi : i ≤ n)
    (h : wpList P ops Q rest (a.put o.dst (.slice (if cap = i then ao else ao.map (·.add (i * sz))) (n - i) (cap - i))) w) : wpList P ops Q (o :: rest) a w := by
  refine wpList_wanted hgd fun K hK => ?_
  subst hzl
  have hrun := run_cutl (P := P) (w := w) t e ht sz hsz ao n cap kl i hi
  unfold Oper.wp
  simp [execOp, ho, hx, hlo, hrun, Result.andThen]
  exact hK _ _ h
/-- .. wherever it lies. -/
theorem wpList_cutlox {w : World} {ops : Array Oper} {rest : List Oper} {o : Oper} {a : Act} {Q : Exit → Act → World → Prop} (hgd : Region.wanted o (yielded ops a.tmps) = true) (t : TypeId) (x lo : Operand) (ho : o.op = .slice t x (some lo) none none) (e : TypeId) (ht : P.underlying t = some (.slice e)) (sz : Nat) (hsz : (P.info? e).map (·.size) = some sz)
    (ao : Option Addr) (n cap : Nat) (hx : a.eval x = .slice ao n cap) (kl : IntKind) (zl : Int) (i : Nat) (hlo : a.eval lo = .int kl zl) (hzl : zl = (i : Int)) (hi : i ≤ n)
    (h : ∀ ao', wpList P ops Q rest (a.put o.dst (.slice ao' (n - i) (cap - i))) w) : wpList P ops Q (o :: rest) a w :=
  wpList_cutlo hgd t x lo ho e ht sz hsz ao n cap hx kl zl i hlo hzl hi (h _)
/-- .. of a row that begins in its block, where something is behind. -/
theorem wpList_cutlo1 {w : World} {ops : Array Oper} {rest : List Oper} {o : Oper} {a : Act} {Q : Exit → Act → World → Prop} (hgd : Region.wanted o (yielded ops a.tmps) = true) (t : TypeId) (x lo : Operand) (ho : o.op = .slice t x (some lo) none none) (e : TypeId) (ht : P.underlying t = some (.slice e)) (sz : Nat) (hsz : (P.info? e).map (·.size) = some sz)
    (g n cap : Nat) (hx : a.eval x = .slice (some ⟨g, 0, none⟩) n cap) (kl : IntKind) (zl : Int) (i : Nat) (hlo : a.eval lo = .int kl zl) (hzl : zl = (i : Int)) (hi : i ≤ n) (hc : i < cap)
    (h : wpList P ops Q rest (a.put o.dst (.slice (some ⟨g, i * sz, none⟩) (n - i) (cap - i))) w) : wpList P ops Q (o :: rest) a w := by
  refine wpList_cutlo hgd t x lo ho e ht sz hsz _ n cap hx kl zl i hlo hzl hi ?_
  rw [if_neg (by omega)]
  simpa [Addr.plain] using h
/-- append(s, x...), where the new row lies is told. -/
theorem wpList_appM {α : Type} {ec : α → List Value} {sz : Nat} {e : TypeId} {w : World} {base : Nat} {l : List α} {ops : Array Oper} {rest : List Oper} {o : Oper} {a : Act} {Q : Exit → Act → World → Prop} (hgd : o.guard = none) (s x : Operand) (t : TypeId) (ho : o.op = .call { callee := .builtin .append, args := #[s, x], argTypes := #[t, t] })
    (z : Value) (bytes : Nat) (ht : P.underlying t = some (.slice e)) (hinfo : (P.info? e).map (fun i => (i.zero, i.size, i.bytes)) = some (some z, sz, bytes)) (hzs : z.cells.size = sz) (hsz : 0 < sz)
    (v : Value) (hs : a.eval s = v) (hO : OwnR ec sz e w base v l) (vx : Value) (m : List α) (hx : a.eval x = vx) (hS : SlR ec sz w vx m) (hm : 1 ≤ m.length) (h1 : ∀ y ∈ m, ∀ u ∈ ec y, u.oneCell' = true)
    (h63 : l.length + m.length ≤ maxLen) (hbytes : (l.length + m.length) * bytes ≤ 140737488355328) (hbase : base ≤ w.heap.size)
    (h : ∀ v' w', OwnR ec sz e w' base v' (l ++ m) → Fr (fun k => v.ownBlock = some k) w w' → (∀ k, v'.ownBlock = some k → v.ownBlock = some k ∨ w.heap.size ≤ k) → wpList P ops Q rest (a.put o.dst v') w') : wpList P ops Q (o :: rest) a w := by
  refine wpList_wanted (by simp [Region.wanted, hgd]) fun K hK => ?_
  obtain ⟨i0, hi, hz0, hz1, hz2⟩ := info_parts hinfo
  obtain ⟨hall, ao, cap, rfl, hcap, hlen, hnone, hsome⟩ := hS
  cases ao with
  | none => have := hnone rfl; omega
  | some ad =>
    have hcell := hsome ad rfl
    obtain ⟨v', w', hr, h2, h3, _, h5⟩ := run_append_own_at (P := P) w base t o.type e i0 z sz bytes ht hi hz0 hz1 hz2 hzs hsz v l.length (l.flatMap ec) hO.2 ad m.length cap (m.flatMap ec) (by omega) hcell (by
      intro u hu
      obtain ⟨y, hy, hu⟩ := List.mem_flatMap.1 hu
      exact h1 y hy u hu) h63 hbytes hbase
    unfold Oper.wp execOp
    simp only [ho, resolve, invoke, builtin, Sem.run_bind, Sem.run_pure, Result.andThen_ok, List.map_toArray, List.map_cons, List.map_nil, hs, hx, hr]
    refine hK _ _ (h v' w' ⟨?_, ?_⟩ ((Fr.refl _ _).grown h3 (fun k hk _ => hk)) fun k hk => ?_)
    · intro u hu
      rcases List.mem_append.1 hu with hu | hu
      · exact hO.1 u hu
      · exact hall u hu
    · rw [List.length_append, List.flatMap_append]; exact h2
    · rcases h5 with q | q
      · exact Or.inl (by rw [← q]; exact hk)
      · rw [q] at hk; cases hk; exact Or.inr (Nat.le_refl _)
/-- copy into a block of whatever cells, for the walk. -/
theorem wpList_cpyN {w : World} {ops : Array Oper} {rest : List Oper} {o : Oper} {a : Act} {Q : Exit → Act → World → Prop} (hgd : o.guard = none) (d s : Operand) (t : TypeId) (ho : o.op = .call { callee := .builtin .copy, args := #[d, s], argTypes := #[t, t] })
    (elem : TypeId) (sz : Nat) (hu : P.underlying t = some (.slice elem)) (hs : (P.info? elem).map (·.size) = some sz) (g : Nat) (tb : TypeId) (cur : List Value) (hB : BxV w g tb cur)
    (off n dcap m sCap : Nat) (ad : Addr) (cs : List Value) (hd : a.eval d = .slice (some ⟨g, off, none⟩) n dcap) (hsv : a.eval s = .slice (some ad) m sCap) (hl : cs.length = min m n * sz) (hsrc : ∀ j u, cs[j]? = some u → w.cell? (ad.add j) = some u) (hfit : off + cs.length ≤ cur.length) (h1 : ∀ u ∈ cs, u.oneCell' = true)
    (h : ∀ w', BxV w' g tb (putAt cur off cs) → Fr (onB1 g) w w' → wpList P ops Q rest (a.put o.dst (goInt (min m n : Nat))) w') : wpList P ops Q (o :: rest) a w :=
  Lib.wpList_copy_run w hgd d s t t ho _ _ hd hsv (run_cpyN hB t t o.type elem sz hu hs off n dcap m sCap ad cs hl hsrc hfit h1) (h _ (setCells_bx cs off w cur hB hfit) (setCells_fr1 _ _ _ _))
/-- .. and as a step of a region that draws. -/
theorem step_cpyN {w : World} {ops : Array Oper} {o : Oper} {a : Act} {K : Act → World → Prop} {Q : Exit → Act → World → Prop} {E : Prop} (hgd : o.guard = none) (d s : Operand) (t : TypeId) (ho : o.op = .call { callee := .builtin .copy, args := #[d, s], argTypes := #[t, t] })
    (elem : TypeId) (sz : Nat) (hu : P.underlying t = some (.slice elem)) (hs : (P.info? elem).map (·.size) = some sz) (g : Nat) (tb : TypeId) (cur : List Value) (hB : BxV w g tb cur)
    (off n dcap m sCap : Nat) (ad : Addr) (cs : List Value) (hd : a.eval d = .slice (some ⟨g, off, none⟩) n dcap) (hsv : a.eval s = .slice (some ad) m sCap) (hl : cs.length = min m n * sz) (hsrc : ∀ j u, cs[j]? = some u → w.cell? (ad.add j) = some u) (hfit : off + cs.length ≤ cur.length) (h1 : ∀ u ∈ cs, u.oneCell' = true)
    (h : K (a.put o.dst (goInt (min m n : Nat))) (w.setCells g off cs)) : if Region.wanted o (yielded ops a.tmps) = true then o.wp P a w K Q else E := by
  have hw : Region.wanted o (yielded ops a.tmps) = true := by simp [Region.wanted, hgd]
  rw [if_pos hw]
  unfold Oper.wp
  simp [execOp, ho, resolve, invoke, builtin, hd, hsv, run_cpyN hB t t o.type elem sz hu hs off n dcap m sCap ad cs hl hsrc hfit h1, Result.andThen]
  exact h
/-- append(s, make([]T, k)...), where there is no room for so many. -/
theorem wpList_appZ {w : World} {ops : Array Oper} {rest : List Oper} {o : Oper} {a : Act} {Q : Exit → Act → World → Prop} (hgd : o.guard = none) (s x : Operand) (t tn : TypeId) (ho : o.op = .call { callee := .builtin .append, args := #[s, x], argTypes := #[t, tn] })
    (e : TypeId) (z : Value) (sz bytes : Nat) (ht : P.underlying t = some (.slice e)) (kn : IntKind) (htn : P.underlying tn = some (.int kn)) (hinfo : (P.info? e).map (fun i => (i.zero, i.size, i.bytes)) = some (some z, sz, bytes)) (hzs : z.cells.size = sz) (hsz : 0 < sz)
    (g i cap : Nat) (hs : a.eval s = .slice (some ⟨g, 0, none⟩) i cap) (cur : List Value) (hB : BxV w g e cur) (hfit : i * sz ≤ cur.length) (kq : IntKind) (k : Nat) (hx : a.eval x = .int kq (k : Int)) (h0 : 0 < k) (hcap : cap < i + k) (hml : i + k ≤ maxLen) (hbytes : (i + k) * bytes ≤ 140737488355328) (hic : i ≤ cap)
    (h : ∀ g' cap' cur' w', BxV w' g' e cur' → Fr noB w w' → w.heap.size ≤ g' → i + k ≤ cap' → cap' ≤ maxLen → cur'.length = cap' * sz → cur'.take (i * sz) = cur.take (i * sz) → wpList P ops Q rest (a.put o.dst (.slice (some ⟨g', 0, none⟩) (i + k) cap')) w') : wpList P ops Q (o :: rest) a w := by
  obtain ⟨i0, hi, hz0, hz1, hz2⟩ := info_parts hinfo
  have hl : (cur.take (i * sz)).length = i * sz := by rw [List.length_take]; omega
  have hold : (Builtin.firstCells i0.size i (.slice (some ⟨g, 0, none⟩) i cap)).run P w.drew = .ok (cur.take (i * sz)).toArray w.drew := by
    rw [hz1]
    refine run_firstCells_some w.drew sz i ⟨g, 0, none⟩ i cap _ hl fun j u hj => ?_
    rw [Addr.add_lit, Nat.zero_add]
    rw [List.getElem?_take] at hj
    split at hj
    · exact (hB.cell j u hj).1
    · cases hj
  have hml' : i + k ≤ 9223372036854775807 := by unfold maxLen at hml; omega
  have hk48 : k * bytes ≤ 281474976710656 := by
    have : k * bytes ≤ (i + k) * bytes := Nat.mul_le_mul_right _ (by omega)
    omega
  have hr := Lib.run_append_grow_zeros (P := P) (ty := o.type) w t tn e i0 z kq kn ht htn hi hz0 (some ⟨g, 0, none⟩) i cap (cur.take (i * sz)) hold k h0 (by omega) hcap (by omega) (by rw [hz2]; exact hk48) (growslice_fits (by omega) (by rw [hz2]; exact hbytes))
  refine Lib.wpList_append_run w hgd s x t tn ho _ _ hs hx _ _ hr ?_
  have hge := grownCap_ge w (i + k) cap e
  have hle := grownCap_le_maxLen w (i + k) cap e hml
  have e1 : ((cur.take (i * sz)).toArray ++ Builtin.zeroCells z.cells k ++ Builtin.zeroCells z.cells (grownCap w (i + k) cap e - (i + k))) = (cur.take (i * sz) ++ ((Builtin.zeroCells z.cells k).toList ++ (Builtin.zeroCells z.cells (grownCap w (i + k) cap e - (i + k))).toList)).toArray := by
    apply Array.ext'
    simp
  rw [e1]
  refine h w.heap.size _ _ _ (heap_alloc_new w.drew _) (((Fr.refl _ _).drew).alloc _) (Nat.le_refl _) hge hle ?_ ?_
  · rw [List.length_append, List.length_append, hl, Array.length_toList, Array.length_toList, size_zeroCells, size_zeroCells, hzs, ← Nat.add_mul, ← Nat.add_mul]
    congr 1
    omega
  · rw [List.take_left' hl]
end Go.Proofs.U
/- slices.Insert of entries into a row of the call's own making; no condition. -/
namespace Go.Proofs.Ytkhdniccnefdhaa
open Go.RowKit Go.Proofs.U
set_option linter.unusedSimpArgs false
set_option linter.unusedVariables false
abbrev EnO (w : World) (base : Nat) (v : Value) (l : List (Int × Int)) : Prop := OwnR enC 2 49 w base v l
theorem enC_len (x : Int × Int) : (enC x).length = 2 := rfl
theorem fl_len (l : List (Int × Int)) : (l.flatMap enC).length = l.length * 2 := by
  induction l with
  | nil => rfl
  | cons x l ih => rw [List.flatMap_cons, List.length_append, ih, enC_len, List.length_cons]; omega
theorem fl_one (l : List (Int × Int)) : ∀ u ∈ l.flatMap enC, u.oneCell' = true := by
  intro u hu
  obtain ⟨x, _, hx⟩ := List.mem_flatMap.1 hu
  exact en_one x u hx
/-- What a row of one's own is, where it isn't nil. -/
theorem EnO.parts {w : World} {base : Nat} {v : Value} {l : List (Int × Int)} (h : EnO w base v l) : (v = .slice none 0 0 ∧ l = []) ∨ ∃ g cap cur, v = .slice (some ⟨g, 0, none⟩) l.length cap ∧ base ≤ g ∧ BxV w g 49 cur ∧ l.length ≤ cap ∧ cap ≤ maxLen ∧ cur.length = cap * 2 ∧ cur.take (l.length * 2) = l.flatMap enC := by
  rcases h.2.2 with ⟨h0, h1⟩ | ⟨g, cap, cur, hv, h1, h2, h3, h4, h5, h6⟩
  · exact Or.inl ⟨h0, List.eq_nil_of_length_eq_zero h1⟩
  · exact Or.inr ⟨g, cap, cur.toList, hv, h1, h2, h3, h4, by rw [Array.length_toList]; exact h5, h6⟩
theorem EnO.mk {w : World} {base g cap : Nat} {cur : List Value} {l : List (Int × Int)} {n : Nat} (hb : base ≤ g) (h : BxV w g 49 cur) (hn : n = l.length) (hc : l.length ≤ cap) (hm : cap ≤ maxLen) (hl : cur.length = cap * 2) (ht : cur.take (l.length * 2) = l.flatMap enC) : EnO w base (.slice (some ⟨g, 0, none⟩) n cap) l := by
  subst hn
  exact ⟨fun x _ => enC_len x, fl_len l, Or.inr ⟨g, cap, cur.toArray, rfl, hb, h, hc, hm, by rw [List.size_toArray]; exact hl, ht⟩⟩
/-- The cells of some of a row's elements. -/
theorem bx_part {w : World} {g : Nat} {t : TypeId} {cur : List Value} (h : BxV w g t cur) {l : List (Int × Int)} (ht : cur.take (l.length * 2) = l.flatMap enC) (i k : Nat) : ∀ j u, ((l.drop i).take k |>.flatMap enC)[j]? = some u → w.cell? ((⟨g, i * 2, none⟩ : Addr).add j) = some u := by
  intro j u hj
  rw [Addr.add_lit]
  refine (h.cell (i * 2 + j) u ?_).1
  have hjl := (List.getElem?_eq_some_iff.1 hj).1
  rw [fl_len] at hjl
  have hkl : ((l.drop i).take k).length ≤ l.length - i := by rw [List.length_take, List.length_drop]; omega
  have e1 : l = l.take i ++ ((l.drop i).take k ++ (l.drop i).drop k) := by rw [List.take_append_drop, List.take_append_drop]
  have hin : i * 2 + j < l.length * 2 := by omega
  have hil : (l.take i).length = i := by rw [List.length_take]; omega
  have : (cur.take (l.length * 2))[i * 2 + j]? = some u := by
    rw [ht]
    conv => lhs; rw [e1]
    rw [List.flatMap_append, List.flatMap_append, List.getElem?_append_right (by rw [fl_len, hil]; omega), fl_len, hil, Nat.add_sub_cancel_left, List.getElem?_append_left (by rw [fl_len]; exact hjl)]
    exact hj
  rwa [List.getElem?_take, if_pos hin] at this
theorem uE : Try.prog.underlying 31 = some (.slice 49) := Try.underlying31
/-- overlaps of two rows that lie apart. -/
theorem ovl_run {w : World} {g g' : Nat} {c c' : List Value} (h : BxV w g 49 c) (h' : BxV w g' 49 c') (hne : g ≠ g') (hc' : 0 < c'.length) (o o' n cap n' cap' : Nat) :
    (callFunc 64 #[.slice (some ⟨g, o, none⟩) n cap, .slice (some ⟨g', o', none⟩) n' cap']).run Try.prog w = .ok (.value (.bool false)) w := by
  have h1 : w.heap[g]? = _ := h
  have h2 : w.heap[g']? = _ := h'
  rw [run_callFunc_extern Try.func64 (by kernel_rfl) (by kernel_rfl) (by kernel_rfl) (e := Extern.SlicesOverlaps.overlaps #[31, 31] #[4]) (by kernel_rfl),
    Lib.run_overlaps_apart w 31 4 49 Try.underlying31 2 Try.sizeOf49 ⟨g, o, none⟩ ⟨g', o', none⟩ n cap n' cap' hne 49 49 c.length c'.length (by simp [World.shape?, h1]) (by simp [World.shape?, h2]) (by omega) (by simp [World.frozen?, h1]) (by simp [World.frozen?, h1])]
  rfl
end Go.Proofs.Ytkhdniccnefdhaa
/- slices.Insert of entries into a row of the call's own making: at the end, into a new row, into its room; no condition. -/
namespace Go.Proofs.Ytkhdniccnefdhaa
open Go.RowKit Go.Proofs.U
set_option linter.unusedSimpArgs false
set_option linter.unusedVariables false
/-- A row of the call's own making that is handed back in the place of another one. -/
def InsIs (w w' : World) (base : Nat) (v : Value) (l' : List (Int × Int)) (r : Ending) : Prop := ∃ v', r = .returned v' ∧ EnO w' base v' l' ∧ Fr (fun k => v.ownBlock = some k) w w' ∧ (∀ k, v'.ownBlock = some k → v.ownBlock = some k ∨ w.heap.size ≤ k)
set_option maxRecDepth 100000 in
set_option maxHeartbeats 2000000 in
theorem insE_end {w : World} {base : Nat} {v u : Value} {l m : List (Int × Int)} (hb : base ≤ w.heap.size) (hO : EnO w base v l) (hu : SlR enC 2 w u m) (hm : 1 ≤ m.length) (hl : l.length + m.length ≤ 1000) :
    Calls Try.prog 62 #[v, .int .i64 (l.length : Int), u] w fun r w' => InsIs w w' base v (l ++ m) r := by
  obtain ⟨a, cap, hv⟩ := hO.opn
  obtain ⟨a', cap', hu', hcu⟩ := hu.opn
  subst hv
  subst hu'
  have hz1 : ¬ ((m.length : Int) = 0) := by omega
  have hz2 : ((l.length : Int) == (l.length : Int)) = true := by simp
  have h63 : l.length + m.length ≤ maxLen := by unfold maxLen; omega
  have hb2 : (l.length + m.length) * 16 ≤ 140737488355328 := by omega
  go_enter Try.func62, Try.ntmps62
  go_wp2_with (first
    | (refine at_cut 31 _ _ _ _ rfl ?_; go_must (refine wpList_cutlox rfl 31 _ _ rfl 49 uE 2 en_size a l.length cap rfl .i64 (l.length : Int) l.length rfl rfl (Nat.le_refl _) ?_; intro ao1))
    | (at_builtin; go_must (refine wpList_appM rfl _ _ 31 rfl _ 16 uE en_info rfl (by decide) (.slice a l.length cap) rfl hO (.slice a' m.length cap') m rfl hu hm (fun y _ => en_one y) h63 hb2 hb ?_; intro v' w1 o1 f1 p1)))
  go_ret
  exact ⟨v', rfl, o1, f1, p1⟩
/-- Elements cut apart. -/
theorem fl_take (l : List (Int × Int)) (i : Nat) (hi : i ≤ l.length) : (l.flatMap enC).take (i * 2) = (l.take i).flatMap enC := by
  conv => lhs; rw [← List.take_append_drop i l]
  rw [List.flatMap_append, List.take_left' (by rw [fl_len, List.length_take]; omega)]
theorem cur_take {cur : List Value} {l : List (Int × Int)} (h : cur.take (l.length * 2) = l.flatMap enC) (i : Nat) (hi : i ≤ l.length) : cur.take (i * 2) = (l.take i).flatMap enC := by
  rw [← fl_take l i hi, ← h, List.take_take, Nat.min_eq_left (by omega)]
/-- What was moved and put into a row's room. -/
theorem gap_en {cur : List Value} {l m b : List (Int × Int)} {i N : Nat} (hi : i ≤ l.length) (ht : cur.take (i * 2) = (l.take i).flatMap enC) (hN : N = i + m.length + b.length) (hl : N * 2 ≤ cur.length) :
    (putAt (putAt cur ((i + m.length) * 2) (b.flatMap enC)) (i * 2) (m.flatMap enC)).take (N * 2) = (l.take i ++ (m ++ b)).flatMap enC ∧
    (putAt (putAt cur (i * 2) (m.flatMap enC)) ((i + m.length) * 2) (b.flatMap enC)).take (N * 2) = (l.take i ++ (m ++ b)).flatMap enC := by
  have hA : ((l.take i).flatMap enC).length = i * 2 := by rw [fl_len, List.length_take]; omega
  have hM := fl_len m
  have hB := fl_len b
  have h1 := put_gap (c := cur) (A := (l.take i).flatMap enC) (M := m.flatMap enC) (B := b.flatMap enC) (by rw [hA]; exact ht) (by rw [hA, hM, hB]; omega)
  have h2 := put_gap' (c := cur) (A := (l.take i).flatMap enC) (M := m.flatMap enC) (B := b.flatMap enC) (by rw [hA]; exact ht) (by rw [hA, hM, hB]; omega)
  rw [hA, hM, hB] at h1 h2
  rw [show i * 2 + m.length * 2 = (i + m.length) * 2 by omega, show (i + m.length) * 2 + b.length * 2 = N * 2 by omega] at h1 h2
  rw [List.flatMap_append, List.flatMap_append]
  exact ⟨h1, h2⟩
theorem drop_src {w : World} {g : Nat} {t : TypeId} {cur : List Value} (h : BxV w g t cur) {l : List (Int × Int)} (ht : cur.take (l.length * 2) = l.flatMap enC) (i : Nat) : ∀ j u, ((l.drop i).flatMap enC)[j]? = some u → w.cell? ((⟨g, i * 2, none⟩ : Addr).add j) = some u := by
  have := bx_part h ht i (l.drop i).length
  rw [List.take_length] at this
  exact this
set_option maxRecDepth 100000 in
set_option maxHeartbeats 4000000 in
theorem insE_grow {w : World} {base bu : Nat} {v u : Value} {l m : List (Int × Int)} {i : Nat} (hb : base ≤ w.heap.size) (hO : EnO w base v l) (hu : EnO w bu u m) (hm : 1 ≤ m.length) (hl : l.length + m.length ≤ 1000) (hi : i < l.length) {a : Option Addr} {cap : Nat} (hv : v = .slice a l.length cap) (hcap : cap < l.length + m.length) :
    Calls Try.prog 62 #[v, .int .i64 (i : Int), u] w fun r w' => InsIs w w' base v (l.take i ++ (m ++ l.drop i)) r := by
  rcases hO.parts with ⟨_, rfl⟩ | ⟨g, cap', cur, hv', hbg, hB, hnc, hcm, hcl, hct⟩
  · simp at hi
  rw [hv'] at hv
  cases hv
  subst hv'
  rcases hu.parts with ⟨_, rfl⟩ | ⟨gu, capu, curu, hvu, hbgu, hBu, hnu, hcmu, hclu, hctu⟩
  · simp at hm
  subst hvu
  have hz1 : ¬ ((m.length : Int) = 0) := by omega
  have hz2 : ((i : Int) == (l.length : Int)) = false := by simp; omega
  have hz3 : decide ((cap : Int) < (l.length : Int) + (m.length : Int)) = true := by simp; omega
  have hml : i + (l.length + m.length - i) ≤ maxLen := by unfold maxLen; omega
  have hw1 : IntKind.i64.wrap ((l.length : Int) + (m.length : Int)) = (l.length : Int) + (m.length : Int) := wrap_sm (by omega)
  have hw2 : IntKind.i64.wrap ((l.length : Int) + (m.length : Int) - (i : Int)) = ((l.length + m.length - i : Nat) : Int) := by rw [wrap_sm (by omega)]; omega
  have hw3 : IntKind.i64.wrap ((i : Int) + (m.length : Int)) = ((i + m.length : Nat) : Int) := by rw [wrap_sm (by omega)]; omega
  have e1 : i + (l.length + m.length - i) = l.length + m.length := by omega
  have hcu := drop_src hBu hctu 0
  rw [List.drop_zero] at hcu
  have hcd := drop_src hB hct i
  have hdl : (l.drop i).length = l.length - i := List.length_drop
  go_enter Try.func62, Try.ntmps62
  go_wp2_with (first
    | (refine at_cut 31 _ none _ _ rfl ?_; go_must (refine wpList_cuth rfl 31 _ _ rfl 49 uE 2 en_size _ l.length cap rfl .i64 (i : Int) i rfl rfl (by omega) ?_))
    | (refine at_cut 31 _ _ _ _ rfl ?_; have q := b1; go_must (refine wpList_cutlo1 rfl 31 _ _ rfl 49 uE 2 en_size g1 (l.length + m.length) c1 rfl .i64 (i : Int) i rfl rfl (by omega) (by omega) ?_))
    | (refine at_cut 31 _ _ _ _ rfl ?_; go_must (refine wpList_cutlox rfl 31 _ _ rfl 49 uE 2 en_size _ l.length cap rfl .i64 (i : Int) i rfl rfl (by omega) ?_; intro ao1))
    | (at_builtin; go_must (refine wpList_appZ rfl _ _ 31 3 rfl 49 _ 2 16 uE .i64 Try.underlying3 en_info rfl (by decide) g i cap rfl cur hB (by omega) .i64 (l.length + m.length - i) (by simp [Act.eval, Act.put, hw1, hw2]) (by omega) (by omega) hml (by omega) (by omega) ?_; intro g1 c1 cur1 w1 b1 f1 s1 n1 m1 l1 t1; have z1 := f1.size; have lg := hB.lt; have lgu := hBu.lt))
    | (refine at_cpy _ _ _ _ rfl ?_; go_must (refine wpList_cpyN rfl _ _ 31 rfl 49 2 uE en_size g1 49 cur1 b1 (i * 2) (l.length + m.length - i) (c1 - i) m.length capu ⟨gu, 0 * 2, none⟩ (m.flatMap enC) rfl rfl (by rw [fl_len, Nat.min_eq_left (by omega)]) (fun j x hj => f1.cell (hcu j x hj) (fun q => q)) (by rw [fl_len]; omega) (fl_one m) ?_; intro w2 b2 f2; have z2 := f2.size)))
  have hc1 : ¬ (c1 = i + m.length) := by omega
  have hc2 : ¬ (cap = i) := by omega
  have hp1 : (0 : Int) ≤ (i : Int) + (m.length : Int) := by omega
  have hp2 : i + m.length ≤ l.length + m.length := by omega
  have hp3 : ((i : Int) + (m.length : Int)).toNat = i + m.length := by omega
  have hp4 : (i : Int) ≤ (l.length : Int) := by omega
  have zE := Try.sizeOf49
  have mixed : Try.prog.follows Departure.mixedOrders = true := by kernel_rfl
  have uE1 := run_underlying uE
  have b2d : BxV w2.drew g1 49 (putAt cur1 (i * 2) (m.flatMap enC)) := b2
  have hcd2 : ∀ j x, ((l.drop i).flatMap enC)[j]? = some x → w2.drew.cell? ((⟨g, i * 2, none⟩ : Addr).add j) = some x := fun j x hj => f2.cell (f1.cell (hcd j x hj) (fun q => q)) (fun q => by unfold onB1 at q; rw [Addr.add_lit] at q; simp only at q; omega)
  have hfitd : (i + m.length) * 2 + ((l.drop i).flatMap enC).length ≤ (putAt cur1 (i * 2) (m.flatMap enC)).length := by rw [putAt_len _ _ _ (by rw [fl_len]; omega), fl_len, hdl]; omega
  have hld : ((l.drop i).flatMap enC).length = min (l.length - i) (l.length + m.length - (i + m.length)) * 2 := by rw [fl_len, hdl]; omega
  go_region_law_o (refine step_cpyN rfl _ _ 31 rfl 49 2 uE en_size g1 49 _ b2d ((i + m.length) * 2) (l.length + m.length - (i + m.length)) (c1 - (i + m.length)) (l.length - i) (cap - i) ⟨g, i * 2, none⟩ ((l.drop i).flatMap enC) (by simp [Act.eval, Act.put]) (by simp [Act.eval, Act.put]) hld hcd2 hfitd (fl_one _) ?_)
  have b3 := setCells_bx ((l.drop i).flatMap enC) ((i + m.length) * 2) w2.drew _ b2d hfitd
  have f3 := setCells_fr1 w2.drew g1 ((l.drop i).flatMap enC) ((i + m.length) * 2)
  obtain ⟨w3, H3⟩ : ∃ x, Hid (w2.drew.setCells g1 ((i + m.length) * 2) ((l.drop i).flatMap enC) = x) := ⟨_, rfl⟩
  rw [H3.out] at b3 f3 ⊢
  go_wp2
  go_ret
  have hg := (gap_en (cur := cur1) (l := l) (m := m) (b := l.drop i) (i := i) (N := l.length + m.length) (by omega) (by rw [t1]; exact cur_take hct i (by omega)) (by rw [hdl]; omega) (by omega)).2
  have hlen3 : (putAt (putAt cur1 (i * 2) (m.flatMap enC)) ((i + m.length) * 2) ((l.drop i).flatMap enC)).length = c1 * 2 := by
    rw [putAt_len _ _ _ hfitd, putAt_len _ _ _ (by rw [fl_len]; omega), l1]
  have hln : (l.take i ++ (m ++ l.drop i)).length = l.length + m.length := by rw [List.length_append, List.length_append, List.length_take, hdl]; omega
  refine ⟨_, rfl, EnO.mk (by omega) b3 hln.symm (by rw [hln]; omega) m1 hlen3 (by rw [hln]; exact hg), ?_, fun k hk => Or.inr ?_⟩
  · exact (((f1.mono (fun _ _ q => q.elim)).thenT f2 (fun x hx q => by unfold onB1 at q; omega)).drew).thenT f3 (fun x hx q => by unfold onB1 at q; omega)
  · simp [Value.ownBlock] at hk; omega
set_option maxRecDepth 100000 in
set_option maxHeartbeats 4000000 in
theorem insE_shift {w : World} {base bu : Nat} {v u : Value} {l m : List (Int × Int)} {i : Nat} (hb : base ≤ w.heap.size) (hO : EnO w base v l) (hu : EnO w bu u m) (hap : ∀ k, v.ownBlock = some k → u.ownBlock = some k → False) (hm : 1 ≤ m.length) (hl : l.length + m.length ≤ 1000) (hi : i < l.length) {a : Option Addr} {cap : Nat} (hv : v = .slice a l.length cap) (hcap : l.length + m.length ≤ cap) :
    Calls Try.prog 62 #[v, .int .i64 (i : Int), u] w fun r w' => InsIs w w' base v (l.take i ++ (m ++ l.drop i)) r := by
  rcases hO.parts with ⟨_, rfl⟩ | ⟨g, cap', cur, hv', hbg, hB, hnc, hcm, hcl, hct⟩
  · simp at hi
  rw [hv'] at hv
  cases hv
  subst hv'
  rcases hu.parts with ⟨_, rfl⟩ | ⟨gu, capu, curu, hvu, hbgu, hBu, hnu, hcmu, hclu, hctu⟩
  · simp at hm
  subst hvu
  have hne : gu ≠ g := fun q => hap g rfl (by rw [q]; rfl)
  have hz1 : ¬ ((m.length : Int) = 0) := by omega
  have hz2 : ((i : Int) == (l.length : Int)) = false := by simp; omega
  have hz3 : decide ((cap : Int) < (l.length : Int) + (m.length : Int)) = false := by simp; omega
  have hcap63 : cap ≤ 9223372036854775807 := by unfold maxLen at hcm; omega
  have hw1 : IntKind.i64.wrap ((l.length : Int) + (m.length : Int)) = (l.length : Int) + (m.length : Int) := wrap_sm (by omega)
  have hw3 : IntKind.i64.wrap ((i : Int) + (m.length : Int)) = (i : Int) + (m.length : Int) := wrap_sm (by omega)
  have hcu := drop_src hBu hctu 0
  rw [List.drop_zero] at hcu
  have hcd := drop_src hB hct i
  have hdl : (l.drop i).length = l.length - i := List.length_drop
  have hov := fun o n' cap' => ovl_run hBu hB hne (by omega) 0 o m.length capu n' cap'
  go_enter Try.func62, Try.ntmps62
  go_wp2_with (first
    | (refine at_cut 31 (.tmp 56) none _ _ rfl ?_; go_must (refine wpList_cuth rfl 31 _ _ rfl 49 uE 2 en_size _ l.length cap rfl .i64 ((l.length : Int) + (m.length : Int)) (l.length + m.length) rfl (by omega) (by omega) ?_))
    | (refine at_cut 31 (.tmp 62) _ _ _ rfl ?_; go_must (refine wpList_cutlo1 rfl 31 _ _ rfl 49 uE 2 en_size g (l.length + m.length) cap rfl .i64 ((i : Int) + (m.length : Int)) (i + m.length) rfl (by omega) (by omega) (by omega) ?_))
    | (refine at_cut 31 _ _ _ _ rfl ?_; go_must (refine wpList_cutlox rfl 31 _ _ rfl 49 uE 2 en_size _ l.length cap rfl .i64 (i : Int) i rfl rfl (by omega) ?_; intro ao1))
    | (go_at_call 64; go_must (refine wpList_extern rfl 64 _ _ _ rfl _ _ rfl rfl (hov _ _ _) ?_)))
  have hc1 : ¬ (cap = i + m.length) := by omega
  have hc2 : ¬ (cap = i) := by omega
  have hp1 : (0 : Int) ≤ (i : Int) + (m.length : Int) := by omega
  have hp2 : i + m.length ≤ l.length + m.length := by omega
  have hp3 : ((i : Int) + (m.length : Int)).toNat = i + m.length := by omega
  have hp4 : (i : Int) ≤ (l.length : Int) + (m.length : Int) := by omega
  have hp5 : i ≤ l.length + m.length := by omega
  have hp6 : i ≤ l.length := by omega
  have zE := Try.sizeOf49
  have mixed : Try.prog.follows Departure.mixedOrders = true := by kernel_rfl
  have uE1 := run_underlying uE
  have b2d : BxV w.drew g 49 cur := hB
  have hcd2 : ∀ j x, ((l.drop i).flatMap enC)[j]? = some x → w.drew.cell? ((⟨g, i * 2, none⟩ : Addr).add j) = some x := hcd
  have hfitd : (i + m.length) * 2 + ((l.drop i).flatMap enC).length ≤ cur.length := by rw [fl_len, hdl]; omega
  have hld : ((l.drop i).flatMap enC).length = min (l.length + m.length - i) (l.length + m.length - (i + m.length)) * 2 := by rw [fl_len, hdl]; omega
  go_region_law_o (refine step_cpyN rfl _ _ 31 rfl 49 2 uE en_size g 49 _ b2d ((i + m.length) * 2) (l.length + m.length - (i + m.length)) (cap - (i + m.length)) (l.length + m.length - i) (cap - i) ⟨g, i * 2, none⟩ ((l.drop i).flatMap enC) (by simp [Act.eval, Act.put]) (by simp [Act.eval, Act.put]) hld hcd2 hfitd (fl_one _) ?_)
  have b3 := setCells_bx ((l.drop i).flatMap enC) ((i + m.length) * 2) w.drew _ b2d hfitd
  have f3 := setCells_fr1 w.drew g ((l.drop i).flatMap enC) ((i + m.length) * 2)
  obtain ⟨w3, H3⟩ : ∃ x, Hid (w.drew.setCells g ((i + m.length) * 2) ((l.drop i).flatMap enC) = x) := ⟨_, rfl⟩
  rw [H3.out] at b3 f3 ⊢
  have F3 : Fr (onB1 g) w w3 := ((Fr.refl _ w).drew).thenT f3 (fun _ _ q => q)
  have hlen2 : (putAt cur ((i + m.length) * 2) ((l.drop i).flatMap enC)).length = cap * 2 := by rw [putAt_len _ _ _ hfitd, hcl]
  go_wp2_with (first
    | (refine at_cut 31 _ _ _ _ rfl ?_; go_must (refine wpList_cutlo1 rfl 31 _ _ rfl 49 uE 2 en_size g (l.length + m.length) cap rfl .i64 (i : Int) i rfl rfl (by omega) (by omega) ?_))
    | (refine at_cpy _ _ _ _ rfl ?_; go_must (refine wpList_cpyN rfl _ _ 31 rfl 49 2 uE en_size g 49 _ b3 (i * 2) (l.length + m.length - i) (cap - i) m.length capu ⟨gu, 0 * 2, none⟩ (m.flatMap enC) rfl rfl (by rw [fl_len, Nat.min_eq_left (by omega)]) (fun j x hj => F3.cell (hcu j x hj) (fun q => by unfold onB1 at q; rw [Addr.add_lit] at q; exact hne q)) (by rw [fl_len, hlen2]; omega) (fl_one m) ?_; intro w4 b4 f4)))
  go_ret
  have hg := (gap_en (cur := cur) (l := l) (m := m) (b := l.drop i) (i := i) (N := l.length + m.length) (by omega) (cur_take hct i (by omega)) (by rw [hdl]; omega) (by omega)).1
  have hlen3 : (putAt (putAt cur ((i + m.length) * 2) ((l.drop i).flatMap enC)) (i * 2) (m.flatMap enC)).length = cap * 2 := by
    rw [putAt_len _ _ _ (by rw [fl_len, hlen2]; omega), hlen2]
  have hln : (l.take i ++ (m ++ l.drop i)).length = l.length + m.length := by rw [List.length_append, List.length_append, List.length_take, hdl]; omega
  refine ⟨_, rfl, EnO.mk hbg b4 hln.symm (by rw [hln]; exact hcap) hcm hlen3 (by rw [hln]; exact hg), ?_, fun k hk => Or.inl hk⟩
  exact (F3.thenT f4 (fun _ _ q => q)).mono (fun k _ q => by unfold onB1 at q; subst q; rfl)
/-- slices.Insert of some entries. -/
theorem insE_any {w : World} {base bu : Nat} {v u : Value} {l m : List (Int × Int)} {i : Nat} (hb : base ≤ w.heap.size) (hO : EnO w base v l) (hu : EnO w bu u m) (hap : ∀ k, v.ownBlock = some k → u.ownBlock = some k → False) (hm : 1 ≤ m.length) (hl : l.length + m.length ≤ 1000) (hi : i ≤ l.length) :
    Calls Try.prog 62 #[v, .int .i64 (i : Int), u] w fun r w' => InsIs w w' base v (l.take i ++ (m ++ l.drop i)) r := by
  by_cases he : i = l.length
  · subst he
    rw [List.take_length, List.drop_length, List.append_nil]
    exact insE_end hb hO hu.sl hm hl
  · obtain ⟨a, cap, hv⟩ := hO.opn
    by_cases hc : cap < l.length + m.length
    · exact insE_grow hb hO hu hm hl (by omega) hv hc
    · exact insE_shift hb hO hu hap hm hl (by omega) hv (by omega)
end Go.Proofs.Ytkhdniccnefdhaa
/- A store: lay, Undo. -/
namespace Go.Proofs.Ytkhdniccnefdhaa
open Go.RowKit Go.Proofs.U Go.Shelf
set_option linter.unusedSimpArgs false
set_option linter.unusedVariables false
/-- One operation turns memory; all others read. -/
def JH (w0 : World) (V : Value) (Q : World → Prop) : List Value → World → Prop
  | [], W => W = w0
  | [v], W => v = V ∧ Q W
  | _, _ => False
theorem JH.val {w0 : World} {V x : Value} {Q : World → Prop} {hv : List Value} {W : World} (h : JH w0 V Q hv W) (hx : hv[0]? = some x) : x = V := by
  match hv, h with
  | [], _ => cases hx
  | [v], h => cases hx; exact h.1
theorem JH.end {w0 : World} {V : Value} {Q : World → Prop} {hv : List Value} {W : World} (h : JH w0 V Q hv W) (hl : hv.length = 1) : Q W := by
  match hv, hl, h with
  | [v], _, h => exact h.2
/-- What a write to a store may turn. -/
def stB (F : Nat → Prop) (gp : Nat) : Nat → Prop := fun k => F k ∨ k = gp
def LayIs (w w' : World) (F : Nat → Prop) (gs gp : Nat) (S : DSt × List Pg) (m : Nat) : Prop := ∃ F' : Nat → Prop, Sto w' F' gs gp S.1 S.2 m ∧ (∀ k, F' k → (F k ∨ w.heap.size ≤ k) ∧ k < w'.heap.size) ∧ Fr (stB F gp) w w'
set_option maxRecDepth 100000 in
set_option maxHeartbeats 1000000 in
theorem lay_no {F : Nat → Prop} {gs gp : Nat} {X : DSt} {L : List Pg} {m : Nat} (q : List Int) (hq : q.length = 256) (w : World) (h : Sto w F gs gp X L m) (hT : ¬ (plTake L).2.2 = 0) :
    Calls Try.prog 42 #[ptr gs, pgV q] w fun r w' => r = .returned (.tuple #[.int .i64 (-1), .int .i64 (plTake L).2.2]) ∧ LayIs w w' F gs gp (X, (plTake L).1) m := by
  have Hq := show Hid _ from hq
  have hH := fun W (f : Fr noB w W) => ptake_any h.ok gp W (h.fr0 f).pl
  have ho := take_ok h.ok
  have hn := show Hid _ from take_len L
  obtain ⟨gd, k0, k1, hd⟩ := h.cells
  obtain ⟨R, HR⟩ : ∃ R, Hid (plTake L = R) := ⟨_, rfl⟩
  rw [HR.out] at hH ho hn hT ⊢
  go_enter Try.func42, Try.ntmps42
  go_wp2_with (first
    | (with_reducible refine at_wpP ?_; refine wpList_boxV rfl 82 _ rfl (pgv q) rfl ?_; intro g1 w1 hg1 b1 f1 s1; have z1 := f1.size; have k1 := f1.cell k1 (fun q => q))
    | (go_at_call 59; go_must (refine (hH _ f1).mono ?_; rintro e w2 ⟨rfl, b2, f2⟩)))
  go_ret2
  have S2 := (h.fr0 f1).pool f2 b2 ho hn.out
  exact ⟨rfl, _, S2.tight, fun k hk => ⟨Or.inl hk.1, hk.2⟩, (f1.mono (fun k hk q => q.elim)).thenT f2 (fun i hi q => Or.inr q)⟩
set_option maxRecDepth 100000 in
set_option maxHeartbeats 2000000 in
theorem lay_yes {F : Nat → Prop} {gs gp : Nat} {X : DSt} {L : List Pg} {m : Nat} (q : List Int) (hq : q.length = 256) (hb : Byt q) (w : World) (h : Sto w F gs gp X L m) (hm : m ≤ 100000) (hT : (plTake L).2.2 = 0) :
    Calls Try.prog 42 #[ptr gs, pgV q] w fun r w' => r = .returned (.tuple #[.int .i64 (plTake L).2.1, .int .i64 0]) ∧ LayIs w w' F gs gp (X.write ((plTake L).2.1 + 4) q, (plTake L).1) (m + 1) := by
  have Hq := show Hid _ from hq
  have hH := fun W (f : Fr noB w W) => ptake_any h.ok gp W (h.fr0 f).pl
  have ho := take_ok h.ok
  have hn := show Hid _ from take_len L
  have hlen := h.ok.1
  have hrng : 0 ≤ (plTake L).2.1 ∧ (plTake L).2.1 < (L.length : Int) := by
    rcases plTake_cases L with ⟨k, hk, _, _, e⟩ | ⟨_, e⟩
    · rw [e]; simp; omega
    · rw [e] at hT; cases hT
  obtain ⟨gd, k0, k1, hd⟩ := h.cells
  obtain ⟨R, HR⟩ : ∃ R, Hid (plTake L = R) := ⟨_, rfl⟩
  rw [HR.out] at hH ho hn hT hrng ⊢
  obtain ⟨R1, i, e⟩ := R
  simp only at hH ho hn hT hrng ⊢
  subst hT
  obtain ⟨hE, hU, hct⟩ := h.up.write hrng.1 hrng.2 hq hb
  have hW := fun W (d : Disk W F gd X) => write_any gd (i + 4) q hq W d (Nat.le_trans h.up.pm hm)
  rw [hE] at hW
  have hi4 : IntKind.i64.wrap (i + 4) = i + 4 := wrap_sm (by omega)
  obtain ⟨Y, HY⟩ : ∃ Y, Hid (X.write (i + 4) q = Y) := ⟨_, rfl⟩
  rw [HY.out] at hW hU ⊢
  clear hct hE
  go_enter Try.func42, Try.ntmps42
  go_wp2_with (first
    | (with_reducible refine at_wpP ?_; refine wpList_boxV rfl 82 _ rfl (pgv q) rfl ?_; intro g1 w1 hg1 b1 f1 s1; have l1 := b1.lt; have z1 := f1.size; have k1 := f1.cell k1 (fun q => q))
    | (go_at_call 59; go_must (refine (hH _ f1).mono ?_; rintro e w2 ⟨rfl, b2, f2⟩; have z2 := f2.size)))
  have S2 := (h.fr0 f1).pool f2 b2 ho hn.out
  have k0' : w2.cell? ⟨gs, 0, none⟩ = some (ptr gd) := f2.cell (f1.cell k0 (fun q => q)) (fun q => by unfold onB1 at q; exact h.ne q)
  have d2 : Disk w2 F gd X := (hd.fr0 f1).fr f2 (fun k hk hF q => by unfold onB1 at q; subst q; exact h.fp hF)
  have B2 : BxV w2 g1 82 (pgv q) := b1.fr f2 (fun q => by have := h.ltp; unfold onB1 at q; omega)
  obtain ⟨w0, HW⟩ : ∃ w0, Hid (w2.drew = w0) := ⟨_, rfl⟩
  have f0 : Fr noB w2 w0 := by rw [← HW.out]; exact (Fr.refl _ _).drew
  have z0 := f0.size
  have k00 := f0.cell k0' (fun q => q)
  have d20 := d2.fr0 f0
  have B20 := B2.fr0 f0
  refine wp_region_chain_lay (by kernel_rfl) [8] [none, none, none, none, none, none, none, none, some 0, none, none]
    [fun v => v = .int .i64 i, fun v => v = ptr gs, fun v => v = ptr gs, fun v => v = .pointer (some ⟨gs, 0, none⟩), fun v => v = ptr gd, fun v => v = .int .i64 i, fun v => v = .int .i64 (i + 4), fun v => v = pgV q, fun _ => True, fun v => v = .int .i64 i, fun v => v = .int .i64 0]
    (JH w0 (.int .i64 0) (fun W => Disk W (orNew F w0) gd Y ∧ Fr F w0 W)) (HW.out) (by kernel_rfl) (by kernel_rfl) (by decide) ⟨?o0, ?o1, ?o2, ?o3, ?o4, ?o5, ?o6, ?o7, ?o8, ?o9, ?o10, trivial⟩ ?oe
  case o0 =>
    intro A W hv hlen hJ hbase hdL hdH
    have e6 : A.eval (.tmp 6) = .int .i64 i := hbase 6 (by kernel_rfl)
    have f6 : A.tmps[6]?.getD undef = .int .i64 i := by simpa [Act.eval] using e6
    exact light_val rfl (v := .int .i64 i) (by simp [execOp, e6, f6]) hJ rfl
  case o1 =>
    intro A W hv hlen hJ hbase hdL hdH
    have e0 : A.eval (.tmp 0) = ptr gs := hbase 0 (by kernel_rfl)
    have f0 : A.tmps[0]?.getD undef = ptr gs := by simpa [Act.eval] using e0
    exact light_val rfl (v := ptr gs) (by simp [execOp, e0, f0]) hJ rfl
  case o2 =>
    intro A W hv hlen hJ hbase hdL hdH
    have e20 : A.eval (.tmp 20) = ptr gs := hdL 1 20 (by kernel_rfl) (by kernel_rfl) (by kernel_rfl)
    have f20 : A.tmps[20]?.getD undef = ptr gs := by simpa [Act.eval] using e20
    exact light_val rfl (v := ptr gs) (by simp [execOp, go_sem, e20, f20]) hJ rfl
  case o3 =>
    intro A W hv hlen hJ hbase hdL hdH
    have e21 : A.eval (.tmp 21) = ptr gs := hdL 2 21 (by kernel_rfl) (by kernel_rfl) (by kernel_rfl)
    have f21 : A.tmps[21]?.getD undef = ptr gs := by simpa [Act.eval] using e21
    exact light_val rfl (v := .pointer (some ⟨gs, 0, none⟩)) (by simp [execOp, go_sem, e21, f21]) hJ rfl
  case o4 =>
    intro A W hv hlen hJ hbase hdL hdH
    have e22 : A.eval (.tmp 22) = .pointer (some ⟨gs, 0, none⟩) := hdL 3 22 (by kernel_rfl) (by kernel_rfl) (by kernel_rfl)
    have f22 : A.tmps[22]?.getD undef = .pointer (some ⟨gs, 0, none⟩) := by simpa [Act.eval] using e22
    obtain rfl : hv = [] := List.eq_nil_of_length_eq_zero (Nat.le_zero.1 (hlen.2 0 8 rfl (by kernel_rfl)))
    obtain rfl := (show W = _ from hJ)
    exact light_val rfl (v := ptr gd) (by simp [execOp, go_sem, e22, f22, k00]) rfl rfl
  case o5 =>
    intro A W hv hlen hJ hbase hdL hdH
    have e6 : A.eval (.tmp 6) = .int .i64 i := hbase 6 (by kernel_rfl)
    have f6 : A.tmps[6]?.getD undef = .int .i64 i := by simpa [Act.eval] using e6
    exact light_val rfl (v := .int .i64 i) (by simp [execOp, e6, f6]) hJ rfl
  case o6 =>
    intro A W hv hlen hJ hbase hdL hdH
    have e24 : A.eval (.tmp 24) = .int .i64 i := hdL 5 24 (by kernel_rfl) (by kernel_rfl) (by kernel_rfl)
    have f24 : A.tmps[24]?.getD undef = .int .i64 i := by simpa [Act.eval] using e24
    exact light_val rfl (v := .int .i64 (i + 4)) (by simp [execOp, go_sem, e24, f24, hi4]) hJ rfl
  case o7 =>
    intro A W hv hlen hJ hbase hdL hdH
    have e3 : A.eval (.tmp 3) = ptr g1 := hbase 3 (by kernel_rfl)
    have f3 : A.tmps[3]?.getD undef = ptr g1 := by simpa [Act.eval] using e3
    obtain rfl : hv = [] := List.eq_nil_of_length_eq_zero (Nat.le_zero.1 (hlen.2 0 8 rfl (by kernel_rfl)))
    obtain rfl := (show W = _ from hJ)
    have hr := run_loadA arr_page _ g1 0 q (bxAll B20) Hq.out
    exact light_val rfl (v := pgV q) (by simp [execOp, e3, hr, Result.andThen]) rfl rfl
  case o8 =>
    intro A W hv hlen hJ hbase hdL hdH
    have e23 : A.eval (.tmp 23) = ptr gd := hdL 4 23 (by kernel_rfl) (by kernel_rfl) (by kernel_rfl)
    have f23 : A.tmps[23]?.getD undef = ptr gd := by simpa [Act.eval] using e23
    have e25 : A.eval (.tmp 25) = .int .i64 (i + 4) := hdL 6 25 (by kernel_rfl) (by kernel_rfl) (by kernel_rfl)
    have f25 : A.tmps[25]?.getD undef = .int .i64 (i + 4) := by simpa [Act.eval] using e25
    have e26 : A.eval (.tmp 26) = pgV q := hdL 7 26 (by kernel_rfl) (by kernel_rfl) (by kernel_rfl)
    have f26 : A.tmps[26]?.getD undef = pgV q := by simpa [Act.eval] using e26
    obtain rfl : hv = [] := List.eq_nil_of_length_eq_zero hlen
    obtain rfl := (show W = _ from hJ)
    refine heavy_call rfl (args := #[ptr gd, .int .i64 (i + 4), pgV q]) (f := 60) (by simp [execOp, resolve, invoke, go_sem, e23, f23, e25, f25, e26, f26]) ?_
    refine (hW _ d20).mono ?_
    rintro e w' ⟨rfl, d3, f3⟩
    exact ⟨_, rfl, rfl, ⟨d3, f3⟩⟩
  case o9 =>
    intro A W hv hlen hJ hbase hdL hdH
    have e19 : A.eval (.tmp 19) = .int .i64 i := hdL 0 19 (by kernel_rfl) (by kernel_rfl) (by kernel_rfl)
    have f19 : A.tmps[19]?.getD undef = .int .i64 i := by simpa [Act.eval] using e19
    exact light_val rfl (v := .int .i64 i) (by simp [execOp, e19, f19]) hJ rfl
  case o10 =>
    intro A W hv hlen hJ hbase hdL hdH
    have ev : A.eval (.tmp 27) = .int .i64 0 := JH.val hJ (hdH 8 27 0 (by kernel_rfl) rfl (by kernel_rfl))
    exact light_val rfl (v := .int .i64 0) (by simp [execOp, ev]) hJ rfl
  case oe =>
    intro vs W' hv hlen hJ hL hH
    have x0 : vs 0 = .int .i64 i := hL 0 (by kernel_rfl) (by kernel_rfl)
    have x1 : vs 1 = ptr gs := hL 1 (by kernel_rfl) (by kernel_rfl)
    have x2 : vs 2 = ptr gs := hL 2 (by kernel_rfl) (by kernel_rfl)
    have x3 : vs 3 = .pointer (some ⟨gs, 0, none⟩) := hL 3 (by kernel_rfl) (by kernel_rfl)
    have x4 : vs 4 = ptr gd := hL 4 (by kernel_rfl) (by kernel_rfl)
    have x5 : vs 5 = .int .i64 i := hL 5 (by kernel_rfl) (by kernel_rfl)
    have x6 : vs 6 = .int .i64 (i + 4) := hL 6 (by kernel_rfl) (by kernel_rfl)
    have x7 : vs 7 = pgV q := hL 7 (by kernel_rfl) (by kernel_rfl)
    have x8 : vs 8 = .int .i64 0 := JH.val hJ (hH 0 8 rfl (by kernel_rfl))
    have x9 : vs 9 = .int .i64 i := hL 9 (by kernel_rfl) (by kernel_rfl)
    have x10 : vs 10 = .int .i64 0 := hL 10 (by kernel_rfl) (by kernel_rfl)
    have hQ := JH.end hJ hlen
    simp only [layL, Nat.reduceAdd, Act.put, List.setIfInBounds_toArray, List.set_cons_zero, List.set_cons_succ, x0, x1, x2, x3, x4, x5, x6, x7, x8, x9, x10]
    clear x0 x1 x2 x3 x4 x5 x6 x7 x8 x9 x10 hL hH hJ hlen
    obtain ⟨d3, f3⟩ := hQ
    have z3 := f3.size
    go_wp2
    go_ret2
    have d3' := d3.tight
    have F3 : Fr F w2 W' := (f0.mono (fun _ _ q => q.elim)).trans f3
    refine ⟨rfl, _, ⟨⟨gd, ?_, d3'⟩, S2.pl.fr F3 h.fp, ho, ?_, ?_, ?_, h.ne, fun k hk => hk.2⟩, ?_, ?_⟩
    · obtain ⟨gd', hb', hd'⟩ := S2.dk
      have e : gd' = gd := by have := hb'.two.1; rw [k0'] at this; simpa using this.symm
      subst e
      exact hb'.fr F3 h.fs
    · simp only; rw [hn.out]; exact hU
    · intro q
      have := h.lts
      unfold orNew at q
      rcases q.1 with q1 | q1
      · exact h.fs q1
      · omega
    · intro q
      have := h.ltp
      unfold orNew at q
      rcases q.1 with q1 | q1
      · exact h.fp q1
      · omega
    · intro k hk
      unfold orNew at hk
      refine ⟨?_, hk.2⟩
      rcases hk.1 with q1 | q1
      · exact Or.inl q1
      · exact Or.inr (by omega)
    · exact ((f1.mono (fun k hk q => q.elim)).thenT f2 (fun i hi q => Or.inr q)).thenT F3 (fun i hi q => Or.inl q)
end Go.Proofs.Ytkhdniccnefdhaa
/- A store: Make, Drop. -/
namespace Go.Proofs.Ytkhdniccnefdhaa
open Go.RowKit Go.Proofs.U Go.Shelf
set_option linter.unusedSimpArgs false
set_option linter.unusedVariables false
theorem eg_lacks : ∀ args w, (callFunc 37 args).run Try.prog w = .ok (.enter 37 args) w := enters_of Try.func37 (by kernel_rfl) rfl
theorem eg_hold : ∀ args w, (callFunc 44 args).run Try.prog w = .ok (.enter 44 args) w := enters_of Try.func44 (by kernel_rfl) rfl
theorem eg_drop : ∀ args w, (callFunc 34 args).run Try.prog w = .ok (.enter 34 args) w := enters_of Try.func34 (by kernel_rfl) rfl
theorem contains_lacks {F : Nat → Prop} {gs gp : Nat} {X : DSt} {L : List Pg} {m : Nat} (u : Value) (l : List Int) (hl : l.length ≤ 1000000) (w : World) (h : Sto w F gs gp X L m) (hu : SlI .i64 w u l) :
    Calls Try.prog 41 #[u, .func (.func 37) #[ptr gs] #[]] w fun r w' => r = .returned (.bool (l.any fun p => !plHeld L p)) ∧ w = w' :=
  containsFunc_any (fun p => !plHeld L p) 37 #[ptr gs] #[] eg_lacks u l w hu hl (fun x hx => lacks_any x w h)
theorem each_hold {gp : Nat} {L : List Pg} (u : Value) (l : List Int) (hl : l.length ≤ 1000000) (w : World) (h : PoolB w gp L) (ho : plOk L) (hu : SlI .i64 w u l) (hg : ∀ k, u.ownBlock = some k → k ≠ gp) :
    Calls Try.prog 43 #[u, .func (.func 44) #[ptr gp] #[]] w fun r w' => r = .returned (.int .i64 (eachF plHold L l).2) ∧ PoolB w' gp (eachF plHold L l).1 ∧ Fr (onB1 gp) w w' := by
  refine (each_any plHold (fun M W => PoolB W gp M ∧ plOk M ∧ SlI .i64 W u l ∧ Fr (onB1 gp) w W) 44 #[ptr gp] #[] eg_hold u l hl (fun _ _ h => h.2.2.1) (fun M W x hx hI => ?_) L w ⟨h, ho, hu, Fr.refl _ _⟩).mono ?_
  · refine (phold_any hI.2.1 gp x W hI.1).mono ?_
    rintro e w1 ⟨rfl, b1, f1⟩
    exact ⟨rfl, b1, hold_ok hI.2.1 x, hI.2.2.1.fr f1 (fun k hk q => hg k hk q), hI.2.2.2.trans f1⟩
  · rintro e w1 ⟨rfl, b1, _, _, f1⟩
    exact ⟨rfl, b1, f1⟩
theorem kids_len {w : World} {v : Value} {n : Nd} (h : NdS w v n) : (kids n).length ≤ 1000 := by unfold kids; rw [List.length_map]; exact h.2.2.1
theorem eachHold_len (l : List Int) (L : List Pg) : (eachF plHold L l).1.length = L.length := eachF_inv (I := fun M => M.length = L.length) (fun M p h => by rw [hold_len]; exact h) l L rfl
theorem eachHold_ok (l : List Int) {L : List Pg} (h : plOk L) : plOk (eachF plHold L l).1 := eachF_inv (I := plOk) (fun M p h => hold_ok h p) l L h
set_option maxRecDepth 100000 in
set_option maxHeartbeats 1000000 in
theorem make_no {F : Nat → Prop} {gs gp : Nat} {X : DSt} {L : List Pg} {m : Nat} (n : Nd) (vs : Value) (w : World) (h : Sto w F gs gp X L m) (hn : NdS w vs n) (hr : n.right = false) :
    Calls Try.prog 26 #[ptr gs, ndV n.k n.b vs] w fun r w' => r = .returned (.tuple #[.int .i64 (-1), .int .i64 81]) ∧ Sto w' F gs gp X L m ∧ Fr noB w w' := by
  have hP := fun W (f : Fr noB w W) => page_no n vs W (hn.fr0 f) hr
  have hbl := NdS.bl hn
  obtain ⟨Z, HZ⟩ : ∃ Z, Hid (zerB 256 = Z) := ⟨_, rfl⟩
  have hZl : Hid (Z.length = 256) := by show _ = _; rw [← HZ.out]; exact zerB_len 256
  rw [HZ.out] at hP
  go_enter Try.func26, Try.ntmps26
  go_wp2_with (first
    | (with_reducible refine at_wpP ?_; refine wpList_boxN rfl _ rfl n.k n.b vs rfl ?_; intro g1 w1 hg1 b1 f1 s1; have l1 := b1.lt; have z1 := f1.size)
    | (with_reducible refine at_wpP ?_; refine at_ld 47 _ rfl ?_; go_must (refine wpList_ldN rfl _ rfl g1 rfl n.k n.b vs b1 hbl.out ?_))
    | (go_at_call 39; go_must (refine (hP _ f1).mono ?_; rintro e w2 ⟨rfl, f2⟩; have z2 := f2.size))
    | (with_reducible refine at_wpP ?_; refine wpList_allocA arr_page rfl rfl ?_; rw [HZ.out]; intro g3 w3 hg3 b3 f3 s3; have l3 := b3.lt; have z3 := f3.size)
    | (with_reducible refine at_wpP ?_; refine at_st 82 _ _ rfl ?_; go_must (refine wpList_storeA arr_page rfl _ _ rfl g3 rfl Z rfl _ b3 hZl.out hZl.out ?_; intro w4 b4 f4; have z4 := f4.size; have F4 : Fr noB w2 w4 := Fr.ownX f3 s3 f4)))
  go_ret2
  have F := (f1.thenN f2).thenN F4
  exact ⟨rfl, h.fr0 F, F⟩
set_option maxRecDepth 100000 in
set_option maxHeartbeats 1000000 in
theorem make_lack {F : Nat → Prop} {gs gp : Nat} {X : DSt} {L : List Pg} {m : Nat} (n : Nd) (vs : Value) (w : World) (h : Sto w F gs gp X L m) (hn : NdS w vs n) (hr : n.right = true) (ha : (kids n).any (fun p => !plHeld L p) = true) :
    Calls Try.prog 26 #[ptr gs, ndV n.k n.b vs] w fun r w' => r = .returned (.tuple #[.int .i64 (-1), .int .i64 73]) ∧ Sto w' F gs gp X L m ∧ Fr noB w w' := by
  have hP := fun W (f : Fr noB w W) => page_ok n vs W (hn.fr0 f) hr
  have hC := fun W (f : Fr noB w W) => children_any n vs W (hn.fr0 f)
  have hkl := kids_len hn
  have hL := fun (u : Value) W (f : Fr noB w W) (hu : SlI .i64 W u (kids n)) => contains_lacks u (kids n) (by omega) W (h.fr0 f) hu
  rw [ha] at hL
  have hbl := NdS.bl hn
  have hpl := show Hid _ from page_len hr hbl.out
  obtain ⟨K, HK⟩ : ∃ K, Hid (kids n = K) := ⟨_, rfl⟩
  rw [HK.out] at hC hL
  obtain ⟨P, HP⟩ : ∃ P, Hid (n.page = P) := ⟨_, rfl⟩
  rw [HP.out] at hP hpl
  obtain ⟨Z, HZ⟩ : ∃ Z, Hid (zerB 256 = Z) := ⟨_, rfl⟩
  have hZl : Hid (Z.length = 256) := by show _ = _; rw [← HZ.out]; exact zerB_len 256
  go_enter Try.func26, Try.ntmps26
  go_wp2_with (first
    | (with_reducible refine at_wpP ?_; refine wpList_boxN rfl _ rfl n.k n.b vs rfl ?_; intro g1 w1 hg1 b1 f1 s1; have l1 := b1.lt; have z1 := f1.size)
    | (with_reducible refine at_wpP ?_; refine at_ld 47 _ rfl ?_; have q := b4; go_must (refine wpList_ldN rfl _ rfl g1 rfl n.k n.b vs ((b1.fr0 f2).fr0 F4) hbl.out ?_))
    | (with_reducible refine at_wpP ?_; refine at_ld 47 _ rfl ?_; refine wpList_ldN rfl _ rfl g1 rfl n.k n.b vs b1 hbl.out ?_)
    | (go_at_call 39; go_must (refine (hP _ f1).mono ?_; rintro e w2 ⟨rfl, f2⟩; have z2 := f2.size))
    | (with_reducible refine at_wpP ?_; refine wpList_allocA arr_page rfl rfl ?_; rw [HZ.out]; intro g3 w3 hg3 b3 f3 s3; have l3 := b3.lt; have z3 := f3.size)
    | (with_reducible refine at_wpP ?_; refine at_st 82 _ _ rfl ?_; go_must (refine wpList_storeA arr_page rfl _ _ rfl g3 rfl P rfl _ b3 hpl.out hZl.out ?_; intro w4 b4 f4; have z4 := f4.size; have F4 : Fr noB w2 w4 := Fr.ownX f3 s3 f4; have G4 : Fr noB w w4 := (f1.thenN f2).thenN F4))
    | (go_at_call 40; go_must (refine (hC _ G4).mono ?_; rintro e w5 ⟨u, rfl, o5, u5, f5⟩; have z5 := f5.size; have G5 := G4.thenN f5))
    | (go_at_call 41; go_must (refine (hL _ _ G5 u5).mono ?_; rintro e w6 ⟨rfl, rfl⟩)))
  go_ret2
  exact ⟨rfl, h.fr0 G5, G5⟩
end Go.Proofs.Ytkhdniccnefdhaa
