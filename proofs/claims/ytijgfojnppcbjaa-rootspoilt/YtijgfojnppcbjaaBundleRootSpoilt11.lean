/- Texts MY, V2, V3, V4 of the proof of RootSpoilt, one behind the other. -/
import Derived.Test.YtijgfojnppcbjaaBundleRootSpoilt1
import Derived.Test.YtijgfojnppcbjaaBundleRootSpoilt2
import Derived.Test.YtijgfojnppcbjaaBundleRootSpoilt3
import Derived.Test.YtijgfojnppcbjaaBundleRootSpoilt4
import Derived.Test.YtijgfojnppcbjaaBundleRootSpoilt5
import Derived.Test.YtijgfojnppcbjaaBundleRootSpoilt6
import Derived.Test.YtijgfojnppcbjaaBundleRootSpoilt7
import Derived.Test.YtijgfojnppcbjaaBundleRootSpoilt8
import Derived.Test.YtijgfojnppcbjaaBundleRootSpoilt9
import Derived.Test.YtijgfojnppcbjaaBundleRootSpoilt10
/- DiskKeeps: the row of rows that it keeps; what lies in memory while its regions run. -/
namespace Go.Proofs.U
open Go.RowKit
set_option linter.unusedSimpArgs false
set_option linter.unusedVariables false
abbrev enV (v : Value) : List Value := [v]
def upd {α : Type} (f : Nat → α) (j : Nat) (x : α) : Nat → α := fun i => if i = j then x else f i
theorem upd_self {α : Type} (f : Nat → α) (j : Nat) (x : α) : upd f j x j = x := by simp [upd]
theorem upd_ne {α : Type} (f : Nat → α) {j : Nat} (x : α) {i : Nat} (h : i ≠ j) : upd f j x i = f i := by simp [upd, h]
theorem set_upd {α : Type} (f : Nat → α) (j : Nat) (x : α) (n : Nat) : ((List.range n).map f).set j x = (List.range n).map (upd f j x) := by
  apply List.ext_getElem
  · simp
  · intro i h1 h2
    rw [List.getElem_set]
    by_cases h : j = i
    · subst h; simp [upd]
    · have h' : ¬ i = j := fun e => h e.symm
      simp [upd, h, h']
theorem map_const_range {α : Type} (x : α) (n : Nat) : (List.range n).map (fun _ => x) = List.replicate n x := by simp [List.map_const']
theorem flat_enV : ∀ l : List Value, l.flatMap enV = l
  | [] => rfl
  | x :: l => by rw [List.flatMap_cons, flat_enV l]; rfl
theorem bx_full {w : World} {base g N : Nat} {e : TypeId} {l : List Value} (h : OwnR enV 1 e w base (.slice (some ⟨g, 0, none⟩) N N) l) (hl : l.length = N) : BxV w g e l := by
  obtain ⟨_, h1, h2⟩ := h
  rcases h2 with ⟨h2, _⟩ | ⟨g', cap, cur, hv, _, hg, _, _, hcs, ht⟩
  · cases hv : h2
  · obtain ⟨rfl, hN, rfl⟩ : g = g' ∧ N = l.length ∧ N = cap := by simpa using hv
    rw [flat_enV] at ht
    unfold BxV
    rw [hg]
    have : cur.toList = l := by
      rw [← ht, List.take_of_length_le]
      rw [Array.length_toList, hcs, hN]; omega
    rw [← this]
section
variable {P : Program} {w : World} {ops : Array Oper} {rest : List Oper} {o : Oper} {a : Act} {Q : Exit → Act → World → Prop} {e : TypeId} {K : Act → World → Prop} {b : Nat} {xs : List Value}
theorem wpList_mkT (hgd : Region.wanted o (yielded ops a.tmps) = true) (t : TypeId) (y : Operand) (ho : o.op = .buildSlice t 1 #[(0, y)]) (e : TypeId) (ht : P.underlying t = some (.slice e)) (z : Value) (hinfo : (P.info? e).map (fun i => (i.zero, i.size)) = some (some z, 1))
    (x : Value) (hy : a.eval y = x) (hV : x.cells = #[x])
    (h : ∀ g w', OwnT e w' g (.slice (some ⟨g, 0, none⟩) 1 1) [x] → Fr noB w w' → w.heap.size ≤ g → wpList P ops Q rest (a.put o.dst (.slice (some ⟨g, 0, none⟩) 1 1)) w') : wpList P ops Q (o :: rest) a w := by
  refine wpList_wanted hgd fun K hK => ?_
  have hr := run_mk1 (P := P) (ec := enV) (sz := 1) t ht z hinfo (by decide) (by decide) x x (by rw [hV]) rfl w
  unfold Oper.wp
  simp only [execOp, ho]
  simp [hy, hr, Result.andThen]
  exact hK _ _ (h w.heap.size _ (OwnT.made w x e) ((Fr.refl _ _).alloc _) (Nat.le_refl _))
theorem wp_appT (s x : Operand) (t : TypeId) (ho : o.op = .call { callee := .builtin .append, args := #[s, x], argTypes := #[t, t] })
    (z : Value) (ht : P.underlying t = some (.slice e)) (hinfo : (P.info? e).map (fun i => (i.zero, i.size, i.bytes)) = some (some z, 1, 1)) (hzs : z.cells.size = 1)
    (v : Value) (hs : a.eval s = v) (hO : OwnT e w b v xs) (g : Nat) (hx : a.eval x = .slice (some ⟨g, 0, none⟩) 1 1) (y : Value) (hc : w.cell? ⟨g, 0, none⟩ = some y) (h1 : y.oneCell' = true) (hl : xs.length ≤ 100000)
    (h : ∀ v' w' b', OwnT e w' b' v' (xs ++ [y]) → Fr (onB1 b) w w' → (b' = b ∨ w.heap.size ≤ b') → K (a.put o.dst v') w') : o.wp P a w K Q := by
  obtain ⟨i0, hi, hz0, hz1, hz2⟩ := info_parts hinfo
  obtain ⟨v', w', b', hr, h2, h3, h5⟩ := run_append_T (P := P) t o.type i0 z ht hi hz0 hz1 hz2 hzs hO g y hc h1 hl
  unfold Oper.wp execOp
  simp only [ho, resolve, invoke, builtin, Sem.run_bind, Sem.run_pure, Result.andThen_ok, List.map_toArray, List.map_cons, List.map_nil, hs, hx, hr]
  exact h v' w' b' h2 h3 h5
theorem run_ld1 (t : TypeId) (e : TypeId) (ht : P.underlying t = some (.slice e)) (g off : Nat) (v : Value) (hc : w.cell? ⟨g, off, none⟩ = some v) : (Instr.loadAt t (.pointer (some ⟨g, off, none⟩))).run P w = .ok v w := by
  simp [Instr.loadAt, Instr.sureAddr, loadVar, isAgg, run_underlying ht, go_sem, hc]
end
end Go.Proofs.U
namespace Go.Proofs.Ytijgfojnppcbjaa
open Go.RowKit Go.Proofs.U
set_option linter.unusedSimpArgs false
set_option linter.unusedVariables false
theorem encA_le (x y : ActR) : 0 + (encA x).length ≤ (encA y).length := by simp [encA]
theorem encA_eq (x y : ActR) : (encA x).length = (encA y).length := rfl
theorem wf64 {z : Int} (h : (Lit.int .i64 z).wf = true) : -9223372036854775808 ≤ z ∧ z ≤ 9223372036854775807 := by
  simp [Lit.wf, IntKind.min, IntKind.max, IntKind.signed, IntKind.bits] at h; omega
theorem encA_one {w : World} {x : ActR} (h : ActOk w x) : ∀ u ∈ encA x, u.oneCell' = true := by
  obtain ⟨a, c, e, _⟩ := h.2.2.2.opn
  intro u hu
  simp [encA, e] at hu
  rcases hu with rfl | rfl | rfl | rfl <;> rfl
theorem wrapN (n : Nat) (h : n ≤ 1000) : IntKind.i64.wrap (n : Int) = n := by rw [IntKind.wrap_i64]; omega
section
variable {w : World} {ops : Array Oper} {rest : List Oper} {o : Oper} {a : Act} {Q : Exit → Act → World → Prop}
theorem at_index (t : TypeId) (x y : Operand) (_ho : o.op = .index t x y) (h : wpList Try.prog ops Q (o :: rest) a w) : wpList Try.prog ops Q (o :: rest) a w := h
theorem wpList_indexP (hgd : Region.wanted o (yielded ops a.tmps) = true) (x y : Operand) (ho : o.op = .index 46 x y) (p : List Int) (hx : a.eval x = pgV p) (hl : p.length = 256) (i : Nat) (hy : a.eval y = .int .i64 (i : Int)) (hi : i < 256)
    (h : wpList Try.prog ops Q rest (a.put o.dst (.int .u8 (p.getD i 0))) w) : wpList Try.prog ops Q (o :: rest) a w := by
  refine wpList_wanted hgd fun K hK => ?_
  have hrun : (Instr.index 46 (pgV p) (.int .i64 (i : Int))).run Try.prog w = .ok (.int .u8 (p.getD i 0)) w := by
    obtain ⟨ii, hii, hs⟩ := Option.map_eq_some_iff.1 size_u8
    have ht : Try.prog.underlying 46 = some (.array 256 5) := by kernel_rfl
    have he : Try.prog.underlying 5 = some (.int .u8) := Try.underlying5
    have hgi : p[i]? = some (p.getD i 0) := by simp [List.getD, show i < p.length by omega]
    generalize p.getD i 0 = y at hgi
    have h1 : (i : Int) < 256 := by omega
    unfold pgV pgv
    simp [Instr.index, asIntOf, run_underlying ht, run_underlying he, part, isAgg, sizeOf, typeInfo, hii, hs, go_sem, h1, hgi]
    intro hh; omega
  unfold Oper.wp
  simp [execOp, ho, hx, hy, hrun, Result.andThen]
  exact hK _ _ h
theorem wpList_ld1w (hgd : Region.wanted o (yielded ops a.tmps) = true) (t e : TypeId) (ht : Try.prog.underlying t = some (.slice e)) (x : Operand) (ho : o.op = .load t x) (g off : Nat) (hx : a.eval x = .pointer (some ⟨g, off, none⟩)) (v : Value) (hc : w.cell? ⟨g, off, none⟩ = some v)
    (h : wpList Try.prog ops Q rest (a.put o.dst v) w) : wpList Try.prog ops Q (o :: rest) a w := by
  refine wpList_wanted hgd fun K hK => ?_
  have hr := run_ld1 (P := Try.prog) (w := w) t e ht g off v hc
  unfold Oper.wp
  simp [execOp, ho, hx, hr, Result.andThen]
  exact hK _ _ h
end
def JN (w0 : World) : List Value → World → Prop := fun _ W => W = w0

/-- Rows of bytes in blocks of their own, held by a row. -/
structure May (w : World) (lo g N : Nat) (vs : Nat → Value) (bs : Nat → Nat) (ls : Nat → List Int) (K : Nat) : Prop where
  out : BxV w g 24 ((List.range N).map vs)
  each : ∀ i, i < K → OwnT 5 w (bs i) (vs i) ((ls i).map (Value.int .u8))
  inj : ∀ i j, i < K → j < K → bs i = bs j → i = j
  low : ∀ i, i < K → lo ≤ bs i
section
variable {w w' : World} {lo g N K : Nat} {vs : Nat → Value} {bs : Nat → Nat} {ls ls' : Nat → List Int} {S : Nat → Prop}
theorem May.ne (h : May w lo g N vs bs ls K) : ∀ i, i < K → bs i ≠ g := by
  intro i hi e
  obtain ⟨cur, hc⟩ := (h.each i hi).blk
  have := h.out
  unfold BxV at this
  rw [e, this] at hc
  simp at hc
theorem May.fr (h : May w lo g N vs bs ls K) (f : Fr S w w') (hg : ¬ S g) (hb : ∀ i, i < K → ¬ S (bs i)) : May w' lo g N vs bs ls K :=
  ⟨h.out.fr f hg, fun i hi => (h.each i hi).fr f (hb i hi), h.inj, h.low⟩
theorem May.fr0 (h : May w lo g N vs bs ls K) (f : Fr noB w w') : May w' lo g N vs bs ls K := h.fr f (fun q => q) (fun _ _ q => q)
theorem May.congr (h : May w lo g N vs bs ls K) (hl : ∀ i, i < K → ls i = ls' i) : May w lo g N vs bs ls' K :=
  ⟨h.out, fun i hi => hl i hi ▸ h.each i hi, h.inj, h.low⟩
end
/-- While a page is written. -/
def JK (w0 : World) (F : Nat → Prop) (gd : Nat) (E : Int) (Y : DSt) (P : List Int) : List Value → World → Prop
  | [], W => W = w0
  | [v], W => v = pgV P ∧ Fr noB w0 W
  | [_, e], W => e = .int .i64 E ∧ Fr F w0 W ∧ ∃ F', Disk W F' gd Y ∧ ∀ q, F' q → q < W.heap.size ∧ (F q ∨ w0.heap.size ≤ q)
  | _, _ => False
theorem JK.fr {w0 : World} {F : Nat → Prop} {gd : Nat} {E : Int} {Y : DSt} {P : List Int} : ∀ {hv : List Value} {W : World}, JK w0 F gd E Y P hv W → Fr F w0 W
  | [], _, h => by cases h; exact Fr.refl _ _
  | [_], _, h => h.2.mono (fun _ _ q => q.elim)
  | [_, _], _, h => h.2.1
  | _ :: _ :: _ :: _, _, h => h.elim
/-- While a byte is appended to one of the rows. -/
def JA (w0 : World) (g2 bj j : Nat) (L xs : List Value) (c : Int) : List Value → World → Prop
  | [], W => W = w0
  | [v], W => v = .slice (some ⟨w0.heap.size, 0, none⟩) 1 1 ∧ W = w0.alloc (.cells #[.int .u8 c] 5)
  | [_, v], W => ∃ b', OwnT 5 W b' v (xs ++ [.int .u8 c]) ∧ Fr (onB1 bj) w0 W ∧ (b' = bj ∨ w0.heap.size ≤ b')
  | [_, v, _], W => ∃ b', OwnT 5 W b' v (xs ++ [.int .u8 c]) ∧ BxV W g2 24 (L.set j v) ∧ Fr (fun q => q = bj ∨ q = g2) w0 W ∧ (b' = bj ∨ w0.heap.size ≤ b')
  | _, _ => False
theorem JA.fr {w0 : World} {g2 bj j : Nat} {L xs : List Value} {c : Int} : ∀ {hv : List Value} {W : World}, JA w0 g2 bj j L xs c hv W → Fr (fun q => q = bj ∨ q = g2) w0 W
  | [], _, h => by cases h; exact Fr.refl _ _
  | [_], _, h => by obtain ⟨_, rfl⟩ := h; exact ((Fr.refl noB w0).alloc _).mono (fun _ _ q => q.elim)
  | [_, _], _, h => by obtain ⟨_, _, h, _⟩ := h; exact h.mono (fun _ _ q => Or.inl q)
  | [_, _, _], _, h => by obtain ⟨_, _, _, h, _⟩ := h; exact h
  | _ :: _ :: _ :: _ :: _, _, h => h.elim
/-- While one of the rows is cut. -/
def JU (w0 : World) (g2 : Nat) (L : List Value) : List Value → World → Prop
  | [], W => W = w0
  | [_], W => BxV W g2 24 L ∧ Fr (onB1 g2) w0 W
  | _, _ => False
end Go.Proofs.Ytijgfojnppcbjaa
/- Pages and rows of bytes cut and copied; slotOf, generationOf of package root. -/
namespace Go.Proofs.Ytijgfojnppcbjaa
open Go.RowKit Go.Proofs.U
set_option linter.unusedSimpArgs false
set_option linter.unusedVariables false

theorem BxV.slI {w : World} {g : Nat} {t : TypeId} {l : List Int} (h : BxV w g t (pgv l)) (hb : Byt l) (off n cap : Nat) (hn : off + n ≤ l.length) (hc : n ≤ cap) : SlI .u8 w (.slice (some ⟨g, off, none⟩) n cap) ((l.drop off).take n) := by
  have hl : ((l.drop off).take n).length = n := by simp; omega
  refine ⟨?_, (Byt.drop hb off).take n⟩
  rw [hl]
  refine ⟨_, _, rfl, hc, by rw [List.length_map, hl, Nat.mul_one], (fun e => by cases e), fun x hx => ?_⟩
  cases hx
  intro j u hj
  rw [Addr.plain]
  refine (h.cell (off + j) u ?_).1
  rw [← hj]
  have hjn : j < n := by
    have := (List.getElem?_eq_some_iff.1 hj).1
    simp only [List.length_map] at this; omega
  simp [pgv, List.getElem?_take, hjn, List.getElem?_drop]
theorem run_cutP (W : World) (b off i j : Nat) (hi : i < 256) (hij : i ≤ j) (hj : j ≤ 256) (x y : Int) (hx : x = (i : Int)) (hy : y = (j : Int)) : (Instr.sliceAt 46 (.pointer (some ⟨b, off, none⟩)) (some (.int .i64 x)) (some (.int .i64 y)) none).run Try.prog W = .ok (.slice (some ⟨b, off + i, none⟩) (j - i) (256 - i)) W := by
  subst hx hy
  have h := run_sliceAt_array_lh W 46 ⟨b, off, none⟩ (P := Try.prog) (by kernel_rfl) .i64 .i64 (i : Int) (j : Int) (by omega) (by omega) (by rw [len_page]; omega)
  rw [h]
  have he : Try.prog.elem 46 = 5 := by kernel_rfl
  obtain ⟨ii, hii, hsz⟩ := Option.map_eq_some_iff.1 size_u8
  simp only [he, sizeOf, typeInfo, len_page, slicedAt, Int.toNat_natCast]
  have h3 : ¬ (256 = i) := by omega
  simp [hii, hsz, go_sem, Addr.plain, h3]
/-- s[i:] of a row of bytes. -/
theorem run_cutL (W : World) (g n i : Nat) (hi : i < n) (x : Int) (hx : x = (i : Int)) : (Instr.sliceAt 24 (.slice (some ⟨g, 0, none⟩) n n) (some (.int .i64 x)) none none).run Try.prog W = .ok (.slice (some ⟨g, i, none⟩) (n - i) (n - i)) W := by
  subst hx
  rw [run_cutl 24 5 Try.underlying24 1 size_u8 _ n n .i64 i (by omega)]
  have h3 : ¬ (n = i) := by omega
  simp [h3, Addr.plain]
/-- copy into a variable of bytes. -/
theorem run_cpyB {W : World} {g : Nat} {t : TypeId} {l : List Int} (hB : BxV W g t (pgv l)) (off n dcap : Nat) (hn : off + n ≤ l.length) (ty : TypeId) (v : Value) (m : List Int) (hS : SlI .u8 W v m) (r : Value) (hr : r = .slice (some ⟨g, off, none⟩) n dcap) :
    ∃ W', (Builtin.copy_ #[24, 24] ty #[r, v]).run Try.prog W = .ok (goInt (Nat.min m.length n)) W' ∧ BxV W' g t (pgv (putI l off (m.take n))) ∧ Fr (onB1 g) W W' := by
  subst hr
  have hS0 := hS
  obtain ⟨⟨ao, cap, rfl, hcap, hlen, hnone, hsome⟩, hwf⟩ := hS
  rw [Nat.mul_one, List.length_map] at hlen
  by_cases h0 : Nat.min m.length n = 0
  · refine ⟨W, ?_, ?_, Fr.refl _ _⟩
    · rw [run_copy_none W 24 24 ty 5 _ _ _ _ _ _ Try.underlying24 size_u8 h0, h0]; rfl
    · have : m.take n = [] := by
        have h0' : min m.length n = 0 := h0
        apply List.eq_nil_of_length_eq_zero; rw [List.length_take]; omega
      rw [this]
      have e : putI l off [] = l := by simp [putI]
      rw [e]; exact hB
  · cases ao with
    | none =>
      have h1 := hnone rfl
      have h0' : ¬ min m.length n = 0 := h0
      omega
    | some ad =>
      have hcell := hsome ad rfl
      have hl2 : (pgv (m.take n)).length = Nat.min m.length n := by
        show _ = min m.length n
        rw [pgv_len, List.length_take]; omega
      have hmn : Nat.min m.length n ≤ n := Nat.min_le_right _ _
      have hr := run_copy_cells (P := Try.prog) W 24 24 ty 5 g off n dcap ad m.length cap (pgv (m.take n)) Try.underlying24 size_u8 hl2
        (by
          intro j u hj
          refine hcell j u ?_
          have hjl := (List.getElem?_eq_some_iff.1 hj).1
          rw [hl2] at hjl
          rw [← hj]
          simp [pgv, List.getElem?_take, show j < n by omega])
        (fun j hj => by
          rw [hl2] at hj
          exact (hB.thereR off n (by rw [pgv_len]; omega) j (by omega)).1)
        (fun j hj => by
          rw [hl2] at hj
          exact (hB.thereR off n (by rw [pgv_len]; omega) j (by omega)).2) (pgv_one _)
      rw [hl2] at hr
      refine ⟨_, hr, ?_, setCells_fr1 _ _ _ _⟩
      have := setCells_bx (pgv (m.take n)) off W (pgv l) hB (by rw [hl2, pgv_len]; omega)
      rwa [putAt_putI] at this
section
variable {w : World} {ops : Array Oper} {rest : List Oper} {o : Oper} {a : Act} {Q : Exit → Act → World → Prop}
theorem wpList_cutP (hgd : Region.wanted o (yielded ops a.tmps) = true) (x lo hi : Operand) (ho : o.op = .slice 46 x (some lo) (some hi) none) (g : Nat) (hx : a.eval x = .pointer (some ⟨g, 0, none⟩)) (i j : Nat) (zl zh : Int) (hlo : a.eval lo = .int .i64 zl) (hhi : a.eval hi = .int .i64 zh) (hzl : zl = (i : Int)) (hzh : zh = (j : Int)) (hi' : i < 256) (hij : i ≤ j) (hj : j ≤ 256)
    (h : wpList Try.prog ops Q rest (a.put o.dst (.slice (some ⟨g, i, none⟩) (j - i) (256 - i))) w) : wpList Try.prog ops Q (o :: rest) a w := by
  refine wpList_wanted hgd fun K hK => ?_
  have hr := run_cutP w g 0 i j hi' hij hj zl zh hzl hzh
  rw [Nat.zero_add] at hr
  unfold Oper.wp
  simp [execOp, ho, hx, hlo, hhi, hr, Result.andThen]
  exact hK _ _ h
theorem wpList_cpyB (hgd : o.guard = none) (d s : Operand) (ho : o.op = .call { callee := .builtin .copy, args := #[d, s], argTypes := #[24, 24] })
    (g : Nat) (t : TypeId) (l : List Int) (hB : BxV w g t (pgv l)) (off n dcap : Nat) (hd : a.eval d = .slice (some ⟨g, off, none⟩) n dcap) (hn : off + n ≤ l.length) (v : Value) (hs : a.eval s = v) (m : List Int) (hS : SlI .u8 w v m)
    (h : ∀ w', BxV w' g t (pgv (putI l off (m.take n))) → Fr (onB1 g) w w' → wpList Try.prog ops Q rest (a.put o.dst (goInt (Nat.min m.length n))) w') : wpList Try.prog ops Q (o :: rest) a w := by
  obtain ⟨W', hr, h1, h2⟩ := run_cpyB hB off n dcap hn o.type v m hS _ rfl
  exact Lib.wpList_copy_run w hgd d s 24 24 ho _ _ hd hs hr (h W' h1 h2)
theorem at_cpy (d s : Operand) (t t' : TypeId) (_ho : o.op = .call { callee := .builtin .copy, args := #[d, s], argTypes := #[t, t'] }) (h : wpList Try.prog ops Q (o :: rest) a w) : wpList Try.prog ops Q (o :: rest) a w := h
/-- make([]byte, n). -/
theorem wpList_mkB (hgd : o.guard = none) (l c : Operand) (ho : o.op = .makeSlice 24 l c) (n : Nat) (L : Int) (hl : a.eval l = .int .i64 L) (hc : a.eval c = .int .i64 L) (hL : L = (n : Int)) (hn : n ≤ 1000000)
    (h : ∀ g w', BxV w' g 5 (pgv (List.replicate n 0)) → Fr noB w w' → w.heap.size ≤ g → wpList Try.prog ops Q rest (a.put o.dst (.slice (some ⟨g, 0, none⟩) n n)) w') : wpList Try.prog ops Q (o :: rest) a w := by
  refine wpList_makeR enV 1 hgd l c 24 ho 0 5 (.int .u8 0) 1 Try.underlying24 info_u8b (Value.int .u8 0) rfl rfl (by decide) .i64 .i64 L L n hl hc hL hL (by omega) (by unfold maxLen; omega) (Nat.zero_le _) ?_
  intro g w' ho hf hg hlt
  refine h g w' ?_ hf hg
  have := bx_full ho (by simp)
  simpa [pgv] using this
end

theorem slotOf_any (g : Int) (h : 0 ≤ g ∧ g < 18446744073709551616) (w : World) :
    Calls Try.prog 31 #[.int .u64 g] w fun e w' => e = .returned (.int .i64 (g % 2)) ∧ w = w' := by
  go_enter Try.func31, Try.ntmps31
  go_wp2
  go_ret
  refine ⟨?_, rfl⟩
  have e : g.tmod 2 = g % 2 := Int.tmod_eq_emod_of_nonneg h.1
  simp [e]

theorem nm8 (l : List Int) (h : l.length = 8) : nmV l 0 false 8 = leNum l := by
  have e : isW 8 = true := rfl
  simp [nmV, e, tkL, tkOk, h, List.take_of_length_le]

set_option maxHeartbeats 1000000 in
theorem genOf_any (p : List Int) (hp : p.length = 256) (hb : Byt p) (s : Nat) (hs : s < 8) (w : World) :
    Calls Try.prog 53 #[pgV p, .int .i64 (s : Int)] w fun e w' => e = .returned (.int .u64 (genAt p s)) ∧ Fr noB w w' := by
  have Hp := show Hid _ from hp
  clear hp
  obtain ⟨G, HG⟩ : ∃ G, Hid (genAt p s = G) := ⟨_, rfl⟩
  rw [HG.out]
  have hl8 : Hid (((p.drop (s * 32)).take 8).length = 8) := by show _ = _; have := Hp.out; simp; omega
  have hG : Hid (nmV ((p.drop (s * 32)).take 8) 0 false 8 = G) := by show _ = _; rw [nm8 _ hl8.out]; exact HG.out
  have hm : ((p.drop (s * 32)).take 8).length ≤ 1000000000000 := by rw [hl8.out]; decide
  have d1 : (s : Int) * 32 + 8 ≤ 256 := by omega
  go_enter Try.func53, Try.ntmps53
  go_wp2_with (first
    | (with_reducible refine at_wpP ?_; refine wpList_boxV rfl 46 _ rfl (pgv p) rfl ?_; intro g1 w1 hg1 b1 f1 s1)
    | (with_reducible refine at_wpP ?_; refine at_cut 46 _ _ _ _ rfl ?_; go_must (refine wpList_cutP rfl _ _ _ rfl g1 rfl (s * 32) (s * 32 + 8) _ _ rfl rfl (by simp) (by simp) (by omega) (by omega) (by omega) ?_; have s2 := BxV.slI b1 hb (s * 32) (s * 32 + 8 - s * 32) (256 - s * 32) (by have := Hp.out; omega) (by omega); rw [Nat.add_sub_cancel_left] at s2 ⊢))
    | (go_at_call 58; go_must (refine (enew_any _ _ _ s2 hm).mono ?_; rintro e w3 ⟨b3, vb3, rfl, hb3, hv3, r3, f3⟩))
    | (go_at_call 60; go_must (refine (num_any b3 vb3 _ 0 false 8 _ r3).mono ?_; rw [hG.out]; rintro e w4 ⟨rfl, r4, f4⟩)))
  go_ret
  refine ⟨rfl, ?_⟩
  have z1 := f1.size
  exact (f1.thenN f3).thenT f4 (fun i hi q => by unfold onB at q; omega)
end Go.Proofs.Ytijgfojnppcbjaa
/- streamOf of package root. (Written by v3_gen.py.) -/
namespace Go.Proofs.Ytijgfojnppcbjaa
open Go.RowKit Go.Proofs.U
set_option linter.unusedSimpArgs false
set_option linter.unusedVariables false
/-- While bytes are copied into a variable. -/
def JB (w0 : World) (g : Nat) (t : TypeId) (l : List Int) : List Value → World → Prop
  | [], W => W = w0
  | [_], W => BxV W g t (pgv l) ∧ Fr (onB1 g) w0 W
  | _, _ => False

set_option maxRecDepth 100000 in
set_option maxHeartbeats 2000000 in
theorem streamOf_any (p : List Int) (hp : p.length = 256) (hb : Byt p) (w : World) :
    Calls Try.prog 59 #[pgV p] w fun e w' => ∃ v, e = .returned v ∧ SlI .u8 w' v (strmOf p) ∧ Fr noB w w' := by
  have Hp := show Hid _ from hp
  clear hp
  obtain ⟨Z, HZ⟩ : ∃ Z, Hid (List.replicate 192 (0 : Int) = Z) := ⟨_, rfl⟩
  go_enter Try.func59, Try.ntmps59
  go_wp2_with (first
    | (with_reducible refine at_wpP ?_; refine wpList_boxV rfl 46 _ rfl (pgv p) rfl ?_; intro g1 w1 hg1 b1 f1 s1)
    | (refine at_make 24 _ _ rfl ?_; go_must (refine wpList_mkB rfl _ _ rfl 192 192 rfl rfl rfl (by decide) ?_; rw [HZ.out]; intro g2 w2 b2 f2 s2; have F2 := f1.thenN f2; have c2 := b1.fr0 f2; have hl1 := b1.lt; have z1 := f1.size)))
  go_loopw [8] (fun i wr => ∃ (s : Nat) (l : List Int), s ≤ 8 ∧ i = .int .i64 (s : Int) ∧ Hid (l = strmK p s) ∧ BxV wr g2 5 (pgv l) ∧ BxV wr g1 46 (pgv p) ∧ Fr noB w wr) (fun i _ => 8 - (intOf i).toNat)
  case atStart => exact ⟨0, Z, by omega, rfl, show _ = _ by rw [← HZ.out, strmK_zero], b2, c2, F2⟩
  case round =>
    obtain ⟨s, l, hs8, rfl, hl, hB, hC, hf⟩ := hrel
    by_cases hs : s < 8
    · have hs' : (s : Int) < 8 := by omega
      have w24 : IntKind.i64.wrap ((s : Int) * 24) = (s : Int) * 24 := by rw [IntKind.wrap_i64]; omega
      have hcp : ∃ W', (Builtin.copy_ #[24, 24] 3 #[.slice (some ⟨g2, s * 24, none⟩) (192 - s * 24) (192 - s * 24), .slice (some ⟨g1, 0 + (s * 32 + 8), none⟩) (s * 32 + 32 - (s * 32 + 8)) (256 - (s * 32 + 8))]).run Try.prog wr.drew = .ok (goInt 24) W' ∧ BxV W' g2 5 (pgv (strmK p (s + 1))) ∧ Fr (onB1 g2) wr.drew W' := by
        have e0 : 0 + (s * 32 + 8) = s * 32 + 8 := by omega
        have e1 : s * 32 + 32 - (s * 32 + 8) = 24 := by omega
        rw [e0, e1]
        have hpl := Hp.out
        have h24 : ((p.drop (s * 32 + 8)).take 24).length = 24 := by simp [hpl]; omega
        have hll : l.length = 192 := by rw [hl.out, strmK_len]
        have hS : SlI .u8 wr.drew (.slice (some ⟨g1, s * 32 + 8, none⟩) 24 (256 - (s * 32 + 8))) ((p.drop (s * 32 + 8)).take 24) := BxV.slI (w := wr.drew) hC hb _ _ _ (by omega) (by omega)
        obtain ⟨W', h1, h2, h3⟩ := run_cpyB (W := wr.drew) (t := 5) hB (s * 24) (192 - s * 24) (192 - s * 24) (by omega) 3 _ _ hS _ rfl
        refine ⟨W', ?_, ?_, h3⟩
        · rw [h1, h24]
          have : Nat.min 24 (192 - s * 24) = 24 := Nat.min_eq_left (by omega)
          rw [this]; rfl
        · rw [strmK_succ p hpl s hs, ← hl.out]
          rwa [List.take_of_length_le (by omega)] at h2
      go_wp2
      refine wp_region_chain_lay (by kernel_rfl) [7] [none, none, none, none, none, none, none, some 0]
        [fun v => v = .slice (some ⟨g2, 0, none⟩) 192 192, fun v => v = .int .i64 (s : Int), fun v => v = .int .i64 ((s : Int) * 24), fun v => v = .slice (some ⟨g2, s * 24, none⟩) (192 - s * 24) (192 - s * 24), fun v => v = .int .i64 ((s : Int) * 32 + 8), fun v => v = .int .i64 (((s : Int) + 1) * 32), fun v => v = .slice (some ⟨g1, 0 + (s * 32 + 8), none⟩) (s * 32 + 32 - (s * 32 + 8)) (256 - (s * 32 + 8)), fun _ => True]
        (JB wr.drew g2 5 (strmK p (s + 1))) (rfl) (by kernel_rfl) (by kernel_rfl) (by decide) ⟨?o0, ?o1, ?o2, ?o3, ?o4, ?o5, ?o6, ?o7, trivial⟩ ?oe
      case o0 =>
        intro A W hv hlen hJ hbase hdL hdH
        have e3 : A.eval (.tmp 3) = .slice (some ⟨g2, 0, none⟩) 192 192 := hbase 3 (by kernel_rfl)
        have f3 : A.tmps[3]?.getD undef = .slice (some ⟨g2, 0, none⟩) 192 192 := by simpa [Act.eval] using e3
        exact light_val rfl (v := .slice (some ⟨g2, 0, none⟩) 192 192) (by simp [execOp, e3, f3]) hJ rfl
      case o1 =>
        intro A W hv hlen hJ hbase hdL hdH
        have e4 : A.eval (.tmp 4) = .int .i64 (s : Int) := hbase 4 (by kernel_rfl)
        have f4 : A.tmps[4]?.getD undef = .int .i64 (s : Int) := by simpa [Act.eval] using e4
        exact light_val rfl (v := .int .i64 (s : Int)) (by simp [execOp, e4, f4]) hJ rfl
      case o2 =>
        intro A W hv hlen hJ hbase hdL hdH
        have e18 : A.eval (.tmp 18) = .int .i64 (s : Int) := hdL 1 18 (by kernel_rfl) (by kernel_rfl) (by kernel_rfl)
        have f18 : A.tmps[18]?.getD undef = .int .i64 (s : Int) := by simpa [Act.eval] using e18
        exact light_val rfl (v := .int .i64 ((s : Int) * 24)) (by simp [execOp, go_sem, e18, f18, w24]) hJ rfl
      case o3 =>
        intro A W hv hlen hJ hbase hdL hdH
        have e17 : A.eval (.tmp 17) = .slice (some ⟨g2, 0, none⟩) 192 192 := hdL 0 17 (by kernel_rfl) (by kernel_rfl) (by kernel_rfl)
        have f17 : A.tmps[17]?.getD undef = .slice (some ⟨g2, 0, none⟩) 192 192 := by simpa [Act.eval] using e17
        have e19 : A.eval (.tmp 19) = .int .i64 ((s : Int) * 24) := hdL 2 19 (by kernel_rfl) (by kernel_rfl) (by kernel_rfl)
        have f19 : A.tmps[19]?.getD undef = .int .i64 ((s : Int) * 24) := by simpa [Act.eval] using e19
        have hr := run_cutL W g2 192 (s * 24) (by omega) ((s : Int) * 24) (by simp)
        exact light_val rfl (v := .slice (some ⟨g2, s * 24, none⟩) (192 - s * 24) (192 - s * 24)) (by simp [execOp, e17, e19, hr, Result.andThen]) hJ rfl
      case o4 =>
        intro A W hv hlen hJ hbase hdL hdH
        have e5 : A.eval (.tmp 5) = .int .i64 ((s : Int) * 32 + 8) := hbase 5 (by kernel_rfl)
        have f5 : A.tmps[5]?.getD undef = .int .i64 ((s : Int) * 32 + 8) := by simpa [Act.eval] using e5
        exact light_val rfl (v := .int .i64 ((s : Int) * 32 + 8)) (by simp [execOp, e5, f5]) hJ rfl
      case o5 =>
        intro A W hv hlen hJ hbase hdL hdH
        have e6 : A.eval (.tmp 6) = .int .i64 (((s : Int) + 1) * 32) := hbase 6 (by kernel_rfl)
        have f6 : A.tmps[6]?.getD undef = .int .i64 (((s : Int) + 1) * 32) := by simpa [Act.eval] using e6
        exact light_val rfl (v := .int .i64 (((s : Int) + 1) * 32)) (by simp [execOp, e6, f6]) hJ rfl
      case o6 =>
        intro A W hv hlen hJ hbase hdL hdH
        have e1 : A.eval (.tmp 1) = .pointer (some ⟨g1, 0, none⟩) := hbase 1 (by kernel_rfl)
        have f1 : A.tmps[1]?.getD undef = .pointer (some ⟨g1, 0, none⟩) := by simpa [Act.eval] using e1
        have e21 : A.eval (.tmp 21) = .int .i64 ((s : Int) * 32 + 8) := hdL 4 21 (by kernel_rfl) (by kernel_rfl) (by kernel_rfl)
        have f21 : A.tmps[21]?.getD undef = .int .i64 ((s : Int) * 32 + 8) := by simpa [Act.eval] using e21
        have e22 : A.eval (.tmp 22) = .int .i64 (((s : Int) + 1) * 32) := hdL 5 22 (by kernel_rfl) (by kernel_rfl) (by kernel_rfl)
        have f22 : A.tmps[22]?.getD undef = .int .i64 (((s : Int) + 1) * 32) := by simpa [Act.eval] using e22
        have hr := run_cutP W g1 0 (s * 32 + 8) (s * 32 + 32) (by omega) (by omega) (by omega) ((s : Int) * 32 + 8) (((s : Int) + 1) * 32) (by simp) (by simp; omega)
        exact light_val rfl (v := .slice (some ⟨g1, 0 + (s * 32 + 8), none⟩) (s * 32 + 32 - (s * 32 + 8)) (256 - (s * 32 + 8))) (by simp [execOp, e1, e21, e22, hr, Result.andThen]) hJ rfl
      case o7 =>
        intro A W hv hlen hJ hbase hdL hdH
        have e20 : A.eval (.tmp 20) = .slice (some ⟨g2, s * 24, none⟩) (192 - s * 24) (192 - s * 24) := hdL 3 20 (by kernel_rfl) (by kernel_rfl) (by kernel_rfl)
        have f20 : A.tmps[20]?.getD undef = .slice (some ⟨g2, s * 24, none⟩) (192 - s * 24) (192 - s * 24) := by simpa [Act.eval] using e20
        have e23 : A.eval (.tmp 23) = .slice (some ⟨g1, 0 + (s * 32 + 8), none⟩) (s * 32 + 32 - (s * 32 + 8)) (256 - (s * 32 + 8)) := hdL 6 23 (by kernel_rfl) (by kernel_rfl) (by kernel_rfl)
        have f23 : A.tmps[23]?.getD undef = .slice (some ⟨g1, 0 + (s * 32 + 8), none⟩) (s * 32 + 32 - (s * 32 + 8)) (256 - (s * 32 + 8)) := by simpa [Act.eval] using e23
        obtain rfl : hv = [] := List.eq_nil_of_length_eq_zero hlen
        obtain rfl := hJ
        obtain ⟨W1, hr, h1, h2⟩ := hcp
        refine heavy_wp rfl ?_
        refine Lib.wp_copy_run _ (.tmp 20) (.tmp 23) 24 24 rfl _ _ e20 e23 hr ?_
        exact ⟨_, rfl, h1, h2⟩
      case oe =>
        intro vs W' hv hlen hJ hL hH
        match hv, hlen with
        | [y1], _ =>
          obtain ⟨hB', hf'⟩ := hJ
          simp only [layL, Nat.reduceAdd, Act.put, List.setIfInBounds_toArray, List.set_cons_zero, List.set_cons_succ]
          clear hL hH
          generalize vs 0 = y100 at *
          generalize vs 1 = y101 at *
          generalize vs 2 = y102 at *
          generalize vs 3 = y103 at *
          generalize vs 4 = y104 at *
          generalize vs 5 = y105 at *
          generalize vs 6 = y106 at *
          generalize vs 7 = y107 at *
          have hC' := (show BxV wr.drew g1 _ _ from hC).ne hf' (by omega)
          go_wp2
          go_roundw
          case rel => exact ⟨s + 1, _, by omega, by go_num, (rfl : strmK p (s + 1) = strmK p (s + 1)), hB', hC', hf.drew.thenT hf' (fun i hi q => by unfold onB1 at q; omega)⟩
          case measure => simp [intOf]; omega
    · obtain rfl : s = 8 := by omega
      go_wp2
      go_ret
      refine ⟨_, rfl, ?_, hf⟩
      have hl8 : l = strmOf p := by rw [hl.out, strmK_end]
      subst hl8
      have := BxV.slI hB (strmOf_byt hb) 0 192 192 (by rw [strmOf_len]; decide) (by omega)
      rwa [List.drop_zero, List.take_of_length_le (by rw [strmOf_len]; decide)] at this
end Go.Proofs.Ytijgfojnppcbjaa
/- pageOf of package root. (Written by v3_gen.py.) -/
namespace Go.Proofs.Ytijgfojnppcbjaa
open Go.RowKit Go.Proofs.U
set_option linter.unusedSimpArgs false
set_option linter.unusedVariables false
theorem SlB_two (w : World) (t : TypeId) (v u : Value) (l m : List Int) (h : SlI .u8 w v l) (k : SlI .u8 w u m) (b : Nat) (hb : w.heap.size = b) : SlB (w.alloc (.cells #[v, u] t)) (.slice (some ⟨b, 0, none⟩) 2 2) [l, m] := by
  refine ⟨[v, u], by simpa using Sl_made w t #[v, u] 2 b rfl hb, fun j hj x hx => ?_⟩
  have hf : Fr noB w (w.alloc (.cells #[v, u] t)) := (Fr.refl _ _).alloc _
  have hj2 : j = 0 ∨ j = 1 := by simp at hj; omega
  rcases hj2 with rfl | rfl
  · simp at hx; subst hx; exact h.fr0 hf
  · simp at hx; subst hx; exact k.fr0 hf
theorem Sl1b (w : World) (t : TypeId) (k : IntKind) (n : Int) (h : (Lit.int k n).wf = true) (b : Nat) (hb : w.heap.size = b) : SlI k (w.alloc (.cells #[.int k n] t)) (.slice (some ⟨b, 0, none⟩) 1 1) [n] := by
  subst hb; exact Sl1 w t k n h
theorem st192_of (c : List Int) (hc : c.length ≤ 186) : putI (List.replicate 192 0) 0 ((strm c).take 192) = st192 c := by
  have hl := strm_len c
  rw [st192_eq c hc, List.take_of_length_le (by omega)]
  unfold putI
  rw [List.take_zero, List.nil_append, List.drop_replicate, Nat.zero_add, hl]
  congr 2; omega

set_option maxRecDepth 100000 in
set_option maxHeartbeats 2000000 in
theorem pageOf_any (G : Int) (hG : 0 ≤ G ∧ G < 18446744073709551616) (vc : Value) (c : List Int) (hc : c.length ≤ 186) (w : World) (hS : SlI .u8 w vc c) :
    Calls Try.prog 32 #[.int .u64 G, vc] w fun e w' => e = .returned (pgV (rootP G c)) ∧ Fr noB w w' := by
  obtain ⟨ac, cc, rfl, hcc⟩ := hS.opn
  have hb : Byt c := hS.2
  obtain ⟨Z, HZ⟩ : ∃ Z, Hid (List.replicate 192 (0 : Int) = Z) := ⟨_, rfl⟩
  have hZl : Z.length = 192 := by rw [← HZ.out, List.length_replicate]
  obtain ⟨ZP, HZP⟩ : ∃ Z, Hid (zeroP = Z) := ⟨_, rfl⟩
  have hZPl : Hid (ZP.length = 256) := by show _ = _; rw [← HZP.out]; exact zeroP_len
  have hZPb : Byt ZP := by rw [← HZP.out]; exact zeroP_byt
  obtain ⟨R, HR⟩ : ∃ R, Hid (rootP G c = R) := ⟨_, rfl⟩
  have hRl : Hid (R.length = 256) := by show _ = _; rw [← HR.out, rootP_len]
  rw [HR.out]
  obtain ⟨N8, HN8⟩ : ∃ N, Hid (leB 8 G = N) := ⟨_, rfl⟩
  obtain ⟨L2, HL2⟩ : ∃ N, Hid (leB 2 c.length = N) := ⟨_, rfl⟩
  have hN8l : Hid (N8.length = 8) := by show _ = _; rw [← HN8.out, leB_length]
  have hL2l : Hid (L2.length = 2) := by show _ = _; rw [← HL2.out, leB_length]
  have hN8b : Byt N8 := by rw [← HN8.out]; exact byt_le 8 G
  have hL2b : Byt L2 := by rw [← HL2.out]; exact byt_le 2 _
  obtain ⟨ST, HST⟩ : ∃ S, Hid (strm c = S) := ⟨_, rfl⟩
  have hSTl : Hid (ST.length = c.length + 6) := by show _ = _; rw [← HST.out, strm_len]
  have hSTb : Byt ST := by rw [← HST.out]; exact strm_byt hb
  have hseal : Hid (sealI (L2 ++ c) = ST) := by show _ = _; rw [← HL2.out]; exact HST.out
  obtain ⟨S2, HS2⟩ : ∃ S, Hid (st192 c = S) := ⟨_, rfl⟩
  have hS2l : Hid (S2.length = 192) := by show _ = _; rw [← HS2.out, st192_len]
  have hS2b : Byt S2 := by rw [← HS2.out]; exact st192_byt hb
  have hS2 : Hid (putI Z 0 (ST.take 192) = S2) := by show _ = _; rw [← HZ.out, ← HST.out, st192_of c hc]; exact HS2.out
  have fit8 : Hid (([G] : List Int).all (fits 8) = true) := by show _ = _; simp [fits_8 hG.2]
  have fit2 : Hid (([(c.length : Int)] : List Int).all (fits 2) = true) := by show _ = _; simp [fits, lim]; omega
  have put8 : Hid (([] : List Int) ++ putB (8 : Int).toNat [G] = N8) := by show _ = _; rw [← HN8.out]; simp [putB]
  have put2 : Hid (([] : List Int) ++ putB (2 : Int).toNat [(c.length : Int)] = L2) := by show _ = _; rw [← HL2.out]; simp [putB]
  have wfG : (Lit.int .u64 G).wf = true := u64_wf hG.1 hG.2
  have wfC : (Lit.int .u64 (c.length : Int)).wf = true := u64_wf (by omega) (by omega)
  have hZl' : 0 + 192 ≤ Z.length := by omega
  clear hZl
  go_enter Try.func32, Try.ntmps32
  go_wp2_with (first
    | (with_reducible refine at_wpP ?_; have f5x := f5b; refine wpList_allocP rfl rfl ?_; rw [HZP.out]; intro g3 w6 hg3 b6 f6 s6)
    | (with_reducible refine at_wpP ?_; refine wpList_allocP rfl rfl ?_; rw [HZP.out]; intro g0 w1 hg0 b1 f1 s1; have z1 := b1.lt)
    | (go_at_call 50; have o2' := o2; go_must (refine (put_yes 2 rfl _ _ [] [(c.length : Int)] _ (SlI.nil _ _) (Sl1b w2 25 .u64 _ wfC _ rfl) (by simp) (by simp) fit2.out).mono ?_; rw [put2.out]; rintro e w3 ⟨v3, rfl, o3, f3⟩; have f3' := ((Fr.refl noB w2).alloc (.cells #[.int .u64 (c.length : Int)] 25)).thenN f3; have i3 := o3.sl hL2b; obtain ⟨a3, c3, rfl⟩ := o3.opn))
    | (go_at_call 50; go_must (refine (put_yes 8 rfl _ _ [] [G] _ (SlI.nil _ _) (Sl1b w1 25 .u64 _ wfG _ rfl) (by simp) (by simp) fit8.out).mono ?_; rw [put8.out]; rintro e w2 ⟨v2, rfl, o2, f2⟩; have f2' := ((Fr.refl noB w1).alloc (.cells #[.int .u64 G] 25)).thenN f2; have i2 := o2.sl hN8b; obtain ⟨a2, c2, rfl⟩ := o2.opn))
    | (refine at_make 24 _ _ rfl ?_; go_must (refine wpList_mkB rfl _ _ rfl 192 192 rfl rfl rfl (by decide) ?_; rw [HZ.out]; intro g2 w4 b4 f4 s4; have z4 := b4.lt; have F4 := ((f1.thenN f2').thenN f3').thenN f4; have sC := hS.fr0 F4; have sL := i3.fr0 f4))
    | (go_at_call 51; go_must (refine (seal_any _ [L2, c] (L2 ++ c) (by simp) _ (SlB_two w4 24 _ _ _ _ sL sC _ rfl) (by simp) (by have := hL2l.out; rw [List.length_append]; omega)).mono ?_; rw [hseal.out]; rintro e w5 ⟨v5, rfl, o5, f5⟩; have f5' := ((Fr.refl noB w4).alloc (.cells #[_, _] 24)).thenN f5; have i5 := o5.sl hSTb; have b5 := b4.fr0 f5'; obtain ⟨a5, c5, rfl⟩ := o5.opn))
    | (with_reducible refine at_wpP ?_; refine at_cpy _ _ _ _ rfl ?_; go_must (refine wpList_cpyB rfl _ _ rfl g2 5 Z b5 0 192 192 rfl hZl' (.slice a5 ST.length c5) rfl ST i5 ?_; rw [hS2.out]; intro w5b b5b f5b)))
  have z2 := f2'.size
  have z3 := f3'.size
  have z5 := f5'.size
  have z5b := f5b.size
  have z6 := b6.lt
  have zf1 := f1.size
  have F5 : Fr noB w w5b := (F4.thenN f5').thenT f5b (fun i hi q => by unfold onB1 at q; omega)
  have F6 := F5.thenN f6
  have c0 : BxV w6 g0 46 (pgv ZP) := (((((b1.fr0 f2').fr0 f3').fr0 f4).fr0 f5').ne f5b (by omega)).fr0 f6
  have c2' : BxV w6 g2 5 (pgv S2) := b5b.fr0 f6
  have hN8o : ∀ k, (Value.slice a2 N8.length c2).ownBlock = some k → k < g2 := fun k hk => by have := (o2.newB k hk).2; omega
  have i8 : SlI .u8 w6 (.slice a2 N8.length c2) N8 := ((((i2.fr0 f3').fr0 f4).fr0 f5').fr f5b (fun k hk q => by have := hN8o k hk; unfold onB1 at q; omega)).fr0 f6
  clear i2 i3 i5 o2 o3 o5 sC sL b1 b4 b5 b5b
  go_loopw [35] (fun i wr => ∃ (s : Nat) (l : List Int), s ≤ 8 ∧ i = .int .i64 (s : Int) ∧ Hid (l = rootK G c s) ∧ BxV wr g3 46 (pgv l) ∧ BxV wr g2 5 (pgv S2) ∧ BxV wr g0 46 (pgv ZP) ∧ SlI .u8 wr (.slice a2 N8.length c2) N8 ∧ Fr noB w wr) (fun i _ => 8 - (intOf i).toNat)
  case atStart => exact ⟨0, ZP, by omega, rfl, show _ = _ by rw [← HZP.out, rootK_zero], b6, c2', c0, i8, F6⟩
  case round =>
    obtain ⟨s, l, hs8, rfl, hl, hB, hC, hD, hI, hf⟩ := hrel
    by_cases hs : s < 8
    · have hs' : (s : Int) < 8 := by omega
      have w24 : IntKind.i64.wrap ((s : Int) * 24) = (s : Int) * 24 := by rw [IntKind.wrap_i64]; omega
      have q8 : IntKind.i64.wrap ((s : Int) * 32 + 8) = (s : Int) * 32 + 8 := by rw [IntKind.wrap_i64]; omega
      have hll : Hid (l.length = 256) := by show _ = _; rw [hl.out, rootK_len]
      obtain ⟨L8, HL8⟩ : ∃ L, Hid (putI l (s * 32) N8 = L) := ⟨_, rfl⟩
      have hL8l : Hid (L8.length = 256) := by show _ = _; rw [← HL8.out, putI_len _ _ _ (by have := hll.out; have := hN8l.out; omega)]; exact hll.out
      have hN8t : Hid (N8.take 32 = N8) := by show _ = _; rw [List.take_of_length_le (by have := hN8l.out; omega)]
      go_wp2_with (first
        | (with_reducible refine at_wpP ?_; refine at_cut 46 _ _ _ _ rfl ?_; go_must (refine wpList_cutP rfl _ _ _ rfl g3 rfl (s * 32) (s * 32 + 32) _ _ rfl rfl (by simp) (by simp; omega) (by omega) (by omega) (by omega) ?_))
        | (with_reducible refine at_wpP ?_; refine at_cpy _ _ _ _ rfl ?_; go_must (refine wpList_cpyB rfl _ _ rfl g3 46 l hB (s * 32) 32 (256 - s * 32) rfl (by have := hll.out; omega) (.slice a2 N8.length c2) rfl N8 hI ?_; rw [hN8t.out, HL8.out]; intro w8 b8 f8; have z8 := f8.size; have c8 := hC.ne f8 (by omega); have d8 := hD.ne f8 (by omega))))
      have hcp : ∃ W', (Builtin.copy_ #[24, 24] 3 #[.slice (some ⟨g3, 0 + (s * 32 + 8), none⟩) (s * 32 + 32 - (s * 32 + 8)) (256 - (s * 32 + 8)), .slice (some ⟨g2, s * 24, none⟩) (192 - s * 24) (192 - s * 24)]).run Try.prog w8.drew = .ok (goInt 24) W' ∧ BxV W' g3 46 (pgv (rootK G c (s + 1))) ∧ Fr (onB1 g3) w8.drew W' := by
        have e0 : 0 + (s * 32 + 8) = s * 32 + 8 := by omega
        have e1 : s * 32 + 32 - (s * 32 + 8) = 24 := by omega
        rw [e0, e1]
        have h192 : ((S2.drop (s * 24)).take (192 - s * 24)).length = 192 - s * 24 := by have := hS2l.out; simp; omega
        have hS : SlI .u8 w8.drew (.slice (some ⟨g2, s * 24, none⟩) (192 - s * 24) (192 - s * 24)) ((S2.drop (s * 24)).take (192 - s * 24)) := BxV.slI (w := w8.drew) c8 hS2b _ _ _ (by have := hS2l.out; omega) (by omega)
        have h256 := hL8l.out
        obtain ⟨W', h1, h2, h3⟩ := run_cpyB (W := w8.drew) (t := 46) b8 (s * 32 + 8) 24 (256 - (s * 32 + 8)) (by omega) 3 _ _ hS _ rfl
        refine ⟨W', ?_, ?_, h3⟩
        · rw [h1, h192]
          have : Nat.min (192 - s * 24) 24 = 24 := Nat.min_eq_right (by omega)
          rw [this]; rfl
        · rw [rootK_succ G c s hs, ← hl.out, HN8.out, HS2.out, HL8.out]
          have e5 : ((S2.drop (s * 24)).take (192 - s * 24)).take 24 = (S2.drop (s * 24)).take 24 := by rw [List.take_take, Nat.min_eq_left (by omega)]
          rwa [e5] at h2
      refine wp_region_chain_lay (by kernel_rfl) [8] [none, none, none, none, none, none, none, none, some 0]
        [fun v => v = .int .i64 ((s : Int) * 32), fun v => v = .int .i64 ((s : Int) * 32 + 8), fun v => v = .int .i64 (((s : Int) + 1) * 32), fun v => v = .slice (some ⟨g3, 0 + (s * 32 + 8), none⟩) (s * 32 + 32 - (s * 32 + 8)) (256 - (s * 32 + 8)), fun v => v = .slice (some ⟨g2, 0, none⟩) 192 192, fun v => v = .int .i64 (s : Int), fun v => v = .int .i64 ((s : Int) * 24), fun v => v = .slice (some ⟨g2, s * 24, none⟩) (192 - s * 24) (192 - s * 24), fun _ => True]
        (JB w8.drew g3 46 (rootK G c (s + 1))) (rfl) (by kernel_rfl) (by kernel_rfl) (by decide) ⟨?o0, ?o1, ?o2, ?o3, ?o4, ?o5, ?o6, ?o7, ?o8, trivial⟩ ?oe
      case o0 =>
        intro A W hv hlen hJ hbase hdL hdH
        have e12 : A.eval (.tmp 12) = .int .i64 ((s : Int) * 32) := hbase 12 (by kernel_rfl)
        have f12 : A.tmps[12]?.getD undef = .int .i64 ((s : Int) * 32) := by simpa [Act.eval] using e12
        exact light_val rfl (v := .int .i64 ((s : Int) * 32)) (by simp [execOp, e12, f12]) hJ rfl
      case o1 =>
        intro A W hv hlen hJ hbase hdL hdH
        have e48 : A.eval (.tmp 48) = .int .i64 ((s : Int) * 32) := hdL 0 48 (by kernel_rfl) (by kernel_rfl) (by kernel_rfl)
        have f48 : A.tmps[48]?.getD undef = .int .i64 ((s : Int) * 32) := by simpa [Act.eval] using e48
        exact light_val rfl (v := .int .i64 ((s : Int) * 32 + 8)) (by simp [execOp, go_sem, e48, f48, q8]) hJ rfl
      case o2 =>
        intro A W hv hlen hJ hbase hdL hdH
        have e13 : A.eval (.tmp 13) = .int .i64 (((s : Int) + 1) * 32) := hbase 13 (by kernel_rfl)
        have f13 : A.tmps[13]?.getD undef = .int .i64 (((s : Int) + 1) * 32) := by simpa [Act.eval] using e13
        exact light_val rfl (v := .int .i64 (((s : Int) + 1) * 32)) (by simp [execOp, e13, f13]) hJ rfl
      case o3 =>
        intro A W hv hlen hJ hbase hdL hdH
        have e10 : A.eval (.tmp 10) = .pointer (some ⟨g3, 0, none⟩) := hbase 10 (by kernel_rfl)
        have f10 : A.tmps[10]?.getD undef = .pointer (some ⟨g3, 0, none⟩) := by simpa [Act.eval] using e10
        have e49 : A.eval (.tmp 49) = .int .i64 ((s : Int) * 32 + 8) := hdL 1 49 (by kernel_rfl) (by kernel_rfl) (by kernel_rfl)
        have f49 : A.tmps[49]?.getD undef = .int .i64 ((s : Int) * 32 + 8) := by simpa [Act.eval] using e49
        have e50 : A.eval (.tmp 50) = .int .i64 (((s : Int) + 1) * 32) := hdL 2 50 (by kernel_rfl) (by kernel_rfl) (by kernel_rfl)
        have f50 : A.tmps[50]?.getD undef = .int .i64 (((s : Int) + 1) * 32) := by simpa [Act.eval] using e50
        have hr := run_cutP W g3 0 (s * 32 + 8) (s * 32 + 32) (by omega) (by omega) (by omega) ((s : Int) * 32 + 8) (((s : Int) + 1) * 32) (by simp) (by simp; omega)
        exact light_val rfl (v := .slice (some ⟨g3, 0 + (s * 32 + 8), none⟩) (s * 32 + 32 - (s * 32 + 8)) (256 - (s * 32 + 8))) (by simp [execOp, e10, e49, e50, hr, Result.andThen]) hJ rfl
      case o4 =>
        intro A W hv hlen hJ hbase hdL hdH
        have e9 : A.eval (.tmp 9) = .slice (some ⟨g2, 0, none⟩) 192 192 := hbase 9 (by kernel_rfl)
        have f9 : A.tmps[9]?.getD undef = .slice (some ⟨g2, 0, none⟩) 192 192 := by simpa [Act.eval] using e9
        exact light_val rfl (v := .slice (some ⟨g2, 0, none⟩) 192 192) (by simp [execOp, e9, f9]) hJ rfl
      case o5 =>
        intro A W hv hlen hJ hbase hdL hdH
        have e11 : A.eval (.tmp 11) = .int .i64 (s : Int) := hbase 11 (by kernel_rfl)
        have f11 : A.tmps[11]?.getD undef = .int .i64 (s : Int) := by simpa [Act.eval] using e11
        exact light_val rfl (v := .int .i64 (s : Int)) (by simp [execOp, e11, f11]) hJ rfl
      case o6 =>
        intro A W hv hlen hJ hbase hdL hdH
        have e53 : A.eval (.tmp 53) = .int .i64 (s : Int) := hdL 5 53 (by kernel_rfl) (by kernel_rfl) (by kernel_rfl)
        have f53 : A.tmps[53]?.getD undef = .int .i64 (s : Int) := by simpa [Act.eval] using e53
        exact light_val rfl (v := .int .i64 ((s : Int) * 24)) (by simp [execOp, go_sem, e53, f53, w24]) hJ rfl
      case o7 =>
        intro A W hv hlen hJ hbase hdL hdH
        have e52 : A.eval (.tmp 52) = .slice (some ⟨g2, 0, none⟩) 192 192 := hdL 4 52 (by kernel_rfl) (by kernel_rfl) (by kernel_rfl)
        have f52 : A.tmps[52]?.getD undef = .slice (some ⟨g2, 0, none⟩) 192 192 := by simpa [Act.eval] using e52
        have e54 : A.eval (.tmp 54) = .int .i64 ((s : Int) * 24) := hdL 6 54 (by kernel_rfl) (by kernel_rfl) (by kernel_rfl)
        have f54 : A.tmps[54]?.getD undef = .int .i64 ((s : Int) * 24) := by simpa [Act.eval] using e54
        have hr := run_cutL W g2 192 (s * 24) (by omega) ((s : Int) * 24) (by simp)
        exact light_val rfl (v := .slice (some ⟨g2, s * 24, none⟩) (192 - s * 24) (192 - s * 24)) (by simp [execOp, e52, e54, hr, Result.andThen]) hJ rfl
      case o8 =>
        intro A W hv hlen hJ hbase hdL hdH
        have e51 : A.eval (.tmp 51) = .slice (some ⟨g3, 0 + (s * 32 + 8), none⟩) (s * 32 + 32 - (s * 32 + 8)) (256 - (s * 32 + 8)) := hdL 3 51 (by kernel_rfl) (by kernel_rfl) (by kernel_rfl)
        have f51 : A.tmps[51]?.getD undef = .slice (some ⟨g3, 0 + (s * 32 + 8), none⟩) (s * 32 + 32 - (s * 32 + 8)) (256 - (s * 32 + 8)) := by simpa [Act.eval] using e51
        have e55 : A.eval (.tmp 55) = .slice (some ⟨g2, s * 24, none⟩) (192 - s * 24) (192 - s * 24) := hdL 7 55 (by kernel_rfl) (by kernel_rfl) (by kernel_rfl)
        have f55 : A.tmps[55]?.getD undef = .slice (some ⟨g2, s * 24, none⟩) (192 - s * 24) (192 - s * 24) := by simpa [Act.eval] using e55
        obtain rfl : hv = [] := List.eq_nil_of_length_eq_zero hlen
        obtain rfl := hJ
        obtain ⟨W1, hr, h1, h2⟩ := hcp
        refine heavy_wp rfl ?_
        refine Lib.wp_copy_run _ (.tmp 51) (.tmp 55) 24 24 rfl _ _ e51 e55 hr ?_
        exact ⟨_, rfl, h1, h2⟩
      case oe =>
        intro vs W' hv hlen hJ hL hH
        match hv, hlen with
        | [y1], _ =>
          obtain ⟨hB', hf'⟩ := hJ
          simp only [layL, Nat.reduceAdd, Act.put, List.setIfInBounds_toArray, List.set_cons_zero, List.set_cons_succ]
          clear hL hH
          generalize vs 0 = y100 at *
          generalize vs 1 = y101 at *
          generalize vs 2 = y102 at *
          generalize vs 3 = y103 at *
          generalize vs 4 = y104 at *
          generalize vs 5 = y105 at *
          generalize vs 6 = y106 at *
          generalize vs 7 = y107 at *
          generalize vs 8 = y108 at *
          have hC' := (show BxV w8.drew g2 _ _ from c8).ne hf' (by omega)
          have hD' := (show BxV w8.drew g0 _ _ from d8).ne hf' (by omega)
          have hI8 : SlI .u8 w8.drew (.slice a2 N8.length c2) N8 := (hI.fr f8 (fun k hk q => by have := hN8o k hk; unfold onB1 at q; omega)).fr0 ((Fr.refl _ _).drew)
          have hI' := hI8.fr hf' (fun k hk q => by have := hN8o k hk; unfold onB1 at q; omega)
          have hf8 : Fr noB w w8.drew := (hf.thenT f8 (fun i hi q => by unfold onB1 at q; omega)).drew
          go_wp2
          go_roundw
          case rel => exact ⟨s + 1, _, by omega, by go_num, (rfl : rootK G c (s + 1) = rootK G c (s + 1)), hB', hC', hD', hI', hf8.thenT hf' (fun i hi q => by unfold onB1 at q; omega)⟩
          case measure => simp [intOf]; omega
    · obtain rfl : s = 8 := by omega
      have hlR : l = R := by rw [hl.out, rootK_end, HR.out]
      subst hlR
      go_wp2_with (first
        | (with_reducible refine at_wpP ?_; refine wpList_loadP rfl _ rfl g3 rfl _ hB hRl.out ?_)
        | (with_reducible refine at_wpP ?_; refine wpList_storeP rfl _ _ rfl g0 rfl _ rfl _ hD hRl.out hZPl.out ?_; intro w9 b9 f9))
      refine bodyPost_ret (v := pgV l) (results_page Try.results32 _ w9 g0 l rfl b9 hRl.out) rfl ⟨rfl, ?_⟩
      exact hf.thenT f9 (fun i hi q => by unfold onB1 at q; omega)
end Go.Proofs.Ytijgfojnppcbjaa
