/- Texts MY, V2, T1, Y2, Y6 of the proof of PoolRuns, one behind the other. -/
import Derived.Test.YtghkpeejogldkaaBundlePoolRuns1
import Derived.Test.YtghkpeejogldkaaBundlePoolRuns2
import Derived.Test.YtghkpeejogldkaaBundlePoolRuns3
import Derived.Test.YtghkpeejogldkaaBundlePoolRuns4
import Derived.Test.YtghkpeejogldkaaBundlePoolRuns5
/- DiskKeeps: the row of rows that it keeps; what lies in memory while its regions run. -/
namespace Go.Proofs.U
open Go.RowKit
set_option linter.unusedSimpArgs false
set_option linter.unusedVariables false
abbrev enV (v : Value) : List Value := [v]
def upd {α : Type} (f : Nat → α) (j : Nat) (x : α) : Nat → α := fun i => if i = j then x else f i
theorem upd_self {α : Type} (f : Nat → α) (j : Nat) (x : α) : upd f j x j = x := by simp [upd]
theorem upd_ne {α : Type} (f : Nat → α) {j : Nat} (x : α) {i : Nat} (h : i ≠ j) : upd f j x i = f i := by simp [upd, h]
theorem set_upd {α : Type} (f : Nat → α) (j : Nat) (x : α) (n : Nat) : ((List.range n).map f).set j x = (List.range n).map (upd f j x) := by
  apply List.ext_getElem
  · simp
  · intro i h1 h2
    rw [List.getElem_set]
    by_cases h : j = i
    · subst h; simp [upd]
    · have h' : ¬ i = j := fun e => h e.symm
      simp [upd, h, h']
theorem map_const_range {α : Type} (x : α) (n : Nat) : (List.range n).map (fun _ => x) = List.replicate n x := by simp [List.map_const']
theorem flat_enV : ∀ l : List Value, l.flatMap enV = l
  | [] => rfl
  | x :: l => by rw [List.flatMap_cons, flat_enV l]; rfl
theorem bx_full {w : World} {base g N : Nat} {e : TypeId} {l : List Value} (h : OwnR enV 1 e w base (.slice (some ⟨g, 0, none⟩) N N) l) (hl : l.length = N) : BxV w g e l := by
  obtain ⟨_, h1, h2⟩ := h
  rcases h2 with ⟨h2, _⟩ | ⟨g', cap, cur, hv, _, hg, _, _, hcs, ht⟩
  · cases hv : h2
  · obtain ⟨rfl, hN, rfl⟩ : g = g' ∧ N = l.length ∧ N = cap := by simpa using hv
    rw [flat_enV] at ht
    unfold BxV
    rw [hg]
    have : cur.toList = l := by
      rw [← ht, List.take_of_length_le]
      rw [Array.length_toList, hcs, hN]; omega
    rw [← this]
section
variable {P : Program} {w : World} {ops : Array Oper} {rest : List Oper} {o : Oper} {a : Act} {Q : Exit → Act → World → Prop} {e : TypeId} {K : Act → World → Prop} {b : Nat} {xs : List Value}
theorem wpList_mkT (hgd : Region.wanted o (yielded ops a.tmps) = true) (t : TypeId) (y : Operand) (ho : o.op = .buildSlice t 1 #[(0, y)]) (e : TypeId) (ht : P.underlying t = some (.slice e)) (z : Value) (hinfo : (P.info? e).map (fun i => (i.zero, i.size)) = some (some z, 1))
    (x : Value) (hy : a.eval y = x) (hV : x.cells = #[x])
    (h : ∀ g w', OwnT e w' g (.slice (some ⟨g, 0, none⟩) 1 1) [x] → Fr noB w w' → w.heap.size ≤ g → wpList P ops Q rest (a.put o.dst (.slice (some ⟨g, 0, none⟩) 1 1)) w') : wpList P ops Q (o :: rest) a w := by
  refine wpList_wanted hgd fun K hK => ?_
  have hr := run_mk1 (P := P) (ec := enV) (sz := 1) t ht z hinfo (by decide) (by decide) x x (by rw [hV]) rfl w
  unfold Oper.wp
  simp only [execOp, ho]
  simp [hy, hr, Result.andThen]
  exact hK _ _ (h w.heap.size _ (OwnT.made w x e) ((Fr.refl _ _).alloc _) (Nat.le_refl _))
theorem wp_appT (s x : Operand) (t : TypeId) (ho : o.op = .call { callee := .builtin .append, args := #[s, x], argTypes := #[t, t] })
    (z : Value) (ht : P.underlying t = some (.slice e)) (hinfo : (P.info? e).map (fun i => (i.zero, i.size, i.bytes)) = some (some z, 1, 1)) (hzs : z.cells.size = 1)
    (v : Value) (hs : a.eval s = v) (hO : OwnT e w b v xs) (g : Nat) (hx : a.eval x = .slice (some ⟨g, 0, none⟩) 1 1) (y : Value) (hc : w.cell? ⟨g, 0, none⟩ = some y) (h1 : y.oneCell' = true) (hl : xs.length ≤ 100000)
    (h : ∀ v' w' b', OwnT e w' b' v' (xs ++ [y]) → Fr (onB1 b) w w' → (b' = b ∨ w.heap.size ≤ b') → K (a.put o.dst v') w') : o.wp P a w K Q := by
  obtain ⟨i0, hi, hz0, hz1, hz2⟩ := info_parts hinfo
  obtain ⟨v', w', b', hr, h2, h3, h5⟩ := run_append_T (P := P) t o.type i0 z ht hi hz0 hz1 hz2 hzs hO g y hc h1 hl
  unfold Oper.wp execOp
  simp only [ho, resolve, invoke, builtin, Sem.run_bind, Sem.run_pure, Result.andThen_ok, List.map_toArray, List.map_cons, List.map_nil, hs, hx, hr]
  exact h v' w' b' h2 h3 h5
theorem run_ld1 (t : TypeId) (e : TypeId) (ht : P.underlying t = some (.slice e)) (g off : Nat) (v : Value) (hc : w.cell? ⟨g, off, none⟩ = some v) : (Instr.loadAt t (.pointer (some ⟨g, off, none⟩))).run P w = .ok v w := by
  simp [Instr.loadAt, Instr.sureAddr, loadVar, isAgg, run_underlying ht, go_sem, hc]
end
end Go.Proofs.U
namespace Go.Proofs.Ytghkpeejogldkaa
open Go.RowKit Go.Proofs.U
set_option linter.unusedSimpArgs false
set_option linter.unusedVariables false
theorem encA_le (x y : ActR) : 0 + (encA x).length ≤ (encA y).length := by simp [encA]
theorem encA_eq (x y : ActR) : (encA x).length = (encA y).length := rfl
theorem wf64 {z : Int} (h : (Lit.int .i64 z).wf = true) : -9223372036854775808 ≤ z ∧ z ≤ 9223372036854775807 := by
  simp [Lit.wf, IntKind.min, IntKind.max, IntKind.signed, IntKind.bits] at h; omega
theorem encA_one {w : World} {x : ActR} (h : ActOk w x) : ∀ u ∈ encA x, u.oneCell' = true := by
  obtain ⟨a, c, e, _⟩ := h.2.2.2.opn
  intro u hu
  simp [encA, e] at hu
  rcases hu with rfl | rfl | rfl | rfl <;> rfl
theorem wrapN (n : Nat) (h : n ≤ 1000) : IntKind.i64.wrap (n : Int) = n := by rw [IntKind.wrap_i64]; omega
section
variable {w : World} {ops : Array Oper} {rest : List Oper} {o : Oper} {a : Act} {Q : Exit → Act → World → Prop}
theorem at_index (t : TypeId) (x y : Operand) (_ho : o.op = .index t x y) (h : wpList Try.prog ops Q (o :: rest) a w) : wpList Try.prog ops Q (o :: rest) a w := h
theorem wpList_ld1w (hgd : Region.wanted o (yielded ops a.tmps) = true) (t e : TypeId) (ht : Try.prog.underlying t = some (.slice e)) (x : Operand) (ho : o.op = .load t x) (g off : Nat) (hx : a.eval x = .pointer (some ⟨g, off, none⟩)) (v : Value) (hc : w.cell? ⟨g, off, none⟩ = some v)
    (h : wpList Try.prog ops Q rest (a.put o.dst v) w) : wpList Try.prog ops Q (o :: rest) a w := by
  refine wpList_wanted hgd fun K hK => ?_
  have hr := run_ld1 (P := Try.prog) (w := w) t e ht g off v hc
  unfold Oper.wp
  simp [execOp, ho, hx, hr, Result.andThen]
  exact hK _ _ h
end
def JN (w0 : World) : List Value → World → Prop := fun _ W => W = w0

/-- Rows of bytes in blocks of their own, held by a row. -/
structure May (w : World) (lo g N : Nat) (vs : Nat → Value) (bs : Nat → Nat) (ls : Nat → List Int) (K : Nat) : Prop where
  out : BxV w g 60 ((List.range N).map vs)
  each : ∀ i, i < K → OwnT 5 w (bs i) (vs i) ((ls i).map (Value.int .u8))
  inj : ∀ i j, i < K → j < K → bs i = bs j → i = j
  low : ∀ i, i < K → lo ≤ bs i
section
variable {w w' : World} {lo g N K : Nat} {vs : Nat → Value} {bs : Nat → Nat} {ls ls' : Nat → List Int} {S : Nat → Prop}
theorem May.ne (h : May w lo g N vs bs ls K) : ∀ i, i < K → bs i ≠ g := by
  intro i hi e
  obtain ⟨cur, hc⟩ := (h.each i hi).blk
  have := h.out
  unfold BxV at this
  rw [e, this] at hc
  simp at hc
theorem May.fr (h : May w lo g N vs bs ls K) (f : Fr S w w') (hg : ¬ S g) (hb : ∀ i, i < K → ¬ S (bs i)) : May w' lo g N vs bs ls K :=
  ⟨h.out.fr f hg, fun i hi => (h.each i hi).fr f (hb i hi), h.inj, h.low⟩
theorem May.fr0 (h : May w lo g N vs bs ls K) (f : Fr noB w w') : May w' lo g N vs bs ls K := h.fr f (fun q => q) (fun _ _ q => q)
theorem May.congr (h : May w lo g N vs bs ls K) (hl : ∀ i, i < K → ls i = ls' i) : May w lo g N vs bs ls' K :=
  ⟨h.out, fun i hi => hl i hi ▸ h.each i hi, h.inj, h.low⟩
end
/-- While a byte is appended to one of the rows. -/
def JA (w0 : World) (g2 bj j : Nat) (L xs : List Value) (c : Int) : List Value → World → Prop
  | [], W => W = w0
  | [v], W => v = .slice (some ⟨w0.heap.size, 0, none⟩) 1 1 ∧ W = w0.alloc (.cells #[.int .u8 c] 5)
  | [_, v], W => ∃ b', OwnT 5 W b' v (xs ++ [.int .u8 c]) ∧ Fr (onB1 bj) w0 W ∧ (b' = bj ∨ w0.heap.size ≤ b')
  | [_, v, _], W => ∃ b', OwnT 5 W b' v (xs ++ [.int .u8 c]) ∧ BxV W g2 60 (L.set j v) ∧ Fr (fun q => q = bj ∨ q = g2) w0 W ∧ (b' = bj ∨ w0.heap.size ≤ b')
  | _, _ => False
theorem JA.fr {w0 : World} {g2 bj j : Nat} {L xs : List Value} {c : Int} : ∀ {hv : List Value} {W : World}, JA w0 g2 bj j L xs c hv W → Fr (fun q => q = bj ∨ q = g2) w0 W
  | [], _, h => by cases h; exact Fr.refl _ _
  | [_], _, h => by obtain ⟨_, rfl⟩ := h; exact ((Fr.refl noB w0).alloc _).mono (fun _ _ q => q.elim)
  | [_, _], _, h => by obtain ⟨_, _, h, _⟩ := h; exact h.mono (fun _ _ q => Or.inl q)
  | [_, _, _], _, h => by obtain ⟨_, _, _, h, _⟩ := h; exact h
  | _ :: _ :: _ :: _ :: _, _, h => h.elim
/-- While one of the rows is cut. -/
def JU (w0 : World) (g2 : Nat) (L : List Value) : List Value → World → Prop
  | [], W => W = w0
  | [_], W => BxV W g2 60 L ∧ Fr (onB1 g2) w0 W
  | _, _ => False
end Go.Proofs.Ytghkpeejogldkaa
/- Pages and rows of bytes cut and copied; slotOf, generationOf of package root. -/
namespace Go.Proofs.Ytghkpeejogldkaa
open Go.RowKit Go.Proofs.U
set_option linter.unusedSimpArgs false
set_option linter.unusedVariables false

theorem BxV.slI {w : World} {g : Nat} {t : TypeId} {l : List Int} (h : BxV w g t (pgv l)) (hb : Byt l) (off n cap : Nat) (hn : off + n ≤ l.length) (hc : n ≤ cap) : SlI .u8 w (.slice (some ⟨g, off, none⟩) n cap) ((l.drop off).take n) := by
  have hl : ((l.drop off).take n).length = n := by simp; omega
  refine ⟨?_, (Byt.drop hb off).take n⟩
  rw [hl]
  refine ⟨_, _, rfl, hc, by rw [List.length_map, hl, Nat.mul_one], (fun e => by cases e), fun x hx => ?_⟩
  cases hx
  intro j u hj
  rw [Addr.plain]
  refine (h.cell (off + j) u ?_).1
  rw [← hj]
  have hjn : j < n := by
    have := (List.getElem?_eq_some_iff.1 hj).1
    simp only [List.length_map] at this; omega
  simp [pgv, List.getElem?_take, hjn, List.getElem?_drop]
/-- s[i:] of a row of bytes. -/
theorem run_cutL (W : World) (g n i : Nat) (hi : i < n) (x : Int) (hx : x = (i : Int)) : (Instr.sliceAt 60 (.slice (some ⟨g, 0, none⟩) n n) (some (.int .i64 x)) none none).run Try.prog W = .ok (.slice (some ⟨g, i, none⟩) (n - i) (n - i)) W := by
  subst hx
  rw [run_cutl 60 5 Try.underlying60 1 size_u8 _ n n .i64 i (by omega)]
  have h3 : ¬ (n = i) := by omega
  simp [h3, Addr.plain]
/-- copy into a variable of bytes. -/
theorem run_cpyB {W : World} {g : Nat} {t : TypeId} {l : List Int} (hB : BxV W g t (pgv l)) (off n dcap : Nat) (hn : off + n ≤ l.length) (ty : TypeId) (v : Value) (m : List Int) (hS : SlI .u8 W v m) (r : Value) (hr : r = .slice (some ⟨g, off, none⟩) n dcap) :
    ∃ W', (Builtin.copy_ #[60, 60] ty #[r, v]).run Try.prog W = .ok (goInt (Nat.min m.length n)) W' ∧ BxV W' g t (pgv (putI l off (m.take n))) ∧ Fr (onB1 g) W W' := by
  subst hr
  have hS0 := hS
  obtain ⟨⟨ao, cap, rfl, hcap, hlen, hnone, hsome⟩, hwf⟩ := hS
  rw [Nat.mul_one, List.length_map] at hlen
  by_cases h0 : Nat.min m.length n = 0
  · refine ⟨W, ?_, ?_, Fr.refl _ _⟩
    · rw [run_copy_none W 60 60 ty 5 _ _ _ _ _ _ Try.underlying60 size_u8 h0, h0]; rfl
    · have : m.take n = [] := by
        have h0' : min m.length n = 0 := h0
        apply List.eq_nil_of_length_eq_zero; rw [List.length_take]; omega
      rw [this]
      have e : putI l off [] = l := by simp [putI]
      rw [e]; exact hB
  · cases ao with
    | none =>
      have h1 := hnone rfl
      have h0' : ¬ min m.length n = 0 := h0
      omega
    | some ad =>
      have hcell := hsome ad rfl
      have hl2 : (pgv (m.take n)).length = Nat.min m.length n := by
        show _ = min m.length n
        rw [pgv_len, List.length_take]; omega
      have hmn : Nat.min m.length n ≤ n := Nat.min_le_right _ _
      have hr := run_copy_cells (P := Try.prog) W 60 60 ty 5 g off n dcap ad m.length cap (pgv (m.take n)) Try.underlying60 size_u8 hl2
        (by
          intro j u hj
          refine hcell j u ?_
          have hjl := (List.getElem?_eq_some_iff.1 hj).1
          rw [hl2] at hjl
          rw [← hj]
          simp [pgv, List.getElem?_take, show j < n by omega])
        (fun j hj => by
          rw [hl2] at hj
          exact (hB.thereR off n (by rw [pgv_len]; omega) j (by omega)).1)
        (fun j hj => by
          rw [hl2] at hj
          exact (hB.thereR off n (by rw [pgv_len]; omega) j (by omega)).2) (pgv_one _)
      rw [hl2] at hr
      refine ⟨_, hr, ?_, setCells_fr1 _ _ _ _⟩
      have := setCells_bx (pgv (m.take n)) off W (pgv l) hB (by rw [hl2, pgv_len]; omega)
      rwa [putAt_putI] at this
section
variable {w : World} {ops : Array Oper} {rest : List Oper} {o : Oper} {a : Act} {Q : Exit → Act → World → Prop}
theorem wpList_cpyB (hgd : o.guard = none) (d s : Operand) (ho : o.op = .call { callee := .builtin .copy, args := #[d, s], argTypes := #[60, 60] })
    (g : Nat) (t : TypeId) (l : List Int) (hB : BxV w g t (pgv l)) (off n dcap : Nat) (hd : a.eval d = .slice (some ⟨g, off, none⟩) n dcap) (hn : off + n ≤ l.length) (v : Value) (hs : a.eval s = v) (m : List Int) (hS : SlI .u8 w v m)
    (h : ∀ w', BxV w' g t (pgv (putI l off (m.take n))) → Fr (onB1 g) w w' → wpList Try.prog ops Q rest (a.put o.dst (goInt (Nat.min m.length n))) w') : wpList Try.prog ops Q (o :: rest) a w := by
  obtain ⟨W', hr, h1, h2⟩ := run_cpyB hB off n dcap hn o.type v m hS _ rfl
  exact Lib.wpList_copy_run w hgd d s 60 60 ho _ _ hd hs hr (h W' h1 h2)
theorem at_cpy (d s : Operand) (t t' : TypeId) (_ho : o.op = .call { callee := .builtin .copy, args := #[d, s], argTypes := #[t, t'] }) (h : wpList Try.prog ops Q (o :: rest) a w) : wpList Try.prog ops Q (o :: rest) a w := h
/-- make([]byte, n). -/
theorem wpList_mkB (hgd : o.guard = none) (l c : Operand) (ho : o.op = .makeSlice 60 l c) (n : Nat) (L : Int) (hl : a.eval l = .int .i64 L) (hc : a.eval c = .int .i64 L) (hL : L = (n : Int)) (hn : n ≤ 1000000)
    (h : ∀ g w', BxV w' g 5 (pgv (List.replicate n 0)) → Fr noB w w' → w.heap.size ≤ g → wpList Try.prog ops Q rest (a.put o.dst (.slice (some ⟨g, 0, none⟩) n n)) w') : wpList Try.prog ops Q (o :: rest) a w := by
  refine wpList_makeR enV 1 hgd l c 60 ho 0 5 (.int .u8 0) 1 Try.underlying60 info_u8b (Value.int .u8 0) rfl rfl (by decide) .i64 .i64 L L n hl hc hL hL (by omega) (by unfold maxLen; omega) (Nat.zero_le _) ?_
  intro g w' ho hf hg hlt
  refine h g w' ?_ hf hg
  have := bx_full ho (by simp)
  simpa [pgv] using this
end

theorem nm8 (l : List Int) (h : l.length = 8) : nmV l 0 false 8 = leNum l := by
  have e : isW 8 = true := rfl
  simp [nmV, e, tkL, tkOk, h, List.take_of_length_le]

end Go.Proofs.Ytghkpeejogldkaa
/- Arrays of bytes, of any length: how they are made, read, stored, cut, compared; no condition but that the type is one. -/
namespace Go.Proofs.Ytghkpeejogldkaa
open Go.RowKit Go.Proofs.U
set_option linter.unusedSimpArgs false
set_option linter.unusedVariables false

def zerB (n : Nat) : List Int := List.replicate n 0
theorem zerB_len (n : Nat) : (zerB n).length = n := List.length_replicate
theorem zerB_byt (n : Nat) : Byt (zerB n) := by
  intro x hx
  rw [show x = 0 from List.eq_of_mem_replicate hx]; decide
/-- t is an array of n bytes. -/
structure ArrT (t : TypeId) (n : Nat) : Prop where
  zero : (Try.prog.info? t).map (·.zero) = some (some (.agg (pgv (zerB n)).toArray))
  size : (Try.prog.info? t).map (·.size) = some n
  und : Try.prog.underlying t = some (.array n 5)
  built : Try.prog.built t [] = some (pgv (zerB n)).toArray
  len : Try.prog.arrayLen t = n
  elem : Try.prog.elem t = 5
  eqg : Try.prog.eqGuardType Try.prog.depth t = false
theorem arr_counts : ArrT 50 240 := ⟨by kernel_rfl, by kernel_rfl, by kernel_rfl, by kernel_rfl, by kernel_rfl, by kernel_rfl, by kernel_rfl⟩
theorem arr_240 : ArrT 30 240 := ⟨by kernel_rfl, by kernel_rfl, by kernel_rfl, by kernel_rfl, by kernel_rfl, by kernel_rfl, by kernel_rfl⟩

section
variable {t : TypeId} {n : Nat}
theorem ArrT.row (T : ArrT t n) : ∃ d, Try.prog.underlying t = some d ∧ d.isRow = true := ⟨_, T.und, rfl⟩
theorem ArrT.undL (T : ArrT t n) : Try.prog.underlying t = some (.array (Try.prog.arrayLen t) (Try.prog.elem t)) := by rw [T.len, T.elem]; exact T.und
theorem run_loadA (T : ArrT t n) (w : World) (b off : Nat) (p : List Int) (hc : w.rangeAt b off (pgv p)) (hp : p.length = n) : (Instr.loadAt t (.pointer (some ⟨b, off, none⟩))).run Try.prog w = .ok (pgV p) w := by
  have := run_loadVar_mid (P := Try.prog) w b off t (pgv p) _ hc T.und rfl (by rw [T.size, pgv_len, hp])
  simpa [Instr.loadAt, Instr.sureAddr, Result.andThen, pgV] using this
theorem bxAll {w : World} {g : Nat} {t' : TypeId} {p : List Int} (h : BxV w g t' (pgv p)) : w.rangeAt g 0 (pgv p) := h.range 0 (pgv p) (by show (pgv p).take (pgv p).length = pgv p; exact List.take_length)
theorem run_allA (T : ArrT t n) (hn : 0 < n) (w : World) (g : Nat) : (Instr.sliceAt t (.pointer (some ⟨g, 0, none⟩)) none none none).run Try.prog w = .ok (.slice (some ⟨g, 0, none⟩) n n) w := by
  have h := run_sliceAt_array_all (P := Try.prog) w t ⟨g, 0, none⟩ T.undL
  rw [h]
  obtain ⟨ii, hii, hsz⟩ := Option.map_eq_some_iff.1 size_u8
  simp only [T.elem, sizeOf, typeInfo, T.len, slicedAt]
  have h3 : ¬ (n = 0) := by omega
  simp [hii, hsz, go_sem, Addr.plain, h3]
theorem run_fromA (T : ArrT t n) (w : World) (g i : Nat) (hi : i < n) (x : Int) (hx : x = (i : Int)) : (Instr.sliceAt t (.pointer (some ⟨g, 0, none⟩)) (some (.int .i64 x)) none none).run Try.prog w = .ok (.slice (some ⟨g, i, none⟩) (n - i) (n - i)) w := by
  subst hx
  have h := run_sliceAt_array_l (P := Try.prog) w t ⟨g, 0, none⟩ T.undL .i64 (i : Int) (by omega) (by rw [T.len]; omega)
  rw [h]
  obtain ⟨ii, hii, hsz⟩ := Option.map_eq_some_iff.1 size_u8
  simp only [T.elem, sizeOf, typeInfo, T.len, slicedAt, Int.toNat_natCast]
  have h3 : ¬ (n = i) := by omega
  simp [hii, hsz, go_sem, Addr.plain, h3]
theorem run_equalInA (T : ArrT t n) (w : World) (d : Nat) (xs ys : List Int) (hx : xs.length = n) (hy : ys.length = n) :
    (Op.equalIn (d + 2) t (pgV xs) (pgV ys)).run Try.prog w = .ok (xs == ys) w := by
  have he : Try.prog.underlying 5 = some (.int .u8) := Try.underlying5
  have hsz : ∀ w, (sizeOf 5).run Try.prog w = .ok 1 w := fun w => by kernel_rfl
  unfold pgV pgv
  rw [← all_range_eqI xs ys (hx.trans hy.symm), hx, List.range_eq_range', Op.equalIn]
  simp only [Sem.run_bind, run_underlying T.und, Result.andThen_ok, hsz, Std.Legacy.Range.forIn_eq_forIn_range', Std.Legacy.Range.size, Nat.sub_zero, Nat.add_sub_cancel, Nat.div_one]
  have hl : ∀ i ∈ List.range' 0 n 1, i < n := fun i hi => by simpa using (List.mem_range'_1.1 hi).2
  generalize List.range' 0 n 1 = l at hl ⊢
  induction l with
  | nil => simp
  | cons i l ih =>
    have hi : i < n := hl i (by simp)
    have px : (part 5 (xs.map (Value.int .u8)).toArray (i * 1)).run Try.prog w = .ok (.int .u8 (xs.getD i 0)) w := by
      simp [part, isAgg, run_underlying he, List.getD, List.getElem?_eq_getElem (show i < xs.length by omega)]
    have py : (part 5 (ys.map (Value.int .u8)).toArray (i * 1)).run Try.prog w = .ok (.int .u8 (ys.getD i 0)) w := by
      simp [part, isAgg, run_underlying he, List.getD, List.getElem?_eq_getElem (show i < ys.length by omega)]
    have pe : (Op.equalIn (d + 1) 5 (.int .u8 (xs.getD i 0)) (.int .u8 (ys.getD i 0))).run Try.prog w = .ok (xs.getD i 0 == ys.getD i 0) w := by
      rw [run_equalIn_int w d 5 .u8 .u8 _ _ he]
    simp only [List.forIn_cons, Sem.run_bind, px, py, pe, Result.andThen_ok, List.all_cons]
    cases hb : (xs.getD i 0 == ys.getD i 0)
    · simp
    · simp only [Bool.not_true, Bool.false_eq_true, if_false, Sem.run_pure, Result.andThen_ok, Bool.true_and]
      exact ih fun j hj => hl j (by simp [hj])
theorem run_eqlA (T : ArrT t n) (w : World) (xs ys : List Int) (hx : xs.length = n) (hy : ys.length = n) : (binOp .eql t (pgV xs) (pgV ys)).run Try.prog w = .ok (.bool (xs == ys)) w := by
  have := run_equalInA T w 9998 xs ys hx hy
  unfold pgV at *
  rw [run_eql_struct, this]; rfl
theorem run_neqA (T : ArrT t n) (w : World) (xs ys : List Int) (hx : xs.length = n) (hy : ys.length = n) : (binOp .neq t (pgV xs) (pgV ys)).run Try.prog w = .ok (.bool (!(xs == ys))) w := by
  have := run_equalInA T w 9998 xs ys hx hy
  unfold pgV at *
  rw [run_neq_struct, this]; rfl
theorem eqgA (T : ArrT t n) (x y : Operand) (p q : List Int) (w : World) : (eqGuard .eql t x y (pgV p) (pgV q)).run Try.prog w = .ok () w := by
  unfold pgV
  simp [eqGuard, T.eqg, go_sem]
theorem eqgAn (T : ArrT t n) (x y : Operand) (p q : List Int) (w : World) : (eqGuard .neq t x y (pgV p) (pgV q)).run Try.prog w = .ok () w := by
  unfold pgV
  simp [eqGuard, T.eqg, go_sem]
theorem run_indexA (T : ArrT t n) (w : World) (p : List Int) (hl : p.length = n) (i : Nat) (hi : i < n) : (Instr.index t (pgV p) (.int .i64 (i : Int))).run Try.prog w = .ok (.int .u8 (p.getD i 0)) w := by
  obtain ⟨ii, hii, hs⟩ := Option.map_eq_some_iff.1 size_u8
  have he : Try.prog.underlying 5 = some (.int .u8) := Try.underlying5
  have hgi : p[i]? = some (p.getD i 0) := by simp [List.getD, show i < p.length by omega]
  generalize p.getD i 0 = y at hgi
  unfold pgV pgv
  simp [Instr.index, asIntOf, run_underlying T.und, run_underlying he, part, isAgg, sizeOf, typeInfo, hii, hs, go_sem, hi, hgi]
theorem run_idxAt (T : ArrT t n) (w : World) (g i : Nat) (hi : i < n) (k : IntKind) : (Instr.indexAt t (.pointer (some ⟨g, 0, none⟩)) (.int k (i : Int))).run Try.prog w = .ok (.pointer (some ⟨g, i, none⟩)) w := by
  obtain ⟨ii, hii, hs⟩ := Option.map_eq_some_iff.1 size_u8
  simp [Instr.indexAt, asIntOf, run_underlying T.und, hi, sizeOf, typeInfo, hii, hs, go_sem, Addr.plain]
theorem results_arr {fn : Func} {q : Tmp} (T : ArrT t n) (h : fn.results = #[.cell q t]) (tmps : Array Value) (w : World) (g : Nat) (p : List Int) (hq : tmps.getD q undef = .pointer (some ⟨g, 0, none⟩)) (hA : BxV w g t (pgv p)) (hp : p.length = n) :
    (results fn tmps).run Try.prog w = .ok (pgV p) w :=
  results_cell_row h tmps w g t (pgv p).toArray (0, 0) _ hq hA T.und rfl (by rw [T.size]; simp [pgv_len, hp])
theorem results_arr2 {fn : Func} {q u : Tmp} (T : ArrT t n) (h : fn.results = #[.cell q t, .tmp u]) (tmps : Array Value) (w : World) (g : Nat) (p : List Int) (hq : tmps.getD q undef = .pointer (some ⟨g, 0, none⟩)) (hA : BxV w g t (pgv p)) (hp : p.length = n) :
    (results fn tmps).run Try.prog w = .ok (.tuple #[pgV p, tmps.getD u undef]) w := by
  rw [results_cell_tmp h, hq]
  have hr := run_loadVar_mid (P := Try.prog) w g 0 t (pgv p) _ (hA.range 0 _ (by simp)) T.und rfl (by rw [T.size, pgv_len, hp])
  simp only [asAddr, Sem.run_pure, Result.andThen_ok, hr]
  rfl
end
section
variable {t : TypeId} {n : Nat} {w : World} {ops : Array Oper} {rest : List Oper} {o : Oper} {a : Act} {Q : Exit → Act → World → Prop}
theorem wpList_buildA (T : ArrT t n) (hgd : Region.wanted o (yielded ops a.tmps) = true) (ho : o.op = .build t #[])
    (h : wpList Try.prog ops Q rest (a.put o.dst (pgV (zerB n))) w) : wpList Try.prog ops Q (o :: rest) a w := by
  refine wpList_wanted hgd fun K hK => ?_
  have hrun := run_build (P := Try.prog) w t #[] _ T.built
  unfold Oper.wp
  simp [execOp, ho, hrun, Result.andThen]
  exact hK _ _ h
theorem wpList_allocA (T : ArrT t n) (hgd : Region.wanted o (yielded ops a.tmps) = true) (ho : o.op = .alloc t)
    (h : ∀ g w', Hid (g = w.heap.size) → BxV w' g t (pgv (zerB n)) → Fr noB w w' → w.heap.size ≤ g → wpList Try.prog ops Q rest (a.put o.dst (.pointer (some ⟨g, 0, none⟩))) w') : wpList Try.prog ops Q (o :: rest) a w :=
  wpList_allocV hgd t ho _ T.zero h
theorem wpList_storeA (T : ArrT t n) (hgd : o.guard = none) (x y : Operand) (ho : o.op = .store t x y) (g : Nat) (hx : a.eval x = .pointer (some ⟨g, 0, none⟩)) (p : List Int) (hy : a.eval y = pgV p) (q : List Int) (hA : BxV w g t (pgv q))
    (hp : p.length = n) (hq : q.length = n)
    (h : ∀ w', BxV w' g t (pgv p) → Fr (onB1 g) w w' → wpList Try.prog ops Q rest (a.put o.dst undef) w') : wpList Try.prog ops Q (o :: rest) a w := by
  refine wpList_storeV hgd t x y ho g 0 hx (pgv p) hy t (pgv q) hA (by rw [T.size, pgv_len, hp]) (by rw [pgv_len, pgv_len, hp, hq]; omega) (pgv_one p) ?_
  intro w' h1 h2
  rw [putAt_all _ _ (by rw [pgv_len, pgv_len, hp, hq])] at h1
  exact h w' h1 h2
theorem wpList_loadA (T : ArrT t n) (hgd : Region.wanted o (yielded ops a.tmps) = true) (x : Operand) (ho : o.op = .load t x) (g : Nat) (hx : a.eval x = .pointer (some ⟨g, 0, none⟩)) (p : List Int) (hA : BxV w g t (pgv p)) (hp : p.length = n)
    (h : wpList Try.prog ops Q rest (a.put o.dst (pgV p)) w) : wpList Try.prog ops Q (o :: rest) a w := by
  refine wpList_wanted hgd fun K hK => ?_
  have hr := run_loadA T w g 0 p (bxAll hA) hp
  unfold Oper.wp execOp
  simp only [ho, hx, Sem.run_bind, hr, Result.andThen_ok]
  exact hK _ _ h
theorem wpList_allA (T : ArrT t n) (hn : 0 < n) (hgd : Region.wanted o (yielded ops a.tmps) = true) (x : Operand) (ho : o.op = .slice t x none none none) (g : Nat) (hx : a.eval x = .pointer (some ⟨g, 0, none⟩))
    (h : wpList Try.prog ops Q rest (a.put o.dst (.slice (some ⟨g, 0, none⟩) n n)) w) : wpList Try.prog ops Q (o :: rest) a w := by
  refine wpList_wanted hgd fun K hK => ?_
  have hr := run_allA T hn w g
  unfold Oper.wp
  simp [execOp, ho, hx, hr, Result.andThen]
  exact hK _ _ h
theorem wpList_fromA (T : ArrT t n) (hgd : Region.wanted o (yielded ops a.tmps) = true) (x lo : Operand) (ho : o.op = .slice t x (some lo) none none) (g : Nat) (hx : a.eval x = .pointer (some ⟨g, 0, none⟩)) (i : Nat) (zl : Int) (hlo : a.eval lo = .int .i64 zl) (hzl : zl = (i : Int)) (hi : i < n)
    (h : wpList Try.prog ops Q rest (a.put o.dst (.slice (some ⟨g, i, none⟩) (n - i) (n - i))) w) : wpList Try.prog ops Q (o :: rest) a w := by
  refine wpList_wanted hgd fun K hK => ?_
  have hr := run_fromA T w g i hi zl hzl
  unfold Oper.wp
  simp [execOp, ho, hx, hlo, hr, Result.andThen]
  exact hK _ _ h
theorem wpList_eqlA (T : ArrT t n) (hgd : Region.wanted o (yielded ops a.tmps) = true) (x y : Operand) (t' : TypeId) (ho : o.op = .binOp .eql t x y t') (p q : List Int) (hx : a.eval x = pgV p) (hy : a.eval y = pgV q) (hp : p.length = n) (hq : q.length = n)
    (h : wpList Try.prog ops Q rest (a.put o.dst (.bool (p == q))) w) : wpList Try.prog ops Q (o :: rest) a w := by
  refine wpList_wanted hgd fun K hK => ?_
  have hr := run_eqlA T w p q hp hq
  unfold Oper.wp
  simp [execOp, ho, hx, hy, hr, eqgA T, Result.andThen]
  exact hK _ _ h
theorem wpList_neqA (T : ArrT t n) (hgd : Region.wanted o (yielded ops a.tmps) = true) (x y : Operand) (t' : TypeId) (ho : o.op = .binOp .neq t x y t') (p q : List Int) (hx : a.eval x = pgV p) (hy : a.eval y = pgV q) (hp : p.length = n) (hq : q.length = n)
    (h : wpList Try.prog ops Q rest (a.put o.dst (.bool (!(p == q)))) w) : wpList Try.prog ops Q (o :: rest) a w := by
  refine wpList_wanted hgd fun K hK => ?_
  have hr := run_neqA T w p q hp hq
  unfold Oper.wp
  simp [execOp, ho, hx, hy, hr, eqgAn T, Result.andThen]
  exact hK _ _ h
theorem wpList_indexA (T : ArrT t n) (hgd : Region.wanted o (yielded ops a.tmps) = true) (x y : Operand) (ho : o.op = .index t x y) (p : List Int) (hx : a.eval x = pgV p) (hl : p.length = n) (i : Nat) (hy : a.eval y = .int .i64 (i : Int)) (hi : i < n)
    (h : wpList Try.prog ops Q rest (a.put o.dst (.int .u8 (p.getD i 0))) w) : wpList Try.prog ops Q (o :: rest) a w := by
  refine wpList_wanted hgd fun K hK => ?_
  have hrun := run_indexA T w p hl i hi
  unfold Oper.wp
  simp [execOp, ho, hx, hy, hrun, Result.andThen]
  exact hK _ _ h
theorem at_idxA (t : TypeId) (x y : Operand) (_ho : o.op = .indexAddr t x y) (h : wpList Try.prog ops Q (o :: rest) a w) : wpList Try.prog ops Q (o :: rest) a w := h
theorem wpList_idxAt (T : ArrT t n) (hgd : Region.wanted o (yielded ops a.tmps) = true) (x y : Operand) (ho : o.op = .indexAddr t x y) (g : Nat) (hx : a.eval x = .pointer (some ⟨g, 0, none⟩)) (k : IntKind) (z : Int) (i : Nat) (hy : a.eval y = .int k z) (hz : z = (i : Int)) (hi : i < n)
    (h : wpList Try.prog ops Q rest (a.put o.dst (.pointer (some ⟨g, i, none⟩))) w) : wpList Try.prog ops Q (o :: rest) a w := by
  refine wpList_wanted hgd fun K hK => ?_
  subst hz
  have hrun := run_idxAt T w g i hi k
  unfold Oper.wp
  simp [execOp, ho, hx, hy, hrun, Result.andThen]
  exact hK _ _ h
end
end Go.Proofs.Ytghkpeejogldkaa
/- A pool in memory, cell by cell; its small functions: has, Size, free, Fresh, held, Count, givenUp. -/
namespace Go.Proofs.Ytghkpeejogldkaa
open Go.RowKit Go.Proofs.U
set_option linter.unusedSimpArgs false
set_option linter.unusedVariables false
def plKinds (L : List Pg) : List Int := (List.range 240).map fun i => ((plAt L i).s : Int)
theorem plKinds_len (L : List Pg) : (plKinds L).length = 240 := by simp [plKinds]
theorem plKinds_at (L : List Pg) (i : Nat) (h : i < 240) : (plKinds L).getD i 0 = ((plAt L i).s : Int) := by simp [plKinds, List.getD, h]
/-- A pool's cells: how many pages, their counts, what they are. -/
def poolL (L : List Pg) : List Value := .int .i64 (L.length : Int) :: (pgv (plCounts L) ++ pgv (plKinds L))
theorem poolL_len (L : List Pg) : (poolL L).length = 481 := by simp [poolL, pgv_len, plCounts_len, plKinds_len]
theorem poolL_size (L : List Pg) : (poolL L)[0]? = some (.int .i64 (L.length : Int)) := rfl
theorem poolL_cnt (L : List Pg) (i : Nat) (h : i < 240) : (poolL L)[1 + i]? = some (.int .u8 (plAt L i).c) := by
  rw [Nat.add_comm]
  unfold poolL
  rw [List.getElem?_cons_succ, List.getElem?_append_left (by rw [pgv_len, plCounts_len]; exact h)]
  simp [pgv, plCounts, h]
theorem poolL_knd (L : List Pg) (i : Nat) (h : i < 240) : (poolL L)[241 + i]? = some (.int .u8 ((plAt L i).s : Int)) := by
  rw [show 241 + i = (240 + i) + 1 by omega]
  unfold poolL
  rw [List.getElem?_cons_succ, List.getElem?_append_right (by rw [pgv_len, plCounts_len]; omega), pgv_len, plCounts_len, Nat.add_sub_cancel_left]
  simp [pgv, plKinds, h]
theorem poolL_ext {cs : List Value} {L : List Pg} (hl : cs.length = 481) (h0 : cs[0]? = some (.int .i64 (L.length : Int))) (h1 : ∀ i, i < 240 → cs[1 + i]? = some (.int .u8 (plAt L i).c)) (h2 : ∀ i, i < 240 → cs[241 + i]? = some (.int .u8 ((plAt L i).s : Int))) : cs = poolL L := by
  refine List.ext_getElem? fun j => ?_
  by_cases hj : j < 481
  · rcases Nat.lt_or_ge j 1 with h | h
    · obtain rfl : j = 0 := by omega
      rw [h0, poolL_size]
    · rcases Nat.lt_or_ge j 241 with h' | h'
      · have e : j = 1 + (j - 1) := by omega
        rw [e, h1 _ (by omega), poolL_cnt _ _ (by omega)]
      · have e : j = 241 + (j - 241) := by omega
        rw [e, h2 _ (by omega), poolL_knd _ _ (by omega)]
  · rw [List.getElem?_eq_none (by omega), List.getElem?_eq_none (by rw [poolL_len]; omega)]
theorem poolL_setK (L : List Pg) (i : Nat) (hi : i < L.length) (h : L.length ≤ 240) (s : Nat) (z : Int) (hz : z = (s : Int)) : (poolL L).set (241 + i) (.int .u8 z) = poolL (L.set i ⟨(plAt L i).c, s⟩) := by
  subst hz
  refine poolL_ext (by rw [List.length_set, poolL_len]) ?_ ?_ ?_
  · rw [List.getElem?_set_ne (by omega), poolL_size, List.length_set]
  · intro j hj
    rw [List.getElem?_set_ne (by omega), poolL_cnt _ _ hj, plAt_set _ _ _ _ hi]
    split
    · rename_i e; subst e; rfl
    · rfl
  · intro j hj
    rw [plAt_set _ _ _ _ hi]
    by_cases e : j = i
    · subst e
      rw [List.getElem?_set_self (by rw [poolL_len]; omega), if_pos rfl]
    · rw [List.getElem?_set_ne (by omega), poolL_knd _ _ hj, if_neg e]
theorem poolL_setC (L : List Pg) (i : Nat) (hi : i < L.length) (h : L.length ≤ 240) (c : Int) : (poolL L).set (1 + i) (.int .u8 c) = poolL (L.set i ⟨c, (plAt L i).s⟩) := by
  refine poolL_ext (by rw [List.length_set, poolL_len]) ?_ ?_ ?_
  · rw [List.getElem?_set_ne (by omega), poolL_size, List.length_set]
  · intro j hj
    rw [plAt_set _ _ _ _ hi]
    by_cases e : j = i
    · subst e
      rw [List.getElem?_set_self (by rw [poolL_len]; omega), if_pos rfl]
    · rw [List.getElem?_set_ne (by omega), poolL_cnt _ _ hj, if_neg e]
  · intro j hj
    rw [List.getElem?_set_ne (by omega), poolL_knd _ _ hj, plAt_set _ _ _ _ hi]
    split
    · rename_i e; subst e; rfl
    · rfl
theorem putAt_get (cs : List Value) (o : Nat) (ds : List Value) (h : o + ds.length ≤ cs.length) (j : Nat) : (putAt cs o ds)[j]? = if o ≤ j ∧ j < o + ds.length then ds[j - o]? else cs[j]? := by
  unfold putAt
  rcases Nat.lt_or_ge j o with h1 | h1
  · rw [if_neg (by omega), List.getElem?_append_left (by simp; omega), List.getElem?_append_left (by simp; omega), List.getElem?_take, if_pos h1]
  · rcases Nat.lt_or_ge j (o + ds.length) with h2 | h2
    · rw [if_pos ⟨h1, h2⟩, List.getElem?_append_left (by simp; omega), List.getElem?_append_right (by simp; omega), List.length_take, Nat.min_eq_left (by omega)]
    · rw [if_neg (by omega), List.getElem?_append_right (by simp; omega), List.getElem?_drop]
      congr 1
      simp; omega
theorem putAt_len (cs : List Value) (o : Nat) (ds : List Value) (h : o + ds.length ≤ cs.length) : (putAt cs o ds).length = cs.length := by
  unfold putAt; simp; omega
theorem poolL_comm (L : List Pg) : putAt (poolL L) 241 (List.replicate 240 (.int .u8 0)) = poolL (plCommit L) := by
  have hl : 241 + (List.replicate 240 (Value.int .u8 0)).length ≤ (poolL L).length := by rw [List.length_replicate, poolL_len]; decide
  refine poolL_ext (by rw [putAt_len _ _ _ hl, poolL_len]) ?_ ?_ ?_
  · rw [putAt_get _ _ _ hl, if_neg (by omega), poolL_size, comm_len]
  · intro j hj
    rw [putAt_get _ _ _ hl, if_neg (by omega), poolL_cnt _ _ hj, comm_at]
  · intro j hj
    rw [putAt_get _ _ _ hl, if_pos (by rw [List.length_replicate]; omega), comm_at, Nat.add_sub_cancel_left, List.getElem?_replicate, if_pos hj]
    rfl
theorem plNew_at (n : Int) (i : Nat) : plAt (plNew n) i = Pg0 := by
  unfold plAt plNew
  simp only [List.getD, List.getElem?_replicate]
  split <;> rfl
theorem poolL_new (n : Int) : Value.int .i64 (plN n : Int) :: List.replicate 480 (.int .u8 0) = poolL (plNew n) := by
  refine poolL_ext (by rw [List.length_cons, List.length_replicate]) ?_ ?_ ?_
  · rw [plNew_len]; rfl
  · intro j hj
    rw [plNew_at, Nat.add_comm, List.getElem?_cons_succ, List.getElem?_replicate, if_pos (by omega)]; rfl
  · intro j hj
    rw [plNew_at, show 241 + j = (240 + j) + 1 by omega, List.getElem?_cons_succ, List.getElem?_replicate, if_pos (by omega)]; rfl
theorem poolL_load {n : Int} {c : List Int} (hc : c.length = 240) {L : List Pg} (h : plLoad n c = some L) : putAt (poolL (plNew n)) 1 (pgv c) = poolL L := by
  have hl : 1 + (pgv c).length ≤ (poolL (plNew n)).length := by rw [pgv_len, hc, poolL_len]; decide
  refine poolL_ext (by rw [putAt_len _ _ _ hl, poolL_len]) ?_ ?_ ?_
  · rw [putAt_get _ _ _ hl, if_neg (by omega), poolL_size, plNew_len, plLoad_len hc h]
  · intro j hj
    rw [putAt_get _ _ _ hl, if_pos (by rw [pgv_len, hc]; omega), plLoad_at hc h, Nat.add_sub_cancel_left, pgv_get _ _ (by omega)]
    simp [List.getD, show j < c.length by omega]
  · intro j hj
    rw [putAt_get _ _ _ hl, if_neg (by rw [pgv_len, hc]; omega), poolL_knd _ _ hj, plNew_at, plLoad_at hc h]; rfl
theorem poolL_counts (L : List Pg) : ((poolL L).drop 1).take 240 = pgv (plCounts L) := by
  show (pgv (plCounts L) ++ pgv (plKinds L)).take 240 = _
  rw [List.take_left' (by rw [pgv_len, plCounts_len])]
theorem poolL_kinds (L : List Pg) : ((poolL L).drop 241).take 240 = pgv (plKinds L) := by
  show ((pgv (plCounts L) ++ pgv (plKinds L)).drop 240).take 240 = _
  rw [List.drop_left' (by rw [pgv_len, plCounts_len]), List.take_of_length_le (by rw [pgv_len, plKinds_len]; decide)]
theorem poolL_one (L : List Pg) : ∀ v ∈ poolL L, v.oneCell' = true := by
  intro v hv
  rcases List.mem_cons.1 hv with rfl | hv
  · rfl
  · rcases List.mem_append.1 hv with hv | hv <;> exact pgv_one _ v hv
/-- The pool at block g. -/
abbrev PoolB (w : World) (g : Nat) (L : List Pg) : Prop := BxV w g 59 (poolL L)
theorem PoolB.size {w : World} {g : Nat} {L : List Pg} (h : PoolB w g L) : w.cell? ⟨g, 0, none⟩ = some (.int .i64 (L.length : Int)) := (h.cell 0 _ (poolL_size L)).1
theorem PoolB.cnt {w : World} {g : Nat} {L : List Pg} (h : PoolB w g L) (i : Nat) (hi : i < 240) : w.cell? ⟨g, 1 + i, none⟩ = some (.int .u8 (plAt L i).c) := (h.cell _ _ (poolL_cnt L i hi)).1
theorem PoolB.knd {w : World} {g : Nat} {L : List Pg} (h : PoolB w g L) (i : Nat) (hi : i < 240) : w.cell? ⟨g, 241 + i, none⟩ = some (.int .u8 ((plAt L i).s : Int)) := (h.cell _ _ (poolL_knd L i hi)).1
theorem arr1_counts : Arr1 Try.prog 50 5 240 := ⟨by kernel_rfl, by kernel_rfl, by kernel_rfl, by kernel_rfl⟩
theorem arr1_kinds : Arr1 Try.prog 57 56 240 := ⟨by kernel_rfl, by kernel_rfl, by kernel_rfl, by kernel_rfl⟩

theorem cast_beq0 (a : Nat) : ((a : Int) == 0) = (a == 0) := by rw [Bool.eq_iff_iff]; simp
theorem cast_beq1 (a : Nat) : ((a : Int) == 1) = (a == 1) := by rw [Bool.eq_iff_iff]; simp; omega
theorem cast_beq2 (a : Nat) : ((a : Int) == 2) = (a == 2) := by rw [Bool.eq_iff_iff]; simp; omega

theorem phas_any {L : List Pg} (g : Nat) (i : Int) (w : World) (h : PoolB w g L) :
    Calls Try.prog 40 #[ptr g, .int .i64 i] w fun r w' => r = .returned (.bool (plIn L i)) ∧ w = w' := by
  have k0 := h.size
  by_cases h0 : 0 ≤ i
  · go_enter Try.func40, Try.ntmps40
    go_wp2
    go_ret
    exact ⟨by simp [h0, plIn], rfl⟩
  · have h1 : decide (0 ≤ i) = false := by simpa using h0
    go_enter Try.func40, Try.ntmps40
    go_wp2
    go_ret
    exact ⟨by simp [plIn, h1], rfl⟩
theorem psize_any {L : List Pg} (g : Nat) (w : World) (h : PoolB w g L) :
    Calls Try.prog 14 #[ptr g] w fun r w' => r = .returned (.int .i64 (L.length : Int)) ∧ w = w' := by
  have k0 := h.size
  go_enter Try.func14, Try.ntmps14
  go_wp2
  go_ret
  exact ⟨rfl, rfl⟩
theorem pfree_any {L : List Pg} (hL : plOk L) (g : Nat) (i : Nat) (hi : i < 240) (w : World) (h : PoolB w g L) :
    Calls Try.prog 32 #[ptr g, .int .i64 (i : Int)] w fun r w' => r = .returned (.bool (plAt L i).free) ∧ w = w' := by
  have k1 := h.cnt i hi
  have k2 := h.knd i hi
  obtain ⟨x, Hx⟩ : ∃ x, Hid (plAt L i = x) := ⟨_, rfl⟩
  rw [Hx.out] at k1 k2 ⊢
  by_cases h0 : x.c = 0
  · rw [h0] at k1
    go_enter Try.func32, Try.ntmps32
    go_wp2_with (first
      | (refine at_idx 50 _ _ rfl ?_; go_must (refine wpList_idxOff arr1_counts rfl _ _ rfl g 1 rfl .i64 _ i rfl rfl hi ?_))
      | (refine at_idx 57 _ _ rfl ?_; go_must (refine wpList_idxOff arr1_kinds rfl _ _ rfl g 241 rfl .i64 _ i rfl rfl hi ?_)))
    go_ret
    refine ⟨?_, rfl⟩
    unfold Pg.free
    rw [h0]
    simp [cast_beq0]
  · have h0' : (x.c == 0) = false := by simpa using h0
    go_enter Try.func32, Try.ntmps32
    go_wp2_with (first
      | (refine at_idx 50 _ _ rfl ?_; go_must (refine wpList_idxOff arr1_counts rfl _ _ rfl g 1 rfl .i64 _ i rfl rfl hi ?_)))
    go_ret
    refine ⟨?_, rfl⟩
    unfold Pg.free
    rw [h0']
    rfl
def Pg.frsh (x : Pg) : Bool := x.s == 1 || x.s == 2
def plFresh (L : List Pg) (i : Int) : Bool := plIn L i && (plAt L i.toNat).frsh
def plHeld (L : List Pg) (i : Int) : Bool := plIn L i && (plAt L i.toNat).held
def plCount (L : List Pg) (i : Int) : Int := if plIn L i then (plAt L i.toNat).c else 0
theorem plFresh_nat {L : List Pg} (i : Nat) : plFresh L (i : Int) = (plAt L i).frsh := by
  unfold plFresh plIn
  by_cases h : i < L.length
  · simp [h]
  · rw [Int.toNat_natCast, plAt_out _ _ (by omega)]
    simp [Pg.frsh, Pg0]
theorem plCount_nat {L : List Pg} (i : Nat) : plCount L (i : Int) = (plAt L i).c := by
  unfold plCount plIn
  by_cases h : i < L.length
  · simp [h]
  · rw [Int.toNat_natCast, plAt_out _ _ (by omega)]
    simp [h, Pg0]

theorem pfresh_any {L : List Pg} (hL : plOk L) (g : Nat) (i : Int) (w : World) (h : PoolB w g L) :
    Calls Try.prog 31 #[ptr g, .int .i64 i] w fun r w' => r = .returned (.bool (plFresh L i)) ∧ w = w' := by
  unfold plFresh
  cases hin : plIn L i with
  | false =>
    go_enter Try.func31, Try.ntmps31
    go_wp2_with (first
      | (go_at_call 40; go_must (refine (phas_any g i _ h).mono ?_; rintro e w' ⟨rfl, rfl⟩; rw [hin])))
    go_ret
    exact ⟨rfl, rfl⟩
  | true =>
    obtain ⟨hlt, hi⟩ := plIn_lt hin
    obtain ⟨j, rfl⟩ : ∃ j : Nat, i = (j : Int) := ⟨_, hi.symm⟩
    have hj : j < 240 := by have := hL.1; rw [Int.toNat_natCast] at hlt; omega
    rw [Int.toNat_natCast] at *
    have k2 := h.knd j hj
    obtain ⟨x, Hx⟩ : ∃ x, Hid (plAt L j = x) := ⟨_, rfl⟩
    rw [Hx.out] at k2 ⊢
    by_cases h1 : x.s = 1
    · rw [h1] at k2
      have k2 : w.cell? ⟨g, 241 + j, none⟩ = some (.int .u8 1) := k2
      go_enter Try.func31, Try.ntmps31
      go_wp2_with (first
        | (go_at_call 40; go_must (refine (phas_any g j _ h).mono ?_; rintro e w' ⟨rfl, rfl⟩; rw [hin]))
        | (refine at_idx 57 _ _ rfl ?_; refine wpList_idxOff arr1_kinds rfl _ _ rfl g 241 rfl .i64 _ j rfl rfl hj ?_))
      go_ret
      exact ⟨by simp [Pg.frsh, h1], rfl⟩
    · have h1' : ((x.s : Int) == 1) = false := by rw [cast_beq1]; simpa using h1
      go_enter Try.func31, Try.ntmps31
      go_wp2_with (first
        | (go_at_call 40; go_must (refine (phas_any g j _ h).mono ?_; rintro e w' ⟨rfl, rfl⟩; rw [hin]))
        | (refine at_idx 57 _ _ rfl ?_; refine wpList_idxOff arr1_kinds rfl _ _ rfl g 241 rfl .i64 _ j rfl rfl hj ?_))
      go_ret
      exact ⟨by simp [Pg.frsh, h1, cast_beq2], rfl⟩
theorem pheld_any {L : List Pg} (hL : plOk L) (g : Nat) (i : Int) (w : World) (h : PoolB w g L) :
    Calls Try.prog 33 #[ptr g, .int .i64 i] w fun r w' => r = .returned (.bool (plHeld L i)) ∧ w = w' := by
  unfold plHeld
  cases hin : plIn L i with
  | false =>
    go_enter Try.func33, Try.ntmps33
    go_wp2_with (first
      | (go_at_call 40; go_must (refine (phas_any g i _ h).mono ?_; rintro e w' ⟨rfl, rfl⟩; rw [hin])))
    go_ret
    exact ⟨rfl, rfl⟩
  | true =>
    obtain ⟨hlt, hi⟩ := plIn_lt hin
    obtain ⟨j, rfl⟩ : ∃ j : Nat, i = (j : Int) := ⟨_, hi.symm⟩
    have hj : j < 240 := by have := hL.1; rw [Int.toNat_natCast] at hlt; omega
    rw [Int.toNat_natCast] at *
    have k1 := h.cnt j hj
    have hf := pfresh_any hL g (j : Int) w h
    rw [plFresh_nat] at hf
    obtain ⟨x, Hx⟩ : ∃ x, Hid (plAt L j = x) := ⟨_, rfl⟩
    rw [Hx.out] at k1 hf ⊢
    by_cases h1 : x.c = 0
    · rw [h1] at k1
      go_enter Try.func33, Try.ntmps33
      go_wp2_with (first
        | (go_at_call 40; go_must (refine (phas_any g j _ h).mono ?_; rintro e w' ⟨rfl, rfl⟩; rw [hin]))
        | (go_at_call 31; go_must (refine hf.mono ?_; rintro e w' ⟨rfl, rfl⟩))
        | (refine at_idx 50 _ _ rfl ?_; refine wpList_idxOff arr1_counts rfl _ _ rfl g 1 rfl .i64 _ j rfl rfl hj ?_))
      go_ret
      exact ⟨by simp [Pg.frsh, Pg.held, h1], rfl⟩
    · have h1' : ¬ (x.c = 0) := h1
      go_enter Try.func33, Try.ntmps33
      go_wp2_with (first
        | (go_at_call 40; go_must (refine (phas_any g j _ h).mono ?_; rintro e w' ⟨rfl, rfl⟩; rw [hin]))
        | (refine at_idx 50 _ _ rfl ?_; refine wpList_idxOff arr1_counts rfl _ _ rfl g 1 rfl .i64 _ j rfl rfl hj ?_))
      go_ret
      exact ⟨by simp [Pg.held, h1], rfl⟩
theorem pcount_any {L : List Pg} (hL : plOk L) (g : Nat) (i : Int) (w : World) (h : PoolB w g L) :
    Calls Try.prog 30 #[ptr g, .int .i64 i] w fun r w' => r = .returned (.int .i64 (plCount L i)) ∧ w = w' := by
  unfold plCount
  cases hin : plIn L i with
  | false =>
    go_enter Try.func30, Try.ntmps30
    go_wp2_with (first
      | (go_at_call 40; go_must (refine (phas_any g i _ h).mono ?_; rintro e w' ⟨rfl, rfl⟩; rw [hin])))
    go_ret
    exact ⟨rfl, rfl⟩
  | true =>
    obtain ⟨hlt, hi⟩ := plIn_lt hin
    obtain ⟨j, rfl⟩ : ∃ j : Nat, i = (j : Int) := ⟨_, hi.symm⟩
    have hj : j < 240 := by have := hL.1; rw [Int.toNat_natCast] at hlt; omega
    rw [Int.toNat_natCast] at *
    have k1 := h.cnt j hj
    have hx := hL.2 j
    obtain ⟨x, Hx⟩ : ∃ x, Hid (plAt L j = x) := ⟨_, rfl⟩
    rw [Hx.out] at k1 hx ⊢
    have hcv : IntKind.i64.wrap x.c = x.c := by rw [IntKind.wrap_i64]; have := hx.1; have := hx.2.1; omega
    go_enter Try.func30, Try.ntmps30
    go_wp2_with (first
      | (go_at_call 40; go_must (refine (phas_any g j _ h).mono ?_; rintro e w' ⟨rfl, rfl⟩; rw [hin]))
      | (refine at_idx 50 _ _ rfl ?_; go_must (refine wpList_idxOff arr1_counts rfl _ _ rfl g 1 rfl .i64 _ j rfl rfl hj ?_)))
    go_ret
    exact ⟨by simp [hcv], rfl⟩
theorem givenUp_any (s : Nat) (w : World) :
    Calls Try.prog 38 #[.int .u8 (s : Int)] w fun r w' => r = .returned (.int .u8 ((dropS s : Nat) : Int)) ∧ w = w' := by
  unfold dropS
  by_cases h1 : s = 1
  · subst h1
    go_enter Try.func38, Try.ntmps38
    go_wp2
    go_ret
    exact ⟨rfl, rfl⟩
  · by_cases h2 : s = 2
    · subst h2
      go_enter Try.func38, Try.ntmps38
      go_wp2
      go_ret
      exact ⟨rfl, rfl⟩
    · have h1' : ((s : Int) == 1) = false := by rw [cast_beq1]; simpa using h1
      have h2' : ((s : Int) == 2) = false := by rw [cast_beq2]; simpa using h2
      rw [if_neg h1, if_neg h2]
      clear h1 h2
      go_enter Try.func38, Try.ntmps38
      go_wp2
      go_ret
      exact ⟨rfl, rfl⟩
end Go.Proofs.Ytghkpeejogldkaa
/- The document's pool: Free, New, change, held. -/
namespace Go.Proofs.Ytghkpeejogldkaa
open Go.RowKit Go.Proofs.U
set_option linter.unusedSimpArgs false
set_option linter.unusedVariables false
theorem leaf_size : (Try.prog.info? 63).map (·.size) = some 5 := by kernel_rfl
theorem leaf_zero : (Try.prog.info? 63).map (·.zero) = some (some (.agg (encG Pg0).toArray)) := by kernel_rfl
theorem leaf_info : (Try.prog.info? 63).map (fun i => (i.zero, i.size, i.bytes)) = some (some (.agg (encG Pg0).toArray), 5, 16) := by kernel_rfl
theorem leaf_info2 : (Try.prog.info? 63).map (fun i => (i.zero, i.size)) = some (some (.agg (encG Pg0).toArray), 5) := by kernel_rfl
theorem leaf_struct : Try.prog.underlying 63 = some (.struct (Try.prog.fieldsOf 63)) := by kernel_rfl
abbrev SlG (w : World) (v : Value) (L : List Pg) : Prop := SlR encG 5 w v L
abbrev OwnG (w : World) (base : Nat) (v : Value) (L : List Pg) : Prop := OwnR encG 5 63 w base v L
/-- A leaf as a value; a variable that holds one. -/
def lfV (x : Pg) : Value := .agg (encG x).toArray
abbrev LfB (w : World) (g : Nat) (x : Pg) : Prop := BxV w g 63 (encG x)
theorem LfB.all {w : World} {g : Nat} {x : Pg} (h : LfB w g x) : w.cell? ⟨g, 0, none⟩ = some (.int .i64 x.c) ∧ w.cell? ⟨g, 1, none⟩ = some (.bool (x.s == 1)) ∧ w.cell? ⟨g, 2, none⟩ = some (.bool (x.s == 2)) ∧ w.cell? ⟨g, 3, none⟩ = some (.bool (x.s == 3)) ∧ w.cell? ⟨g, 4, none⟩ = some (.bool (x.s == 4)) :=
  ⟨(h.cell 0 _ rfl).1, (h.cell 1 _ rfl).1, (h.cell 2 _ rfl).1, (h.cell 3 _ rfl).1, (h.cell 4 _ rfl).1⟩
theorem leaf_places : (Try.prog.fieldsOf 63).toList.mapM (fun f => (Try.prog.info? f.type).map fun i => (f.offset, i.size)) = some [(0, 1), (1, 1), (2, 1), (3, 1), (4, 1)] := by kernel_rfl
theorem built_leaf0 : Try.prog.built 63 [] = some (encG Pg0).toArray := by kernel_rfl
theorem built_leaf1 : Try.prog.built 63 [(1, .bool true)] = some (encG ⟨0, 1⟩).toArray := by kernel_rfl
theorem built_leafC (c : Int) : Try.prog.built 63 [(0, .int .i64 c)] = some (encG ⟨c, 0⟩).toArray := by
  rw [built_struct _ _ leaf_struct _ leaf_zero _ leaf_places]
  rw [fill_put _ _ 0 0 1 (.int .i64 c) [.int .i64 c] rfl rfl rfl (by decide)]
  rfl
theorem built_leafD (s : Nat) (h : s ≤ 4) : Try.prog.built 63 [(3, .bool (s == 2)), (4, .bool (!(s == 1) && !(s == 2)))] = some (encG ⟨0, dropS s⟩).toArray := by
  rw [built_struct _ _ leaf_struct _ leaf_zero _ leaf_places, drop_leaf s h]
  rw [fill_put _ _ 3 3 1 (.bool (s == 2)) [.bool (s == 2)] rfl rfl rfl (by decide)]
  rw [fill_put _ _ 4 4 1 (.bool (!(s == 1) && !(s == 2))) [.bool (!(s == 1) && !(s == 2))] rfl rfl rfl (by simp [putAt, encG])]
  rfl
theorem run_eqLeaf (x : Pg) (hs : x.s ≤ 4) (w : World) : (binOp .eql 63 (lfV x) (lfV Pg0)).run Try.prog w = .ok (.bool x.free) w := by
  rw [free_leaf hs]
  unfold lfV encG
  generalize (x.s == 1) = b1
  generalize (x.s == 2) = b2
  generalize (x.s == 3) = b3
  generalize (x.s == 4) = b4
  rw [run_eql_struct]
  simp [go_sem, leaf_struct]
  by_cases h0 : x.c = 0 <;> cases b1 <;> cases b2 <;> cases b3 <;> cases b4 <;> simp [Pg0, h0]
section
variable {w : World} {ops : Array Oper} {rest : List Oper} {o : Oper} {a : Act} {Q : Exit → Act → World → Prop}
theorem wpList_boxLf (hgd : Region.wanted o (yielded ops a.tmps) = true) (y : Operand) (ho : o.op = .box 63 y) (x : Pg) (hy : a.eval y = lfV x)
    (h : ∀ g w', Hid (g = w.heap.size) → LfB w' g x → Fr noB w w' → w.heap.size ≤ g → wpList Try.prog ops Q rest (a.put o.dst (.pointer (some ⟨g, 0, none⟩))) w') : wpList Try.prog ops Q (o :: rest) a w :=
  wpList_boxV hgd _ y ho (encG x) hy h
theorem wpList_allocLf (hgd : Region.wanted o (yielded ops a.tmps) = true) (ho : o.op = .alloc 63)
    (h : ∀ g w', Hid (g = w.heap.size) → LfB w' g Pg0 → Fr noB w w' → w.heap.size ≤ g → wpList Try.prog ops Q rest (a.put o.dst (.pointer (some ⟨g, 0, none⟩))) w') : wpList Try.prog ops Q (o :: rest) a w :=
  wpList_allocV hgd _ ho (encG Pg0) leaf_zero h
theorem wpList_ldLf (hgd : o.guard = none) (y : Operand) (ho : o.op = .load 63 y) (g : Nat) (hy : a.eval y = .pointer (some ⟨g, 0, none⟩)) (x : Pg) (hB : LfB w g x)
    (h : wpList Try.prog ops Q rest (a.put o.dst (lfV x)) w) : wpList Try.prog ops Q (o :: rest) a w :=
  wpList_loadV hgd _ y ho g 0 hy _ (encG x) (encG x) _ hB leaf_struct rfl leaf_size rfl h
theorem wpList_stLf (hgd : o.guard = none) (y z : Operand) (ho : o.op = .store 63 y z) (g : Nat) (hy : a.eval y = .pointer (some ⟨g, 0, none⟩)) (x x' : Pg) (hB : LfB w g x) (hz : a.eval z = lfV x')
    (h : ∀ w', LfB w' g x' → Fr (onB1 g) w w' → wpList Try.prog ops Q rest (a.put o.dst undef) w') : wpList Try.prog ops Q (o :: rest) a w := by
  refine wpList_storeV hgd _ y z ho g 0 hy (encG x') hz _ (encG x) hB leaf_size (Nat.le_refl _) (encG_one x') ?_
  intro w' h1 h2
  rw [putAt_all (encG x) (encG x') rfl] at h1
  exact h w' h1 h2
/-- l[j], l a slice of leaves, as a value. -/
theorem wpList_ldAt (hgd : o.guard = none) (y : Operand) (ho : o.op = .load 63 y) (b off : Nat) (hy : a.eval y = .pointer (some ⟨b, off, none⟩)) (x : Pg) (hc : ∀ q u, (encG x)[q]? = some u → w.cell? ⟨b, off + q, none⟩ = some u)
    (h : wpList Try.prog ops Q rest (a.put o.dst (lfV x)) w) : wpList Try.prog ops Q (o :: rest) a w :=
  wpList_load_mid hgd _ y ho b off hy (encG x) _ (range_of fun j v hj => hc j v hj) leaf_struct rfl leaf_size h
theorem wpList_bldLf (hgd : Region.wanted o (yielded ops a.tmps) = true) (fs : Array (Nat × Operand)) (ho : o.op = .build 63 fs) (x : Pg) (ds : List (Nat × Value)) (hd : (fs.toList.map fun p => (p.1, a.eval p.2)) = ds) (hb : Try.prog.built 63 ds = some (encG x).toArray)
    (h : wpList Try.prog ops Q rest (a.put o.dst (lfV x)) w) : wpList Try.prog ops Q (o :: rest) a w := by
  refine wpList_wanted hgd fun K hK => ?_
  subst hd
  have hrun := run_build (P := Try.prog) w 63 (fs.map fun p => (p.1, a.eval p.2)) _ (by rw [Array.toList_map]; exact hb)
  unfold Oper.wp
  simp [execOp, ho, hrun, Result.andThen]
  exact hK _ _ h
end
theorem eqg_leaf : Try.prog.eqGuardType Try.prog.depth 63 = false := by kernel_rfl
theorem wpList_eqLf {w : World} {ops : Array Oper} {rest : List Oper} {o : Oper} {a : Act} {Q : Exit → Act → World → Prop} (hgd : Region.wanted o (yielded ops a.tmps) = true) (y z : Operand) (t' : TypeId) (ho : o.op = .binOp .eql 63 y z t') (x : Pg) (hs : x.s ≤ 4) (hy : a.eval y = lfV x) (hz : a.eval z = lfV Pg0)
    (h : wpList Try.prog ops Q rest (a.put o.dst (.bool x.free)) w) : wpList Try.prog ops Q (o :: rest) a w := by
  refine wpList_wanted hgd fun K hK => ?_
  have hr := run_eqLeaf x hs w
  have hg : (eqGuard .eql 63 y z (lfV x) (lfV Pg0)).run Try.prog w = .ok () w := run_eqGuard_agg w _ _ _ _ _ _ eqg_leaf
  unfold Oper.wp
  simp [execOp, ho, hy, hz, hr, hg, Result.andThen]
  exact hK _ _ h
theorem rfree_any (x : Pg) (hs : x.s ≤ 4) (w : World) :
    Calls Try.prog 35 #[lfV x] w fun r w' => r = .returned (.bool x.free) ∧ Fr noB w w' := by
  go_enter Try.func35, Try.ntmps35
  go_wp2_with (first
    | (with_reducible refine at_wpP ?_; refine wpList_boxLf rfl _ rfl x rfl ?_; intro g1 w1 hg1 k1 f1 s1)
    | (with_reducible refine at_wpP ?_; refine at_ld 63 _ rfl ?_; go_must (refine wpList_ldLf rfl _ rfl g1 rfl x k1 ?_))
    | (with_reducible refine at_wpP ?_; refine wpList_bldLf rfl _ rfl Pg0 [] rfl built_leaf0 ?_)
    | (with_reducible refine at_wpP ?_; refine wpList_eqLf rfl _ _ _ rfl x hs rfl rfl ?_))
  go_ret
  exact ⟨rfl, f1⟩
set_option maxRecDepth 100000 in
set_option maxHeartbeats 1000000 in
theorem rnew_any (n : Int) (w : World) :
    Calls Try.prog 34 #[.int .i64 n] w fun r w' => ∃ v, r = .returned v ∧ OwnG w' w.heap.size v (plNew n) ∧ Fr noB w w' := by
  have hN := plN_le n
  have hNd : ∀ k : Nat, k ≤ plN n → (k < plN n ↔ ((k : Int) < n ∧ (k : Int) < 240)) := by intro k hk; unfold plN at *; omega
  have hpn : Hid (plNew n = List.replicate (plN n) Pg0) := rfl
  obtain ⟨N, HN⟩ : ∃ N, Hid (plN n = N) := ⟨_, rfl⟩
  rw [HN.out] at hN hNd hpn
  rw [hpn.out]
  go_enter Try.func34, Try.ntmps34
  go_wp2_with (first
    | (with_reducible refine at_wpP ?_; refine wpList_mk0 encG 5 rfl 34 rfl 63 Try.underlying34 leaf_size ?_; intro g1 w1 o1 f1 s1 t1))
  go_loopw [3] (fun v wr => ∃ (k : Nat), k ≤ N ∧ OwnG wr w.heap.size v (List.replicate k Pg0) ∧ Fr noB w wr) (fun v _ => N - lenV v)
  case atStart => exact ⟨0, Nat.zero_le _, o1, f1⟩
  case round =>
    obtain ⟨k, hk, ho, hf⟩ := hrel
    obtain ⟨Y, HY⟩ : ∃ Y, Hid (List.replicate k Pg0 = Y) := ⟨_, rfl⟩
    have hYl : Y.length = k := by rw [← HY.out, List.length_replicate]
    rw [HY.out] at ho
    obtain ⟨a6, c6, rfl⟩ := ho.opn
    rw [hYl] at ho ⊢
    have hd := hNd k hk
    have hz := hf.size
    have hYl := show Hid _ from hYl
    by_cases hlt : k < N
    · obtain ⟨h1, h2⟩ := hd.1 hlt
      go_wp2_with (first
        | (with_reducible refine at_wpP ?_; refine wpList_bldLf rfl _ rfl Pg0 [] rfl built_leaf0 ?_)
        | (with_reducible refine at_wpP ?_; refine wpList_mk1 (ec := encG) (sz := 5) rfl 34 _ rfl 63 Try.underlying34 _ leaf_info2 (by decide) (by decide) Pg0 _ rfl rfl rfl ?_; intro g7 w7 s7 f7 r7 t7; have o7 := ho.fr0 f7; have F7 := hf.thenN f7)
        | (at_builtin; go_must (refine wpList_appR (ec := encG) (sz := 5) rfl _ _ 34 rfl w.heap.size 63 _ 16 Try.underlying34 leaf_info rfl (by decide) _ Y rfl o7 _ [Pg0] rfl s7 (by intro y hy u hu; exact encG_one y u hu) ?hq1 ?hq2 ?hq3 ?_; rotate_left 3; intro v8 w8 o8 hg8; have F8 := o7.grown F7 (Nat.le_refl _) hg8)))
      case hq1 => have := hYl.out; unfold maxLen; simp; omega
      case hq2 => have := hYl.out; simp; omega
      case hq3 => have := f7.size; omega
      have o9 : OwnG w8 w.heap.size v8 (List.replicate (k + 1) Pg0) := by rw [List.replicate_succ', HY.out]; exact o8
      obtain ⟨a9, c9, rfl⟩ := o9.opn
      go_roundw
      case rel => exact ⟨k + 1, by omega, o9, F8⟩
      case measure => simp [lenV]; omega
    · obtain rfl : k = N := by omega
      have hno : ¬ ((k : Int) < n ∧ (k : Int) < 240) := fun h => hlt (hd.2 h)
      by_cases h1 : (k : Int) < n
      · have h2 : ¬ (k : Int) < 240 := fun h => hno ⟨h1, h⟩
        clear hno hd
        go_wp2
        go_ret
        exact ⟨_, rfl, by rw [HY.out]; exact ho, hf⟩
      · clear hno hd
        go_wp2
        go_ret
        exact ⟨_, rfl, by rw [HY.out]; exact ho, hf⟩
end Go.Proofs.Ytghkpeejogldkaa
