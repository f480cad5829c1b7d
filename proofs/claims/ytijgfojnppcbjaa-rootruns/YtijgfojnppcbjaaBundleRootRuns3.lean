/- Texts P5, BD, P6, RI, RI2 of the proof of RootRuns, one behind the other. -/
import Derived.Laws.Tables
import Derived.Orders
import Derived.Test.YtijgfojnppcbjaaBundleRootRuns1
import Derived.Test.YtijgfojnppcbjaaBundleRootRuns2
/- The document's disk: Spoil and Put. -/
namespace Go.Proofs.Ytijgfojnppcbjaa
open Go.RowKit Go.Proofs.U
set_option linter.unusedSimpArgs false
set_option linter.unusedVariables false

theorem info_bool : (Try.prog.info? 4).map (fun i => (i.zero, i.size, i.bytes)) = some (some (.bool false), 1, 1) := by kernel_rfl
theorem size_sbool : (Try.prog.info? 36).map (·.size) = some 1 := by kernel_rfl
theorem isSl_mk (a : Option Addr) (n c : Nat) : isSl (.slice a n c) := ⟨a, n, c, rfl⟩
/-- A slice that is the old one, or lies in new memory. -/
def nwB (w w' : World) (v v' : Value) : Prop := ∀ q, v'.ownBlock = some q → v.ownBlock = some q ∨ (w.heap.size ≤ q ∧ q < w'.heap.size)
def inR (n : Nat) (i : Int) : Bool := decide (0 ≤ i) && decide (i < (n : Int))

set_option maxRecDepth 100000 in
set_option maxHeartbeats 2000000 in
theorem rspoil_any (v1 v2 v3 : Value) (n : Nat) (a1 : Option Addr) (c1 : Nat) (hv1 : v1 = .slice a1 n c1) (h3 : isSl v3) (bad : List Bool) (c : Bool) (l : Int) (d : Bool) (i : Int) (b : Bool) (w : World)
    (h2 : SlBo w v2 bad) (hlb : bad.length = n) (hm : n ≤ 100000) :
    Calls Try.prog 24 #[dkV v1 v2 v3 c l d, .int .i64 i, .bool b] w fun r w' => ∃ v2', r = .returned (.tuple #[dkV v1 v2' v3 c l d, .int .i64 (if inR n i then 0 else 41)]) ∧ SlBo w' v2' (if inR n i then bad.set i.toNat b else bad) ∧ Fr noB w w' ∧ nwB w w' v2 v2' := by
  subst hv1
  have hsl2 := SlR.isSl h2
  obtain ⟨a2, c2', rfl, hc2⟩ := h2.opn
  have Hlb := show Hid _ from hlb
  clear hlb
  have hsl1 : isSl (.slice a1 n c1) := ⟨_, _, _, rfl⟩
  cases hin : inR n i with
  | false =>
    have ht : (decide (0 ≤ i) && decide (i < (n : Int))) = false := hin
    simp only [Bool.false_eq_true, if_false]
    go_enter Try.func24, Try.ntmps24
    go_wp2_with (first
      | (with_reducible refine at_wpP ?_; refine wpList_boxV rfl 39 _ rfl (dkL (.slice a1 n c1) (.slice a2 bad.length c2') v3 c l d) rfl ?_; intro g1 w1 hg1 b1 f1 s1)
      | (with_reducible refine at_wpP ?_; refine wpList_allocD rfl rfl ?_; intro g2 w2 hg2 b2 f2 s2; have e2 := b1.fr0 f2; have hl1 := b1.lt; have hl2 := b2.lt)
      | (go_at_call 40; go_must (refine (there_any _ _ _ _ _ _ _ _ _ _).mono ?_; rintro e w3 ⟨rfl, f3⟩; have b3 := b2.fr0 f3; have e3 := e2.fr0 f3))
      | (with_reducible refine at_wpP ?_; refine wpList_ldD rfl _ rfl g1 rfl _ _ _ c l d e3 ?_)
      | (with_reducible refine at_wpP ?_; refine wpList_ldD rfl _ rfl g1 rfl _ _ _ c l d e2 ?_)
      | (with_reducible refine at_wpP ?_; refine wpList_stD rfl _ _ rfl g2 rfl _ _ _ c l d rfl _ b3 rfl hsl1 hsl2 h3 ?_; intro w4 b4 f4))
    have F4 := ((f1.thenN f2).thenN f3).thenT (S := noB) f4 (fun i hi q => by unfold onB1 at q; have := f1.size; omega)
    refine bodyPost_ret (v := .tuple #[dkV (.slice a1 n c1) (.slice a2 bad.length c2') v3 c l d, .int .i64 41]) (results_disk2 Try.results24 _ w4 g2 _ _ _ c l d rfl b4) rfl ⟨_, rfl, h2.fr0 F4, F4, fun q h => Or.inl h⟩
  | true =>
    have ht : (decide (0 ≤ i) && decide (i < (n : Int))) = true := hin
    have hi : 0 ≤ i ∧ i < (n : Int) := by simpa using ht
    obtain ⟨j, rfl⟩ : ∃ j : Nat, i = j := ⟨i.toNat, by omega⟩
    have hj : j < bad.length := by rw [Hlb.out]; omega
    simp only [if_true, Int.toNat_natCast]
    have hbl : Hid (bad.length ≤ 100000) := by show _ ≤ _; rw [Hlb.out]; exact hm
    go_enter Try.func24, Try.ntmps24
    go_wp2_with (first
      | (with_reducible refine at_wpP ?_; refine wpList_boxV rfl 39 _ rfl (dkL (.slice a1 n c1) (.slice a2 bad.length c2') v3 c l d) rfl ?_; intro g1 w1 hg1 b1 f1 s1)
      | (with_reducible refine at_wpP ?_; refine wpList_allocD rfl rfl ?_; intro g2 w2 hg2 b2 f2 s2; have e2 := b1.fr0 f2; have hl1 := b1.lt; have hl2 := b2.lt)
      | (go_at_call 40; go_must (refine (there_any _ _ _ _ _ _ _ _ _ _).mono ?_; rintro e w3 ⟨rfl, f3⟩; have b3 := b2.fr0 f3; have e3 := e2.fr0 f3; have F3 := (f1.thenN f2).thenN f3; obtain ⟨k0, k1, k2, k3, k4, k5⟩ := e3.six))
      | (with_reducible refine at_wpP ?_; refine wpList_ldD rfl _ rfl g1 rfl _ _ _ c l d e2 ?_)
      | (with_reducible refine at_wpP ?_; refine wpList_mk0 encB 1 rfl 36 rfl 4 Try.underlying36 size_bool ?_; intro g4 w4 o4 f4 s4 t4; have b4 := b3.fr0 f4; have e4 := e3.fr0 f4; have F4 := F3.thenN f4; have hl3 := F3.size; obtain ⟨k0, k1, k2, k3, k4, k5⟩ := e4.six; have m1 := e3.lt; have m2 := b3.lt)
      | (at_builtin; go_must (refine wpList_appR (ec := encB) (sz := 1) rfl _ _ 36 rfl w3.heap.size 4 _ 1 Try.underlying36 info_bool rfl (by decide) _ [] rfl o4 _ bad rfl (h2.fr0 F4) (by intro y _ u hu; simp at hu; subst hu; rfl) ?hq1 ?hq2 ?hq3 ?_; rotate_left 3; intro v5 w5 o5 hg5; rw [List.nil_append] at o5; obtain ⟨g5, cap5, cur, hv5, h15, hB5, _, _, _⟩ := o5.bx (by omega); subst hv5; have hg5 : w4.grownBy w5 (some g4) := hg5; have f5 : Fr (onB1 g4) w4 w5 := (Fr.refl _ _).grown hg5 (fun k hk _ => (Option.some.inj hk).symm); have F5 := F4.thenT (S := noB) f5 (fun i hi q => by unfold onB1 at q; omega); have b5 := b4.ne f5 (by omega); have e5 := e4.ne f5 (by omega); have q5 := (o5.newB g5 rfl).1; obtain ⟨k0, k1, k2, k3, k4, k5⟩ := e5.six))
      | (refine at_idx 36 _ _ rfl ?_; go_must (refine wpList_idxO rfl 36 _ _ rfl 4 Try.underlying36 size_bool g5 _ _ rfl _ _ j rfl rfl hj ?_))
      | (with_reducible refine at_wpP ?_; refine at_st 4 _ _ rfl ?_; go_must (refine wpList_stR1 rfl 4 _ _ rfl g5 _ _ o5 j hj (by simp [Act.eval, Act.put]) b (.bool b) rfl rfl rfl size_bool ?_; intro w6 o6 f6; have b6 := b5.ne f6 (by omega); have e6 := e5.ne f6 (by omega); have F6 := F5.thenT (S := noB) f6 (fun i hi q => by unfold onB1 at q; have := F3.size; omega)))
      | (with_reducible refine at_wpP ?_; refine wpList_store1 rfl 36 _ _ rfl g1 1 rfl (.slice (some ⟨g5, 0, none⟩) bad.length cap5) rfl rfl _ _ e6 size_sbool (by simp) ?_; go_must (intro w7 e7 f7; have e7 : BxV w7 g1 39 (dkL (.slice a1 n c1) (.slice (some ⟨g5, 0, none⟩) bad.length cap5) v3 c l d) := (by simpa using e7); have b7 := b6.ne f7 (by omega)))
      | (with_reducible refine at_wpP ?_; refine wpList_ldD rfl _ rfl g1 rfl _ _ _ c l d e7 ?_)
      | (with_reducible refine at_wpP ?_; refine at_st 39 _ _ rfl ?_; go_must (refine wpList_stD rfl _ _ rfl g2 rfl _ _ _ c l d rfl _ b7 rfl hsl1 (isSl_mk _ _ _) h3 ?_; intro w8 b8 f8)))
    case hq1 => have := hbl.out; unfold maxLen; simp; omega
    case hq2 => have := hbl.out; simp; omega
    case hq3 => exact f4.size
    have F7 := F6.thenT (S := noB) f7 (fun i hi q => by unfold onB1 at q; have := f1.size; omega)
    have F8 := F7.thenT (S := noB) f8 (fun i hi q => by unfold onB1 at q; have := f1.size; omega)
    have o8 := (o6.ne f7 (fun k hk => by simp [Value.ownBlock] at hk; omega)).ne f8 (fun k hk => by simp [Value.ownBlock] at hk; omega)
    exact bodyPost_ret (v := .tuple #[dkV (.slice a1 n c1) (.slice (some ⟨g5, 0, none⟩) bad.length cap5) v3 c l d, .int .i64 0]) (results_disk2 Try.results24 _ w8 g2 _ _ _ c l d rfl b8) rfl ⟨_, rfl, o8.sl, F8, fun q h => Or.inr ⟨by have := (o8.newB q h).1; have := F3.size; omega, (o8.newB q h).2⟩⟩
end Go.Proofs.Ytijgfojnppcbjaa
/- Values of several cells, put together out of parts; a row of one of them; no condition. -/
namespace Go.Proofs.U
open Go.RowKit
set_option linter.unusedSimpArgs false
set_option linter.unusedVariables false

theorem zip_put (off : Nat) : ∀ (ds : List Value) (k : Nat) (cells : List Value), off + k + ds.length ≤ cells.length →
    (ds.zipIdx k).foldl (fun (cs : Array Value) x => cs.setIfInBounds (off + x.2) x.1) cells.toArray = (putAt cells (off + k) ds).toArray := by
  intro ds
  induction ds with
  | nil => intro k cells _; rw [putAt_nil]; rfl
  | cons d ds ih =>
    intro k cells h
    simp at h
    rw [List.zipIdx_cons, List.foldl_cons]
    simp only [List.setIfInBounds_toArray]
    rw [ih (k + 1) (cells.set (off + k) d) (by simp; omega), ← putAt_cons cells (off + k) d ds (by omega)]
    rfl
theorem fill_put (place : Nat → Option (Nat × Nat)) (cells : List Value) (k off sz : Nat) (v : Value) (ds : List Value) (hv : v.cells = ds.toArray) (hp : place k = some (off, sz)) (hs : ds.length = sz) (hl : off + sz ≤ cells.length) (rest : List (Nat × Value)) :
    Instr.fill place cells.toArray ((k, v) :: rest) = Instr.fill place (putAt cells off ds).toArray rest := by
  have hz : Array.foldl (fun (cs : Array Value) x => cs.setIfInBounds (off + x.2) x.1) cells.toArray ds.toArray.zipIdx = (putAt cells off ds).toArray := by
    have := zip_put off ds 0 cells (by omega)
    rw [Nat.add_zero] at this
    rw [← this]
    simp
  conv => lhs; unfold Instr.fill
  simp only [hp, hv]
  rw [if_neg (by simp; omega)]
  exact congrArg (fun z => Instr.fill place z rest) hz
theorem built_struct {P : Program} (t : TypeId) (fields : Array Field) (hu : P.underlying t = some (.struct fields)) (zs : List Value) (hz : (P.info? t).map (·.zero) = some (some (.agg zs.toArray))) (places : List (Nat × Nat))
    (hp : fields.toList.mapM (fun f => (P.info? f.type).map fun i => (f.offset, i.size)) = some places) (parts : List (Nat × Value)) : P.built t parts = Instr.fill (places.toArray[·]?) zs.toArray parts := by
  obtain ⟨i, hi, hz'⟩ := Option.map_eq_some_iff.1 hz
  unfold Program.built
  rw [hi, hu]
  simp only [hz', hp, Value.cells]

section
variable {α : Type} {ec : α → List Value} {sz : Nat} {w : World} {P : Program} {ops : Array Oper} {rest : List Oper} {o : Oper} {a : Act} {Q : Exit → Act → World → Prop}
/-- []T{y}: a row of one element, its block a letter. -/
theorem wpList_mk1 (hgd : Region.wanted o (yielded ops a.tmps) = true) (t : TypeId) (y : Operand) (ho : o.op = .buildSlice t 1 #[(0, y)]) (e : TypeId) (ht : P.underlying t = some (.slice e)) (z : Value) (hinfo : (P.info? e).map (fun i => (i.zero, i.size)) = some (some z, sz)) (hsz : 0 < sz) (hbig : sz ≤ 16777216)
    (x : α) (V : Value) (hy : a.eval y = V) (hV : V.cells = (ec x).toArray) (hx : (ec x).length = sz)
    (h : ∀ g w', SlR ec sz w' (.slice (some ⟨g, 0, none⟩) 1 1) [x] → Fr noB w w' → w.heap.size ≤ g → g < w'.heap.size → wpList P ops Q rest (a.put o.dst (.slice (some ⟨g, 0, none⟩) 1 1)) w') : wpList P ops Q (o :: rest) a w := by
  refine wpList_wanted hgd fun K hK => ?_
  obtain ⟨ii, hinf, hq⟩ := Option.map_eq_some_iff.1 hinfo
  simp only [Prod.mk.injEq] at hq
  have hfill : ∀ X : Array Value, X.size = sz → Instr.fill (fun i => some (i * sz, sz)) X [(0, V)] = some (ec x).toArray := by
    intro X hX
    have h1 := fill_put (fun i => some (i * sz, sz)) X.toList 0 0 sz V (ec x) hV (by simp) hx (by rw [Array.length_toList, hX]; omega) []
    have e1 : X.toList.toArray = X := by simp
    rw [e1] at h1
    rw [h1, putAt_all _ _ (by rw [hx, ← hX]; exact Array.length_toList.symm)]
    rfl
  have hbs : (Instr.buildSlice t 1 #[(0, V)]).run P w = .ok (.slice (some ⟨w.heap.size, 0, none⟩) 1 1) (w.alloc (.cells (ec x).toArray e)) := by
    have hne : ¬ sz = 0 := by omega
    have hnb : ¬ 16777216 < sz := by omega
    have hf := hfill ((Array.range sz).map (fun k => z.cells[k % z.cells.size]!)) (by simp)
    unfold Instr.buildSlice
    simp [run_underlying ht, sizeOf, typeInfo, zeroValue, hinf, hq.1, hq.2, hne, hnb, hf, Sem.run_bind, Result.andThen]
    simp [go_sem]
  have hrun : (execOp a.eval o).run P w = .ok (.value (.slice (some ⟨w.heap.size, 0, none⟩) 1 1)) (w.alloc (.cells (ec x).toArray e)) := by
    simp only [execOp, ho]
    simp [hy, hbs, Result.andThen]
  unfold Oper.wp
  rw [hrun]
  refine hK _ _ (h w.heap.size _ ⟨?_, ?_⟩ ((Fr.refl _ _).alloc _) (Nat.le_refl _) (by simp))
  · intro y hy; simp at hy; subst hy; exact hx
  · refine ⟨some ⟨w.heap.size, 0, none⟩, 1, rfl, Nat.le_refl _, by simp [hx], (fun h => by cases h), fun ad had j u hj => ?_⟩
    cases had
    have hj' : (ec x)[j]? = some u := by simpa using hj
    rw [Addr.plain, Nat.zero_add, World.cell?_alloc_new]
    simpa using hj'
end
end Go.Proofs.U
/- The document's disk: Put. -/
namespace Go.Proofs.Ytijgfojnppcbjaa
open Go.RowKit Go.Proofs.U
set_option linter.unusedSimpArgs false
set_option linter.unusedVariables false

theorem zero_write : (Try.prog.info? 91).map (·.zero) = some (some (.agg (encW (0, zeroP)).toArray)) := by kernel_rfl
theorem info_write : (Try.prog.info? 91).map (fun i => (i.zero, i.size, i.bytes)) = some (some (.agg (encW (0, zeroP)).toArray), 257, 264) := by kernel_rfl
theorem info_write2 : (Try.prog.info? 91).map (fun i => (i.zero, i.size)) = some (some (.agg (encW (0, zeroP)).toArray), 257) := by kernel_rfl
theorem size_swrite : (Try.prog.info? 37).map (·.size) = some 1 := by kernel_rfl
theorem places_write : (Try.prog.fieldsOf 91).toList.mapM (fun f => (Try.prog.info? f.type).map fun i => (f.offset, i.size)) = some [(0, 1), (1, 256)] := by kernel_rfl
theorem under_write : Try.prog.underlying 91 = some (.struct (Try.prog.fieldsOf 91)) := by kernel_rfl
theorem encW_len (x : Int × List Int) (h : x.2.length = 256) : (encW x).length = 257 := by simp [encW, pgv_len, h]
theorem encW_one (x : Int × List Int) : ∀ u ∈ encW x, u.oneCell' = true := by
  intro u hu
  rcases List.mem_cons.1 hu with rfl | hu
  · rfl
  · exact pgv_one _ u hu
theorem built_write (i : Int) (p : List Int) (hp : p.length = 256) : Try.prog.built 91 [(0, .int .i64 i), (1, pgV p)] = some (encW (i, p)).toArray := by
  have hz : (encW (0, zeroP)).length = 257 := encW_len _ zeroP_len
  rw [built_struct _ _ under_write _ zero_write _ places_write]
  rw [fill_put _ _ 0 0 1 (.int .i64 i) [.int .i64 i] rfl rfl rfl (by rw [hz]; decide)]
  rw [fill_put _ _ 1 1 256 (pgV p) (pgv p) rfl rfl (by rw [pgv_len, hp]) (by unfold putAt; simp [hz])]
  unfold Instr.fill
  congr 2
  unfold putAt encW
  simp [pgv_len, hp, zeroP_len]

section
variable {w : World} {ops : Array Oper} {rest : List Oper} {o : Oper} {a : Act} {Q : Exit → Act → World → Prop}
theorem wpList_buildW (hgd : Region.wanted o (yielded ops a.tmps) = true) (x y : Operand) (ho : o.op = .build 91 #[(0, x), (1, y)]) (i : Int) (p : List Int) (hx : a.eval x = .int .i64 i) (hy : a.eval y = pgV p) (hp : p.length = 256)
    (h : wpList Try.prog ops Q rest (a.put o.dst (.agg (encW (i, p)).toArray)) w) : wpList Try.prog ops Q (o :: rest) a w := by
  refine wpList_wanted hgd fun K hK => ?_
  have hrun := run_build (P := Try.prog) w 91 #[(0, .int .i64 i), (1, pgV p)] _ (built_write i p hp)
  unfold Oper.wp
  simp [execOp, ho, hx, hy, hrun, Result.andThen]
  exact hK _ _ h
end

set_option maxRecDepth 100000 in
set_option maxHeartbeats 2000000 in
theorem rput4_any (v1 v2 v3 : Value) (n : Nat) (a1 : Option Addr) (c1 : Nat) (hv1 : v1 = .slice a1 n c1) (hsl2 : isSl v2) (pend : List (Int × List Int)) (c : Bool) (l : Int) (hl : c = true → -9223372036854775808 < l ∧ l ≤ 9223372036854775807) (d : Bool) (i : Int) (p : List Int) (hp : p.length = 256) (w : World)
    (h3 : SlWr w v3 pend) (hm : pend.length ≤ 100000) :
    Calls Try.prog 18 #[dkV v1 v2 v3 c l d, .int .i64 i, pgV p] w fun r w' => ∃ v3',
      r = .returned (.tuple #[dkV v1 v2 v3' c (if inR n i then (actR c l d).1 else l) (if inR n i then (actR c l d).2.1 else d), .int .i64 (if inR n i then (actR c l d).2.2 else 41)]) ∧
      SlWr w' v3' (if inR n i && (actR c l d).2.2 == 0 then pend ++ [(i, p)] else pend) ∧ Fr noB w w' ∧ nwB w w' v3 v3' := by
  subst hv1
  have hsl1 := isSl_mk a1 n c1
  have hsl3 := SlR.isSl h3
  obtain ⟨a3, c3', rfl, hc3⟩ := h3.opn
  have Hp := show Hid _ from hp
  clear hp
  cases hin : inR n i with
  | false =>
    have ht : (decide (0 ≤ i) && decide (i < (n : Int))) = false := hin
    simp only [Bool.false_eq_true, if_false, Bool.false_and]
    go_enter Try.func18, Try.ntmps18
    go_wp2_with (first
      | (with_reducible refine at_wpP ?_; refine wpList_boxV rfl 39 _ rfl (dkL (.slice a1 n c1) v2 (.slice a3 pend.length c3') c l d) rfl ?_; intro g1 w1 hg1 b1 f1 s1; have z1 := f1.size)
      | (with_reducible refine at_wpP ?_; refine wpList_boxV rfl 46 _ rfl (pgv p) rfl ?_; intro g5 w5 hg5 p5 f5 s5; have b5 := b1.fr0 f5; have l1 := b1.lt; have l5 := p5.lt)
      | (with_reducible refine at_wpP ?_; refine wpList_allocD rfl rfl ?_; intro g2 w2 hg2 b2 f2 s2; have e2 := b5.fr0 f2; have p2 := p5.fr0 f2; have l2 := b2.lt; have F2 := (f1.thenN f5).thenN f2)
      | (go_at_call 40; go_must (refine (there_any _ _ _ _ _ _ _ _ _ _).mono ?_; rintro e w3 ⟨rfl, f3⟩; have b3 := b2.fr0 f3; have e3 := e2.fr0 f3; have p3 := p2.fr0 f3; have F3 := F2.thenN f3))
      | (with_reducible refine at_wpP ?_; refine wpList_ldD rfl _ rfl g1 rfl _ _ _ c l d e3 ?_)
      | (with_reducible refine at_wpP ?_; refine wpList_ldD rfl _ rfl g1 rfl _ _ _ c l d e2 ?_)
      | (with_reducible refine at_wpP ?_; refine at_st 39 _ _ rfl ?_; refine wpList_stD rfl _ _ rfl g2 rfl _ _ _ c l d rfl _ b3 rfl hsl1 hsl2 hsl3 ?_; intro w8 b8 f8))
    have F8 := F3.thenT (S := noB) f8 (fun i hi q => by unfold onB1 at q; omega)
    exact bodyPost_ret (v := .tuple #[dkV (.slice a1 n c1) v2 (.slice a3 pend.length c3') c l d, .int .i64 41]) (results_disk2 Try.results18 _ w8 g2 _ _ _ c l d rfl b8) rfl ⟨_, rfl, h3.fr0 F8, F8, fun q h => Or.inl h⟩
  | true =>
    have ht : (decide (0 ≤ i) && decide (i < (n : Int))) = true := hin
    simp only [if_true, Bool.true_and]
    obtain ⟨⟨L', D', E'⟩, Hact⟩ : ∃ t, Hid (actR c l d = t) := ⟨_, rfl⟩
    rw [Hact.out]
    simp only
    by_cases he : E' = 0
    · subst he
      simp only [BEq.rfl, if_true]
      go_enter Try.func18, Try.ntmps18
      go_wp2_with (first
      | (with_reducible refine at_wpP ?_; refine wpList_boxV rfl 39 _ rfl (dkL (.slice a1 n c1) v2 (.slice a3 pend.length c3') c l d) rfl ?_; intro g1 w1 hg1 b1 f1 s1; have z1 := f1.size)
      | (with_reducible refine at_wpP ?_; refine wpList_boxV rfl 46 _ rfl (pgv p) rfl ?_; intro g5 w5 hg5 p5 f5 s5; have b5 := b1.fr0 f5; have l1 := b1.lt; have l5 := p5.lt)
      | (with_reducible refine at_wpP ?_; refine wpList_allocD rfl rfl ?_; intro g2 w2 hg2 b2 f2 s2; have e2 := b5.fr0 f2; have p2 := p5.fr0 f2; have l2 := b2.lt; have F2 := (f1.thenN f5).thenN f2)
      | (go_at_call 40; go_must (refine (there_any _ _ _ _ _ _ _ _ _ _).mono ?_; rintro e w3 ⟨rfl, f3⟩; have b3 := b2.fr0 f3; have e3 := e2.fr0 f3; have p3 := p2.fr0 f3; have F3 := F2.thenN f3))
      | (with_reducible refine at_wpP ?_; refine wpList_ldD rfl _ rfl g1 rfl _ _ _ c l d e3 ?_)
      | (with_reducible refine at_wpP ?_; refine wpList_ldD rfl _ rfl g1 rfl _ _ _ c l d e2 ?_)
      | (go_at_call 41; go_must (refine (ract_any _ _ _ hsl1 hsl2 hsl3 c l hl d _).mono ?_; rw [Hact.out]; rintro e w4 ⟨rfl, f4⟩; have b4 := b3.fr0 f4; have e4 := e3.fr0 f4; have p4 := p3.fr0 f4; have F4 := F3.thenN f4))
      | (with_reducible refine at_wpP ?_; refine at_st 39 _ _ rfl ?_; refine wpList_stD rfl _ _ rfl g1 rfl _ _ _ c L' D' rfl _ e4 rfl hsl1 hsl2 hsl3 ?_; intro w6 e6 f6; have b6 := b4.ne f6 (by omega); have p6 := p4.ne f6 (by omega); have F6 := F4.thenT (S := noB) f6 (fun i hi q => by unfold onB1 at q; omega))
      | (with_reducible refine at_wpP ?_; refine wpList_mk0 encW 257 rfl 37 rfl 91 Try.underlying37 write_size ?_; intro g7 w7 o7 f7 s7 t7; have b7 := b6.fr0 f7; have e7 := e6.fr0 f7; have p7 := p6.fr0 f7; have F7 := F6.thenN f7; have z6 := F6.size; have m1 := e6.lt; have m2 := b6.lt; have m3 := p6.lt; obtain ⟨k0, k1, k2, k3, k4, k5⟩ := e7.six)
      | (at_builtin; have o9' := o9; go_must (refine wpList_appR (ec := encW) (sz := 257) rfl _ _ 37 rfl w6.heap.size 91 _ 264 Try.underlying37 info_write (by simp [Value.cells, encW, pgv_len, zeroP_len]) (by decide) _ pend rfl o10 _ [(i, p)] rfl s10 (by intro y hy u hu; exact encW_one y u hu) ?hr1 ?hr2 ?hr3 ?_; rotate_left 3; intro v11 w11 o11 hg11; have hg11 : w10.grownBy w11 v9.ownBlock := hg11; have f11 : Fr (fun k => v9.ownBlock = some k) w10 w11 := (Fr.refl _ _).grown hg11 (fun k hk _ => hk); have b11 := b10.fr f11 (fun q => by have := (o10.newB g2 q).1; omega); have e11 := e10.fr f11 (fun q => by have := (o10.newB g1 q).1; omega); have F11 := F10.thenT (S := noB) f11 (fun k hk q => by have := (o10.newB k q).1; omega); obtain ⟨X, HX⟩ : ∃ X, Hid (pend ++ [(i, p)] = X) := ⟨_, rfl⟩; rw [HX.out] at o11; obtain ⟨a11, c11, rfl⟩ := o11.opn; have nb11 := o11.newB))
      | (at_builtin; go_must (refine wpList_appR (ec := encW) (sz := 257) rfl _ _ 37 rfl w6.heap.size 91 _ 264 Try.underlying37 info_write (by simp [Value.cells, encW, pgv_len, zeroP_len]) (by decide) _ [] rfl o7 _ pend rfl (h3.fr0 F7) (by intro y hy u hu; exact encW_one y u hu) ?hq1 ?hq2 ?hq3 ?_; rotate_left 3; intro v9 w9 o9 hg9; rw [List.nil_append] at o9; have hg9 : w7.grownBy w9 (some g7) := hg9; have f9 : Fr (onB1 g7) w7 w9 := (Fr.refl _ _).grown hg9 (fun k hk _ => (Option.some.inj hk).symm); have F9 := F7.thenT (S := noB) f9 (fun i hi q => by unfold onB1 at q; omega); have b9 := b7.ne f9 (by omega); have e9 := e7.ne f9 (by omega); have p9 := p7.ne f9 (by omega); have hnb9 := o9.newB))
      | (with_reducible refine at_wpP ?_; refine wpList_loadP rfl _ rfl g5 rfl _ p9 Hp.out ?_)
      | (with_reducible refine at_wpP ?_; refine wpList_buildW rfl _ _ rfl i p rfl rfl Hp.out ?_)
      | (with_reducible refine at_wpP ?_; refine wpList_mk1 (ec := encW) (sz := 257) rfl 37 _ rfl 91 Try.underlying37 _ info_write2 (by decide) (by decide) (i, p) _ rfl rfl (encW_len _ Hp.out) ?_; intro g10 w10 s10 f10 r10 t10; have b10 := b9.fr0 f10; have e10 := e9.fr0 f10; have o10 := o9.fr0 f10; have F10 := F9.thenN f10)
      | (with_reducible refine at_wpP ?_; refine at_st 37 _ _ rfl ?_; go_must (refine wpList_store1 rfl 37 _ _ rfl g1 2 rfl (.slice a11 X.length c11) rfl rfl _ _ e11 size_swrite (by simp) ?_; intro w12 e12 f12; have e12 : BxV w12 g1 39 (dkL (.slice a1 n c1) v2 (.slice a11 X.length c11) c L' D') := (by simpa using e12); have b12 := b11.ne f12 (by omega); have F12 := F11.thenT (S := noB) f12 (fun i hi q => by unfold onB1 at q; omega)))
      | (with_reducible refine at_wpP ?_; refine wpList_ldD rfl _ rfl g1 rfl _ _ _ c L' D' e12 ?_)
      | (with_reducible refine at_wpP ?_; refine at_st 39 _ _ rfl ?_; have b12' := b12; go_must (refine wpList_stD rfl _ _ rfl g2 rfl _ _ _ c L' D' rfl _ b12 rfl hsl1 hsl2 (isSl_mk _ _ _) ?_; intro w13 b13 f13)))
      case hq1 => unfold maxLen; simp; omega
      case hq2 => simp; omega
      case hq3 => exact f7.size
      case hr1 => unfold maxLen; simp; omega
      case hr2 => simp; omega
      case hr3 => have := F10.size; have := f7.size; have := f9.size; have := f10.size; omega
      have F13 := F12.thenT (S := noB) f13 (fun i hi q => by unfold onB1 at q; omega)
      have o13 := (o11.ne f12 (fun k hk => by have := (nb11 k hk).1; omega)).ne f13 (fun k hk => by have := (nb11 k hk).1; omega)
      refine bodyPost_ret (v := .tuple #[dkV (.slice a1 n c1) v2 (.slice a11 X.length c11) c L' D', .int .i64 0]) (results_disk2 Try.results18 _ w13 g2 _ _ _ c L' D' rfl b13) rfl ⟨_, rfl, ?_, F13, fun q h => Or.inr ⟨by have := (o13.newB q h).1; have := F6.size; omega, (o13.newB q h).2⟩⟩
      rw [HX.out]
      exact o13.sl
    · have heb : (E' == 0) = false := by simpa using he
      rw [heb]
      simp only [Bool.false_eq_true, if_false]
      go_enter Try.func18, Try.ntmps18
      go_wp2_with (first
      | (with_reducible refine at_wpP ?_; refine wpList_boxV rfl 39 _ rfl (dkL (.slice a1 n c1) v2 (.slice a3 pend.length c3') c l d) rfl ?_; intro g1 w1 hg1 b1 f1 s1; have z1 := f1.size)
      | (with_reducible refine at_wpP ?_; refine wpList_boxV rfl 46 _ rfl (pgv p) rfl ?_; intro g5 w5 hg5 p5 f5 s5; have b5 := b1.fr0 f5; have l1 := b1.lt; have l5 := p5.lt)
      | (with_reducible refine at_wpP ?_; refine wpList_allocD rfl rfl ?_; intro g2 w2 hg2 b2 f2 s2; have e2 := b5.fr0 f2; have p2 := p5.fr0 f2; have l2 := b2.lt; have F2 := (f1.thenN f5).thenN f2)
      | (go_at_call 40; go_must (refine (there_any _ _ _ _ _ _ _ _ _ _).mono ?_; rintro e w3 ⟨rfl, f3⟩; have b3 := b2.fr0 f3; have e3 := e2.fr0 f3; have p3 := p2.fr0 f3; have F3 := F2.thenN f3))
      | (with_reducible refine at_wpP ?_; refine wpList_ldD rfl _ rfl g1 rfl _ _ _ c l d e3 ?_)
      | (with_reducible refine at_wpP ?_; refine wpList_ldD rfl _ rfl g1 rfl _ _ _ c l d e2 ?_)
      | (go_at_call 41; go_must (refine (ract_any _ _ _ hsl1 hsl2 hsl3 c l hl d _).mono ?_; rw [Hact.out]; rintro e w4 ⟨rfl, f4⟩; have b4 := b3.fr0 f4; have e4 := e3.fr0 f4; have p4 := p3.fr0 f4; have F4 := F3.thenN f4))
      | (with_reducible refine at_wpP ?_; refine at_st 39 _ _ rfl ?_; refine wpList_stD rfl _ _ rfl g1 rfl _ _ _ c L' D' rfl _ e4 rfl hsl1 hsl2 hsl3 ?_; intro w6 e6 f6; have b6 := b4.ne f6 (by omega); have p6 := p4.ne f6 (by omega); have F6 := F4.thenT (S := noB) f6 (fun i hi q => by unfold onB1 at q; omega))
      | (with_reducible refine at_wpP ?_; refine wpList_ldD rfl _ rfl g1 rfl _ _ _ c L' D' e6 ?_)
      | (with_reducible refine at_wpP ?_; refine at_st 39 _ _ rfl ?_; refine wpList_stD rfl _ _ rfl g2 rfl _ _ _ c L' D' rfl _ b6 rfl hsl1 hsl2 hsl3 ?_; intro w8 b8 f8))
      have F8 := F6.thenT (S := noB) f8 (fun i hi q => by unfold onB1 at q; omega)
      exact bodyPost_ret (v := .tuple #[dkV (.slice a1 n c1) v2 (.slice a3 pend.length c3') c L' D', .int .i64 E']) (results_disk2 Try.results18 _ w8 g2 _ _ _ c L' D' rfl b8) rfl ⟨_, rfl, h3.fr0 F8, F8, fun q h => Or.inl h⟩
end Go.Proofs.Ytijgfojnppcbjaa
/- Regions that draw their order, whose operations lay new memory alone: whatever the order, if each operation, behind those that it waits for, hands what is said of it; no condition. -/
namespace Go.Proofs.U
open Go.RowKit
set_option linter.unusedVariables false

section
variable {P : Program} {ops : Array Oper} {Q : Exit → Act → World → Prop} {md : Region.Mode}

/-- What each operation keeps holds at the end, whatever the order. -/
theorem wpAny_inv (I : Array Bool → Act → World → Prop)
    (hstep : ∀ listed a w i, I listed a w → i ∈ Region.ready md ops listed → wpOp P ops Q i (fun a' w' => I (listed.setIfInBounds i true) a' w') a w)
    (hstop : ∀ listed a w, I listed a w → Region.ready md ops listed = [] → Q .normal a w) :
    ∀ (fuel : Nat) (R : List Nat) (listed : Array Bool) (a : Act) (w : World), (∀ i, listed.getD i true = false → i ∈ R) → R.length ≤ fuel → I listed a w → wpAny P md ops Q fuel listed a w := by
  intro fuel
  induction fuel with
  | zero =>
    intro R listed a w hR hl hI
    have hR0 : R = [] := List.eq_nil_of_length_eq_zero (by omega)
    have h0 : Region.ready md ops listed = [] := by
      apply List.eq_nil_iff_forall_not_mem.2
      intro j hj
      have := hR j (mem_ready.1 hj).1
      rw [hR0] at this; cases this
    exact ⟨h0, hstop _ _ _ hI h0⟩
  | succ fuel ih =>
    intro R listed a w hR hl hI
    refine ⟨fun h0 => hstop _ _ _ hI h0, fun i hi => ?_⟩
    refine wpOp_mono (fun a' w' hI' => ?_) (hstep _ _ _ i hI hi)
    have hin := hR i (mem_ready.1 hi).1
    refine ih (R.erase i) _ a' w' ?_ (by rw [List.length_erase_of_mem hin]; have := List.length_pos_of_mem hin; omega) hI'
    intro j hj
    have hlt : i < listed.size := by
      have h1 := (mem_ready.1 hi).1
      rcases Nat.lt_or_ge i listed.size with h' | h'
      · exact h'
      · simp [Array.getElem?_eq_none h'] at h1
    by_cases hji : i = j
    · subst hji
      simp [hlt] at hj
    · refine (List.mem_erase_of_ne (fun e => hji e.symm)).2 (hR j ?_)
      simpa [Array.getElem?_setIfInBounds, hji] using hj

def dstAt (ops : Array Oper) (i : Nat) : Option Nat := (ops[i]?).bind (·.dst)

/-- What is known while the region runs: of each operation that came up what F says of its value. -/
structure Know (ops : Array Oper) (F : Nat → Value → World → Prop) (a0 : Act) (w0 : World) (listed : Array Bool) (a : Act) (w : World) : Prop where
  fr : Fr noB w0 w
  dfr : a.defers = a0.defers
  sz : a.tmps.size = a0.tmps.size
  base : ∀ s, (∀ i, dstAt ops i ≠ some s) → a.tmps.getD s undef = a0.tmps.getD s undef
  fact : ∀ i d, listed.getD i false = true → dstAt ops i = some d → F i (a.tmps.getD d undef) w

/-- What is asked of one operation: behind those that it waits for it hands a value of which F says so. -/
def Hands (P : Program) (ops : Array Oper) (F : Nat → Value → World → Prop) (a0 : Act) (w0 : World) (Q : Exit → Act → World → Prop) (i : Nat) (o : Oper) : Prop :=
  ∀ (a : Act) (w : World), Fr noB w0 w → a.defers = a0.defers → (∀ s, (∀ i, dstAt ops i ≠ some s) → a.eval (.tmp s) = a0.eval (.tmp s)) →
    (∀ e ∈ o.after, ∀ d, dstAt ops e.on = some d → F e.on (a.eval (.tmp d)) w) →
    if Region.wanted o (yielded ops a.tmps) = true then o.wp P a w (fun a' w' => ∃ v, a' = a.put o.dst v ∧ Fr noB w w' ∧ F i v w') Q else F i undef w

theorem wp_region_know {id : Nat} {a0 : Act} {w : World} (hm : P.follows .mixedOrders = true) (F : Nat → Value → World → Prop)
    (hmono : ∀ i v w w', Fr noB w w' → F i v w → F i v w')
    (hbind : ∀ (i : Nat) (o : Oper), ops[i]? = some o → ∀ e ∈ o.after, Region.binds .any e = true)
    (hlow : ∀ (i : Nat) (o : Oper), ops[i]? = some o → ∀ e ∈ o.after, e.on < i)
    (hdist : ∀ i j d, dstAt ops i = some d → dstAt ops j = some d → i = j)
    (hin : ∀ i d, dstAt ops i = some d → d < a0.tmps.size)
    (hob : ∀ (i : Nat) (o : Oper), ops[i]? = some o → Hands P ops F a0 w.drew Q i o)
    (hend : ∀ a w', Fr noB w.drew w' → a.defers = a0.defers → a.tmps.size = a0.tmps.size → (∀ s, (∀ i, dstAt ops i ≠ some s) → a.eval (.tmp s) = a0.eval (.tmp s)) →
      (∀ i d, dstAt ops i = some d → F i (a.eval (.tmp d)) w') → Q .normal a w') : (Code.region id ops true).wp P Q a0 w := by
  refine wp_region_any hm ?_
  show wpAny P .any ops Q ops.size (Array.replicate ops.size false) a0 w.drew
  refine wpAny_inv (fun listed a w' => listed.size = ops.size ∧ Know ops F a0 w.drew listed a w' ∧ ∀ i, listed.getD i false = true → ∀ o, ops[i]? = some o → ∀ e ∈ o.after, listed.getD e.on false = true) ?_ ?_ ops.size (List.range ops.size) _ a0 w.drew ?_ (by simp) ?_
  · rintro listed a w' i ⟨hsz, hK, hcl⟩ hi
    obtain ⟨hun, o, ho, hall⟩ := mem_ready.1 hi
    have hilt : i < listed.size := by
      rcases Nat.lt_or_ge i listed.size with h' | h'
      · exact h'
      · simp [Array.getElem?_eq_none h'] at hun
    have key := hob i o ho a w' hK.fr hK.dfr hK.base (fun e he d hd => hK.fact e.on d (hall e he (hbind i o ho e he)) hd)
    have next : ∀ v w'', Fr noB w' w'' → F i v w'' → (listed.setIfInBounds i true).size = ops.size ∧ Know ops F a0 w.drew (listed.setIfInBounds i true) (a.put o.dst v) w'' ∧ ∀ j, (listed.setIfInBounds i true).getD j false = true → ∀ o, ops[j]? = some o → ∀ e ∈ o.after, (listed.setIfInBounds i true).getD e.on false = true := by
      intro v w'' hf hF
      have lk : ∀ j, listed.getD j false = true → (listed.setIfInBounds i true).getD j false = true := by
        intro j hj
        by_cases hij : i = j
        · subst hij; simp [hilt]
        · simpa [Array.getElem?_setIfInBounds, hij] using hj
      have ldj : ∀ j, (listed.setIfInBounds i true).getD j false = true → j = i ∨ listed.getD j false = true := by
        intro j hj
        by_cases hij : i = j
        · exact Or.inl hij.symm
        · exact Or.inr (by simpa [Array.getElem?_setIfInBounds, hij] using hj)
      have hdo : dstAt ops i = o.dst := by simp [dstAt, ho]
      refine ⟨by simpa using hsz, ⟨hK.fr.trans hf, ?_, ?_, ?_, ?_⟩, ?_⟩
      · cases hd : o.dst <;> simpa [Act.put] using hK.dfr
      · cases hd : o.dst <;> simpa [Act.put] using hK.sz
      · intro s hs
        cases hd : o.dst with
        | none => simpa [Act.put] using hK.base s hs
        | some d =>
          have hds : d ≠ s := fun e => hs i (by rw [hdo, hd, e])
          have := hK.base s hs
          simp only [Act.put, Array.getD_eq_getD_getElem?, Array.getElem?_setIfInBounds, hds, if_false] at this ⊢
          exact this
      · intro j d hj hdj
        rcases ldj j hj with rfl | hj'
        · rw [hdo] at hdj
          have hlt : d < a.tmps.size := by rw [hK.sz]; exact hin j d (by rw [hdo]; exact hdj)
          have : (a.put o.dst v).tmps.getD d undef = v := by
            rw [hdj]
            simp [Act.put, hlt]
          rw [this]; exact hF
        · have hne : o.dst ≠ some d := fun e => by
            have := hdist i j d (by rw [hdo]; exact e) hdj
            subst this
            have h2 : listed.getD i true = listed.getD i false := by simp [hilt]
            rw [h2, hj'] at hun; cases hun
          have h1 := hmono j _ _ _ hf (hK.fact j d hj' hdj)
          have : (a.put o.dst v).tmps.getD d undef = a.tmps.getD d undef := by
            cases hd : o.dst with
            | none => rfl
            | some d' =>
              have hds : d' ≠ d := fun e => hne (by rw [hd, e])
              simp only [Act.put, Array.getD_eq_getD_getElem?, Array.getElem?_setIfInBounds, hds, if_false]
          rw [this]; exact h1
      · intro j hj oj hoj e he
        rcases ldj j hj with rfl | hj'
        · rw [ho] at hoj; cases hoj
          exact lk _ (hall e he (hbind j o ho e he))
        · exact lk _ (hcl j hj' oj hoj e he)
    unfold wpOp
    simp only [ho]
    by_cases hw : Region.wanted o (yielded ops a.tmps) = true
    · rw [if_pos hw] at key ⊢
      refine Or.inl (Oper.wp_mono ?_ key)
      rintro a' w'' ⟨v, rfl, hf, hF⟩
      exact next v w'' hf hF
    · rw [if_neg hw] at key ⊢
      exact next undef w' (Fr.refl _ _) key
  · rintro listed a w' ⟨hsz, hK, hcl⟩ h0
    have hall : ∀ n i, i < n → i < ops.size → listed.getD i false = true := by
      intro n
      induction n with
      | zero => intro i h; omega
      | succ n ihn =>
        intro i hi hlt
        rcases Nat.lt_or_ge i n with hn | hn
        · exact ihn i hn hlt
        · obtain rfl : i = n := by omega
          cases hq : listed.getD i false with
          | true => rfl
          | false =>
            exfalso
            have hls : i < listed.size := by omega
            have ho : ops[i]? = some ops[i] := Array.getElem?_eq_getElem hlt
            have hmem : i ∈ Region.ready .any ops listed := mem_ready.2 ⟨by
              have h2 : listed.getD i true = listed.getD i false := by simp [hls]
              rw [h2]; exact hq, ops[i], ho, fun e he _ => ihn e.on (hlow i _ ho e he) (by have := hlow i _ ho e he; omega)⟩
            rw [h0] at hmem; cases hmem
    refine hend a w' hK.fr hK.dfr hK.sz hK.base (fun i d hd => hK.fact i d ?_ hd)
    have hlt : i < ops.size := by
      rcases Nat.lt_or_ge i ops.size with h' | h'
      · exact h'
      · simp [dstAt, Array.getElem?_eq_none h'] at hd
    exact hall (i + 1) i (by omega) hlt
  · intro i hi
    rcases Nat.lt_or_ge i ops.size with h' | h'
    · simpa using h'
    · simp [h'] at hi
  · refine ⟨by simp, ⟨Fr.refl _ _, rfl, rfl, fun _ _ => rfl, fun i d hl => ?_⟩, fun i hl => ?_⟩
    · exfalso
      rcases Nat.lt_or_ge i ops.size with h' | h' <;> simp [h'] at hl
    · exfalso
      rcases Nat.lt_or_ge i ops.size with h' | h' <;> simp [h'] at hl
end
end Go.Proofs.U
/- The law of regions that draw their order, by facts in a list; no condition. -/
namespace Go.Proofs.U
open Go.RowKit
set_option linter.unusedVariables false

/-- What is said of a value, and stays when memory grows. -/
structure MFact where
  p : Value → World → Prop
  mono : ∀ v w w', Fr noB w w' → p v w → p v w'
def MFact.any : MFact := ⟨fun _ _ => True, fun _ _ _ _ h => h⟩
def MFact.is (c : Value) : MFact := ⟨fun v _ => v = c, fun _ _ _ _ h => h⟩
def MFact.sl (k : IntKind) (l : List Int) : MFact := ⟨fun v w => SlI k w v l, fun _ _ _ hf h => h.fr0 hf⟩
def MFact.one (c : Value) : MFact := ⟨fun v w => ∃ g, v = .slice (some ⟨g, 0, none⟩) 1 1 ∧ w.cell? ⟨g, 0, none⟩ = some c, fun _ _ _ hf ⟨g, e, h⟩ => ⟨g, e, hf.cell h (fun q => q)⟩⟩
def factAt (fs : List MFact) (i : Nat) : Value → World → Prop := (fs.getD i MFact.any).p

def notDst (ops : Array Oper) (s : Nat) : Bool := (List.range ops.size).all fun i => dstAt ops i != some s
def depOn (ops : Array Oper) (k j : Nat) : Bool := match ops[k]? with | some o => o.after.any (fun e => e.on == j) | none => false
def regionOk (ops : Array Oper) (n : Nat) : Bool :=
  ((List.range ops.size).all fun i => match ops[i]? with
    | some o => o.after.all (fun e => Region.binds .any e && decide (e.on < i)) && (match o.dst with | some d => decide (d < n) | none => true)
    | none => true) &&
  ((List.range ops.size).all fun i => (List.range ops.size).all fun j => i == j || (dstAt ops i).isNone || dstAt ops i != dstAt ops j)

theorem notDst_spec {ops : Array Oper} {s : Nat} (h : notDst ops s = true) : ∀ i, dstAt ops i ≠ some s := by
  intro i hi
  have hlt : i < ops.size := by
    rcases Nat.lt_or_ge i ops.size with h' | h'
    · exact h'
    · simp [dstAt, Array.getElem?_eq_none h'] at hi
  have := List.all_eq_true.1 h i (by simpa using hlt)
  simp [hi] at this

section
variable {P : Program} {ops : Array Oper} {Q : Exit → Act → World → Prop}

def Hand (P : Program) (ops : Array Oper) (fs : List MFact) (a0 : Act) (w0 : World) (Q : Exit → Act → World → Prop) (k : Nat) (o : Oper) : Prop :=
  ∀ (a : Act) (w : World), Fr noB w0 w → (∀ s, notDst ops s = true → a.eval (.tmp s) = a0.eval (.tmp s)) →
    (∀ j d, depOn ops k j = true → dstAt ops j = some d → factAt fs j (a.eval (.tmp d)) w) →
    if Region.wanted o (yielded ops a.tmps) = true then o.wp P a w (fun a' w' => ∃ v, a' = a.put o.dst v ∧ Fr noB w w' ∧ factAt fs k v w') Q else factAt fs k undef w
def HandAll (P : Program) (ops : Array Oper) (fs : List MFact) (a0 : Act) (w0 : World) (Q : Exit → Act → World → Prop) : Nat → List Oper → Prop
  | _, [] => True
  | k, o :: r => Hand P ops fs a0 w0 Q k o ∧ HandAll P ops fs a0 w0 Q (k + 1) r

theorem handAll_get {fs : List MFact} {a0 : Act} {w0 : World} : ∀ (l : List Oper) (k : Nat), HandAll P ops fs a0 w0 Q k l → ∀ i o, l[i]? = some o → Hand P ops fs a0 w0 Q (k + i) o
  | [], _, _, i, o, ho => by simp at ho
  | x :: l, k, h, 0, o, ho => by simp at ho; subst ho; exact h.1
  | x :: l, k, h, i + 1, o, ho => by
    have := handAll_get l (k + 1) h.2 i o (by simpa using ho)
    rwa [show k + (i + 1) = k + 1 + i by omega]

theorem wp_region_facts {id : Nat} {a0 : Act} {w : World} (hm : P.follows .mixedOrders = true) (fs : List MFact) (hok : regionOk ops a0.tmps.size = true)
    (hob : HandAll P ops fs a0 w.drew Q 0 ops.toList)
    (hend : ∀ a w', Fr noB w.drew w' → a.defers = a0.defers → a.tmps.size = a0.tmps.size → (∀ s, notDst ops s = true → a.eval (.tmp s) = a0.eval (.tmp s)) →
      (∀ i d, dstAt ops i = some d → factAt fs i (a.eval (.tmp d)) w') → Q .normal a w') : (Code.region id ops true).wp P Q a0 w := by
  unfold regionOk at hok
  rw [Bool.and_eq_true] at hok
  have h1 : ∀ (i : Nat) (o : Oper), ops[i]? = some o → (o.after.all (fun e => Region.binds .any e && decide (e.on < i)) && (match o.dst with | some d => decide (d < a0.tmps.size) | none => true)) = true := by
    intro i o ho
    have hlt : i < ops.size := by
      rcases Nat.lt_or_ge i ops.size with h' | h'
      · exact h'
      · rw [Array.getElem?_eq_none h'] at ho; cases ho
    have := List.all_eq_true.1 hok.1 i (by simpa using hlt)
    simpa only [ho] using this
  have inb : ∀ i d, dstAt ops i = some d → i < ops.size := by
    intro i d hd
    rcases Nat.lt_or_ge i ops.size with h' | h'
    · exact h'
    · simp [dstAt, Array.getElem?_eq_none h'] at hd
  refine wp_region_know hm (factAt fs) (fun i v w w' hf h => (fs.getD i MFact.any).mono v w w' hf h) ?_ ?_ ?_ ?_ ?_ ?_
  · intro i o ho e he
    have h2 := h1 i o ho
    rw [Bool.and_eq_true] at h2
    have h3 := Array.all_eq_true_iff_forall_mem.1 h2.1 e he
    rw [Bool.and_eq_true] at h3
    exact h3.1
  · intro i o ho e he
    have h2 := h1 i o ho
    rw [Bool.and_eq_true] at h2
    have h3 := Array.all_eq_true_iff_forall_mem.1 h2.1 e he
    rw [Bool.and_eq_true] at h3
    exact of_decide_eq_true h3.2
  · intro i j d hi hj
    have h2 := List.all_eq_true.1 (List.all_eq_true.1 hok.2 i (by simpa using inb i d hi)) j (by simpa using inb j d hj)
    simp [hi, hj] at h2
    exact h2
  · intro i d hd
    have hlt := inb i d hd
    have ho : ops[i]? = some ops[i] := Array.getElem?_eq_getElem hlt
    have h2 := h1 i _ ho
    rw [Bool.and_eq_true] at h2
    have hdd : ops[i].dst = some d := by simpa [dstAt, ho] using hd
    have h3 := h2.2
    rw [hdd] at h3
    exact of_decide_eq_true h3
  · intro i o ho a w' hfr hdf hbase hdep
    have := handAll_get ops.toList 0 hob i o (by simpa using ho)
    rw [Nat.zero_add] at this
    refine this a w' hfr (fun s hs => hbase s (notDst_spec hs)) (fun j d hj hd => ?_)
    unfold depOn at hj
    rw [ho] at hj
    simp only at hj
    obtain ⟨n, hn, heq⟩ := Array.any_eq_true.1 hj
    have : (o.after[n]).on = j := by simpa using heq
    subst this
    exact hdep _ (Array.getElem_mem hn) d hd
  · intro a w' hfr hdf hsz hbase hall
    exact hend a w' hfr hdf hsz (fun s hs => hbase s (notDst_spec hs)) hall

/-- the frame behind them all. -/
def layL : List Oper → Nat → (Nat → Value) → Act → Act
  | [], _, _, a => a
  | o :: r, i, vs, a => layL r (i + 1) vs (a.put o.dst (vs i))
theorem layL_size (l : List Oper) : ∀ (i : Nat) (vs : Nat → Value) (a : Act), (layL l i vs a).tmps.size = a.tmps.size ∧ (layL l i vs a).defers = a.defers := by
  induction l with
  | nil => intro i vs a; exact ⟨rfl, rfl⟩
  | cons o l ih =>
    intro i vs a
    have := ih (i + 1) vs (a.put o.dst (vs i))
    rw [layL]
    cases hd : o.dst <;> simp [hd, Act.put] at this ⊢ <;> exact this
/-- a frame that has these values where the operations write, and else what was there, is that one. -/
theorem layL_is (b : Act) (l : List Oper) : ∀ (i : Nat) (vs : Nat → Value) (a : Act), a.tmps.size = b.tmps.size → (∀ (j : Nat) (o : Oper) (d : Nat), l[j]? = some o → o.dst = some d → b.eval (.tmp d) = vs (i + j)) →
    (∀ s, b.eval (.tmp s) = a.eval (.tmp s) ∨ ∃ (j : Nat) (o : Oper), l[j]? = some o ∧ o.dst = some s) → ∀ s, (layL l i vs a).eval (.tmp s) = b.eval (.tmp s) := by
  induction l with
  | nil =>
    intro i vs a hsz hv hb s
    rcases hb s with h | ⟨j, o, h, _⟩
    · exact h.symm
    · simp at h
  | cons o l ih =>
    intro i vs a hsz hv hb
    rw [layL]
    refine ih (i + 1) vs _ ?_ (fun j o' d ho hd => ?_) (fun s => ?_)
    · cases hd : o.dst <;> simpa [Act.put] using hsz
    · rw [hv (j + 1) o' d (by simpa using ho) hd]; congr 1; omega
    · by_cases hs : o.dst = some s
      · left
        have h0 := hv 0 o s (by simp) hs
        rw [h0, hs]
        by_cases hlt : s < a.tmps.size
        · simp [Act.put, Act.eval, hlt]
        · have hge : a.tmps.size ≤ s := Nat.le_of_not_lt hlt
          have hb2 : b.eval (.tmp s) = undef := by simp [Act.eval, Array.getElem?_eq_none (show b.tmps.size ≤ s from hsz ▸ hge)]
          rw [← h0, hb2]
          simp [Act.put, Act.eval]
          intro hh; exact absurd hh hlt
      · rcases hb s with h | ⟨j, o', ho', hd'⟩
        · left
          rw [h]
          cases hd : o.dst with
          | none => rfl
          | some d =>
            have hds : d ≠ s := fun e => hs (by rw [hd, e])
            simp [Act.put, Act.eval, hds]
        · cases j with
          | zero => simp at ho'; subst ho'; exact absurd hd' hs
          | succ j => exact Or.inr ⟨j, o', by simpa using ho', hd'⟩

/-- The law: each operation hands what is said of it; so do all, whatever the order. -/
theorem wp_region_lay {id : Nat} {l : List Oper} {a0 : Act} {w : World} (hm : P.follows .mixedOrders = true) (fs : List MFact) (hok : regionOk l.toArray a0.tmps.size = true)
    (hob : HandAll P l.toArray fs a0 w.drew Q 0 l)
    (hend : ∀ (vs : Nat → Value) w', Fr noB w.drew w' → (∀ i, (l[i]?.bind (·.dst)).isSome = true → factAt fs i (vs i) w') → Q .normal (layL l 0 vs a0) w') : (Code.region id l.toArray true).wp P Q a0 w := by
  refine wp_region_facts hm fs hok (by simpa using hob) (fun a w' hfr hdf hsz hbase hall => ?_)
  have hdl : ∀ i, dstAt l.toArray i = l[i]?.bind (·.dst) := fun i => by simp [dstAt]
  have h := hend (fun i => match l[i]?.bind (·.dst) with | some d => a.eval (.tmp d) | none => undef) w' hfr (fun i hi => by
    cases hd : l[i]?.bind (·.dst) with
    | none => rw [hd] at hi; cases hi
    | some d => simpa only [hd] using hall i d (by rw [hdl]; exact hd))
  have e : layL l 0 (fun i => match l[i]?.bind (·.dst) with | some d => a.eval (.tmp d) | none => undef) a0 = a := by
    have h2 := layL_size l 0 (fun i => match l[i]?.bind (·.dst) with | some d => a.eval (.tmp d) | none => undef) a0
    have h3 := layL_is a l 0 (fun i => match l[i]?.bind (·.dst) with | some d => a.eval (.tmp d) | none => undef) a0 hsz.symm (fun j o d ho hd => by simp [ho, hd]) (fun s => by
      cases hn : notDst l.toArray s with
      | true => exact Or.inl (hbase s hn)
      | false =>
        right
        unfold notDst at hn
        rw [List.all_eq_false] at hn
        obtain ⟨j, hj, hq⟩ := hn
        have hd : dstAt l.toArray j = some s := by simpa using hq
        rw [hdl] at hd
        obtain ⟨o, ho, hod⟩ := Option.bind_eq_some_iff.1 hd
        exact ⟨j, o, ho, hod⟩)
    generalize layL l 0 (fun i => match l[i]?.bind (·.dst) with | some d => a.eval (.tmp d) | none => undef) a0 = b at *
    obtain ⟨bt, bd⟩ := b
    obtain ⟨at', ad⟩ := a
    simp only at h2 hsz hdf
    have hd : bd = ad := by rw [h2.2, hdf]
    have ht : bt = at' := by
      apply Array.ext
      · omega
      · intro i hi hi'
        have := h3 i
        simpa [Act.eval, hi, hi'] using this
    rw [hd, ht]
  rwa [e] at h

variable {a : Act} {w : World} {o : Oper} {fs : List MFact} {k : Nat}
theorem hands_val {v : Value} {w' : World} (hw : Region.wanted o (yielded ops a.tmps) = true) (hrun : (execOp a.eval o).run P w = .ok (.value v) w') (hf : Fr noB w w') (hF : factAt fs k v w') :
    if Region.wanted o (yielded ops a.tmps) = true then o.wp P a w (fun a' w' => ∃ v, a' = a.put o.dst v ∧ Fr noB w w' ∧ factAt fs k v w') Q else factAt fs k undef w := by
  rw [if_pos hw]
  unfold Oper.wp
  rw [hrun]
  exact ⟨v, rfl, hf, hF⟩
theorem hands_call {f : FuncId} {args : Array Value} (hw : Region.wanted o (yielded ops a.tmps) = true) (hrun : (execOp a.eval o).run P w = .ok (.enter f args) w)
    (hc : Calls P f args w fun e w' => ∃ v, e = .returned v ∧ Fr noB w w' ∧ factAt fs k v w') :
    if Region.wanted o (yielded ops a.tmps) = true then o.wp P a w (fun a' w' => ∃ v, a' = a.put o.dst v ∧ Fr noB w w' ∧ factAt fs k v w') Q else factAt fs k undef w := by
  rw [if_pos hw]
  unfold Oper.wp
  rw [hrun]
  refine hc.mono ?_
  rintro e w' ⟨v, rfl, hf, hF⟩
  exact ⟨v, rfl, hf, hF⟩
theorem wanted_of {j d : Nat} {b : Bool} (hg : o.guard = some (j, b)) (hd : dstAt ops j = some d) (h : a.eval (.tmp d) = .bool b) : Region.wanted o (yielded ops a.tmps) = true := by
  have h1 : a.tmps[d]? = some (.bool b) := by
    have h2 : a.tmps.getD d undef = .bool b := h
    rw [Array.getD_eq_getD_getElem?] at h2
    cases hq : a.tmps[d]? with
    | none => rw [hq] at h2; simp [undef] at h2
    | some v => rw [hq] at h2; simp at h2; rw [h2]
  unfold dstAt at hd
  simp [Region.wanted, hg, yielded, hd, h1]
end
theorem run_cuth {P : Program} {w : World} (t e : TypeId) (ht : P.underlying t = some (.slice e)) (sz : Nat) (hsz : (P.info? e).map (·.size) = some sz) (ao : Option Addr) (n cap : Nat) (kh : IntKind) (j : Nat) (hj : j ≤ cap) :
    (Instr.sliceAt t (.slice ao n cap) none (some (.int kh (j : Int))) none).run P w = .ok (.slice ao j cap) w := by
  obtain ⟨ii, hinf, hsz'⟩ := Option.map_eq_some_iff.1 hsz
  have e0 : (ao.map (·.add 0) : Option Addr) = ao := by cases ao <;> rfl
  simp [Instr.sliceAt, Instr.slice, Instr.sliceBounds, Instr.sliceBound, asIntOf, run_underlying ht, sizeOf, typeInfo, hinf, go_sem]
  omega
end Go.Proofs.U
