/- Texts K2, K3, K4, K5, K6, K7, K8 of the proof of PruneTrims, one behind the other. -/
import Derived.Lib.SlBuf
import Derived.Laws.IdiomCopy
import Derived.Maps.AppendAt
import Derived.RangeFuncNested
import Derived.RangeFuncBound
import Derived.RangeFuncCalls
import Derived.RangeFuncLeaves
import Derived.RangeFuncBox
import Derived.Shelf.Abstract
import Derived.Shelf.RegionOpen
import Derived.OwnWalkIn
import Derived.TacticsInMore
import Derived.LoopNIn
import Derived.LoopIn
import Derived.Test.YtmkinaijkgkgiaaGreatBundlePruneTrims1
import Derived.Test.YtmkinaijkgkgiaaGreatBundlePruneTrims2
/- The program's disk: New, Stable, Spoil, Pending. -/
namespace Go.Proofs.U
open Go.RowKit
set_option linter.unusedSimpArgs false
set_option linter.unusedVariables false
theorem madeCells_flat {α : Type} (ec : α → List Value) (sz : Nat) (x : α) (cs : Array Value) (hc : cs.toList = ec x) (hs : (ec x).length = sz) (hz : 0 < sz) (n : Nat) : (madeCells cs (n * sz)).toList = (List.replicate n x).flatMap ec := by
  have hsz : cs.size = sz := by rw [← hs, ← hc, Array.length_toList]
  have h1 : ∀ m, (madeCells cs m).toList = (List.range m).map (fun i => cs[i % sz]!) := by
    intro m; simp [madeCells, hsz]
  rw [h1]
  induction n with
  | zero => simp
  | succ n ih =>
    rw [List.replicate_succ', List.flatMap_append, ← ih, Nat.succ_mul, List.range_add, List.map_append]
    congr 1
    simp only [List.flatMap_cons, List.flatMap_nil, List.append_nil, List.map_map]
    rw [← hc]
    apply List.ext_getElem
    · simp [hsz]
    · intro i h2 h3
      have h4 : i < sz := by simpa using h2
      simp
      rw [Nat.mod_eq_of_lt h4, getElem!_pos cs i (by omega)]
section
variable {α : Type} {P : Program} {w : World} {ops : Array Oper} {rest : List Oper} {o : Oper} {a : Act} {Q : Exit → Act → World → Prop}
/-- make([]T, n): n elements x, x the zero value. -/
theorem wpList_makeR (ec : α → List Value) (sz : Nat) (hg : o.guard = none) (l c : Operand) (t : TypeId) (hop : o.op = Op.makeSlice t l c)
    (base : Nat) (e : TypeId) (z : Value) (bytes : Nat) (h1 : P.underlying t = some (.slice e)) (hinfo : (P.info? e).map (fun i => (i.zero, i.size, i.bytes)) = some (some z, sz, bytes)) (x : α) (hx : z.cells.toList = ec x) (hs : (ec x).length = sz) (hz : 0 < sz)
    (kl kc : IntKind) (L C : Int) (n : Nat) (hl : a.eval l = .int kl L) (hc : a.eval c = .int kc C) (hL : L = (n : Int)) (hC : C = (n : Int)) (b2 : bytes * n ≤ 281474976710656) (b3 : n ≤ maxLen) (b4 : base ≤ w.heap.size)
    (hK : ∀ g w', OwnR ec sz e w' base (.slice (some ⟨g, 0, none⟩) n n) (List.replicate n x) → Fr noB w w' → w.heap.size ≤ g → g < w'.heap.size → wpList P ops Q rest (a.put o.dst (.slice (some ⟨g, 0, none⟩) n n)) w') :
    wpList P ops Q (o :: rest) a w := by
  obtain ⟨i0, hi, hz0, hz1, hz2⟩ := info_parts hinfo
  refine wpList_make_full w hg l c t hop base e i0 z sz h1 hi hz0 hz1 kl kc L C n hl hc hL hC (by rw [hz2]; exact b2) b3 b4 ?_
  intro w' ho hgr
  have ho' : w'.ownsRow base e sz (.slice (some ⟨w.heap.size, 0, none⟩) n n) (List.replicate n x).length ((List.replicate n x).flatMap ec) := by
    rw [← madeCells_flat ec sz x z.cells hx hs hz n, List.length_replicate]; exact ho
  have hlt := (World.ownsRow.lt ho' w.heap.size rfl).2
  refine hK w.heap.size w' ⟨?_, ho'⟩ (Fr.of_grown hgr) (Nat.le_refl _) hlt
  intro y hy
  rw [List.eq_of_mem_replicate hy]; exact hs
/-- make([]T, 0, n). -/
theorem wpList_make0R (ec : α → List Value) (sz : Nat) (hg : o.guard = none) (l c : Operand) (t : TypeId) (hop : o.op = Op.makeSlice t l c)
    (base : Nat) (e : TypeId) (z : Value) (bytes : Nat) (h1 : P.underlying t = some (.slice e)) (hinfo : (P.info? e).map (fun i => (i.zero, i.size, i.bytes)) = some (some z, sz, bytes))
    (kl kc : IntKind) (C : Int) (n : Nat) (hl : a.eval l = .int kl 0) (hc : a.eval c = .int kc C) (hC : C = (n : Int)) (b2 : bytes * n ≤ 281474976710656) (b3 : n ≤ maxLen) (b4 : base ≤ w.heap.size)
    (hK : ∀ g w', OwnR ec sz e w' base (.slice (some ⟨g, 0, none⟩) 0 n) ([] : List α) → Fr noB w w' → w.heap.size ≤ g → g < w'.heap.size → wpList P ops Q rest (a.put o.dst (.slice (some ⟨g, 0, none⟩) 0 n)) w') :
    wpList P ops Q (o :: rest) a w := by
  obtain ⟨i0, hi, hz0, hz1, hz2⟩ := info_parts hinfo
  refine wpList_make_own w hg l c t hop base e i0 z sz h1 hi hz0 hz1 kl kc C n hl hc hC (by rw [hz2]; exact b2) b3 b4 ?_
  intro w' ho hgr
  exact hK w.heap.size w' ⟨by simp, ho⟩ (Fr.of_grown hgr) (Nat.le_refl _) (World.ownsRow.lt ho w.heap.size rfl).2
end
end Go.Proofs.U
namespace Go.Proofs.YtmkinaijkgkgiaaGreat
open Go.RowKit Go.Proofs.U Go.Maps
set_option linter.unusedSimpArgs false
set_option linter.unusedVariables false

def newD (n : Int) : DSt := ⟨List.replicate (newN n) zeroP, fun _ => false, [], false, -1⟩

theorem newD_mk {w w1 w2 : World} {g1 g2 N : Nat} {Z : List Int} (o1 : OwnR pgv 256 96 w1 0 (.slice (some ⟨g1, 0, none⟩) N N) (List.replicate N Z))
    (b2 : BxV w2 g2 94 (pdL (.slice (some ⟨g1, 0, none⟩) N N) w1.heap.size (.slice none 0 0) false (-1))) (f1 : Fr noB w w1) (f2 : Fr noB (w1.alloc (.map #[] 0)) w2) (s1 : w.heap.size ≤ g1) (s2 : (w1.alloc (.map #[] 0)).heap.size ≤ g2) (hN4 : N ≤ 244) :
    Disk w2 (fun k => w.heap.size ≤ k) g2 ⟨List.replicate N Z, fun _ => false, [], false, -1⟩ := by
  have fm : Fr noB w1 (w1.alloc (.map #[] 0)) := (Fr.refl _ _).alloc _
  have z1 := f1.size
  have z2 := f2.size
  have hmz : (w1.alloc (.map #[] 0)).heap.size = w1.heap.size + 1 := by simp
  exact ⟨.slice (some ⟨g1, 0, none⟩) N N, w1.heap.size, .slice none 0 0, {
    bx := b2
    st := (o1.fr0 fm).fr0 f2
    mp := MapI.fr ⟨0, .map [], World.ownsMap_made w1 Tryz.prog 3 unitElem, fun kl => by cases kl with | int k x => cases k <;> rfl | _ => rfl⟩ f2 (fun q => q)
    pd := OwnR.none _ _
    fg := by omega
    fm := by omega
    f1 := fun k hk => by simp [Value.ownBlock] at hk; omega
    f3 := fun k hk => by simp [Value.ownBlock] at hk
    lft := by simp only; omega
    len := by simpa using hN4
    bin := fun x hx => by simp at hx
    pin := fun x hx => by simp at hx }⟩

set_option maxRecDepth 100000 in
set_option maxHeartbeats 1000000 in
theorem new_any (n : Int) (hn : -9223372036854775808 ≤ n ∧ n ≤ 9223372036854775807) (w : World) :
    Calls Tryz.prog 26 #[.int .i64 n] w fun r w' => ∃ g, r = .returned (ptr g) ∧ Disk w' (fun k => w.heap.size ≤ k) g (newD n) ∧ Fr noB w w' := by
  have hmm := @run_makeMap Tryz.prog
  obtain ⟨Z, HZ⟩ : ∃ Z, Hid (zeroP = Z) := ⟨_, rfl⟩
  have hZl : Hid (Z.length = 256) := by show _ = _; rw [← HZ.out]; exact zeroP_len
  have hi : (Tryz.prog.info? 96).map (fun i => (i.zero, i.size, i.bytes)) = some (some (.agg (pgv Z).toArray), 256, 256) := by rw [← HZ.out]; exact info_page
  obtain ⟨N, HN⟩ : ∃ N, Hid (newN n = N) := ⟨_, rfl⟩
  have hN4 : N ≤ 244 := by rw [← HN.out]; unfold newN; omega
  have hN : min (max n 0) 244 = (N : Int) := by rw [← HN.out]; unfold newN; omega
  unfold newD
  rw [HN.out, HZ.out]
  go_enter Tryz.func26, Tryz.ntmps26
  go_wp2_with (first
    | (refine at_make 90 _ _ rfl ?_; go_must (refine wpList_makeR pgv 256 rfl _ _ 90 rfl 0 96 _ 256 Tryz.underlying90 hi Z (by simp [Value.cells]) (by rw [pgv_len, hZl.out]) (by decide) .i64 .i64 _ _ N rfl rfl ?hL ?hC ?hb2 ?hb3 (Nat.zero_le _) ?_; rotate_left 4; intro g1 w1 o1 f1 s1 t1))
    | (with_reducible refine at_wpP ?_; refine wpList_boxV rfl 94 _ rfl (pdL (.slice (some ⟨g1, 0, none⟩) N N) w1.heap.size (.slice none 0 0) false (-1)) rfl ?_; intro g2 w2 hg2 b2 f2 s2))
  all_goals first
    | omega
    | (unfold maxLen; omega)
    | (go_ret; exact ⟨g2, rfl, newD_mk o1 b2 f1 f2 s1 s2 hN4, (f1.thenN ((Fr.refl _ _).alloc _)).thenN f2⟩)

end Go.Proofs.YtmkinaijkgkgiaaGreat
/- The program's disk: Spoil, Pending. -/
namespace Go.Proofs.YtmkinaijkgkgiaaGreat
open Go.RowKit Go.Proofs.U Go.Maps
set_option linter.unusedSimpArgs false
set_option linter.unusedVariables false

theorem badK_put (bad : Int → Bool) (i : Int) (b : Bool) (kl : Lit) (h : kl ≠ .int .i64 i) : badK (fun x => if x == i then b else bad x) kl = badK bad kl := by
  unfold badK
  split
  · rename_i x
    have : x ≠ i := fun e => h (by rw [e])
    simp [this]
  · rfl

abbrev en64 (z : Int) : List Value := [Value.int .i64 z]
theorem info_int : (Tryz.prog.info? 3).map (fun i => (i.zero, i.size, i.bytes)) = some (some (.int .i64 0), 1, 8) := by kernel_rfl
theorem info_int2 : (Tryz.prog.info? 3).map (fun i => (i.zero, i.size)) = some (some (.int .i64 0), 1) := by kernel_rfl
theorem pwrite_size : (Tryz.prog.info? 150).map (·.size) = some 257 := by kernel_rfl
theorem pzero_write : (Tryz.prog.info? 150).map (·.zero) = some (some (.agg (encW (0, zeroP)).toArray)) := by kernel_rfl
theorem punder_write : Tryz.prog.underlying 150 = some (.struct (Tryz.prog.fieldsOf 150)) := by kernel_rfl

end Go.Proofs.YtmkinaijkgkgiaaGreat
/- A part of an element of an own row written by copy; pages mixed by sectors. -/
namespace Go.Proofs.U
open Go.RowKit
set_option linter.unusedSimpArgs false
set_option linter.unusedVariables false
theorem putAt_len (B ds : List Value) (off : Nat) (h : off + ds.length ≤ B.length) : (putAt B off ds).length = B.length := by
  unfold putAt; simp; omega
section
variable {α : Type} {ec : α → List Value} {sz : Nat} {e : TypeId} {w : World} {base : Nat} {l : List α}
end
end Go.Proofs.U
namespace Go.Proofs.YtmkinaijkgkgiaaGreat
open Go.RowKit Go.Proofs.U Go.Maps
set_option linter.unusedSimpArgs false
set_option linter.unusedVariables false

end Go.Proofs.YtmkinaijkgkgiaaGreat
/- The program's disk: settle, for both of its closures. (Written by settle_gen.py.) -/
namespace Go.Proofs.YtmkinaijkgkgiaaGreat
open Go.RowKit Go.Proofs.U Go.Maps
set_option linter.unusedSimpArgs false
set_option linter.unusedVariables false
theorem size_spwrite : (Tryz.prog.info? 92).map (·.size) = some 1 := by kernel_rfl

end Go.Proofs.YtmkinaijkgkgiaaGreat
/- The program's disk: Sync, Crash, Write. -/
namespace Go.Proofs.YtmkinaijkgkgiaaGreat
open Go.RowKit Go.Proofs.U Go.Maps
set_option linter.unusedSimpArgs false
set_option linter.unusedVariables false

def orNew (F : Nat → Prop) (w : World) : Nat → Prop := fun k => F k ∨ w.heap.size ≤ k

end Go.Proofs.YtmkinaijkgkgiaaGreat
/- The program's disk: Write. (Written by k7_gen.py.) -/
namespace Go.Proofs.U
open Go.RowKit
set_option linter.unusedSimpArgs false
set_option linter.unusedVariables false
section
variable {α : Type} {ec : α → List Value} {sz : Nat} {e : TypeId} {w : World} {base : Nat} {l : List α} {P : Program} {o : Oper} {a : Act} {Q : Exit → Act → World → Prop} {K : Act → World → Prop}
theorem run_mk1 (t : TypeId) (ht : P.underlying t = some (.slice e)) (z : Value) (hinfo : (P.info? e).map (fun i => (i.zero, i.size)) = some (some z, sz)) (hsz : 0 < sz) (hbig : sz ≤ 16777216)
    (x : α) (V : Value) (hV : V.cells = (ec x).toArray) (hx : (ec x).length = sz) (w : World) :
    (Instr.buildSlice t 1 #[(0, V)]).run P w = .ok (.slice (some ⟨w.heap.size, 0, none⟩) 1 1) (w.alloc (.cells (ec x).toArray e)) := by
  obtain ⟨ii, hinf, hq⟩ := Option.map_eq_some_iff.1 hinfo
  simp only [Prod.mk.injEq] at hq
  have hfill : ∀ X : Array Value, X.size = sz → Instr.fill (fun i => some (i * sz, sz)) X [(0, V)] = some (ec x).toArray := by
    intro X hX
    have h1 := fill_put (fun i => some (i * sz, sz)) X.toList 0 0 sz V (ec x) hV (by simp) hx (by rw [Array.length_toList, hX]; omega) []
    have e1 : X.toList.toArray = X := by simp
    rw [e1] at h1
    rw [h1, putAt_all _ _ (by rw [hx, ← hX]; exact Array.length_toList.symm)]
    rfl
  have hne : ¬ sz = 0 := by omega
  have hnb : ¬ 16777216 < sz := by omega
  have hf := hfill ((Array.range sz).map (fun k => z.cells[k % z.cells.size]!)) (by simp)
  unfold Instr.buildSlice
  simp [run_underlying ht, sizeOf, typeInfo, zeroValue, hinf, hq.1, hq.2, hne, hnb, hf, Sem.run_bind, Result.andThen]
  simp [go_sem]
theorem cells_new (w : World) (cs : List Value) (t : TypeId) : ∀ j u, cs[j]? = some u → (w.alloc (.cells cs.toArray t)).cell? ((⟨w.heap.size, 0, none⟩ : Addr).add j) = some u := by
  intro j u hj
  rw [Addr.plain, Nat.zero_add, World.cell?_alloc_new]
  simpa using hj
/-- append(s, x) of one element that lies in a block of its own: where the new row lies is told. -/
theorem wp_appR1 (s x : Operand) (t : TypeId) (ho : o.op = .call { callee := .builtin .append, args := #[s, x], argTypes := #[t, t] })
    (z : Value) (bytes : Nat) (ht : P.underlying t = some (.slice e)) (hinfo : (P.info? e).map (fun i => (i.zero, i.size, i.bytes)) = some (some z, sz, bytes)) (hzs : z.cells.size = sz) (hsz : 0 < sz)
    (v : Value) (hs : a.eval s = v) (hO : OwnR ec sz e w base v l) (g : Nat) (hx : a.eval x = .slice (some ⟨g, 0, none⟩) 1 1) (y : α) (hy : (ec y).length = sz) (hc : ∀ j u, (ec y)[j]? = some u → w.cell? ((⟨g, 0, none⟩ : Addr).add j) = some u) (h1 : ∀ u ∈ ec y, u.oneCell' = true)
    (h63 : l.length + 1 ≤ maxLen) (hbytes : (l.length + 1) * bytes ≤ 140737488355328) (hbase : base ≤ w.heap.size)
    (h : ∀ v' w', OwnR ec sz e w' base v' (l ++ [y]) → w.grownBy w' v.ownBlock → (v'.ownBlock = v.ownBlock ∨ v'.ownBlock = some w.heap.size) → K (a.put o.dst v') w') : o.wp P a w K Q := by
  obtain ⟨i0, hi, hz0, hz1, hz2⟩ := info_parts hinfo
  obtain ⟨v', w', hr, h2, h3, _, h5⟩ := run_append_own_at (P := P) w base t o.type e i0 z sz bytes ht hi hz0 hz1 hz2 hzs hsz v l.length (l.flatMap ec) hO.2 ⟨g, 0, none⟩ 1 1 (ec y) (by rw [hy]; omega) hc h1 h63 hbytes hbase
  unfold Oper.wp execOp
  simp only [ho, resolve, invoke, builtin, Sem.run_bind, Sem.run_pure, Result.andThen_ok, List.map_toArray, List.map_cons, List.map_nil, hs, hx, hr]
  refine h v' w' ⟨?_, ?_⟩ h3 h5
  · intro u hu
    rcases List.mem_append.1 hu with hu | hu
    · exact hO.1 u hu
    · simp at hu; subst hu; exact hy
  · simpa using h2
theorem run_st1 {w : World} {g off : Nat} (t : TypeId) (hi : (P.info? t).map (·.size) = some 1) (v : Value) (hv : v.oneCell' = true) (t' : TypeId) (cs : List Value) (hA : BxV w g t' cs) (hl : off < cs.length) :
    (Instr.storeAt t (.pointer (some ⟨g, off, none⟩)) v).run P w = .ok () (w.setCell ⟨g, off, none⟩ v) := by
  obtain ⟨i, hii, hs⟩ := Option.map_eq_some_iff.1 hi
  have hc := hA.cell off cs[off] (List.getElem?_eq_getElem hl)
  cases v with
  | agg cs => simp [Value.oneCell'] at hv
  | _ =>
    have hrs := run_store P w ⟨g, off, none⟩ _ .plain hv
    first
      | (simp [Instr.storeAt, Instr.sureAddr, storeVar, sizeOf, typeInfo, hii, hs, Value.cells, go_sem, hc.1, hc.2]; done)
      | (simp [Instr.storeAt, Instr.sureAddr, storeVar, sizeOf, typeInfo, hii, hs, Value.cells, go_sem, hc.1, hc.2, hrs]; done)
      | (simp [Instr.storeAt, Instr.sureAddr, storeVar, sizeOf, typeInfo, hii, hs, Value.cells, go_sem]; rw [hrs]; simp [hc.1, hc.2])
end
end Go.Proofs.U
namespace Go.Proofs.YtmkinaijkgkgiaaGreat
open Go.RowKit Go.Proofs.U Go.Maps
set_option linter.unusedSimpArgs false
set_option linter.unusedVariables false
theorem pplaces_write : (Tryz.prog.fieldsOf 150).toList.mapM (fun f => (Tryz.prog.info? f.type).map fun i => (f.offset, i.size)) = some [(0, 1), (1, 256)] := by kernel_rfl
theorem pinfo_write : (Tryz.prog.info? 150).map (fun i => (i.zero, i.size, i.bytes)) = some (some (.agg (encW (0, zeroP)).toArray), 257, 264) := by kernel_rfl
theorem pinfo_write2 : (Tryz.prog.info? 150).map (fun i => (i.zero, i.size)) = some (some (.agg (encW (0, zeroP)).toArray), 257) := by kernel_rfl
theorem pbuilt_write (i : Int) (p : List Int) (hp : p.length = 256) : Tryz.prog.built 150 [(0, .int .i64 i), (1, pgV p)] = some (encW (i, p)).toArray := by
  have hz : (encW (0, zeroP)).length = 257 := encW_len _ zeroP_len
  rw [built_struct _ _ punder_write _ pzero_write _ pplaces_write]
  rw [fill_put _ _ 0 0 1 (.int .i64 i) [.int .i64 i] rfl rfl rfl (by rw [hz]; decide)]
  rw [fill_put _ _ 1 1 256 (pgV p) (pgv p) rfl rfl (by rw [pgv_len, hp]) (by unfold putAt; simp [hz])]
  unfold Instr.fill
  congr 2
  unfold putAt encW
  simp [pgv_len, hp, zeroP_len]

def DSt.write (X : DSt) (i : Int) (p : List Int) : DSt := if inR X.pages.length i then (if X.actE = 0 then { X.act with pend := X.pend ++ [(i, p)] } else X.act) else X
def DSt.writeE (X : DSt) (i : Int) : Int := if inR X.pages.length i then X.actE else 41

/-- While the write is appended. -/
def JW (w0 : World) (g : Nat) (v1 : Value) (m : Nat) (v3 : Value) (d : Bool) (l : Int) (pend : List (Int × List Int)) (x : Int × List Int) : List Value → World → Prop
  | [], W => W = w0
  | [v], W => W = w0.alloc (.cells (encW x).toArray 150) ∧ v = .slice (some ⟨w0.heap.size, 0, none⟩) 1 1
  | [_, v], W => OwnR encW 257 150 W 0 v (pend ++ [x]) ∧ Fr (fun k => v3.ownBlock = some k) w0 W ∧ (v.ownBlock = v3.ownBlock ∨ v.ownBlock = some (w0.heap.size + 1))
  | [_, v, _], W => OwnR encW 257 150 W 0 v (pend ++ [x]) ∧ Fr (fun k => v3.ownBlock = some k ∨ k = g) w0 W ∧ BxV W g 94 (pdL v1 m v d l) ∧ (v.ownBlock = v3.ownBlock ∨ v.ownBlock = some (w0.heap.size + 1))
  | _, _ => False
theorem JW.fr {w0 : World} {g : Nat} {v1 : Value} {m : Nat} {v3 : Value} {d : Bool} {l : Int} {pend : List (Int × List Int)} {x : Int × List Int} : ∀ {hv : List Value} {W : World}, JW w0 g v1 m v3 d l pend x hv W → Fr (fun k => v3.ownBlock = some k ∨ k = g) w0 W
  | [], _, h => by cases h; exact Fr.refl _ _
  | [_], _, h => by obtain ⟨rfl, _⟩ := h; exact (Fr.refl _ _).alloc _
  | [_, _], _, h => h.2.1.mono (fun _ _ q => Or.inl q)
  | [_, _, _], _, h => h.2.1
  | _ :: _ :: _ :: _ :: _, _, h => h.elim

set_option maxRecDepth 100000 in
set_option maxHeartbeats 2000000 in
theorem write_any {F : Nat → Prop} {X : DSt} (g : Nat) (i : Int) (p : List Int) (hp : p.length = 256) (w : World) (hD : Disk w F g X) (hm : X.pend.length ≤ 100000) :
    Calls Tryz.prog 72 #[ptr g, .int .i64 i, pgV p] w fun r w' => r = .returned (.int .i64 (X.writeE i)) ∧ Disk w' (orNew F w) g (X.write i p) ∧ Fr F w w' := by
  have Hp := show Hid _ from hp
  clear hp
  unfold DSt.writeE DSt.write
  cases hin : inR X.pages.length i with
  | false =>
    go_enter Tryz.func72, Tryz.ntmps72
    go_wp2_with (first
      | (with_reducible refine at_wpP ?_; refine wpList_boxV rfl 96 _ rfl (pgv p) rfl ?_; intro g5 w5 hg5 p5 f5 s5)
      | (go_at_call 92; go_must (refine (has_any g i _ (hD.fr0 f5)).mono ?_; rintro e w' ⟨rfl, rfl⟩; rw [hin])))
    go_ret
    exact ⟨rfl, (hD.fr0 f5).mono (fun k _ q => Or.inl q), f5.mono (fun _ _ q => q.elim)⟩
  | true =>
    obtain ⟨E, HE⟩ : ∃ E, Hid (X.actE = E) := ⟨_, rfl⟩
    obtain ⟨X1, HX1⟩ : ∃ Y, Hid (X.act = Y) := ⟨_, rfl⟩
    have hX1 : X1.pend = X.pend ∧ X1.pages = X.pages := by rw [← HX1.out]; exact ⟨rfl, rfl⟩
    have hact : ∀ (F : Nat → Prop) (w : World), Disk w F g X → _ := fun F w h => act_any (F := F) g w h
    simp only [HE.out, HX1.out] at hact ⊢
    by_cases he : E = 0
    · subst he
      simp only [if_true]
      obtain ⟨Y, HY⟩ : ∃ Y, Hid (({ X1 with pend := X.pend ++ [(i, p)] } : DSt) = Y) := ⟨_, rfl⟩
      rw [HY.out]
      go_enter Tryz.func72, Tryz.ntmps72
      go_wp2_with (first
        | (with_reducible refine at_wpP ?_; refine wpList_boxV rfl 96 _ rfl (pgv p) rfl ?_; intro g5 w5 hg5 p5 f5 s5)
        | (go_at_call 92; go_must (refine (has_any g i _ (hD.fr0 f5)).mono ?_; rintro e w' ⟨rfl, rfl⟩; rw [hin]))
        | (go_at_call 93; go_must (refine (hact _ _ ((hD.mono (G := fun k => F k ∧ k < w.heap.size) (fun k hk q => ⟨q, hk⟩)).fr0 f5)).mono ?_; rintro e w6 ⟨rfl, ⟨v1, m, v3, d6⟩, f6⟩)))
      have hbx : BxV w6.drew g 94 (pdL v1 m v3 X1.down X1.left) := d6.bx
      have hO3 : OwnR encW 257 150 w6.drew 0 v3 X.pend := by rw [← hX1.1]; exact d6.pd.fr0 ((Fr.refl _ _).drew)
      have hg5w : w.heap.size ≤ g5 := by omega
      have p6 : BxV w6.drew g5 96 (pgv p) := p5.fr f6.drew (fun q => by have := q.2; omega)
      have hg5 : ¬ (v3.ownBlock = some g5 ∨ g5 = g) := by
        rintro (q | q)
        · have := (d6.f3 g5 q).2; omega
        · have := d6.fg.2; omega
      obtain ⟨a3, c3, rfl⟩ := hO3.opn
      obtain ⟨k2, k2f⟩ := hbx.cell 2 _ rfl
      have hg3 := d6.g3
      obtain ⟨w0, HW⟩ : ∃ w0, Hid (w6.drew = w0) := ⟨_, rfl⟩
      refine wp_region_chain_lay (by kernel_rfl) [8, 9, 12] [none, none, none, none, none, none, none, none, some 0, some 1, none, none, some 2]
        [fun v => v = ptr g, fun v => v = ptr g, fun v => v = ptr g, fun v => v = .pointer (some ⟨g, 2, none⟩), fun v => v = .slice a3 X.pend.length c3, fun v => v = .int .i64 i, fun v => v = pgV p, fun v => v = .agg (encW (i, p)).toArray, fun _ => True, fun _ => True, fun v => v = ptr g, fun v => v = .pointer (some ⟨g, 2, none⟩), fun _ => True]
        (JW w6.drew g v1 m (.slice a3 X.pend.length c3) X1.down X1.left X.pend (i, p)) (rfl) (by kernel_rfl) (by kernel_rfl) (by decide) ⟨?o0, ?o1, ?o2, ?o3, ?o4, ?o5, ?o6, ?o7, ?o8, ?o9, ?o10, ?o11, ?o12, trivial⟩ ?oe
      case o0 =>
        intro A W hv hlen hJ hbase hdL hdH
        have e0 : A.eval (.tmp 0) = ptr g := hbase 0 (by kernel_rfl)
        have f0 : A.tmps[0]?.getD undef = ptr g := by simpa [Act.eval] using e0
        exact light_val rfl (v := ptr g) (by simp [execOp, e0, f0]) hJ rfl
      case o1 =>
        intro A W hv hlen hJ hbase hdL hdH
        have e0 : A.eval (.tmp 0) = ptr g := hbase 0 (by kernel_rfl)
        have f0 : A.tmps[0]?.getD undef = ptr g := by simpa [Act.eval] using e0
        exact light_val rfl (v := ptr g) (by simp [execOp, e0, f0]) hJ rfl
      case o2 =>
        intro A W hv hlen hJ hbase hdL hdH
        have e18 : A.eval (.tmp 18) = ptr g := hdL 1 18 (by kernel_rfl) (by kernel_rfl) (by kernel_rfl)
        have f18 : A.tmps[18]?.getD undef = ptr g := by simpa [Act.eval] using e18
        exact light_val rfl (v := ptr g) (by simp [execOp, go_sem, e18, f18]) hJ rfl
      case o3 =>
        intro A W hv hlen hJ hbase hdL hdH
        have e19 : A.eval (.tmp 19) = ptr g := hdL 2 19 (by kernel_rfl) (by kernel_rfl) (by kernel_rfl)
        have f19 : A.tmps[19]?.getD undef = ptr g := by simpa [Act.eval] using e19
        exact light_val rfl (v := .pointer (some ⟨g, 2, none⟩)) (by simp [execOp, go_sem, e19, f19]) hJ rfl
      case o4 =>
        intro A W hv hlen hJ hbase hdL hdH
        have e20 : A.eval (.tmp 20) = .pointer (some ⟨g, 2, none⟩) := hdL 3 20 (by kernel_rfl) (by kernel_rfl) (by kernel_rfl)
        have f20 : A.tmps[20]?.getD undef = .pointer (some ⟨g, 2, none⟩) := by simpa [Act.eval] using e20
        have hb1 : hv.length ≤ 1 := hlen.2 1 9 rfl (by kernel_rfl)
        have hcW : W.cell? ⟨g, 2, none⟩ = some (.slice a3 X.pend.length c3) := by
          match hv, hb1, hJ with
          | [], _, hJ => cases hJ; exact k2
          | [_], _, hJ => obtain ⟨rfl, _⟩ := hJ; exact ((Fr.refl noB w6.drew).alloc _).cell k2 (fun q => q)
        exact light_val rfl (v := .slice a3 X.pend.length c3) (by simp [execOp, go_sem, e20, f20, hcW]) hJ rfl
      case o5 =>
        intro A W hv hlen hJ hbase hdL hdH
        have e1 : A.eval (.tmp 1) = .int .i64 i := hbase 1 (by kernel_rfl)
        have f1 : A.tmps[1]?.getD undef = .int .i64 i := by simpa [Act.eval] using e1
        exact light_val rfl (v := .int .i64 i) (by simp [execOp, e1, f1]) hJ rfl
      case o6 =>
        intro A W hv hlen hJ hbase hdL hdH
        have e5 : A.eval (.tmp 5) = .pointer (some ⟨g5, 0, none⟩) := hbase 5 (by kernel_rfl)
        have f5 : A.tmps[5]?.getD undef = .pointer (some ⟨g5, 0, none⟩) := by simpa [Act.eval] using e5
        have hB := p6.fr (JW.fr hJ) hg5
        have hr := run_loadP W g5 0 p (hB.range 0 (pgv p) (by show (pgv p).take (pgv p).length = pgv p; exact List.take_length)) Hp.out
        exact light_val rfl (v := pgV p) (by simp [execOp, e5, hr, Result.andThen]) hJ rfl
      case o7 =>
        intro A W hv hlen hJ hbase hdL hdH
        have e22 : A.eval (.tmp 22) = .int .i64 i := hdL 5 22 (by kernel_rfl) (by kernel_rfl) (by kernel_rfl)
        have f22 : A.tmps[22]?.getD undef = .int .i64 i := by simpa [Act.eval] using e22
        have e23 : A.eval (.tmp 23) = pgV p := hdL 6 23 (by kernel_rfl) (by kernel_rfl) (by kernel_rfl)
        have f23 : A.tmps[23]?.getD undef = pgV p := by simpa [Act.eval] using e23
        have hr := run_build (P := Tryz.prog) W 150 #[(0, .int .i64 i), (1, pgV p)] _ (pbuilt_write i p Hp.out)
        exact light_val rfl (v := .agg (encW (i, p)).toArray) (by simp [execOp, e22, e23, hr, Result.andThen]) hJ rfl
      case o8 =>
        intro A W hv hlen hJ hbase hdL hdH
        have e24 : A.eval (.tmp 24) = .agg (encW (i, p)).toArray := hdL 7 24 (by kernel_rfl) (by kernel_rfl) (by kernel_rfl)
        have f24 : A.tmps[24]?.getD undef = .agg (encW (i, p)).toArray := by simpa [Act.eval] using e24
        obtain rfl : hv = [] := List.eq_nil_of_length_eq_zero hlen
        cases hJ
        have hr := run_mk1 (P := Tryz.prog) (ec := encW) (sz := 257) 92 Tryz.underlying92 _ pinfo_write2 (by decide) (by decide) (i, p) (.agg (encW (i, p)).toArray) rfl (encW_len _ Hp.out) w6.drew
        exact heavy_val rfl (v := .slice (some ⟨w6.drew.heap.size, 0, none⟩) 1 1) (w' := w6.drew.alloc (.cells (encW (i, p)).toArray 150)) (by simp only [execOp]; simp [e24, hr, Result.andThen]) ⟨rfl, rfl⟩
      case o9 =>
        intro A W hv hlen hJ hbase hdL hdH
        have e21 : A.eval (.tmp 21) = .slice a3 X.pend.length c3 := hdL 4 21 (by kernel_rfl) (by kernel_rfl) (by kernel_rfl)
        have f21 : A.tmps[21]?.getD undef = .slice a3 X.pend.length c3 := by simpa [Act.eval] using e21
        obtain ⟨v25, rfl⟩ := List.length_eq_one_iff.1 hlen
        obtain ⟨rfl, rfl⟩ := hJ
        have e25 : A.eval (.tmp 25) = .slice (some ⟨w6.drew.heap.size, 0, none⟩) 1 1 := by have := hdH 8 25 0 (by kernel_rfl) rfl (by kernel_rfl); simpa using this.symm
        refine heavy_wp rfl ?_
        refine wp_appR1 (ec := encW) (sz := 257) (base := 0) (.tmp 21) (.tmp 25) 92 rfl _ 264 Tryz.underlying92 pinfo_write (by simp [Value.cells, encW, pgv_len, zeroP_len]) (by decide) _ e21 (hO3.fr0 ((Fr.refl _ _).alloc _)) w6.drew.heap.size e25 (i, p) (encW_len _ Hp.out) (cells_new w6.drew (encW (i, p)) 150) (encW_one _) (by unfold maxLen; omega) (by omega) (Nat.zero_le _) ?_
        intro v' w' hO' hg' hloc
        exact ⟨v', rfl, hO', ((Fr.refl _ _).alloc _).grown hg' (fun k hk _ => hk), by simpa using hloc⟩
      case o10 =>
        intro A W hv hlen hJ hbase hdL hdH
        have e17 : A.eval (.tmp 17) = ptr g := hdL 0 17 (by kernel_rfl) (by kernel_rfl) (by kernel_rfl)
        have f17 : A.tmps[17]?.getD undef = ptr g := by simpa [Act.eval] using e17
        exact light_val rfl (v := ptr g) (by simp [execOp, go_sem, e17, f17]) hJ rfl
      case o11 =>
        intro A W hv hlen hJ hbase hdL hdH
        have e27 : A.eval (.tmp 27) = ptr g := hdL 10 27 (by kernel_rfl) (by kernel_rfl) (by kernel_rfl)
        have f27 : A.tmps[27]?.getD undef = ptr g := by simpa [Act.eval] using e27
        exact light_val rfl (v := .pointer (some ⟨g, 2, none⟩)) (by simp [execOp, go_sem, e27, f27]) hJ rfl
      case o12 =>
        intro A W hv hlen hJ hbase hdL hdH
        have e28 : A.eval (.tmp 28) = .pointer (some ⟨g, 2, none⟩) := hdL 11 28 (by kernel_rfl) (by kernel_rfl) (by kernel_rfl)
        have f28 : A.tmps[28]?.getD undef = .pointer (some ⟨g, 2, none⟩) := by simpa [Act.eval] using e28
        match hv, hlen with
        | [x25, v26], _ =>
          obtain ⟨hO', hf', hloc⟩ := hJ
          have e26 : A.eval (.tmp 26) = v26 := by have := hdH 9 26 1 (by kernel_rfl) rfl (by kernel_rfl); simpa using this.symm
          have hB := hbx.fr hf' (fun q => hg3 g q rfl)
          obtain ⟨a6, c6, hv6⟩ := hO'.opn
          have hr := run_st1 (P := Tryz.prog) (off := 2) 92 size_spwrite v26 (by rw [hv6]; rfl) _ _ hB (by simp)
          have hb2 := hB.set 2 v26
          have hgw : ∀ k, v26.ownBlock = some k → k ≠ g := by
            intro k hk e
            subst e
            rcases hloc with q | q
            · rw [q] at hk; exact hg3 k hk rfl
            · rw [q] at hk; cases hk
              have := hbx.lt; omega
          refine heavy_wp rfl ?_
          unfold Oper.wp execOp
          simp only [e26, e28, Sem.run_bind, hr, Result.andThen_ok]
          refine ⟨undef, rfl, ?_, ?_, ?_, hloc⟩
          · exact hO'.ne ((Fr.refl (onB1 g) _).setCell _ _ (fun _ => rfl)) hgw
          · exact (hf'.mono (fun k _ q => Or.inl q)).setCell _ _ (fun _ => Or.inr rfl)
          · simpa using hb2
      case oe =>
        intro vs W' hv hlen hJ hL hH
        match hv, hlen with
        | [y1, v', y3], _ =>
          obtain ⟨hO', hf', hb', hloc⟩ := hJ
          simp only [layL, Nat.reduceAdd, Act.put, List.setIfInBounds_toArray, List.set_cons_zero, List.set_cons_succ]
          clear hL hH
          generalize vs 0 = y100 at *
          generalize vs 1 = y101 at *
          generalize vs 2 = y102 at *
          generalize vs 3 = y103 at *
          generalize vs 4 = y104 at *
          generalize vs 5 = y105 at *
          generalize vs 6 = y106 at *
          generalize vs 7 = y107 at *
          generalize vs 8 = y108 at *
          generalize vs 9 = y109 at *
          generalize vs 10 = y110 at *
          generalize vs 11 = y111 at *
          generalize vs 12 = y112 at *
          have hsz6 := f6.size
          have hsz5 := f5.size
          have hdz : w6.drew.heap.size = w6.heap.size := rfl
          have hfin : Disk W' (orNew F w) g Y := by
            rw [← HY.out]
            refine ⟨v1, m, v', ?_⟩
            exact { d6 with
              bx := hb'
              st := (d6.st.fr0 ((Fr.refl _ _).drew)).fr hf' (fun q hq hq' => by
                rcases hq' with hq' | hq'
                · exact d6.k13 q hq hq'
                · exact d6.g1 q hq hq')
              mp := MapI.fr (w := w6.drew) (d6.mp.fr ((Fr.refl noB _).drew) (fun q => q)) hf' (fun hq' => by
                rcases hq' with hq' | hq'
                · exact d6.m3 m hq' rfl
                · exact d6.gm hq')
              pd := hO'
              fg := Or.inl d6.fg.1
              fm := Or.inl d6.fm.1
              f1 := fun k hk => Or.inl (d6.f1 k hk).1
              f3 := fun k hk => by
                rcases hloc with e | e
                · rw [e] at hk; exact Or.inl (d6.f3 k hk).1
                · rw [e] at hk; cases hk; right; omega
              pin := fun x hx => by
                rcases List.mem_append.1 hx with hx | hx
                · exact d6.pin x (by rw [hX1.1]; exact hx)
                · simp at hx; subst hx
                  simp only
                  rw [hX1.2]
                  simpa [inR] using hin }
          have hF : Fr F w W' := by
            have h1 : Fr F w w6 := (f5.mono (fun _ _ q => q.elim)).thenT f6 (fun k _ q => q.1)
            exact h1.drew.thenT hf' (fun k _ q => by
              rcases q with q | q
              · exact (d6.f3 k q).1
              · exact q ▸ d6.fg.1)
          go_wp2
          go_ret
          exact ⟨rfl, hfin, hF⟩
    · rw [if_neg he]
      go_enter Tryz.func72, Tryz.ntmps72
      go_wp2_with (first
        | (with_reducible refine at_wpP ?_; refine wpList_boxV rfl 96 _ rfl (pgv p) rfl ?_; intro g5 w5 hg5 p5 f5 s5)
        | (go_at_call 92; go_must (refine (has_any g i _ (hD.fr0 f5)).mono ?_; rintro e w' ⟨rfl, rfl⟩; rw [hin]))
        | (go_at_call 93; go_must (refine (hact _ _ (hD.fr0 f5)).mono ?_; rintro e w6 ⟨rfl, d6, f6⟩)))
      go_ret
      exact ⟨rfl, d6.mono (fun k _ q => Or.inl q), (f5.mono (fun _ _ q => q.elim)).trans f6⟩
end Go.Proofs.YtmkinaijkgkgiaaGreat
/- slices.Backward over the pending writes. -/
namespace Go.Proofs.U
open Go.RowKit
set_option linter.unusedSimpArgs false
set_option linter.unusedVariables false
section
variable {F : Fence} {nF : Nat} {P : Program} {w : World} {ops : Array Oper} {rest : List Oper} {o : Oper} {a : Act} {Q : Exit → Act → World → Prop}
theorem at_ldI (t : TypeId) (x : Operand) (_ho : o.op = .load t x) (h : wpListIn F nF P ops Q (o :: rest) a w) : wpListIn F nF P ops Q (o :: rest) a w := h
theorem at_stI (t : TypeId) (x y : Operand) (_ho : o.op = .store t x y) (h : wpListIn F nF P ops Q (o :: rest) a w) : wpListIn F nF P ops Q (o :: rest) a w := h
theorem wpListIn_ld (hgd : o.guard = none) (t : TypeId) (x : Operand) (ho : o.op = .load t x) (p u : Value) (hx : a.eval x = p) (hr : (Instr.loadAt t p).run P w = .ok u w)
    (h : wpListIn F nF P ops Q rest (a.put o.dst u) w) : wpListIn F nF P ops Q (o :: rest) a w := by
  refine wpListIn_plain hgd fun K' hK' => ?_
  unfold Oper.wpIn
  refine ⟨by simp [Oper.about, ho], ?_⟩
  rw [Oper.semAt_plain F _ _ (by rw [ho]; intro c hc'; cases hc')]
  simp only [execOp, ho, hx]
  simp [hr, Result.andThen]
  exact hK' _ _ h
theorem wpListIn_st (hgd : o.guard = none) (t : TypeId) (x y : Operand) (ho : o.op = .store t x y) (p u : Value) (hx : a.eval x = p) (hy : a.eval y = u) (w' : World) (hr : (Instr.storeAt t p u).run P w = .ok () w')
    (h : wpListIn F nF P ops Q rest (a.put o.dst undef) w') : wpListIn F nF P ops Q (o :: rest) a w := by
  refine wpListIn_plain hgd fun K' hK' => ?_
  unfold Oper.wpIn
  refine ⟨by simp [Oper.about, ho], ?_⟩
  rw [Oper.semAt_plain F _ _ (by rw [ho]; intro c hc'; cases hc')]
  simp only [execOp, ho, hx, hy]
  simp [hr, Result.andThen]
  exact hK' _ _ h
theorem at_alI (t : TypeId) (_ho : o.op = .alloc t) (h : wpListIn F nF P ops Q (o :: rest) a w) : wpListIn F nF P ops Q (o :: rest) a w := h
theorem wpListIn_storeV (hgd : o.guard = none) (t : TypeId) (x y : Operand) (ho : o.op = .store t x y) (g off : Nat) (hx : a.eval x = .pointer (some ⟨g, off, none⟩)) (ds : List Value) (hy : a.eval y = .agg ds.toArray) (t' : TypeId) (cs : List Value) (hA : BxV w g t' cs)
    (hi : (P.info? t).map (·.size) = some ds.length) (hl : off + ds.length ≤ cs.length) (h1 : ∀ v ∈ ds, v.oneCell' = true)
    (h : ∀ w', BxV w' g t' (putAt cs off ds) → Fr (onB1 g) w w' → wpListIn F nF P ops Q rest (a.put o.dst undef) w') : wpListIn F nF P ops Q (o :: rest) a w := by
  have hr := run_storeAt_mid (P := P) w g off t ds.toArray (by simpa using hA.thereR off ds.length hl) (by simpa using hi) (all_oneCell_toArray h1)
  refine wpListIn_st hgd t x y ho _ _ hx hy _ hr (h _ ?_ ?_)
  · exact setCells_bx ds off w cs hA hl
  · exact setCells_fr1 w g _ off
theorem wpListIn_store1 (hgd : o.guard = none) (t : TypeId) (x y : Operand) (ho : o.op = .store t x y) (g off : Nat) (hx : a.eval x = .pointer (some ⟨g, off, none⟩)) (v : Value) (hy : a.eval y = v) (hv : v.oneCell' = true) (t' : TypeId) (cs : List Value) (hA : BxV w g t' cs)
    (hi : (P.info? t).map (·.size) = some 1) (hl : off < cs.length)
    (h : ∀ w', BxV w' g t' (cs.set off v) → Fr (onB1 g) w w' → wpListIn F nF P ops Q rest (a.put o.dst undef) w') : wpListIn F nF P ops Q (o :: rest) a w := by
  refine wpListIn_st hgd t x y ho _ _ hx hy _ (run_st1 (P := P) (off := off) t hi v hv t' cs hA hl) (h _ (hA.set off v) (Fr.setCell (S := onB1 g) (Fr.refl _ _) _ _ (fun _ => rfl)))
theorem keepsFrom_of_fr {B : Nat} {S : Nat → Prop} {W W' : World} (f : Fr S W W') (hS : ∀ k o, S k → W.heap[k]? = some o → o.isCells = true) : KeepsFrom B W W' :=
  ⟨f.size, fun k o _ hk ho => (f.block k (Array.getElem?_eq_some_iff.1 hk).1 (fun q => by have := hS k o q hk; rw [ho] at this; cases this)).trans hk⟩
theorem below_of_fr {B : Nat} {W W' : World} (f : Fr noB W W') (hB : B ≤ W.heap.size) : Below B W W' := ⟨f.os, f.tape, f.output, f.size, fun k hk => f.block k (Nat.lt_of_lt_of_le hk hB) (fun q => q)⟩
theorem wpListIn_allocV (hgd : o.guard = none) (t : TypeId) (ho : o.op = .alloc t) (zs : List Value) (hz : (P.info? t).map (·.zero) = some (some (.agg zs.toArray)))
    (h : ∀ g w', g = w.heap.size → w' = w.alloc (.cells zs.toArray t) → BxV w' g t zs → Fr noB w w' → wpListIn F nF P ops Q rest (a.put o.dst (.pointer (some ⟨g, 0, none⟩))) w') : wpListIn F nF P ops Q (o :: rest) a w := by
  refine wpListIn_plain hgd fun K' hK' => ?_
  unfold Oper.wpIn
  refine ⟨by simp [Oper.about, ho], ?_⟩
  rw [Oper.semAt_plain F _ _ (by rw [ho]; intro c hc'; cases hc')]
  obtain ⟨i, hi, hzz⟩ := Option.map_eq_some_iff.1 hz
  simp only [execOp, ho]
  simp [Instr.alloc, zeroValue, typeInfo, hi, hzz, go_sem, Value.cells]
  refine hK' _ _ (h w.heap.size _ rfl rfl ?_ ((Fr.refl _ _).alloc _))
  show (w.heap.push _)[w.heap.size]? = _
  rw [Array.getElem?_push, if_pos rfl]
end
end Go.Proofs.U
namespace Go.Proofs.YtmkinaijkgkgiaaGreat
open Go.RowKit Go.Shelf Go.Proofs.U
attribute [local go_sem] Oper.semAt_some
set_option linter.unusedSimpArgs false
set_option linter.unusedVariables false

/-- A write of a page. -/
abbrev Wr := { x : Int × List Int // x.2.length = 256 }
theorem wr_list : ∀ pend : List (Int × List Int), (∀ x ∈ pend, x.2.length = 256) → ∃ zs : List Wr, zs.map (·.1) = pend
  | [], _ => ⟨[], rfl⟩
  | x :: l, h => by
    obtain ⟨zs, hz⟩ := wr_list l (fun y hy => h y (by simp [hy]))
    exact ⟨⟨x, h x (by simp)⟩ :: zs, by simp [hz]⟩
def wr0 : Wr := ⟨(0, zeroP), zeroP_len⟩
def bkW (zs : List Wr) (j : Nat) : Int × Wr := (((zs.length : Int) - 1 - j), zs[zs.length - 1 - j]?.getD wr0)
def uptoL {α : Type} (f : Nat → α) (k : Nat) : List α := (List.range k).map f
theorem uptoL_succ {α : Type} (f : Nat → α) (k : Nat) : uptoL f (k + 1) = uptoL f k ++ [f k] := by simp [uptoL, List.range_succ]
theorem uptoL_length {α : Type} (f : Nat → α) (k : Nat) : (uptoL f k).length = k := by simp [uptoL]
abbrev encX (x : Int × Wr) : Array Value := #[.int .i64 x.1, .agg (encW x.2.1).toArray]

set_option maxRecDepth 100000 in
set_option maxHeartbeats 2000000 in
theorem bkw1_in (F : Fence) (n : Nat) (h7 : F.fn 108) (hro : F.round = none) (hn : 1 ≤ n) (l Bs n₀ b cap : Nat) (zs : List Wr) (hreach : zs.length ≤ 1000000000000) (hb : b < n₀) (hBs : Bs < n₀) (J Jx : List (Int × Wr) → World → Prop)
    (hY : ∀ pre x W, J pre W → pre.length < zs.length → YieldAt F (n - 1) Tryz.prog l (encX x) W fun e W' =>
      (e = .returned (.bool true) ∧ J (pre ++ [x]) W' ∧ Below n₀ W W') ∨ (e = .returned (.bool false) ∧ Jx (pre ++ [x]) W'))
    (W : World) (hc0 : W.cell? ⟨Bs, 0, none⟩ = some (.slice (some ⟨b, 0, none⟩) zs.length cap)) (hc : ∀ j (hj : j < zs.length), W.rangeAt b (j * 257) (encW zs[j].1)) (h0 : J [] W) :
    CallsIn F n Tryz.prog 108 #[.func (.yield l) #[] #[], .pointer (some ⟨Bs, 0, none⟩)] W fun e W' => (∃ v, e = .returned v) ∧
      ((∃ ys, ys = uptoL (bkW zs) zs.length ∧ J ys W') ∨ (∃ pre, (∃ k, k ≤ zs.length ∧ pre = uptoL (bkW zs) k) ∧ Jx pre W')) := by
  refine callsIn_of_wp Tryz.func108 rfl h7 ?_ hro
  simp only [Tryz.ntmps108, List.size_toArray, List.length_cons, List.length_nil, Nat.reduceAdd, Nat.reduceSub, Array.replicate_succ, Array.replicate_zero, List.push_toArray, List.append_toArray, List.nil_append, List.cons_append]
  gi_wp2
  gi_loopw [3] (fun i wr => ∃ k : Nat, k ≤ zs.length ∧ i = .int .i64 ((zs.length : Int) - 1 - k) ∧ J (uptoL (bkW zs) k) wr ∧ Below n₀ W wr)
    (fun i _ => (intOf i + 1).toNat)
  case atStart => exact ⟨0, Nat.zero_le _, by simp, h0, Below.refl _ _⟩
  case round =>
    obtain ⟨k, hk, rfl, hJs, hnx⟩ := hrel
    have hc0' := (hnx.cell (p := ⟨Bs, 0, none⟩) hBs).trans hc0
    by_cases hlt : k < zs.length
    · obtain ⟨fn, tmps, assign, body, hy, hR⟩ := hY _ (bkW zs k) wr hJs (by rw [uptoL_length]; exact hlt)
      dsimp only [bkW, encX] at hy
      obtain ⟨j, Hj⟩ : ∃ j, Hid (zs.length - 1 - k = j) := ⟨_, rfl⟩
      have hjl : j < zs.length := by rw [← Hj.out]; omega
      have hji : (zs.length : Int) - 1 - k = (j : Int) := by rw [← Hj.out]; omega
      rw [Hj.out, hji] at hy
      rw [hji]
      have hgz : zs[j]?.getD wr0 = zs[j] := by simp [hjl]
      rw [hgz] at hy
      obtain ⟨x, Hx⟩ : ∃ x, Hid (zs[j] = x) := ⟨_, (rfl : zs[j] = zs[j])⟩
      have hrg : wr.rangeAt b (j * 257) (encW x.1) := by
        intro q v hq
        rw [← Hx.out] at hq
        exact (hnx.cell (p := ⟨b, j * 257 + q, none⟩) hb).trans (hc j hjl q v hq)
      rw [Hx.out] at hy
      have hri : ∀ W, (Instr.indexAt 92 (.slice (some ⟨b, 0, none⟩) zs.length cap) (.int .i64 (j : Int))).run Tryz.prog W = .ok (.pointer (some ⟨b, j * 257, none⟩)) W := fun W => run_idxO _ 150 Tryz.underlying92 pwrite_size b zs.length cap .i64 j hjl
      have hrl : (Instr.loadAt 150 (.pointer (some ⟨b, j * 257, none⟩))).run Tryz.prog wr = .ok (.agg (encW x.1).toArray) wr := by
        simp only [Instr.loadAt, Instr.sureAddr, Sem.run_bind, Sem.run_pure, Result.andThen_ok, run_loadVar_mid wr b (j * 257) 150 (encW x.1) _ hrg punder_write rfl (by rw [pwrite_size, encW_len _ x.2])]
      have hi1 : (0 : Int) ≤ (j : Int) := by omega
      gi_wp2_with (first | (refine at_ldI 150 _ rfl ?_; go_must (refine wpListIn_ld rfl 150 _ rfl _ _ rfl hrl ?_)))
      refine hR.mono ?_
      rintro e W3 (⟨rfl, hJ3, hk3⟩ | ⟨rfl, hJx3⟩)
      · gi_wp2
        go_roundw
        case rel => exact ⟨k + 1, by omega, by go_num, by rw [uptoL_succ]; exact hJ3, hnx.trans hk3⟩
        case measure => simp [intOf]
      · gi_wp2
        refine bodyPost_ret (results_none rfl _ _ _) rfl ?_
        exact ⟨⟨_, rfl⟩, .inr ⟨_, ⟨k + 1, by omega, (uptoL_succ _ _).symm⟩, hJx3⟩⟩
    · obtain rfl : k = zs.length := by omega
      gi_wp2
      go_end0
      exact ⟨⟨_, rfl⟩, .inl ⟨_, rfl, hJs⟩⟩

set_option maxRecDepth 100000 in
set_option maxHeartbeats 1000000 in
theorem bkw1_nil_in (F : Fence) (n : Nat) (h7 : F.fn 108) (hro : F.round = none) (l Bs : Nat) (a : Option Addr) (cap : Nat) (J : List (Int × Wr) → World → Prop) (W : World) (hBs : W.cell? ⟨Bs, 0, none⟩ = some (.slice a 0 cap)) (h0 : J [] W) :
    CallsIn F n Tryz.prog 108 #[.func (.yield l) #[] #[], .pointer (some ⟨Bs, 0, none⟩)] W fun e W' => (∃ v, e = .returned v) ∧ J [] W' := by
  refine callsIn_of_wp Tryz.func108 rfl h7 ?_ hro
  simp only [Tryz.ntmps108, List.size_toArray, List.length_cons, List.length_nil, Nat.reduceAdd, Nat.reduceSub, Array.replicate_succ, Array.replicate_zero, List.push_toArray, List.append_toArray, List.nil_append, List.cons_append]
  gi_wp2
  gi_loopw [3] (fun i wr => i = .int .i64 (-1) ∧ J [] wr) (fun _ _ => 0)
  case atStart => exact ⟨rfl, h0⟩
  case round =>
    obtain ⟨rfl, hJs⟩ := hrel
    gi_wp2
    go_end0
    exact ⟨⟨_, rfl⟩, hJs⟩

theorem bkw_any (a : Option Addr) (len cap : Nat) (w : World) :
    Calls Tryz.prog 98 #[.slice a len cap] w fun e w' => e = .returned (.func (.func 108) #[] #[.pointer (some ⟨w.heap.size, 0, none⟩)]) ∧ w' = w.alloc (.cells #[.slice a len cap] 92) := by
  go_enter Tryz.func98, Tryz.ntmps98
  go_wp2
  go_ret
  exact ⟨rfl, rfl⟩

/-- slices.Backward over writes that lie below n₀: for every body that keeps all there. -/
theorem bkw_stops (F : Fence) (n : Nat) (h7 : F.fn 108) (hro : F.round = none) (hn : 1 ≤ n) (Bs : Nat) (sv : Value) (zs : List Wr) (hreach : zs.length ≤ 1000000000000) (w : World) (hBs : Bs < w.heap.size)
    (hc : w.cell? ⟨Bs, 0, none⟩ = some sv) (hI : OwnR encW 257 150 w 0 sv (zs.map (·.1))) :
    SeqStopsK F n Tryz.prog 108 #[.pointer (some ⟨Bs, 0, none⟩)] encX (Below w.heap.size) (fun ys => ys = uptoL (bkW zs) zs.length)
      (fun pre => ∃ k, k ≤ zs.length ∧ pre = uptoL (bkW zs) k) zs.length w := fun l J Jx W hW _ _ hY h0 => by
  have hc' := (hW.cell (p := ⟨Bs, 0, none⟩) hBs).trans hc
  have hI' := hI.fr0 (Fr.of_below hW)
  by_cases hz : zs.length = 0
  · obtain ⟨a0, c0, rfl⟩ := hI.opn
    rw [List.length_map, hz] at hc'
    refine (bkw1_nil_in F n h7 hro l Bs a0 c0 J W hc' h0).mono fun e W' ⟨he, hj⟩ => ⟨he, .inl ⟨[], ?_, hj⟩⟩
    simp [uptoL, hz]
  · obtain ⟨b, cap', cur, hv, _, _, _, _, _⟩ := hI'.bx (by rw [List.length_map]; omega)
    rw [hv] at hc' hI' hI
    have hbw := (hI.newB b rfl).2
    refine bkw1_in F n h7 hro hn l Bs w.heap.size b cap' zs hreach hbw hBs J Jx hY W (by rw [hc', List.length_map]) (fun j hj => ?_) h0
    have := OwnR.rangeK hI' j (by rw [List.length_map]; exact hj)
    simpa using this
end Go.Proofs.YtmkinaijkgkgiaaGreat
