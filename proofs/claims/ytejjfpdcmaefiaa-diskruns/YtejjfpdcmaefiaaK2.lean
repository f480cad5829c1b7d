/- The program's disk: New, Stable, Spoil, Pending. -/
import Derived.Test.YtejjfpdcmaefiaaK1
namespace Go.Proofs.U
open Go.RowKit
set_option linter.unusedSimpArgs false
set_option linter.unusedVariables false
theorem madeCells_flat {α : Type} (ec : α → List Value) (sz : Nat) (x : α) (cs : Array Value) (hc : cs.toList = ec x) (hs : (ec x).length = sz) (hz : 0 < sz) (n : Nat) : (madeCells cs (n * sz)).toList = (List.replicate n x).flatMap ec := by
  have hsz : cs.size = sz := by rw [← hs, ← hc, Array.length_toList]
  have h1 : ∀ m, (madeCells cs m).toList = (List.range m).map (fun i => cs[i % sz]!) := by
    intro m; simp [madeCells, hsz]
  rw [h1]
  induction n with
  | zero => simp
  | succ n ih =>
    rw [List.replicate_succ', List.flatMap_append, ← ih, Nat.succ_mul, List.range_add, List.map_append]
    congr 1
    simp only [List.flatMap_cons, List.flatMap_nil, List.append_nil, List.map_map]
    rw [← hc]
    apply List.ext_getElem
    · simp [hsz]
    · intro i h2 h3
      have h4 : i < sz := by simpa using h2
      simp
      rw [Nat.mod_eq_of_lt h4, getElem!_pos cs i (by omega)]
section
variable {α : Type} {P : Program} {w : World} {ops : Array Oper} {rest : List Oper} {o : Oper} {a : Act} {Q : Exit → Act → World → Prop}
/-- make([]T, n): n elements x, x the zero value. -/
theorem wpList_makeR (ec : α → List Value) (sz : Nat) (hg : o.guard = none) (l c : Operand) (t : TypeId) (hop : o.op = Op.makeSlice t l c)
    (base : Nat) (e : TypeId) (z : Value) (bytes : Nat) (h1 : P.underlying t = some (.slice e)) (hinfo : (P.info? e).map (fun i => (i.zero, i.size, i.bytes)) = some (some z, sz, bytes)) (x : α) (hx : z.cells.toList = ec x) (hs : (ec x).length = sz) (hz : 0 < sz)
    (kl kc : IntKind) (L C : Int) (n : Nat) (hl : a.eval l = .int kl L) (hc : a.eval c = .int kc C) (hL : L = (n : Int)) (hC : C = (n : Int)) (b2 : bytes * n ≤ 281474976710656) (b3 : n ≤ maxLen) (b4 : base ≤ w.heap.size)
    (hK : ∀ g w', OwnR ec sz e w' base (.slice (some ⟨g, 0, none⟩) n n) (List.replicate n x) → Fr noB w w' → w.heap.size ≤ g → g < w'.heap.size → wpList P ops Q rest (a.put o.dst (.slice (some ⟨g, 0, none⟩) n n)) w') :
    wpList P ops Q (o :: rest) a w := by
  obtain ⟨i0, hi, hz0, hz1, hz2⟩ := info_parts hinfo
  refine wpList_make_full w hg l c t hop base e i0 z sz h1 hi hz0 hz1 kl kc L C n hl hc hL hC (by rw [hz2]; exact b2) b3 b4 ?_
  intro w' ho hgr
  have ho' : w'.ownsRow base e sz (.slice (some ⟨w.heap.size, 0, none⟩) n n) (List.replicate n x).length ((List.replicate n x).flatMap ec) := by
    rw [← madeCells_flat ec sz x z.cells hx hs hz n, List.length_replicate]; exact ho
  have hlt := (World.ownsRow.lt ho' w.heap.size rfl).2
  refine hK w.heap.size w' ⟨?_, ho'⟩ (Fr.of_grown hgr) (Nat.le_refl _) hlt
  intro y hy
  rw [List.eq_of_mem_replicate hy]; exact hs
/-- make([]T, 0, n). -/
theorem wpList_make0R (ec : α → List Value) (sz : Nat) (hg : o.guard = none) (l c : Operand) (t : TypeId) (hop : o.op = Op.makeSlice t l c)
    (base : Nat) (e : TypeId) (z : Value) (bytes : Nat) (h1 : P.underlying t = some (.slice e)) (hinfo : (P.info? e).map (fun i => (i.zero, i.size, i.bytes)) = some (some z, sz, bytes))
    (kl kc : IntKind) (C : Int) (n : Nat) (hl : a.eval l = .int kl 0) (hc : a.eval c = .int kc C) (hC : C = (n : Int)) (b2 : bytes * n ≤ 281474976710656) (b3 : n ≤ maxLen) (b4 : base ≤ w.heap.size)
    (hK : ∀ g w', OwnR ec sz e w' base (.slice (some ⟨g, 0, none⟩) 0 n) ([] : List α) → Fr noB w w' → w.heap.size ≤ g → g < w'.heap.size → wpList P ops Q rest (a.put o.dst (.slice (some ⟨g, 0, none⟩) 0 n)) w') :
    wpList P ops Q (o :: rest) a w := by
  obtain ⟨i0, hi, hz0, hz1, hz2⟩ := info_parts hinfo
  refine wpList_make_own w hg l c t hop base e i0 z sz h1 hi hz0 hz1 kl kc C n hl hc hC (by rw [hz2]; exact b2) b3 b4 ?_
  intro w' ho hgr
  exact hK w.heap.size w' ⟨by simp, ho⟩ (Fr.of_grown hgr) (Nat.le_refl _) (World.ownsRow.lt ho w.heap.size rfl).2
end
end Go.Proofs.U
namespace Go.Proofs.Ytejjfpdcmaefiaa
open Go.RowKit Go.Proofs.U Go.Maps
set_option linter.unusedSimpArgs false
set_option linter.unusedVariables false

def newD (n : Int) : DSt := ⟨List.replicate (newN n) zeroP, fun _ => false, [], false, -1⟩

theorem newD_mk {w w1 w2 : World} {g1 g2 N : Nat} {Z : List Int} (o1 : OwnR pgv 256 25 w1 0 (.slice (some ⟨g1, 0, none⟩) N N) (List.replicate N Z))
    (b2 : BxV w2 g2 66 (pdL (.slice (some ⟨g1, 0, none⟩) N N) w1.heap.size (.slice none 0 0) false (-1))) (f1 : Fr noB w w1) (f2 : Fr noB (w1.alloc (.map #[] 0)) w2) (s1 : w.heap.size ≤ g1) (s2 : (w1.alloc (.map #[] 0)).heap.size ≤ g2) (hN4 : N ≤ 244) :
    Disk w2 (fun k => w.heap.size ≤ k) g2 ⟨List.replicate N Z, fun _ => false, [], false, -1⟩ := by
  have fm : Fr noB w1 (w1.alloc (.map #[] 0)) := (Fr.refl _ _).alloc _
  have z1 := f1.size
  have z2 := f2.size
  have hmz : (w1.alloc (.map #[] 0)).heap.size = w1.heap.size + 1 := by simp
  exact ⟨.slice (some ⟨g1, 0, none⟩) N N, w1.heap.size, .slice none 0 0, {
    bx := b2
    st := (o1.fr0 fm).fr0 f2
    mp := MapI.fr ⟨0, .map [], World.ownsMap_made w1 Try.prog 3 unitElem, fun kl => by cases kl with | int k x => cases k <;> rfl | _ => rfl⟩ f2 (fun q => q)
    pd := OwnR.none _ _
    fg := by omega
    fm := by omega
    f1 := fun k hk => by simp [Value.ownBlock] at hk; omega
    f3 := fun k hk => by simp [Value.ownBlock] at hk
    lft := by simp only; omega
    len := by simpa using hN4
    bin := fun x hx => by simp at hx
    pin := fun x hx => by simp at hx }⟩

set_option maxRecDepth 100000 in
set_option maxHeartbeats 1000000 in
theorem new_any (n : Int) (hn : -9223372036854775808 ≤ n ∧ n ≤ 9223372036854775807) (w : World) :
    Calls Try.prog 9 #[.int .i64 n] w fun r w' => ∃ g, r = .returned (ptr g) ∧ Disk w' (fun k => w.heap.size ≤ k) g (newD n) ∧ Fr noB w w' := by
  have hmm := @run_makeMap Try.prog
  obtain ⟨Z, HZ⟩ : ∃ Z, Hid (zeroP = Z) := ⟨_, rfl⟩
  have hZl : Hid (Z.length = 256) := by show _ = _; rw [← HZ.out]; exact zeroP_len
  have hi : (Try.prog.info? 25).map (fun i => (i.zero, i.size, i.bytes)) = some (some (.agg (pgv Z).toArray), 256, 256) := by rw [← HZ.out]; exact info_page
  obtain ⟨N, HN⟩ : ∃ N, Hid (newN n = N) := ⟨_, rfl⟩
  have hN4 : N ≤ 244 := by rw [← HN.out]; unfold newN; omega
  have hN : min (max n 0) 244 = (N : Int) := by rw [← HN.out]; unfold newN; omega
  unfold newD
  rw [HN.out, HZ.out]
  go_enter Try.func9, Try.ntmps9
  go_wp2_with (first
    | (refine at_make 35 _ _ rfl ?_; go_must (refine wpList_makeR pgv 256 rfl _ _ 35 rfl 0 25 _ 256 Try.underlying35 hi Z (by simp [Value.cells]) (by rw [pgv_len, hZl.out]) (by decide) .i64 .i64 _ _ N rfl rfl ?hL ?hC ?hb2 ?hb3 (Nat.zero_le _) ?_; rotate_left 4; intro g1 w1 o1 f1 s1 t1))
    | (with_reducible refine at_wpP ?_; refine wpList_boxV rfl 66 _ rfl (pdL (.slice (some ⟨g1, 0, none⟩) N N) w1.heap.size (.slice none 0 0) false (-1)) rfl ?_; intro g2 w2 hg2 b2 f2 s2))
  all_goals first
    | omega
    | (unfold maxLen; omega)
    | (go_ret; exact ⟨g2, rfl, newD_mk o1 b2 f1 f2 s1 s2 hN4, (f1.thenN ((Fr.refl _ _).alloc _)).thenN f2⟩)

/-- Stable's answer. -/
def stabR (X : DSt) (i : Int) : List Int × Int := if inR X.pages.length i then (X.pages.getD i.toNat [], 0) else (zeroP, 41)

set_option maxRecDepth 100000 in
set_option maxHeartbeats 1000000 in
theorem stable_any {F : Nat → Prop} {X : DSt} (g : Nat) (i : Int) (w : World) (h : Disk w F g X) :
    Calls Try.prog 29 #[ptr g, .int .i64 i] w fun r w' => r = .returned (.tuple #[pgV (stabR X i).1, .int .i64 (stabR X i).2]) ∧ Fr noB w w' := by
  have hD := h
  obtain ⟨v1, m, v3, h⟩ := h
  obtain ⟨a1, c1, rfl⟩ := h.st.opn
  obtain ⟨pages, bad, pend, d, l⟩ := X
  simp only at *
  cases hin : inR pages.length i with
  | false =>
    have hs : stabR ⟨pages, bad, pend, d, l⟩ i = (zeroP, 41) := by simp [stabR, hin]
    rw [hs]
    go_enter Try.func29, Try.ntmps29
    go_wp2_with (first
      | (with_reducible refine at_wpP ?_; refine wpList_allocP rfl rfl ?_; intro g4 w4 hg4 b4 f4 s4; have l4 := b4.lt)
      | (go_at_call 30; go_must (refine (has_any g i _ (hD.fr0 f4)).mono ?_; rintro e w' ⟨rfl, rfl⟩; rw [hin]))
      | (with_reducible refine at_wpP ?_; refine wpList_buildP rfl rfl ?_)
      | (with_reducible refine at_wpP ?_; refine at_st 25 _ _ rfl ?_; go_must (refine wpList_storeP rfl _ _ rfl g4 rfl zeroP rfl _ b4 zeroP_len zeroP_len ?_; intro w5 b5 f5)))
    have F5 := f4.thenT (S := noB) f5 (fun i hi q => by unfold onB1 at q; omega)
    exact bodyPost_ret (v := .tuple #[pgV zeroP, .int .i64 41]) (results_page2 Try.results29 _ w5 g4 zeroP rfl b5 zeroP_len) rfl ⟨rfl, F5⟩
  | true =>
    obtain ⟨j, rfl⟩ : ∃ j : Nat, i = j := ⟨i.toNat, by simp [inR] at hin; omega⟩
    have hj : j < pages.length := by simp [inR] at hin; omega
    obtain ⟨p, Hp⟩ : ∃ p, Hid (pages.getD j [] = p) := ⟨_, rfl⟩
    have hs : stabR ⟨pages, bad, pend, d, l⟩ (j : Int) = (p, 0) := by simp [stabR, hin, ← Hp.out]
    have hpj : pages[j] = p := by rw [← Hp.out]; simp [List.getD, hj]
    have hpl : Hid (p.length = 256) := by have := h.st.1 pages[j] (by simp); rwa [hpj, pgv_len] at this
    rw [hs]
    have hO := h.st
    simp only at hO
    obtain ⟨b, cap', cur, hv, _, _, _, _, _⟩ := hO.bx (by omega)
    obtain ⟨rfl, rfl⟩ : a1 = some ⟨b, 0, none⟩ ∧ c1 = cap' := by simpa using hv
    clear hv
    have hrg := OwnR.rangeK hO j hj
    rw [hpj] at hrg
    obtain ⟨k0, k1, k2, k3, k4⟩ := h.bx.five
    go_enter Try.func29, Try.ntmps29
    go_wp2_with (first
      | (with_reducible refine at_wpP ?_; refine wpList_allocP rfl rfl ?_; intro g4 w4 hg4 b4 f4 s4; have l4 := b4.lt; have k0 := f4.cell k0 (fun q => q); have hrg := OwnR.rangeK (hO.fr0 f4) j hj; rw [hpj] at hrg)
      | (go_at_call 30; go_must (refine (has_any g j _ (hD.fr0 f4)).mono ?_; rintro e w' ⟨rfl, rfl⟩; rw [hin]))
      | (refine at_idx 35 _ _ rfl ?_; go_must (refine wpList_idxO (sz := 256) rfl 35 _ _ rfl 25 Try.underlying35 size_page b _ _ rfl .i64 _ j rfl rfl hj ?_))
      | (with_reducible refine at_wpP ?_; refine wpList_ldPm rfl _ rfl b (j * 256) rfl p hrg hpl.out ?_)
      | (with_reducible refine at_wpP ?_; refine at_st 25 _ _ rfl ?_; go_must (refine wpList_storeP rfl _ _ rfl g4 rfl p rfl _ b4 hpl.out zeroP_len ?_; intro w5 b5 f5)))
    have F5 := f4.thenT (S := noB) f5 (fun i hi q => by unfold onB1 at q; omega)
    exact bodyPost_ret (v := .tuple #[pgV p, .int .i64 0]) (results_page2 Try.results29 _ w5 g4 p rfl b5 hpl.out) rfl ⟨rfl, F5⟩

end Go.Proofs.Ytejjfpdcmaefiaa
