/- Texts X13 of the proof of LeafBack, one behind the other. -/
import Derived.Test.YthpcfijefcicpaaBundleLeafBack1
import Derived.Test.YthpcfijefcicpaaBundleLeafBack2
import Derived.Test.YthpcfijefcicpaaBundleLeafBack3
import Derived.Test.YthpcfijefcicpaaBundleLeafBack4
import Derived.Test.YthpcfijefcicpaaBundleLeafBack5
import Derived.Test.YthpcfijefcicpaaBundleLeafBack6
import Derived.Test.YthpcfijefcicpaaBundleLeafBack7
import Derived.Test.YthpcfijefcicpaaBundleLeafBack8
import Derived.Test.YthpcfijefcicpaaBundleLeafBack9
import Derived.Test.YthpcfijefcicpaaBundleLeafBack10
import Derived.Test.YthpcfijefcicpaaBundleLeafBack11
import Derived.Test.YthpcfijefcicpaaBundleLeafBack12
/- The document's Open. (Written by x13_gen.py.) -/
namespace Go.Proofs.Ythpcfijefcicpaa
open Go.RowKit Go.Proofs.U
set_option linter.unusedSimpArgs false
set_option linter.unusedVariables false
theorem cellP {w : World} {g : Nat} {t : TypeId} {p : List Int} (h : BxV w g t (pgv p)) (i : Nat) (hi : i < p.length) : w.cell? ⟨g, i, none⟩ = some (.int .u8 (p.getD i 0)) := by
  refine (h.cell i _ ?_).1
  unfold pgv
  simp [List.getD, hi]
theorem decN_tree {p : List Int} (h1 : ¬ p.getD 0 0 = 1) : decN p = ⟨p.getD 0 0, zerB 16, toldE p (min (p.getD 1 0).toNat 6)⟩ := by unfold decN toldE; rw [if_neg h1]
theorem decN_data {p : List Int} (h1 : p.getD 0 0 = 1) : decN p = ⟨1, (p.drop 1).take 16, []⟩ := by unfold decN; rw [if_pos h1]
theorem ndL_setB (k : Int) (b : List Int) (v : Value) (i : Nat) (y : Int) (hi : i < b.length) : (ndL k b v).set (1 + i) (.int .u8 y) = ndL k (b.set i y) v := by
  unfold ndL pgv
  rw [Nat.add_comm 1 i, List.set_cons_succ, List.set_append_left _ _ (by simpa using hi), List.map_set]
section
variable {w : World} {ops : Array Oper} {rest : List Oper} {o : Oper} {a : Act} {Q : Exit → Act → World → Prop}
theorem at_alX (t : TypeId) (_ho : o.op = .alloc t) (h : wpList Try.prog ops Q (o :: rest) a w) : wpList Try.prog ops Q (o :: rest) a w := h
theorem at_bldX (t : TypeId) (fs : Array (Nat × Operand)) (_ho : o.op = .build t fs) (h : wpList Try.prog ops Q (o :: rest) a w) : wpList Try.prog ops Q (o :: rest) a w := h
theorem at_binX (b : BinOp) (t : TypeId) (x y : Operand) (t' : TypeId) (_ho : o.op = .binOp b t x y t') (h : wpList Try.prog ops Q (o :: rest) a w) : wpList Try.prog ops Q (o :: rest) a w := h
end
/-- Where things lie, while the document's entries are read. -/
structure RS8 (w : World) (g1 g2 g4 B : Nat) : Prop where
  a0 : w.heap.size ≤ g1
  a1 : w.heap.size ≤ g2
  a2 : g1 < g4
  a3 : g2 < g4
  a4 : g4 < B
def RO (w : World) (g1 g2 g4 B : Nat) (p : List Int) (K : Int) (W : World) (u v : Value) (L : List (Int × Int)) : Prop :=
  BxV W g1 23 (pgv p) ∧ NdB W g4 K (zerB 16) u ∧ NdB W g2 0 (zerB 16) nilS ∧ OwnR enC 2 43 W B v L ∧ Fr noB w W ∧ B ≤ W.heap.size
section
variable {w : World} {g1 g2 g4 B : Nat} {p : List Int} {K : Int} {W W' : World} {u v : Value} {L : List (Int × Int)}
theorem RO.fr0 (h : RO w g1 g2 g4 B p K W u v L) (f : Fr noB W W') : RO w g1 g2 g4 B p K W' u v L :=
  ⟨h.1.fr0 f, h.2.1.fr0 f, h.2.2.1.fr0 f, h.2.2.2.1.fr0 f, h.2.2.2.2.1.thenN f, Nat.le_trans h.2.2.2.2.2 f.size⟩
theorem RO.app (S : RS8 w g1 g2 g4 B) {x : Int × Int} (h : RO w g1 g2 g4 B p K W u u L) (ho : OwnR enC 2 43 W' B v (L ++ [x])) (hg : W.grownBy W' u.ownBlock) : RO w g1 g2 g4 B p K W' u v (L ++ [x]) := by
  have a0 := S.a0
  have a1 := S.a1
  have a2 := S.a2
  have a3 := S.a3
  have a4 := S.a4
  have f : Fr (fun k => u.ownBlock = some k) W W' := (Fr.refl _ _).grown hg (fun k hk _ => hk)
  have hn := h.2.2.2.1.newB
  exact ⟨h.1.fr f (fun q => by have := (hn _ q).1; omega), h.2.1.fr f (fun q => by have := (hn _ q).1; omega), h.2.2.1.fr f (fun q => by have := (hn _ q).1; omega), ho, h.2.2.2.2.1.thenT f (fun i hi q => by have := (hn _ q).1; omega), Nat.le_trans h.2.2.2.2.2 f.size⟩
theorem RO.put (S : RS8 w g1 g2 g4 B) (h : RO w g1 g2 g4 B p K W u v L) : RO w g1 g2 g4 B p K (W.setCell ⟨g4, 17, none⟩ v) v v L := by
  have a0 := S.a0
  have a1 := S.a1
  have a2 := S.a2
  have a3 := S.a3
  have a4 := S.a4
  have f : Fr (onB1 g4) W (W.setCell ⟨g4, 17, none⟩ v) := Fr.setCell (S := onB1 g4) (Fr.refl _ _) _ _ (fun _ => rfl)
  refine ⟨h.1.ne f (by omega), ?_, h.2.2.1.ne f (by omega), h.2.2.2.1.fr f (fun k hk q => by have := (h.2.2.2.1.newB k hk).1; unfold onB1 at q; omega), h.2.2.2.2.1.thenT f (fun i hi q => by unfold onB1 at q; omega), Nat.le_trans h.2.2.2.2.2 f.size⟩
  have := h.2.1.set 17 v
  rwa [ndL_set K (zerB 16) u v (zerB_len 16)] at this
/-- While the document reads an entry and lays it down. -/
def JRO (w : World) (g1 g2 g4 B : Nat) (p : List Int) (K : Int) (u : Value) (L : List (Int × Int)) (key pg : Int) : List Value → World → Prop
  | [], W => RO w g1 g2 g4 B p K W u u L
  | [v], W => ∃ gx, v = .slice (some ⟨gx, 0, none⟩) 1 1 ∧ (∀ i y, (enC (key, pg))[i]? = some y → W.cell? ((⟨gx, 0, none⟩ : Addr).add i) = some y) ∧ RO w g1 g2 g4 B p K W u u L
  | [_, v], W => RO w g1 g2 g4 B p K W u v (L ++ [(key, pg)])
  | [_, _, _], W => ∃ v, RO w g1 g2 g4 B p K W v v (L ++ [(key, pg)])
  | _, _ => False
theorem JRO.cell {key pg : Int} {hv : List Value} (h : JRO w g1 g2 g4 B p K u L key pg hv W) (hl : hv.length ≤ 1) : W.cell? ⟨g4, 17, none⟩ = some u := by
  match hv, h with
  | [], h => exact NdB.ents h.2.1 (zerB_len 16)
  | [_], h => obtain ⟨_, _, _, h⟩ := h; exact NdB.ents h.2.1 (zerB_len 16)
  | _ :: _ :: _, _ => simp at hl
theorem JRO.pg {key pg : Int} {hv : List Value} (h : JRO w g1 g2 g4 B p K u L key pg hv W) : BxV W g1 23 (pgv p) := by
  match hv, h with
  | [], h => exact h.1
  | [_], h => obtain ⟨_, _, _, h⟩ := h; exact h.1
  | [_, _], h => exact h.1
  | [_, _, _], h => obtain ⟨_, h⟩ := h; exact h.1
end

set_option maxRecDepth 100000 in
set_option maxHeartbeats 4000000 in
theorem ropen_1 (p : List Int) (hp : p.length = 256) (hb : Byt p) (w : World) (h1 : p.getD 0 0 = 1) :
    Calls Try.prog 10 #[pgV p] w fun r w' => OpenIs w w' (opN p) r := by
  have Hp := show Hid _ from hp
  obtain ⟨X, HX⟩ : ∃ X, Hid (opN p = X) := ⟨_, rfl⟩
  rw [HX.out]
  obtain ⟨Y, HY⟩ : ∃ Y, Hid ((p.drop 1).take 16 = Y) := ⟨_, rfl⟩
  have hYl : Hid (Y.length = 16) := by show _ = _; rw [← HY.out]; simp [hp]
  have hYb : Byt Y := by rw [← HY.out]; exact (hb.drop 1).take 16
  have hYg : ∀ i, i < 16 → Hid (Y.getD i 0 = p.getD (1 + i) 0) := fun i hi => by
    show _ = _
    rw [← HY.out]
    simp [List.getD, List.getElem?_take, List.getElem?_drop, hi, Nat.add_comm]
  have hdec : Hid (decN p = ⟨1, Y, []⟩) := by show _ = _; rw [decN_data h1, HY.out]
  obtain ⟨N, HN⟩ : ∃ N, Hid (decN p = N) := ⟨_, rfl⟩
  have hNe : Hid (N = ⟨1, Y, []⟩) := by show _ = _; rw [← HN.out, hdec.out]
  have hX : Hid ((if N.right && (N.page == p) then (N, (0 : Int)) else (nd0, 81)) = X) := by show _ = _; rw [← HX.out, ← HN.out]; rfl
  obtain ⟨Z, HZ⟩ : ∃ Z, Hid (zerB 256 = Z) := ⟨_, rfl⟩
  have hZl : Hid (Z.length = 256) := by show _ = _; rw [← HZ.out]; exact zerB_len 256
  have HK : Hid (p.getD 0 0 = 1) := h1
  have hkw : IntKind.i64.wrap 1 = 1 := by decide
  clear hp h1
  go_enter Try.func10, Try.ntmps10
  go_wp2_with (first
    | (with_reducible refine at_wpP ?_; refine wpList_boxV rfl 23 _ rfl (pgv p) rfl ?_; intro g1 w1 hg1 b1 f1 s1; have l1 := b1.lt; have z1 := f1.size)
    | (with_reducible refine at_wpP ?_; have q := b2; refine at_alX 31 rfl ?_; refine wpList_allocN rfl rfl ?_; intro g4 w3 hg4 b3 f3 s3; have l3 := b3.lt; have z3 := f3.size)
    | (with_reducible refine at_wpP ?_; refine at_alX 31 rfl ?_; refine wpList_allocN rfl rfl ?_; intro g2 w2 hg2 b2 f2 s2; have l2 := b2.lt; have z2 := f2.size; have c1 := b1.fr0 f2; have q0 := cellP c1 0 (by rw [Hp.out]; decide); rw [HK.out] at q0)
    | (with_reducible refine at_wpP ?_; refine at_idxA 23 _ _ rfl ?_; have q := q0; refine wpList_idxAt arr_page rfl _ _ rfl g1 rfl .i64 0 0 rfl rfl (by decide) ?_)
    | (with_reducible refine at_wpP ?_; refine at_bldX 31 _ rfl ?_; refine wpList_bldN rfl _ rfl 1 (zerB 16) nilS [(0, .int .i64 1)] rfl (built_ndK 1) ?_)
    | (with_reducible refine at_wpP ?_; refine at_st 31 _ _ rfl ?_; go_must (refine wpList_stN rfl _ _ rfl g4 rfl 1 (zerB 16) nilS rfl (zerB_len 16) ⟨_, _, _, rfl⟩ 0 (zerB 16) nilS b3 (zerB_len 16) ?_; intro w4 b4 f4; have qk := NdB.kind b4; have z4 := f4.size; have G4 := Fr.ownX f3 s3 f4; have F4 := (f1.thenN f2).thenN G4; have C1 := c1.fr0 G4; have C2 := b2.fr0 G4)))
  have sg1 : w.heap.size ≤ g1 := s1
  have sg2 : w.heap.size ≤ g2 := by omega
  have sg4 : w.heap.size ≤ g4 := by omega
  have g14 : g1 ≠ g4 := by omega
  have g24 : g2 ≠ g4 := by omega
  clear b1 b2 b3 f1 f2 f3 q0 c1 G4
  go_loopw [16] (fun i wr => ∃ (k : Nat) (l : List Int), k ≤ 16 ∧ i = .int .i64 (k : Int) ∧ Hid (l = laid 16 Y k) ∧ NdB wr g4 1 l nilS ∧ NdB wr g2 0 (zerB 16) nilS ∧ BxV wr g1 23 (pgv p) ∧ Fr noB w wr) (fun i _ => 16 - (intOf i).toNat)
  case atStart => exact ⟨0, zerB 16, by omega, rfl, show _ = _ by rw [laid_zero], b4, C2, C1, F4⟩
  case round =>
    obtain ⟨k, l, hk, rfl, hl, hN4', hN2, hP, FW⟩ := hrel
    clear b4 C1 C2 F4 qk f4
    have hll : Hid (l.length = 16) := by show _ = _; rw [hl.out, laid_len _ _ _ (by rw [hYl.out]; exact hk) hk]
    by_cases hlt : k < 16
    · have hlt' : (k : Int) < 16 := by omega
      have hs := show Hid _ from laid_set 16 Y k (by rw [hYl.out]; exact hlt) hlt
      obtain ⟨y, Hy⟩ : ∃ y, Hid (p.getD (1 + k) 0 = y) := ⟨_, rfl⟩
      rw [← hl.out, (hYg k hlt).out, Hy.out] at hs
      have hcy := cellP hP (1 + k) (by rw [Hp.out]; omega)
      rw [Hy.out] at hcy
      have hadd : Hid ((1 : Int) + (k : Int) = ((1 + k : Nat) : Int)) := by show _ = _; omega
      have hset := show Hid _ from ndL_setB 1 l nilS k y (by rw [hll.out]; exact hlt)
      have hw1 : IntKind.i64.wrap (1 + (k : Int)) = 1 + (k : Int) := by rw [IntKind.wrap_i64]; omega
      go_wp2_with (first
        | (with_reducible refine at_wpP ?_; refine at_idxA 23 _ _ rfl ?_; go_must (refine wpList_idxAt arr_page rfl _ _ rfl g1 rfl .i64 (1 + (k : Int)) (1 + k) rfl hadd.out (by omega) ?_))
        | (with_reducible refine at_wpP ?_; refine at_idxA 28 _ _ rfl ?_; go_must (refine wpList_idxOff arr1_block rfl _ _ rfl g4 1 rfl .i64 (k : Int) k rfl rfl hlt ?_))
        | (with_reducible refine at_wpP ?_; refine at_st 5 _ _ rfl ?_; go_must (refine wpList_store1 rfl 5 _ _ rfl g4 (1 + k) rfl (.int .u8 y) rfl rfl _ _ hN4' size_u8 (by rw [ndL_len _ _ _ hll.out]; omega) ?_; intro w8 b8 f8; rw [hset.out] at b8; have c8 := hN2.ne f8 g24; have d8 := hP.ne f8 g14)))
      go_roundw
      case rel => exact ⟨k + 1, _, by omega, by go_num, show _ = _ from hs.out, b8, c8, d8, FW.thenT f8 (fun i hi q => by unfold onB1 at q; omega)⟩
      case measure => simp [intOf]; omega
    · have hk16 : k = 16 := by omega
      have hlt' : ¬ (k : Int) < 16 := by omega
      have hlY : l = Y := by rw [hl.out, hk16]; unfold laid; rw [List.take_of_length_le (by rw [hYl.out]; exact Nat.le_refl _)]; simp [zerB]
      clear hk16 hk hlt
      subst hlY
      obtain ⟨u, Hu⟩ : ∃ u, Hid (u = nilS) := ⟨_, rfl⟩
      have hN4 : NdB wr g4 N.k N.b u := by rw [hNe.out, Hu.out]; exact hN4'
      have hnd : NdS wr u N := by rw [hNe.out, Hu.out]; exact ⟨⟨⟨by simp, Sl.nil wr 2⟩, by simp⟩, ⟨hYl.out, hYb⟩, by simp, rfl⟩
      have hbl := NdS.bl hnd
      have hu := NdS.sl hnd
      have hown : Hid (∀ k, u.ownBlock = some k → w.heap.size ≤ k ∧ k ≠ g2) := by show ∀ k, _; rw [Hu.out]; intro k hk; cases hk
      clear hN4'
      cases hr : N.right with
      | false =>
        have hX' : X = (nd0, 81) := by rw [← hX.out, hr, Bool.false_and]; exact if_neg (by decide)
        subst hX'
        go_wp2_with (first
          | (with_reducible refine at_wpP ?_; refine at_ld 31 _ rfl ?_; have q := hnd; refine wpList_ldN rfl _ rfl g4 rfl N.k N.b u hN4 hbl.out ?_)
          | (go_at_call 18; go_must (refine (rpage_no N u _ hnd hr).mono ?_; rw [HZ.out]; rintro e w6 ⟨rfl, f6⟩; have z6 := f6.size))
          | (with_reducible refine at_wpP ?_; have q := f6; refine at_alX 23 rfl ?_; refine wpList_allocA arr_page rfl rfl ?_; rw [HZ.out]; intro g7 w7 hg7 b7 f7 s7; have l7 := b7.lt; have z7 := f7.size)
          | (with_reducible refine at_wpP ?_; refine at_st 23 _ _ rfl ?_; go_must (refine wpList_storeA arr_page rfl _ _ rfl g7 rfl Z rfl _ b7 hZl.out hZl.out ?_; intro w8 b8 f8; have z8 := f8.size; have F8 : Fr noB wr w8 := f6.thenN (Fr.ownX f7 s7 f8); have P8 := hP.fr0 F8))
          | (with_reducible refine at_wpP ?_; refine at_bldX 31 _ rfl ?_; refine wpList_bldN rfl _ rfl 0 (zerB 16) nilS [] rfl built_nd0 ?_)
          | (with_reducible refine at_wpP ?_; refine at_st 31 _ _ rfl ?_; have q := b8; go_must (refine wpList_stN rfl _ _ rfl g2 rfl 0 (zerB 16) nilS rfl (zerB_len 16) ⟨_, _, _, rfl⟩ 0 (zerB 16) nilS (hN2.fr0 F8) (zerB_len 16) ?_; intro w9 b9 f9)))
        exact bodyPost_ret (results_nd2 Try.results10 _ w9 g2 0 (zerB 16) nilS rfl b9 (zerB_len 16)) rfl ⟨nilS, rfl, NdS.none w9, (fun k hk => by cases hk), (FW.thenN F8).thenT f9 (fun i hi q => by unfold onB1 at q; omega)⟩
      | true =>
        obtain ⟨R, HR⟩ : ∃ R, Hid (N.page = R) := ⟨_, rfl⟩
        have hRl : Hid (R.length = 256) := by show _ = _; rw [← HR.out]; exact page_len hr hbl.out
        obtain ⟨B, HB⟩ : ∃ B, Hid ((R == p) = B) := ⟨_, rfl⟩
        cases B with
        | false =>
          have hX' : X = (nd0, 81) := by rw [← hX.out, hr, HR.out, HB.out]; exact if_neg (by decide)
          subst hX'
          go_wp2_with (first
            | (with_reducible refine at_wpP ?_; refine at_ld 31 _ rfl ?_; have q := hnd; refine wpList_ldN rfl _ rfl g4 rfl N.k N.b u hN4 hbl.out ?_)
            | (go_at_call 18; go_must (refine (rpage_ok N u _ hnd hr).mono ?_; rw [HR.out]; rintro e w6 ⟨rfl, f6⟩; have z6 := f6.size))
            | (with_reducible refine at_wpP ?_; have q := f6; refine at_alX 23 rfl ?_; refine wpList_allocA arr_page rfl rfl ?_; rw [HZ.out]; intro g7 w7 hg7 b7 f7 s7; have l7 := b7.lt; have z7 := f7.size)
            | (with_reducible refine at_wpP ?_; refine at_st 23 _ _ rfl ?_; go_must (refine wpList_storeA arr_page rfl _ _ rfl g7 rfl R rfl _ b7 hRl.out hZl.out ?_; intro w8 b8 f8; have z8 := f8.size; have F8 : Fr noB wr w8 := f6.thenN (Fr.ownX f7 s7 f8); have P8 := hP.fr0 F8))
            | (with_reducible refine at_wpP ?_; refine at_ld 23 _ rfl ?_; have q := b8; first | refine wpList_loadA arr_page rfl _ rfl g7 rfl R b8 hRl.out ?_ | refine wpList_loadA arr_page rfl _ rfl g1 rfl p P8 Hp.out ?_)
            | (with_reducible refine at_wpP ?_; refine at_binX .neq 23 _ _ _ rfl ?_; refine wpList_neqA arr_page rfl _ _ _ rfl R p rfl rfl hRl.out Hp.out ?_; rw [HB.out])
            | (with_reducible refine at_wpP ?_; refine at_bldX 31 _ rfl ?_; refine wpList_bldN rfl _ rfl 0 (zerB 16) nilS [] rfl built_nd0 ?_)
            | (with_reducible refine at_wpP ?_; refine at_st 31 _ _ rfl ?_; have q := b8; go_must (refine wpList_stN rfl _ _ rfl g2 rfl 0 (zerB 16) nilS rfl (zerB_len 16) ⟨_, _, _, rfl⟩ 0 (zerB 16) nilS (hN2.fr0 F8) (zerB_len 16) ?_; intro w9 b9 f9)))
          exact bodyPost_ret (results_nd2 Try.results10 _ w9 g2 0 (zerB 16) nilS rfl b9 (zerB_len 16)) rfl ⟨nilS, rfl, NdS.none w9, (fun k hk => by cases hk), (FW.thenN F8).thenT f9 (fun i hi q => by unfold onB1 at q; omega)⟩
        | true =>
          have hX' : X = (N, 0) := by rw [← hX.out, hr, HR.out, HB.out]; exact if_pos (by decide)
          subst hX'
          go_wp2_with (first
            | (with_reducible refine at_wpP ?_; refine at_ld 31 _ rfl ?_; have q := b8; go_must (refine wpList_ldN rfl _ rfl g4 rfl N.k N.b u (hN4.fr0 F8) hbl.out ?_))
            | (with_reducible refine at_wpP ?_; refine at_ld 31 _ rfl ?_; have q := hnd; refine wpList_ldN rfl _ rfl g4 rfl N.k N.b u hN4 hbl.out ?_)
            | (go_at_call 18; go_must (refine (rpage_ok N u _ hnd hr).mono ?_; rw [HR.out]; rintro e w6 ⟨rfl, f6⟩; have z6 := f6.size))
            | (with_reducible refine at_wpP ?_; have q := f6; refine at_alX 23 rfl ?_; refine wpList_allocA arr_page rfl rfl ?_; rw [HZ.out]; intro g7 w7 hg7 b7 f7 s7; have l7 := b7.lt; have z7 := f7.size)
            | (with_reducible refine at_wpP ?_; refine at_st 23 _ _ rfl ?_; go_must (refine wpList_storeA arr_page rfl _ _ rfl g7 rfl R rfl _ b7 hRl.out hZl.out ?_; intro w8 b8 f8; have z8 := f8.size; have F8 : Fr noB wr w8 := f6.thenN (Fr.ownX f7 s7 f8); have P8 := hP.fr0 F8))
            | (with_reducible refine at_wpP ?_; refine at_ld 23 _ rfl ?_; have q := b8; first | refine wpList_loadA arr_page rfl _ rfl g7 rfl R b8 hRl.out ?_ | refine wpList_loadA arr_page rfl _ rfl g1 rfl p P8 Hp.out ?_)
            | (with_reducible refine at_wpP ?_; refine at_binX .neq 23 _ _ _ rfl ?_; refine wpList_neqA arr_page rfl _ _ _ rfl R p rfl rfl hRl.out Hp.out ?_; rw [HB.out])
            | (with_reducible refine at_wpP ?_; refine at_st 31 _ _ rfl ?_; have q := b8; go_must (refine wpList_stN rfl _ _ rfl g2 rfl N.k N.b u rfl hbl.out hu 0 (zerB 16) nilS (hN2.fr0 F8) (zerB_len 16) ?_; intro w9 b9 f9)))
          exact bodyPost_ret (results_nd2 Try.results10 _ w9 g2 N.k N.b u rfl b9 hbl.out) rfl ⟨u, rfl, (hnd.fr0 F8).frS f9 (fun k hk q => by have := hown.out k hk; unfold onB1 at q; omega), (fun k hk => by have := hown.out k hk; omega), (FW.thenN F8).thenT f9 (fun i hi q => by unfold onB1 at q; omega)⟩
set_option maxRecDepth 100000 in
set_option maxHeartbeats 4000000 in
theorem ropen_2 (p : List Int) (hp : p.length = 256) (hb : Byt p) (w : World) (h1 : ¬ p.getD 0 0 = 1) :
    Calls Try.prog 10 #[pgV p] w fun r w' => OpenIs w w' (opN p) r := by
  have Hp := show Hid _ from hp
  obtain ⟨X, HX⟩ : ∃ X, Hid (opN p = X) := ⟨_, rfl⟩
  rw [HX.out]
  have hK := byt_at hb 0
  have hC := byt_at hb 1
  have hdec := show Hid _ from decN_tree h1
  obtain ⟨K, HK⟩ : ∃ K, Hid (p.getD 0 0 = K) := ⟨_, rfl⟩
  obtain ⟨C, HC⟩ : ∃ C, Hid (p.getD 1 0 = C) := ⟨_, rfl⟩
  rw [HK.out] at hK hdec h1
  rw [HC.out] at hC hdec
  obtain ⟨N, HN⟩ : ∃ N, Hid (decN p = N) := ⟨_, rfl⟩
  have hX : Hid ((if N.right && (N.page == p) then (N, (0 : Int)) else (nd0, 81)) = X) := by show _ = _; rw [← HX.out, ← HN.out]; rfl
  rw [HN.out] at hdec
  obtain ⟨Z, HZ⟩ : ∃ Z, Hid (zerB 256 = Z) := ⟨_, rfl⟩
  have hZl : Hid (Z.length = 256) := by show _ = _; rw [← HZ.out]; exact zerB_len 256
  have hkw0 : IntKind.i64.wrap K = K := by rw [IntKind.wrap_i64]; omega
  have hcw0 : IntKind.i64.wrap C = C := by rw [IntKind.wrap_i64]; omega
  have hk1 : (K == 1) = false := by simpa using h1
  clear hp h1
  go_enter Try.func10, Try.ntmps10
  go_wp2_with (first
    | (with_reducible refine at_wpP ?_; refine wpList_boxV rfl 23 _ rfl (pgv p) rfl ?_; intro g1 w1 hg1 b1 f1 s1; have l1 := b1.lt; have z1 := f1.size)
    | (with_reducible refine at_wpP ?_; have q := b2; refine at_alX 31 rfl ?_; refine wpList_allocN rfl rfl ?_; intro g4 w3 hg4 b3 f3 s3; have l3 := b3.lt; have z3 := f3.size)
    | (with_reducible refine at_wpP ?_; refine at_alX 31 rfl ?_; refine wpList_allocN rfl rfl ?_; intro g2 w2 hg2 b2 f2 s2; have l2 := b2.lt; have z2 := f2.size; have c1 := b1.fr0 f2; have q0 := cellP c1 0 (by rw [Hp.out]; decide); rw [HK.out] at q0)
    | (with_reducible refine at_wpP ?_; refine at_idxA 23 _ _ rfl ?_; have q := q0; refine wpList_idxAt arr_page rfl _ _ rfl g1 rfl .i64 0 0 rfl rfl (by decide) ?_)
    | (with_reducible refine at_wpP ?_; refine at_bldX 31 _ rfl ?_; refine wpList_bldN rfl _ rfl K (zerB 16) nilS [(0, .int .i64 K)] rfl (built_ndK K) ?_)
    | (with_reducible refine at_wpP ?_; refine at_st 31 _ _ rfl ?_; go_must (refine wpList_stN rfl _ _ rfl g4 rfl K (zerB 16) nilS rfl (zerB_len 16) ⟨_, _, _, rfl⟩ 0 (zerB 16) nilS b3 (zerB_len 16) ?_; intro w4 b4 f4; have qk := NdB.kind b4; have z4 := f4.size; have G4 := Fr.ownX f3 s3 f4; have F4 := (f1.thenN f2).thenN G4; have C1 := c1.fr0 G4; have C2 := b2.fr0 G4)))
  have sg2 : w.heap.size ≤ g2 := by omega
  obtain ⟨B0, HB0⟩ : ∃ B, Hid (B = w4.heap.size) := ⟨_, rfl⟩
  have SS : RS8 w g1 g2 g4 B0 := ⟨s1, by omega, by omega, by omega, by rw [HB0.out]; omega⟩
  have T0 : RO w g1 g2 g4 B0 p K w4 nilS nilS (toldE p 0) := ⟨C1, b4, C2, OwnR.none _ _, F4, by rw [HB0.out]; exact Nat.le_refl _⟩
  go_loopw [6] (fun i wr => ∃ (j : Nat) (u : Value), j ≤ min C.toNat 6 ∧ i = .int .i64 (j : Int) ∧ RO w g1 g2 g4 B0 p K wr u u (toldE p j)) (fun i _ => 6 - (intOf i).toNat)
  case atStart => exact ⟨0, nilS, Nat.zero_le _, rfl, T0⟩
  case round =>
    obtain ⟨j, u, hj, rfl, hT⟩ := hrel
    clear T0 b1 b2 b3 b4 f1 f2 f3 f4 q0 c1 C1 C2 F4 G4 qk
    have qc := cellP hT.1 1 (by rw [Hp.out]; decide)
    rw [HC.out] at qc
    by_cases hlt : j < min C.toNat 6
    · have hlt' : (j : Int) < C := by omega
      have hlt6 : (j : Int) < 6 := by omega
      have hdlt : decide ((j : Int) < C) = true := decide_eq_true hlt'
      have hdl6 : decide ((j : Int) < 6) = true := decide_eq_true hlt6
      have hsn := show Hid _ from toldE_succ p j
      obtain ⟨L, HL⟩ : ∃ L, Hid (toldE p j = L) := ⟨_, rfl⟩
      have hLl : Hid (L.length ≤ 256) := by show _ ≤ _; rw [← HL.out, toldE_len]; omega
      have hkb := byt_at hb (2 + 2 * j)
      have hpb := byt_at hb (3 + 2 * j)
      obtain ⟨key, HKey⟩ : ∃ x, Hid (p.getD (2 + 2 * j) 0 = x) := ⟨_, rfl⟩
      obtain ⟨pg, HPg⟩ : ∃ x, Hid (p.getD (3 + 2 * j) 0 = x) := ⟨_, rfl⟩
      rw [HL.out] at hT hsn
      rw [HKey.out] at hsn hkb
      rw [HPg.out] at hsn hpb
      have hkw : IntKind.i64.wrap key = key := by rw [IntKind.wrap_i64]; omega
      have hpw : IntKind.i64.wrap pg = pg := by rw [IntKind.wrap_i64]; omega
      have hw1 : IntKind.i64.wrap (2 * (j : Int)) = 2 * (j : Int) := by rw [IntKind.wrap_i64]; omega
      have hw2 : IntKind.i64.wrap (2 + 2 * (j : Int)) = 2 + 2 * (j : Int) := by rw [IntKind.wrap_i64]; omega
      have hw3 : IntKind.i64.wrap (3 + 2 * (j : Int)) = 3 + 2 * (j : Int) := by rw [IntKind.wrap_i64]; omega
      have hi2 : Hid (((2 + 2 * j : Nat) : Int) = 2 + 2 * (j : Int)) := by show _ = _; omega
      have hi3 : Hid (((3 + 2 * j : Nat) : Int) = 3 + 2 * (j : Int)) := by show _ = _; omega
      go_wp2_with (first
        | (with_reducible refine at_wpP ?_; refine at_idxA 23 _ _ rfl ?_; go_must (refine wpList_idxAt arr_page rfl _ _ rfl g1 rfl .i64 1 1 rfl rfl (by decide) ?_)))
      obtain ⟨w0, HW⟩ : ∃ w0, Hid (wr.drew = w0) := ⟨_, rfl⟩
      have f0 : Fr noB wr w0 := by rw [← HW.out]; exact (Fr.refl _ _).drew
      have HJ0 : JRO w g1 g2 g4 B0 p K u L key pg [] wr.drew := by rw [HW.out]; exact RO.fr0 hT f0
      refine wp_region_chain_lay (by kernel_rfl) [15, 16, 18] [none, none, none, none, none, none, none, none, none, none, none, none, none, none, none, some 0, some 1, none, some 2]
        [fun v => v = .pointer (some ⟨g4, 17, none⟩), fun v => v = u, fun v => v = .int .i64 (j : Int), fun v => v = .int .i64 (2 * (j : Int)), fun v => v = .int .i64 (2 + 2 * (j : Int)), fun v => v = .pointer (some ⟨g1, 2 + 2 * j, none⟩), fun v => v = .int .u8 key, fun v => v = .int .i64 key, fun v => v = .int .i64 (j : Int), fun v => v = .int .i64 (2 * (j : Int)), fun v => v = .int .i64 (3 + 2 * (j : Int)), fun v => v = .pointer (some ⟨g1, 3 + 2 * j, none⟩), fun v => v = .int .u8 pg, fun v => v = .int .i64 pg, fun v => v = enV (key, pg), fun _ => True, fun _ => True, fun v => v = .pointer (some ⟨g4, 17, none⟩), fun _ => True]
        (JRO w g1 g2 g4 B0 p K u L key pg) (HJ0) (by kernel_rfl) (by kernel_rfl) (by decide) ⟨?o0, ?o1, ?o2, ?o3, ?o4, ?o5, ?o6, ?o7, ?o8, ?o9, ?o10, ?o11, ?o12, ?o13, ?o14, ?o15, ?o16, ?o17, ?o18, trivial⟩ ?oe
      case o0 =>
        intro A W hv hlen hJ hbase hdL hdH
        have e4 : A.eval (.tmp 4) = .pointer (some ⟨g4, 0, none⟩) := hbase 4 (by kernel_rfl)
        have f4 : A.tmps[4]?.getD undef = .pointer (some ⟨g4, 0, none⟩) := by simpa [Act.eval] using e4
        exact light_val rfl (v := .pointer (some ⟨g4, 17, none⟩)) (by simp [execOp, go_sem, e4, f4]) hJ rfl
      case o1 =>
        intro A W hv hlen hJ hbase hdL hdH
        have e38 : A.eval (.tmp 38) = .pointer (some ⟨g4, 17, none⟩) := hdL 0 38 (by kernel_rfl) (by kernel_rfl) (by kernel_rfl)
        have f38 : A.tmps[38]?.getD undef = .pointer (some ⟨g4, 17, none⟩) := by simpa [Act.eval] using e38
        have hb1 : hv.length ≤ 1 := hlen.2 1 16 rfl (by kernel_rfl)
        have hc := JRO.cell hJ hb1
        exact light_val rfl (v := u) (by simp [execOp, go_sem, e38, f38, hc]) hJ rfl
      case o2 =>
        intro A W hv hlen hJ hbase hdL hdH
        have e6 : A.eval (.tmp 6) = .int .i64 (j : Int) := hbase 6 (by kernel_rfl)
        have f6 : A.tmps[6]?.getD undef = .int .i64 (j : Int) := by simpa [Act.eval] using e6
        exact light_val rfl (v := .int .i64 (j : Int)) (by simp [execOp, e6, f6]) hJ rfl
      case o3 =>
        intro A W hv hlen hJ hbase hdL hdH
        have e40 : A.eval (.tmp 40) = .int .i64 (j : Int) := hdL 2 40 (by kernel_rfl) (by kernel_rfl) (by kernel_rfl)
        have f40 : A.tmps[40]?.getD undef = .int .i64 (j : Int) := by simpa [Act.eval] using e40
        exact light_val rfl (v := .int .i64 (2 * (j : Int))) (by simp [execOp, go_sem, e40, f40, hw1]) hJ rfl
      case o4 =>
        intro A W hv hlen hJ hbase hdL hdH
        have e41 : A.eval (.tmp 41) = .int .i64 (2 * (j : Int)) := hdL 3 41 (by kernel_rfl) (by kernel_rfl) (by kernel_rfl)
        have f41 : A.tmps[41]?.getD undef = .int .i64 (2 * (j : Int)) := by simpa [Act.eval] using e41
        exact light_val rfl (v := .int .i64 (2 + 2 * (j : Int))) (by simp [execOp, go_sem, e41, f41, hw2]) hJ rfl
      case o5 =>
        intro A W hv hlen hJ hbase hdL hdH
        have e1 : A.eval (.tmp 1) = .pointer (some ⟨g1, 0, none⟩) := hbase 1 (by kernel_rfl)
        have f1 : A.tmps[1]?.getD undef = .pointer (some ⟨g1, 0, none⟩) := by simpa [Act.eval] using e1
        have e42 : A.eval (.tmp 42) = .int .i64 (2 + 2 * (j : Int)) := hdL 4 42 (by kernel_rfl) (by kernel_rfl) (by kernel_rfl)
        have f42 : A.tmps[42]?.getD undef = .int .i64 (2 + 2 * (j : Int)) := by simpa [Act.eval] using e42
        have hr := run_idxAt arr_page W g1 (2 + 2 * j) (by omega) .i64
        rw [hi2.out] at hr
        exact light_val rfl (v := .pointer (some ⟨g1, 2 + 2 * j, none⟩)) (by simp [execOp, e1, e42, hr, Result.andThen]) hJ rfl
      case o6 =>
        intro A W hv hlen hJ hbase hdL hdH
        have e43 : A.eval (.tmp 43) = .pointer (some ⟨g1, 2 + 2 * j, none⟩) := hdL 5 43 (by kernel_rfl) (by kernel_rfl) (by kernel_rfl)
        have f43 : A.tmps[43]?.getD undef = .pointer (some ⟨g1, 2 + 2 * j, none⟩) := by simpa [Act.eval] using e43
        have hc := cellP (JRO.pg hJ) (2 + 2 * j) (by rw [Hp.out]; omega)
        rw [HKey.out] at hc
        exact light_val rfl (v := .int .u8 key) (by simp [execOp, go_sem, e43, f43, hc]) hJ rfl
      case o7 =>
        intro A W hv hlen hJ hbase hdL hdH
        have e44 : A.eval (.tmp 44) = .int .u8 key := hdL 6 44 (by kernel_rfl) (by kernel_rfl) (by kernel_rfl)
        have f44 : A.tmps[44]?.getD undef = .int .u8 key := by simpa [Act.eval] using e44
        exact light_val rfl (v := .int .i64 key) (by simp [execOp, go_sem, e44, f44, hkw]) hJ rfl
      case o8 =>
        intro A W hv hlen hJ hbase hdL hdH
        have e6 : A.eval (.tmp 6) = .int .i64 (j : Int) := hbase 6 (by kernel_rfl)
        have f6 : A.tmps[6]?.getD undef = .int .i64 (j : Int) := by simpa [Act.eval] using e6
        exact light_val rfl (v := .int .i64 (j : Int)) (by simp [execOp, e6, f6]) hJ rfl
      case o9 =>
        intro A W hv hlen hJ hbase hdL hdH
        have e46 : A.eval (.tmp 46) = .int .i64 (j : Int) := hdL 8 46 (by kernel_rfl) (by kernel_rfl) (by kernel_rfl)
        have f46 : A.tmps[46]?.getD undef = .int .i64 (j : Int) := by simpa [Act.eval] using e46
        exact light_val rfl (v := .int .i64 (2 * (j : Int))) (by simp [execOp, go_sem, e46, f46, hw1]) hJ rfl
      case o10 =>
        intro A W hv hlen hJ hbase hdL hdH
        have e47 : A.eval (.tmp 47) = .int .i64 (2 * (j : Int)) := hdL 9 47 (by kernel_rfl) (by kernel_rfl) (by kernel_rfl)
        have f47 : A.tmps[47]?.getD undef = .int .i64 (2 * (j : Int)) := by simpa [Act.eval] using e47
        exact light_val rfl (v := .int .i64 (3 + 2 * (j : Int))) (by simp [execOp, go_sem, e47, f47, hw3]) hJ rfl
      case o11 =>
        intro A W hv hlen hJ hbase hdL hdH
        have e1 : A.eval (.tmp 1) = .pointer (some ⟨g1, 0, none⟩) := hbase 1 (by kernel_rfl)
        have f1 : A.tmps[1]?.getD undef = .pointer (some ⟨g1, 0, none⟩) := by simpa [Act.eval] using e1
        have e48 : A.eval (.tmp 48) = .int .i64 (3 + 2 * (j : Int)) := hdL 10 48 (by kernel_rfl) (by kernel_rfl) (by kernel_rfl)
        have f48 : A.tmps[48]?.getD undef = .int .i64 (3 + 2 * (j : Int)) := by simpa [Act.eval] using e48
        have hr := run_idxAt arr_page W g1 (3 + 2 * j) (by omega) .i64
        rw [hi3.out] at hr
        exact light_val rfl (v := .pointer (some ⟨g1, 3 + 2 * j, none⟩)) (by simp [execOp, e1, e48, hr, Result.andThen]) hJ rfl
      case o12 =>
        intro A W hv hlen hJ hbase hdL hdH
        have e49 : A.eval (.tmp 49) = .pointer (some ⟨g1, 3 + 2 * j, none⟩) := hdL 11 49 (by kernel_rfl) (by kernel_rfl) (by kernel_rfl)
        have f49 : A.tmps[49]?.getD undef = .pointer (some ⟨g1, 3 + 2 * j, none⟩) := by simpa [Act.eval] using e49
        have hc := cellP (JRO.pg hJ) (3 + 2 * j) (by rw [Hp.out]; omega)
        rw [HPg.out] at hc
        exact light_val rfl (v := .int .u8 pg) (by simp [execOp, go_sem, e49, f49, hc]) hJ rfl
      case o13 =>
        intro A W hv hlen hJ hbase hdL hdH
        have e50 : A.eval (.tmp 50) = .int .u8 pg := hdL 12 50 (by kernel_rfl) (by kernel_rfl) (by kernel_rfl)
        have f50 : A.tmps[50]?.getD undef = .int .u8 pg := by simpa [Act.eval] using e50
        exact light_val rfl (v := .int .i64 pg) (by simp [execOp, go_sem, e50, f50, hpw]) hJ rfl
      case o14 =>
        intro A W hv hlen hJ hbase hdL hdH
        have e45 : A.eval (.tmp 45) = .int .i64 key := hdL 7 45 (by kernel_rfl) (by kernel_rfl) (by kernel_rfl)
        have f45 : A.tmps[45]?.getD undef = .int .i64 key := by simpa [Act.eval] using e45
        have e51 : A.eval (.tmp 51) = .int .i64 pg := hdL 13 51 (by kernel_rfl) (by kernel_rfl) (by kernel_rfl)
        have f51 : A.tmps[51]?.getD undef = .int .i64 pg := by simpa [Act.eval] using e51
        have hr := run_build (P := Try.prog) W 43 #[(0, .int .i64 key), (1, .int .i64 pg)] _ (built_en key pg)
        exact light_val rfl (v := enV (key, pg)) (by simp [execOp, e45, e51, hr, Result.andThen, enV]) hJ rfl
      case o15 =>
        intro A W hv hlen hJ hbase hdL hdH
        have e52 : A.eval (.tmp 52) = enV (key, pg) := hdL 14 52 (by kernel_rfl) (by kernel_rfl) (by kernel_rfl)
        have f52 : A.tmps[52]?.getD undef = enV (key, pg) := by simpa [Act.eval] using e52
        obtain rfl : hv = [] := List.eq_nil_of_length_eq_zero hlen
        have hr := run_mk1 (P := Try.prog) (ec := enC) (sz := 2) 29 Try.underlying29 _ en_info2 (by decide) (by decide) (key, pg) (enV (key, pg)) rfl rfl W
        refine heavy_val rfl (v := .slice (some ⟨W.heap.size, 0, none⟩) 1 1) (w' := W.alloc (.cells (enC (key, pg)).toArray 43)) (by simp [execOp, e52, hr, Result.andThen]) ?_
        exact ⟨_, rfl, cells_new W (enC (key, pg)) 43, RO.fr0 hJ ((Fr.refl _ _).alloc _)⟩
      case o16 =>
        intro A W hv hlen hJ hbase hdL hdH
        have e39 : A.eval (.tmp 39) = u := hdL 1 39 (by kernel_rfl) (by kernel_rfl) (by kernel_rfl)
        have f39 : A.tmps[39]?.getD undef = u := by simpa [Act.eval] using e39
        match hv, hlen with
        | [t], _ =>
          obtain ⟨gx, rfl, hcx, hT⟩ := hJ
          have e53 : A.eval (.tmp 53) = .slice (some ⟨gx, 0, none⟩) 1 1 := by have := hdH 15 53 0 (by kernel_rfl) rfl (by kernel_rfl); simpa using this.symm
          refine heavy_wp rfl ?_
          refine wp_appR1 (ec := enC) (sz := 2) (base := B0) (.tmp 39) (.tmp 53) 29 rfl _ 16 Try.underlying29 en_info (by rfl) (by decide) _ e39 hT.2.2.2.1 gx e53 (key, pg) rfl hcx (en_one _) (by have := hLl.out; unfold maxLen; omega) (by have := hLl.out; omega) hT.2.2.2.2.2 ?_
          intro v' w' hO hg _
          exact ⟨v', rfl, RO.app SS hT hO hg⟩
      case o17 =>
        intro A W hv hlen hJ hbase hdL hdH
        have e4 : A.eval (.tmp 4) = .pointer (some ⟨g4, 0, none⟩) := hbase 4 (by kernel_rfl)
        have f4 : A.tmps[4]?.getD undef = .pointer (some ⟨g4, 0, none⟩) := by simpa [Act.eval] using e4
        exact light_val rfl (v := .pointer (some ⟨g4, 17, none⟩)) (by simp [execOp, go_sem, e4, f4]) hJ rfl
      case o18 =>
        intro A W hv hlen hJ hbase hdL hdH
        have e55 : A.eval (.tmp 55) = .pointer (some ⟨g4, 17, none⟩) := hdL 17 55 (by kernel_rfl) (by kernel_rfl) (by kernel_rfl)
        have f55 : A.tmps[55]?.getD undef = .pointer (some ⟨g4, 17, none⟩) := by simpa [Act.eval] using e55
        match hv, hlen with
        | [x0, t], _ =>
          have hT : RO w g1 g2 g4 B0 p K W u t (L ++ [(key, pg)]) := hJ
          have e54 : A.eval (.tmp 54) = t := by have := hdH 16 54 1 (by kernel_rfl) rfl (by kernel_rfl); simpa using this.symm
          have ht1 : t.oneCell' = true := by obtain ⟨a9, c9, rfl⟩ := hT.2.2.2.1.opn; rfl
          have hr := run_st1 (P := Try.prog) (off := 17) 29 size_sents t ht1 _ _ hT.2.1 (by rw [ndL_len _ _ _ (zerB_len 16)]; decide)
          refine heavy_wp rfl ?_
          unfold Oper.wp execOp
          simp only [e55, e54, Sem.run_bind, hr, Result.andThen_ok]
          exact ⟨_, rfl, t, RO.put SS hT⟩
      case oe =>
        intro vz W' hv hlen hJ hL' hH
        match hv, hlen with
        | [x0, x1, x2], _ =>
          obtain ⟨v9, hT9⟩ := hJ
          simp only [layL, Nat.reduceAdd, Act.put, List.setIfInBounds_toArray, List.set_cons_zero, List.set_cons_succ]
          clear hL' hH
          generalize vz 0 = y100 at *
          generalize vz 1 = y101 at *
          generalize vz 2 = y102 at *
          generalize vz 3 = y103 at *
          generalize vz 4 = y104 at *
          generalize vz 5 = y105 at *
          generalize vz 6 = y106 at *
          generalize vz 7 = y107 at *
          generalize vz 8 = y108 at *
          generalize vz 9 = y109 at *
          generalize vz 10 = y110 at *
          generalize vz 11 = y111 at *
          generalize vz 12 = y112 at *
          generalize vz 13 = y113 at *
          generalize vz 14 = y114 at *
          generalize vz 15 = y115 at *
          generalize vz 16 = y116 at *
          generalize vz 17 = y117 at *
          generalize vz 18 = y118 at *
          rw [← hsn.out] at hT9
          clear hsn
          go_wp2
          go_roundw
          case rel => exact ⟨j + 1, v9, by omega, by go_num, hT9⟩
          case measure => simp [intOf]; omega
    · obtain rfl : j = min C.toNat 6 := by omega
      obtain ⟨j, Hj⟩ : ∃ j, Hid (min C.toNat 6 = j) := ⟨_, rfl⟩
      rw [Hj.out] at hT hdec ⊢
      have hj6 : j ≤ 6 := by rw [← Hj.out]; omega
      have hjC : (j : Int) ≤ C := by rw [← Hj.out]; omega
      have hor : ¬ ((j : Int) < C) ∨ ((j : Int) < C ∧ ¬ ((j : Int) < 6)) := by
        have := Hj.out
        omega
      clear hlt hj
      have hN4 : NdB wr g4 N.k N.b u := by rw [hdec.out]; exact hT.2.1
      have hnd : NdS wr u N := by rw [hdec.out]; exact ⟨⟨hT.2.2.2.1.sl, toldE_wf hb j⟩, ⟨zerB_len 16, zerB_byt 16⟩, by show (toldE p j).length ≤ 1000; rw [toldE_len]; omega, wf_i64_sm hK⟩
      have hN2 := hT.2.2.1
      have hP := hT.1
      have FW := hT.2.2.2.2.1
      have hbl := NdS.bl hnd
      have hu := NdS.sl hnd
      have a3 := SS.a3
      have a4 := SS.a4
      have hown : Hid (∀ k, u.ownBlock = some k → w.heap.size ≤ k ∧ k ≠ g2) := (show ∀ k, _ from fun k hk => by have := (hT.2.2.2.1.newB k hk).1; omega)
      clear hT hdec
      rcases hor with hC' | ⟨hC', h6'⟩
      · have hdC : decide ((j : Int) < C) = false := decide_eq_false hC'
        cases hr : N.right with
        | false =>
          have hX' : X = (nd0, 81) := by rw [← hX.out, hr, Bool.false_and]; exact if_neg (by decide)
          subst hX'
          go_wp2_with (first
          | (with_reducible refine at_wpP ?_; refine at_idxA 23 _ _ rfl ?_; refine wpList_idxAt arr_page rfl _ _ rfl g1 rfl .i64 1 1 rfl rfl (by decide) ?_)
            | (with_reducible refine at_wpP ?_; refine at_ld 31 _ rfl ?_; have q := hnd; refine wpList_ldN rfl _ rfl g4 rfl N.k N.b u hN4 hbl.out ?_)
            | (go_at_call 18; go_must (refine (rpage_no N u _ hnd hr).mono ?_; rw [HZ.out]; rintro e w6 ⟨rfl, f6⟩; have z6 := f6.size))
            | (with_reducible refine at_wpP ?_; have q := f6; refine at_alX 23 rfl ?_; refine wpList_allocA arr_page rfl rfl ?_; rw [HZ.out]; intro g7 w7 hg7 b7 f7 s7; have l7 := b7.lt; have z7 := f7.size)
            | (with_reducible refine at_wpP ?_; refine at_st 23 _ _ rfl ?_; go_must (refine wpList_storeA arr_page rfl _ _ rfl g7 rfl Z rfl _ b7 hZl.out hZl.out ?_; intro w8 b8 f8; have z8 := f8.size; have F8 : Fr noB wr w8 := f6.thenN (Fr.ownX f7 s7 f8); have P8 := hP.fr0 F8))
            | (with_reducible refine at_wpP ?_; refine at_bldX 31 _ rfl ?_; refine wpList_bldN rfl _ rfl 0 (zerB 16) nilS [] rfl built_nd0 ?_)
            | (with_reducible refine at_wpP ?_; refine at_st 31 _ _ rfl ?_; have q := b8; go_must (refine wpList_stN rfl _ _ rfl g2 rfl 0 (zerB 16) nilS rfl (zerB_len 16) ⟨_, _, _, rfl⟩ 0 (zerB 16) nilS (hN2.fr0 F8) (zerB_len 16) ?_; intro w9 b9 f9)))
          exact bodyPost_ret (results_nd2 Try.results10 _ w9 g2 0 (zerB 16) nilS rfl b9 (zerB_len 16)) rfl ⟨nilS, rfl, NdS.none w9, (fun k hk => by cases hk), (FW.thenN F8).thenT f9 (fun i hi q => by unfold onB1 at q; omega)⟩
        | true =>
          obtain ⟨R, HR⟩ : ∃ R, Hid (N.page = R) := ⟨_, rfl⟩
          have hRl : Hid (R.length = 256) := by show _ = _; rw [← HR.out]; exact page_len hr hbl.out
          obtain ⟨B, HB⟩ : ∃ B, Hid ((R == p) = B) := ⟨_, rfl⟩
          cases B with
          | false =>
            have hX' : X = (nd0, 81) := by rw [← hX.out, hr, HR.out, HB.out]; exact if_neg (by decide)
            subst hX'
            go_wp2_with (first
          | (with_reducible refine at_wpP ?_; refine at_idxA 23 _ _ rfl ?_; refine wpList_idxAt arr_page rfl _ _ rfl g1 rfl .i64 1 1 rfl rfl (by decide) ?_)
              | (with_reducible refine at_wpP ?_; refine at_ld 31 _ rfl ?_; have q := hnd; refine wpList_ldN rfl _ rfl g4 rfl N.k N.b u hN4 hbl.out ?_)
              | (go_at_call 18; go_must (refine (rpage_ok N u _ hnd hr).mono ?_; rw [HR.out]; rintro e w6 ⟨rfl, f6⟩; have z6 := f6.size))
              | (with_reducible refine at_wpP ?_; have q := f6; refine at_alX 23 rfl ?_; refine wpList_allocA arr_page rfl rfl ?_; rw [HZ.out]; intro g7 w7 hg7 b7 f7 s7; have l7 := b7.lt; have z7 := f7.size)
              | (with_reducible refine at_wpP ?_; refine at_st 23 _ _ rfl ?_; go_must (refine wpList_storeA arr_page rfl _ _ rfl g7 rfl R rfl _ b7 hRl.out hZl.out ?_; intro w8 b8 f8; have z8 := f8.size; have F8 : Fr noB wr w8 := f6.thenN (Fr.ownX f7 s7 f8); have P8 := hP.fr0 F8))
              | (with_reducible refine at_wpP ?_; refine at_ld 23 _ rfl ?_; have q := b8; first | refine wpList_loadA arr_page rfl _ rfl g7 rfl R b8 hRl.out ?_ | refine wpList_loadA arr_page rfl _ rfl g1 rfl p P8 Hp.out ?_)
              | (with_reducible refine at_wpP ?_; refine at_binX .neq 23 _ _ _ rfl ?_; refine wpList_neqA arr_page rfl _ _ _ rfl R p rfl rfl hRl.out Hp.out ?_; rw [HB.out])
              | (with_reducible refine at_wpP ?_; refine at_bldX 31 _ rfl ?_; refine wpList_bldN rfl _ rfl 0 (zerB 16) nilS [] rfl built_nd0 ?_)
              | (with_reducible refine at_wpP ?_; refine at_st 31 _ _ rfl ?_; have q := b8; go_must (refine wpList_stN rfl _ _ rfl g2 rfl 0 (zerB 16) nilS rfl (zerB_len 16) ⟨_, _, _, rfl⟩ 0 (zerB 16) nilS (hN2.fr0 F8) (zerB_len 16) ?_; intro w9 b9 f9)))
            exact bodyPost_ret (results_nd2 Try.results10 _ w9 g2 0 (zerB 16) nilS rfl b9 (zerB_len 16)) rfl ⟨nilS, rfl, NdS.none w9, (fun k hk => by cases hk), (FW.thenN F8).thenT f9 (fun i hi q => by unfold onB1 at q; omega)⟩
          | true =>
            have hX' : X = (N, 0) := by rw [← hX.out, hr, HR.out, HB.out]; exact if_pos (by decide)
            subst hX'
            go_wp2_with (first
          | (with_reducible refine at_wpP ?_; refine at_idxA 23 _ _ rfl ?_; refine wpList_idxAt arr_page rfl _ _ rfl g1 rfl .i64 1 1 rfl rfl (by decide) ?_)
              | (with_reducible refine at_wpP ?_; refine at_ld 31 _ rfl ?_; have q := b8; go_must (refine wpList_ldN rfl _ rfl g4 rfl N.k N.b u (hN4.fr0 F8) hbl.out ?_))
              | (with_reducible refine at_wpP ?_; refine at_ld 31 _ rfl ?_; have q := hnd; refine wpList_ldN rfl _ rfl g4 rfl N.k N.b u hN4 hbl.out ?_)
              | (go_at_call 18; go_must (refine (rpage_ok N u _ hnd hr).mono ?_; rw [HR.out]; rintro e w6 ⟨rfl, f6⟩; have z6 := f6.size))
              | (with_reducible refine at_wpP ?_; have q := f6; refine at_alX 23 rfl ?_; refine wpList_allocA arr_page rfl rfl ?_; rw [HZ.out]; intro g7 w7 hg7 b7 f7 s7; have l7 := b7.lt; have z7 := f7.size)
              | (with_reducible refine at_wpP ?_; refine at_st 23 _ _ rfl ?_; go_must (refine wpList_storeA arr_page rfl _ _ rfl g7 rfl R rfl _ b7 hRl.out hZl.out ?_; intro w8 b8 f8; have z8 := f8.size; have F8 : Fr noB wr w8 := f6.thenN (Fr.ownX f7 s7 f8); have P8 := hP.fr0 F8))
              | (with_reducible refine at_wpP ?_; refine at_ld 23 _ rfl ?_; have q := b8; first | refine wpList_loadA arr_page rfl _ rfl g7 rfl R b8 hRl.out ?_ | refine wpList_loadA arr_page rfl _ rfl g1 rfl p P8 Hp.out ?_)
              | (with_reducible refine at_wpP ?_; refine at_binX .neq 23 _ _ _ rfl ?_; refine wpList_neqA arr_page rfl _ _ _ rfl R p rfl rfl hRl.out Hp.out ?_; rw [HB.out])
              | (with_reducible refine at_wpP ?_; refine at_st 31 _ _ rfl ?_; have q := b8; go_must (refine wpList_stN rfl _ _ rfl g2 rfl N.k N.b u rfl hbl.out hu 0 (zerB 16) nilS (hN2.fr0 F8) (zerB_len 16) ?_; intro w9 b9 f9)))
            exact bodyPost_ret (results_nd2 Try.results10 _ w9 g2 N.k N.b u rfl b9 hbl.out) rfl ⟨u, rfl, (hnd.fr0 F8).frS f9 (fun k hk q => by have := hown.out k hk; unfold onB1 at q; omega), (fun k hk => by have := hown.out k hk; omega), (FW.thenN F8).thenT f9 (fun i hi q => by unfold onB1 at q; omega)⟩
      · have hdC : decide ((j : Int) < C) = true := decide_eq_true hC'
        have hd6 : decide ((j : Int) < 6) = false := decide_eq_false h6'
        cases hr : N.right with
        | false =>
          have hX' : X = (nd0, 81) := by rw [← hX.out, hr, Bool.false_and]; exact if_neg (by decide)
          subst hX'
          go_wp2_with (first
          | (with_reducible refine at_wpP ?_; refine at_idxA 23 _ _ rfl ?_; refine wpList_idxAt arr_page rfl _ _ rfl g1 rfl .i64 1 1 rfl rfl (by decide) ?_)
            | (with_reducible refine at_wpP ?_; refine at_ld 31 _ rfl ?_; have q := hnd; refine wpList_ldN rfl _ rfl g4 rfl N.k N.b u hN4 hbl.out ?_)
            | (go_at_call 18; go_must (refine (rpage_no N u _ hnd hr).mono ?_; rw [HZ.out]; rintro e w6 ⟨rfl, f6⟩; have z6 := f6.size))
            | (with_reducible refine at_wpP ?_; have q := f6; refine at_alX 23 rfl ?_; refine wpList_allocA arr_page rfl rfl ?_; rw [HZ.out]; intro g7 w7 hg7 b7 f7 s7; have l7 := b7.lt; have z7 := f7.size)
            | (with_reducible refine at_wpP ?_; refine at_st 23 _ _ rfl ?_; go_must (refine wpList_storeA arr_page rfl _ _ rfl g7 rfl Z rfl _ b7 hZl.out hZl.out ?_; intro w8 b8 f8; have z8 := f8.size; have F8 : Fr noB wr w8 := f6.thenN (Fr.ownX f7 s7 f8); have P8 := hP.fr0 F8))
            | (with_reducible refine at_wpP ?_; refine at_bldX 31 _ rfl ?_; refine wpList_bldN rfl _ rfl 0 (zerB 16) nilS [] rfl built_nd0 ?_)
            | (with_reducible refine at_wpP ?_; refine at_st 31 _ _ rfl ?_; have q := b8; go_must (refine wpList_stN rfl _ _ rfl g2 rfl 0 (zerB 16) nilS rfl (zerB_len 16) ⟨_, _, _, rfl⟩ 0 (zerB 16) nilS (hN2.fr0 F8) (zerB_len 16) ?_; intro w9 b9 f9)))
          exact bodyPost_ret (results_nd2 Try.results10 _ w9 g2 0 (zerB 16) nilS rfl b9 (zerB_len 16)) rfl ⟨nilS, rfl, NdS.none w9, (fun k hk => by cases hk), (FW.thenN F8).thenT f9 (fun i hi q => by unfold onB1 at q; omega)⟩
        | true =>
          obtain ⟨R, HR⟩ : ∃ R, Hid (N.page = R) := ⟨_, rfl⟩
          have hRl : Hid (R.length = 256) := by show _ = _; rw [← HR.out]; exact page_len hr hbl.out
          obtain ⟨B, HB⟩ : ∃ B, Hid ((R == p) = B) := ⟨_, rfl⟩
          cases B with
          | false =>
            have hX' : X = (nd0, 81) := by rw [← hX.out, hr, HR.out, HB.out]; exact if_neg (by decide)
            subst hX'
            go_wp2_with (first
          | (with_reducible refine at_wpP ?_; refine at_idxA 23 _ _ rfl ?_; refine wpList_idxAt arr_page rfl _ _ rfl g1 rfl .i64 1 1 rfl rfl (by decide) ?_)
              | (with_reducible refine at_wpP ?_; refine at_ld 31 _ rfl ?_; have q := hnd; refine wpList_ldN rfl _ rfl g4 rfl N.k N.b u hN4 hbl.out ?_)
              | (go_at_call 18; go_must (refine (rpage_ok N u _ hnd hr).mono ?_; rw [HR.out]; rintro e w6 ⟨rfl, f6⟩; have z6 := f6.size))
              | (with_reducible refine at_wpP ?_; have q := f6; refine at_alX 23 rfl ?_; refine wpList_allocA arr_page rfl rfl ?_; rw [HZ.out]; intro g7 w7 hg7 b7 f7 s7; have l7 := b7.lt; have z7 := f7.size)
              | (with_reducible refine at_wpP ?_; refine at_st 23 _ _ rfl ?_; go_must (refine wpList_storeA arr_page rfl _ _ rfl g7 rfl R rfl _ b7 hRl.out hZl.out ?_; intro w8 b8 f8; have z8 := f8.size; have F8 : Fr noB wr w8 := f6.thenN (Fr.ownX f7 s7 f8); have P8 := hP.fr0 F8))
              | (with_reducible refine at_wpP ?_; refine at_ld 23 _ rfl ?_; have q := b8; first | refine wpList_loadA arr_page rfl _ rfl g7 rfl R b8 hRl.out ?_ | refine wpList_loadA arr_page rfl _ rfl g1 rfl p P8 Hp.out ?_)
              | (with_reducible refine at_wpP ?_; refine at_binX .neq 23 _ _ _ rfl ?_; refine wpList_neqA arr_page rfl _ _ _ rfl R p rfl rfl hRl.out Hp.out ?_; rw [HB.out])
              | (with_reducible refine at_wpP ?_; refine at_bldX 31 _ rfl ?_; refine wpList_bldN rfl _ rfl 0 (zerB 16) nilS [] rfl built_nd0 ?_)
              | (with_reducible refine at_wpP ?_; refine at_st 31 _ _ rfl ?_; have q := b8; go_must (refine wpList_stN rfl _ _ rfl g2 rfl 0 (zerB 16) nilS rfl (zerB_len 16) ⟨_, _, _, rfl⟩ 0 (zerB 16) nilS (hN2.fr0 F8) (zerB_len 16) ?_; intro w9 b9 f9)))
            exact bodyPost_ret (results_nd2 Try.results10 _ w9 g2 0 (zerB 16) nilS rfl b9 (zerB_len 16)) rfl ⟨nilS, rfl, NdS.none w9, (fun k hk => by cases hk), (FW.thenN F8).thenT f9 (fun i hi q => by unfold onB1 at q; omega)⟩
          | true =>
            have hX' : X = (N, 0) := by rw [← hX.out, hr, HR.out, HB.out]; exact if_pos (by decide)
            subst hX'
            go_wp2_with (first
          | (with_reducible refine at_wpP ?_; refine at_idxA 23 _ _ rfl ?_; refine wpList_idxAt arr_page rfl _ _ rfl g1 rfl .i64 1 1 rfl rfl (by decide) ?_)
              | (with_reducible refine at_wpP ?_; refine at_ld 31 _ rfl ?_; have q := b8; go_must (refine wpList_ldN rfl _ rfl g4 rfl N.k N.b u (hN4.fr0 F8) hbl.out ?_))
              | (with_reducible refine at_wpP ?_; refine at_ld 31 _ rfl ?_; have q := hnd; refine wpList_ldN rfl _ rfl g4 rfl N.k N.b u hN4 hbl.out ?_)
              | (go_at_call 18; go_must (refine (rpage_ok N u _ hnd hr).mono ?_; rw [HR.out]; rintro e w6 ⟨rfl, f6⟩; have z6 := f6.size))
              | (with_reducible refine at_wpP ?_; have q := f6; refine at_alX 23 rfl ?_; refine wpList_allocA arr_page rfl rfl ?_; rw [HZ.out]; intro g7 w7 hg7 b7 f7 s7; have l7 := b7.lt; have z7 := f7.size)
              | (with_reducible refine at_wpP ?_; refine at_st 23 _ _ rfl ?_; go_must (refine wpList_storeA arr_page rfl _ _ rfl g7 rfl R rfl _ b7 hRl.out hZl.out ?_; intro w8 b8 f8; have z8 := f8.size; have F8 : Fr noB wr w8 := f6.thenN (Fr.ownX f7 s7 f8); have P8 := hP.fr0 F8))
              | (with_reducible refine at_wpP ?_; refine at_ld 23 _ rfl ?_; have q := b8; first | refine wpList_loadA arr_page rfl _ rfl g7 rfl R b8 hRl.out ?_ | refine wpList_loadA arr_page rfl _ rfl g1 rfl p P8 Hp.out ?_)
              | (with_reducible refine at_wpP ?_; refine at_binX .neq 23 _ _ _ rfl ?_; refine wpList_neqA arr_page rfl _ _ _ rfl R p rfl rfl hRl.out Hp.out ?_; rw [HB.out])
              | (with_reducible refine at_wpP ?_; refine at_st 31 _ _ rfl ?_; have q := b8; go_must (refine wpList_stN rfl _ _ rfl g2 rfl N.k N.b u rfl hbl.out hu 0 (zerB 16) nilS (hN2.fr0 F8) (zerB_len 16) ?_; intro w9 b9 f9)))
            exact bodyPost_ret (results_nd2 Try.results10 _ w9 g2 N.k N.b u rfl b9 hbl.out) rfl ⟨u, rfl, (hnd.fr0 F8).frS f9 (fun k hk q => by have := hown.out k hk; unfold onB1 at q; omega), (fun k hk => by have := hown.out k hk; omega), (FW.thenN F8).thenT f9 (fun i hi q => by unfold onB1 at q; omega)⟩
theorem ropen_any (p : List Int) (hp : p.length = 256) (hb : Byt p) (w : World) :
    Calls Try.prog 10 #[pgV p] w fun r w' => OpenIs w w' (opN p) r := by
  by_cases h1 : p.getD 0 0 = 1
  · exact ropen_1 p hp hb w h1
  · exact ropen_2 p hp hb w h1
end Go.Proofs.Ythpcfijefcicpaa
