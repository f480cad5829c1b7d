/- Texts V6, V7, V8, RM, RS of the proof of RootRuns, one behind the other. -/
import Derived.Test.YtijgfojnppcbjaaBundleRootRuns1
import Derived.Test.YtijgfojnppcbjaaBundleRootRuns2
import Derived.Test.YtijgfojnppcbjaaBundleRootRuns3
import Derived.Test.YtijgfojnppcbjaaBundleRootRuns4
import Derived.Test.YtijgfojnppcbjaaBundleRootRuns5
import Derived.Test.YtijgfojnppcbjaaBundleRootRuns6
import Derived.Test.YtijgfojnppcbjaaBundleRootRuns7
import Derived.Test.YtijgfojnppcbjaaBundleRootRuns8
import Derived.Test.YtijgfojnppcbjaaBundleRootRuns9
import Derived.Test.YtijgfojnppcbjaaBundleRootRuns10
import Derived.Test.YtijgfojnppcbjaaBundleRootRuns11
import Derived.Test.YtijgfojnppcbjaaBundleRootRuns12
import Derived.Test.YtijgfojnppcbjaaBundleRootRuns13
/- Both slots' pages as one value; newestOf and topOf of package root. -/
namespace Go.Proofs.Ytijgfojnppcbjaa
open Go.RowKit Go.Proofs.U
set_option linter.unusedSimpArgs false
set_option linter.unusedVariables false
def pp (p q : List Int) : List Value := pgv p ++ pgv q
/-- Both slots' pages. -/
def ppV (p q : List Int) : Value := .agg (pp p q).toArray
theorem pp_len (p q : List Int) (hp : p.length = 256) (hq : q.length = 256) : (pp p q).length = 512 := by simp only [pp, List.length_append, pgv_len, hp, hq]
theorem pp_one (p q : List Int) : ∀ v ∈ pp p q, v.oneCell' = true := by
  intro v hv
  rcases List.mem_append.1 hv with h | h
  · exact pgv_one p v h
  · exact pgv_one q v h
theorem zero_two : (Try.prog.info? 73).map (·.zero) = some (some (.agg (pp zeroP zeroP).toArray)) := by kernel_rfl
theorem size_two : (Try.prog.info? 73).map (·.size) = some 512 := by kernel_rfl
theorem under_two : Try.prog.underlying 73 = some (.array 2 46) := by kernel_rfl
theorem under_pg : Try.prog.underlying 46 = some (.array 256 5) := by kernel_rfl
def pick2 (p q : List Int) (i : Nat) : List Int := if i = 0 then p else q
theorem pick2_len {p q : List Int} (hp : p.length = 256) (hq : q.length = 256) (i : Nat) : (pick2 p q i).length = 256 := by unfold pick2; split <;> assumption
theorem pick2_byt {p q : List Int} (hp : Byt p) (hq : Byt q) (i : Nat) : Byt (pick2 p q i) := by unfold pick2; split <;> assumption
theorem pp_cut (p q : List Int) (hp : p.length = 256) (hq : q.length = 256) (i : Nat) (hi : i < 2) : ((pp p q).drop (i * 256)).take 256 = pgv (pick2 p q i) := by
  have h1 := pgv_len p
  have h2 := pgv_len q
  have : i = 0 ∨ i = 1 := by omega
  rcases this with rfl | rfl
  · simp only [pp, pick2, Nat.zero_mul, List.drop_zero, if_true]
    rw [List.take_append_of_le_length (by omega), List.take_of_length_le (by omega)]
  · simp only [pp, pick2, Nat.one_mul, Nat.one_ne_zero, if_false]
    rw [List.drop_append_of_le_length (by omega), List.drop_of_length_le (by omega), List.nil_append, List.take_of_length_le (by omega)]
theorem run_index2 (w : World) (p q : List Int) (hp : p.length = 256) (hq : q.length = 256) (i : Nat) (hi : i < 2) : (Instr.index 73 (ppV p q) (.int .i64 (i : Int))).run Try.prog w = .ok (pgV (pick2 p q i)) w := by
  obtain ⟨ii, hii, hs⟩ := Option.map_eq_some_iff.1 size_page
  have hc := pp_cut p q hp hq i hi
  have hx : (pp p q).toArray.extract (i * 256) (i * 256 + 256) = (pgv (pick2 p q i)).toArray := by
    rw [← hc]
    apply Array.ext'
    simp [List.extract_eq_take_drop]
  have h1 : (i : Int) < 2 := by omega
  unfold ppV pgV
  simp [Instr.index, asIntOf, run_underlying under_two, run_underlying under_pg, part, isAgg, sizeOf, typeInfo, hii, hs, go_sem, h1, hx]
  rw [if_pos hi, hc]
section
variable {w : World} {ops : Array Oper} {rest : List Oper} {o : Oper} {a : Act} {Q : Exit → Act → World → Prop}
theorem wpList_index2 (hgd : Region.wanted o (yielded ops a.tmps) = true) (x y : Operand) (ho : o.op = .index 73 x y) (p q : List Int) (hx : a.eval x = ppV p q) (hp : p.length = 256) (hq : q.length = 256) (i : Nat) (hy : a.eval y = .int .i64 (i : Int)) (hi : i < 2)
    (h : wpList Try.prog ops Q rest (a.put o.dst (pgV (pick2 p q i))) w) : wpList Try.prog ops Q (o :: rest) a w := by
  refine wpList_wanted hgd fun K hK => ?_
  have hrun := run_index2 w p q hp hq i hi
  unfold Oper.wp
  simp [execOp, ho, hx, hy, hrun, Result.andThen]
  exact hK _ _ h
theorem wpList_box2 (hgd : Region.wanted o (yielded ops a.tmps) = true) (x : Operand) (ho : o.op = .box 73 x) (p q : List Int) (hx : a.eval x = ppV p q)
    (h : ∀ g w', Hid (g = w.heap.size) → BxV w' g 73 (pp p q) → Fr noB w w' → w.heap.size ≤ g → wpList Try.prog ops Q rest (a.put o.dst (.pointer (some ⟨g, 0, none⟩))) w') : wpList Try.prog ops Q (o :: rest) a w :=
  wpList_boxV hgd 73 x ho (pp p q) hx h
theorem wpList_alloc2 (hgd : Region.wanted o (yielded ops a.tmps) = true) (ho : o.op = .alloc 73)
    (h : ∀ g w', Hid (g = w.heap.size) → BxV w' g 73 (pp zeroP zeroP) → Fr noB w w' → w.heap.size ≤ g → wpList Try.prog ops Q rest (a.put o.dst (.pointer (some ⟨g, 0, none⟩))) w') : wpList Try.prog ops Q (o :: rest) a w :=
  wpList_allocV hgd 73 ho _ zero_two h
theorem wpList_ld2 (hgd : o.guard = none) (x : Operand) (ho : o.op = .load 73 x) (g : Nat) (hx : a.eval x = .pointer (some ⟨g, 0, none⟩)) (p q : List Int) (hA : BxV w g 73 (pp p q)) (hp : p.length = 256) (hq : q.length = 256)
    (h : wpList Try.prog ops Q rest (a.put o.dst (ppV p q)) w) : wpList Try.prog ops Q (o :: rest) a w :=
  wpList_loadV hgd 73 x ho g 0 hx 73 (pp p q) (pp p q) _ hA under_two rfl (by rw [size_two, pp_len p q hp hq]) (by rw [List.drop_zero, List.take_length]) h
theorem wpList_st2P (hgd : o.guard = none) (x y : Operand) (ho : o.op = .store 73 x y) (g : Nat) (hx : a.eval x = .pointer (some ⟨g, 0, none⟩)) (p q p0 q0 : List Int) (hy : a.eval y = ppV p q) (hA : BxV w g 73 (pp p0 q0)) (hp : p.length = 256) (hq : q.length = 256) (hp0 : p0.length = 256) (hq0 : q0.length = 256)
    (h : ∀ w', BxV w' g 73 (pp p q) → Fr (onB1 g) w w' → wpList Try.prog ops Q rest (a.put o.dst undef) w') : wpList Try.prog ops Q (o :: rest) a w := by
  refine wpList_storeV hgd 73 x y ho g 0 hx (pp p q) hy 73 (pp p0 q0) hA (by rw [size_two, pp_len p q hp hq]) (by rw [pp_len p q hp hq, pp_len p0 q0 hp0 hq0]; decide) (pp_one p q) ?_
  intro w' h1 h2
  rw [putAt_all _ _ (by rw [pp_len p q hp hq, pp_len p0 q0 hp0 hq0])] at h1
  exact h w' h1 h2
end

/-- The root that counts of the first k pages. -/
def nwK (p q : List Int) (k : Nat) : Int × List Int :=
  if k = 0 then (0, []) else if k = 1 then (if (rootOf p).1 % 2 = 0 ∧ 0 < (rootOf p).1 then rootOf p else (0, [])) else newest p q
theorem nwK_succ (p q : List Int) (k : Nat) (hk : k < 2) : nwK p q (k + 1) = if (rootOf (pick2 p q k)).1 % 2 = (k : Int) ∧ (nwK p q k).1 < (rootOf (pick2 p q k)).1 then rootOf (pick2 p q k) else nwK p q k := by
  have : k = 0 ∨ k = 1 := by omega
  rcases this with rfl | rfl
  · simp [nwK, pick2]
  · simp [nwK, pick2, newest]
theorem nwK_bd {p q : List Int} (h : Byt p) (k : Byt q) (n : Nat) : 0 ≤ (nwK p q n).1 ∧ (nwK p q n).1 < 18446744073709551616 := by
  have h1 := rootOf_bd h
  have h3 : 0 ≤ (0 : Int) ∧ (0 : Int) < 18446744073709551616 := by decide
  unfold nwK
  split
  · exact h3
  · split
    · split
      · exact h1
      · exact h3
    · exact newest_bd h k

set_option maxRecDepth 100000 in
set_option maxHeartbeats 2000000 in
theorem newestOf_any (p q : List Int) (hp : p.length = 256) (hq : q.length = 256) (hbp : Byt p) (hbq : Byt q) (w : World) :
    Calls Try.prog 30 #[ppV p q] w fun e w' => ∃ v, e = .returned (rtV (newest p q).1 v) ∧ SlI .u8 w' v (newest p q).2 ∧ (∀ b, v.ownBlock = some b → w.heap.size ≤ b ∧ b < w'.heap.size) ∧ Fr noB w w' := by
  have Hp := show Hid _ from hp
  have Hq := show Hid _ from hq
  clear hp hq
  obtain ⟨Z, HZ⟩ : ∃ Z, Hid (zeroP = Z) := ⟨_, rfl⟩
  have hZl : Hid (Z.length = 256) := by show _ = _; rw [← HZ.out]; exact zeroP_len
  go_enter Try.func30, Try.ntmps30
  go_wp2_with (first
    | (with_reducible refine at_wpP ?_; refine wpList_box2 rfl _ rfl p q rfl ?_; intro g1 w1 hg1 b1 f1 s1)
    | (with_reducible refine at_wpP ?_; have b2' := b2; refine wpList_allocRt rfl rfl ?_; intro g3 w3 hg3 b3 f3 s3; have c2 := b2.fr0 f3; have c1 := (b1.fr0 f2).fr0 f3; have l3 := b3.lt)
    | (with_reducible refine at_wpP ?_; refine wpList_allocRt rfl rfl ?_; intro g2 w2 hg2 b2 f2 s2; have l1 := b1.lt; have l2 := b2.lt)
    | (with_reducible refine at_wpP ?_; refine at_ld 73 _ rfl ?_; go_must (refine wpList_ld2 rfl _ rfl g1 rfl p q c1 Hp.out Hq.out ?_)))
  have z1 := f1.size
  have z2 := f2.size
  have F3 := (f1.thenN f2).thenN f3
  go_loopw [8] (fun i wr => ∃ (k : Nat) (v : Value) (n : Int × List Int), k ≤ 2 ∧ i = .int .i64 (k : Int) ∧ Hid (n = nwK p q k) ∧ BxV wr g3 77 (rtL n.1 v) ∧ BxV wr g2 77 (rtL 0 (.slice none 0 0)) ∧ SlI .u8 wr v n.2 ∧ (∀ b, v.ownBlock = some b → w.heap.size ≤ b ∧ b < wr.heap.size ∧ b ≠ g2 ∧ b ≠ g3) ∧ Fr noB w wr) (fun i _ => 2 - (intOf i).toNat)
  case atStart => exact ⟨0, .slice none 0 0, (0, []), by omega, rfl, (rfl : ((0 : Int), ([] : List Int)) = nwK p q 0), b3, c2, SlI.nil _ _, (fun b hb => by simp [Value.ownBlock] at hb), F3⟩
  case round =>
    obtain ⟨k, v, n, hk, rfl, hn, hB, hC, hI, hnew, hf⟩ := hrel
    by_cases hlt : k < 2
    · have hk' : (k : Int) < 2 := by omega
      have hk0 : (0 : Int) ≤ (k : Int) := by omega
      have hXl := pick2_len Hp.out Hq.out k
      have hXb := pick2_byt hbp hbq k
      have hsucc := show Hid _ from nwK_succ p q k hlt
      obtain ⟨X, HX⟩ : ∃ X, Hid (pick2 p q k = X) := ⟨_, rfl⟩
      rw [HX.out] at hXl hXb
      rw [HX.out, ← hn.out] at hsucc
      have hXl := show Hid _ from hXl
      have hnb : 0 ≤ n.1 ∧ n.1 < 18446744073709551616 := by rw [hn.out]; exact nwK_bd hbp hbq k
      have hRb := rootOf_bd hXb
      have hroot := show Hid _ from fun W => rootOf_any X hXl.out hXb W
      unfold RootIs at hroot
      obtain ⟨⟨G, C⟩, HR⟩ : ∃ R, Hid (rootOf X = R) := ⟨_, rfl⟩
      obtain ⟨n1, n2⟩ := n
      simp only [HR.out] at hroot hsucc hRb hnb hB hI
      obtain ⟨hRb0, hRb1⟩ := hRb
      obtain ⟨hnb0, hnb1⟩ := hnb
      have lB := hB.lt
      have lC := hC.lt
      have isv : isSl v := by obtain ⟨a, c, rfl, _⟩ := hI.opn; exact isSl_mk _ _ _
      by_cases hG : G % 2 = (k : Int)
      · by_cases hgt : n1 < G
        · rw [if_pos ⟨hG, hgt⟩] at hsucc
          have hG2 : (G % 2 == (k : Int)) = true := by simpa using hG
          have hgt2 : decide (n1 < G) = true := by simpa using hgt
          go_wp2_with (first
            | (with_reducible refine at_wpP ?_; refine at_index 73 _ _ rfl ?_; go_must (refine wpList_index2 rfl _ _ rfl p q rfl Hp.out Hq.out k rfl hlt ?_; rw [HX.out]))
            | (with_reducible refine at_wpP ?_; refine wpList_allocP rfl rfl ?_; rw [HZ.out]; intro g5 w5 hg5 b5 f5 s5)
            | (with_reducible refine at_wpP ?_; refine at_st 46 _ _ rfl ?_; go_must (refine wpList_storeP rfl _ _ rfl g5 rfl X rfl _ b5 hXl.out hZl.out ?_; intro w6 b6 f6; have l5 := b5.lt))
            | (with_reducible refine at_wpP ?_; refine at_ld 46 _ rfl ?_; go_must (refine wpList_loadP rfl _ rfl g5 rfl _ b6 hXl.out ?_))
            | (go_at_call 49; go_must (refine (hroot.out _).mono ?_; rintro e w7 ⟨v7, rfl, i7, n7, f7⟩; have isv7 : isSl v7 := (by obtain ⟨a, c, rfl, _⟩ := i7.opn; exact isSl_mk _ _ _)))
            | (with_reducible refine at_wpP ?_; refine wpList_allocRt rfl rfl ?_; intro g6 w8 hg6 b8 f8 s8)
            | (with_reducible refine at_wpP ?_; refine at_st 77 _ _ rfl ?_; have b9' := b9; go_must (refine wpList_stRt rfl _ _ rfl g3 rfl G v7 rfl isv7 _ _ B9 ?_; intro w10 b10 f10))
            | (with_reducible refine at_wpP ?_; refine at_st 77 _ _ rfl ?_; go_must (refine wpList_stRt rfl _ _ rfl g6 rfl G v7 rfl isv7 _ _ b8 ?_; intro w9 b9 f9; have l8 := b8.lt; have z5 := f5.size; have z6 := f6.size; have z7 := f7.size; have z8 := f8.size; obtain ⟨q0, _⟩ := b9.cell 0 _ rfl; have B9 := (((((hB.fr0 f5).ne f6 (by omega)).fr0 f7).fr0 f8).ne f9 (by omega)); have C9 := (((((hC.fr0 f5).ne f6 (by omega)).fr0 f7).fr0 f8).ne f9 (by omega)); obtain ⟨q3, _⟩ := B9.cell 0 _ rfl))
            | (with_reducible refine at_wpP ?_; refine at_ld 77 _ rfl ?_; go_must (refine wpList_ldRt rfl _ rfl g6 rfl _ _ b9 ?_))
            | (go_at_call 31; go_must (refine (slotOf_any G ⟨hRb0, hRb1⟩ _).mono ?_; rintro e w' ⟨rfl, rfl⟩; rw [hG])))
          have z9 := f9.size
          have F5 : Fr noB w w9 := ((((hf.thenN f5).thenT f6 (fun i hi q => by unfold onB1 at q; omega)).thenN f7).thenN f8).thenT f9 (fun i hi q => by unfold onB1 at q; omega)
          have zf := hf.size
          have hlt7 : ∀ b, v7.ownBlock = some b → w.heap.size ≤ b ∧ b < w7.heap.size ∧ b ≠ g2 ∧ b ≠ g3 ∧ b ≠ g6 := by
            intro b hb
            have h1 := n7 b hb
            exact ⟨by omega, by omega, by omega, by omega, by omega⟩
          have I10 : SlI .u8 w10 v7 C := ((i7.fr0 f8).fr f9 (fun b hb q => (hlt7 b hb).2.2.2.2 q)).fr f10 (fun b hb q => (hlt7 b hb).2.2.2.1 q)
          have C10 := C9.ne f10 (by omega)
          go_roundw
          case rel => exact ⟨k + 1, v7, (G, C), by omega, by go_num, show _ = _ from hsucc.out.symm, b10, C10, I10, (fun b hb => by have h1 := hlt7 b hb; have := f10.size; exact ⟨h1.1, by omega, h1.2.2.1, h1.2.2.2.1⟩), F5.thenT f10 (fun i hi q => by unfold onB1 at q; omega)⟩
          case measure => simp [intOf]; omega
        · rw [if_neg (fun h => hgt h.2)] at hsucc
          have hG2 : (G % 2 == (k : Int)) = true := by simpa using hG
          have hgt2 : decide (n1 < G) = false := by simpa using hgt
          go_wp2_with (first
            | (with_reducible refine at_wpP ?_; refine at_index 73 _ _ rfl ?_; go_must (refine wpList_index2 rfl _ _ rfl p q rfl Hp.out Hq.out k rfl hlt ?_; rw [HX.out]))
            | (with_reducible refine at_wpP ?_; refine wpList_allocP rfl rfl ?_; rw [HZ.out]; intro g5 w5 hg5 b5 f5 s5)
            | (with_reducible refine at_wpP ?_; refine at_st 46 _ _ rfl ?_; go_must (refine wpList_storeP rfl _ _ rfl g5 rfl X rfl _ b5 hXl.out hZl.out ?_; intro w6 b6 f6; have l5 := b5.lt))
            | (with_reducible refine at_wpP ?_; refine at_ld 46 _ rfl ?_; go_must (refine wpList_loadP rfl _ rfl g5 rfl _ b6 hXl.out ?_))
            | (go_at_call 49; go_must (refine (hroot.out _).mono ?_; rintro e w7 ⟨v7, rfl, i7, n7, f7⟩; have isv7 : isSl v7 := (by obtain ⟨a, c, rfl, _⟩ := i7.opn; exact isSl_mk _ _ _)))
            | (with_reducible refine at_wpP ?_; refine wpList_allocRt rfl rfl ?_; intro g6 w8 hg6 b8 f8 s8)
            | (with_reducible refine at_wpP ?_; refine at_st 77 _ _ rfl ?_; go_must (refine wpList_stRt rfl _ _ rfl g6 rfl G v7 rfl isv7 _ _ b8 ?_; intro w9 b9 f9; have l8 := b8.lt; have z5 := f5.size; have z6 := f6.size; have z7 := f7.size; have z8 := f8.size; obtain ⟨q0, _⟩ := b9.cell 0 _ rfl; have B9 := (((((hB.fr0 f5).ne f6 (by omega)).fr0 f7).fr0 f8).ne f9 (by omega)); have C9 := (((((hC.fr0 f5).ne f6 (by omega)).fr0 f7).fr0 f8).ne f9 (by omega)); obtain ⟨q3, _⟩ := B9.cell 0 _ rfl))
            | (go_at_call 31; go_must (refine (slotOf_any G ⟨hRb0, hRb1⟩ _).mono ?_; rintro e w' ⟨rfl, rfl⟩; rw [hG])))
          have z9 := f9.size
          have zf := hf.size
          have F5 : Fr noB w w9 := ((((hf.thenN f5).thenT f6 (fun i hi q => by unfold onB1 at q; omega)).thenN f7).thenN f8).thenT f9 (fun i hi q => by unfold onB1 at q; omega)
          have I9 : SlI .u8 w9 v n2 := ((((hI.fr0 f5).fr f6 (fun b hb q => by have := (hnew b hb).2.1; unfold onB1 at q; omega)).fr0 f7).fr0 f8).fr f9 (fun b hb q => by have := (hnew b hb).2.1; unfold onB1 at q; omega)
          go_roundw
          case rel => exact ⟨k + 1, v, (n1, n2), by omega, by go_num, show _ = _ from hsucc.out.symm, B9, C9, I9, (fun b hb => by have h1 := hnew b hb; exact ⟨h1.1, by omega, h1.2.2⟩), F5⟩
          case measure => simp [intOf]; omega
      · rw [if_neg (fun h => hG h.1)] at hsucc
        have hG2 : (G % 2 == (k : Int)) = false := by simpa using hG
        go_wp2_with (first
          | (with_reducible refine at_wpP ?_; refine at_index 73 _ _ rfl ?_; go_must (refine wpList_index2 rfl _ _ rfl p q rfl Hp.out Hq.out k rfl hlt ?_; rw [HX.out]))
          | (with_reducible refine at_wpP ?_; refine wpList_allocP rfl rfl ?_; rw [HZ.out]; intro g5 w5 hg5 b5 f5 s5)
          | (with_reducible refine at_wpP ?_; refine at_st 46 _ _ rfl ?_; go_must (refine wpList_storeP rfl _ _ rfl g5 rfl X rfl _ b5 hXl.out hZl.out ?_; intro w6 b6 f6; have l5 := b5.lt))
          | (with_reducible refine at_wpP ?_; refine at_ld 46 _ rfl ?_; go_must (refine wpList_loadP rfl _ rfl g5 rfl _ b6 hXl.out ?_))
          | (go_at_call 49; go_must (refine (hroot.out _).mono ?_; rintro e w7 ⟨v7, rfl, i7, n7, f7⟩; have isv7 : isSl v7 := (by obtain ⟨a, c, rfl, _⟩ := i7.opn; exact isSl_mk _ _ _)))
          | (with_reducible refine at_wpP ?_; refine wpList_allocRt rfl rfl ?_; intro g6 w8 hg6 b8 f8 s8)
          | (with_reducible refine at_wpP ?_; refine at_st 77 _ _ rfl ?_; go_must (refine wpList_stRt rfl _ _ rfl g6 rfl G v7 rfl isv7 _ _ b8 ?_; intro w9 b9 f9; have l8 := b8.lt; have z5 := f5.size; have z6 := f6.size; have z7 := f7.size; have z8 := f8.size; obtain ⟨q0, _⟩ := b9.cell 0 _ rfl; have B9 := (((((hB.fr0 f5).ne f6 (by omega)).fr0 f7).fr0 f8).ne f9 (by omega)); have C9 := (((((hC.fr0 f5).ne f6 (by omega)).fr0 f7).fr0 f8).ne f9 (by omega)); obtain ⟨q3, _⟩ := B9.cell 0 _ rfl))
          | (go_at_call 31; go_must (refine (slotOf_any G ⟨hRb0, hRb1⟩ _).mono ?_; rintro e w' ⟨rfl, rfl⟩)))
        have z9 := f9.size
        have zf := hf.size
        have F5 : Fr noB w w9 := ((((hf.thenN f5).thenT f6 (fun i hi q => by unfold onB1 at q; omega)).thenN f7).thenN f8).thenT f9 (fun i hi q => by unfold onB1 at q; omega)
        have I9 : SlI .u8 w9 v n2 := ((((hI.fr0 f5).fr f6 (fun b hb q => by have := (hnew b hb).2.1; unfold onB1 at q; omega)).fr0 f7).fr0 f8).fr f9 (fun b hb q => by have := (hnew b hb).2.1; unfold onB1 at q; omega)
        go_roundw
        case rel => exact ⟨k + 1, v, (n1, n2), by omega, by go_num, show _ = _ from hsucc.out.symm, B9, C9, I9, (fun b hb => by have h1 := hnew b hb; exact ⟨h1.1, by omega, h1.2.2⟩), F5⟩
        case measure => simp [intOf]; omega
    · obtain rfl : k = 2 := by omega
      obtain ⟨n1, n2⟩ := n
      have hn2 : (n1, n2) = newest p q := by rw [hn.out]; rfl
      have isv : isSl v := by obtain ⟨a, c, rfl, _⟩ := hI.opn; exact isSl_mk _ _ _
      go_wp2_with (first
        | (with_reducible refine at_wpP ?_; refine at_ld 77 _ rfl ?_; go_must (refine wpList_ldRt rfl _ rfl g3 rfl _ _ hB ?_))
        | (with_reducible refine at_wpP ?_; refine at_st 77 _ _ rfl ?_; go_must (refine wpList_stRt rfl _ _ rfl g2 rfl n1 v rfl isv _ _ hC ?_; intro w11 b11 f11)))
      refine bodyPost_ret (v := rtV n1 v) (results_root Try.results30 _ w11 g2 n1 v rfl b11) rfl ?_
      rw [← hn2]
      refine ⟨v, rfl, hI.fr f11 (fun b hb q => (hnew b hb).2.2.1 q), (fun b hb => by have h1 := hnew b hb; have := f11.size; exact ⟨h1.1, by omega⟩), hf.thenT f11 (fun i hi q => by unfold onB1 at q; omega)⟩

/-- The greatest generation of the first k pages. -/
def tpK (p q : List Int) (k : Nat) : Int := if k = 0 then 0 else if k = 1 then topK p 0 8 else top p q
theorem tpK_succ (p q : List Int) (k : Nat) (hk : k < 2) : tpK p q (k + 1) = topK (pick2 p q k) (tpK p q k) 8 := by
  have : k = 0 ∨ k = 1 := by omega
  rcases this with rfl | rfl
  · simp [tpK, pick2]
  · simp [tpK, pick2, top]
theorem tpK_bd {p q : List Int} (h : Byt p) (k : Byt q) (n : Nat) : 0 ≤ tpK p q n ∧ tpK p q n < 18446744073709551616 := by
  unfold tpK
  split
  · decide
  · split
    · exact topK_bd h _ (by decide) 8
    · exact top_bd h k

set_option maxRecDepth 100000 in
set_option maxHeartbeats 2000000 in
theorem topOf_any (p q : List Int) (hp : p.length = 256) (hq : q.length = 256) (hbp : Byt p) (hbq : Byt q) (w : World) :
    Calls Try.prog 34 #[ppV p q] w fun e w' => e = .returned (.int .u64 (top p q)) ∧ Fr noB w w' := by
  have Hp := show Hid _ from hp
  have Hq := show Hid _ from hq
  clear hp hq
  obtain ⟨Z, HZ⟩ : ∃ Z, Hid (zeroP = Z) := ⟨_, rfl⟩
  have hZl : Hid (Z.length = 256) := by show _ = _; rw [← HZ.out]; exact zeroP_len
  obtain ⟨T, HT⟩ : ∃ T, Hid (top p q = T) := ⟨_, rfl⟩
  rw [HT.out]
  go_enter Try.func34, Try.ntmps34
  go_wp2_with (first
    | (with_reducible refine at_wpP ?_; refine wpList_box2 rfl _ rfl p q rfl ?_; intro g1 w1 hg1 b1 f1 s1)
    | (with_reducible refine at_wpP ?_; refine at_ld 73 _ rfl ?_; go_must (refine wpList_ld2 rfl _ rfl g1 rfl p q b1 Hp.out Hq.out ?_)))
  go_loopw [3, 8] (fun t i wr => ∃ (k : Nat) (n : Int), k ≤ 2 ∧ i = .int .i64 (k : Int) ∧ Hid (n = tpK p q k) ∧ t = .int .u64 n ∧ Fr noB w wr) (fun _ i _ => 2 - (intOf i).toNat)
  case atStart => exact ⟨0, 0, by omega, rfl, (rfl : (0 : Int) = tpK p q 0), rfl, f1⟩
  case round =>
    obtain ⟨k, n, hk, rfl, hn, rfl, hf⟩ := hrel
    by_cases hlt : k < 2
    · have hk' : (k : Int) < 2 := by omega
      have hk0 : (0 : Int) ≤ (k : Int) := by omega
      have hXl := pick2_len Hp.out Hq.out k
      have hXb := pick2_byt hbp hbq k
      have hsucc := show Hid _ from tpK_succ p q k hlt
      obtain ⟨X, HX⟩ : ∃ X, Hid (pick2 p q k = X) := ⟨_, rfl⟩
      rw [HX.out] at hXl hXb
      rw [HX.out, ← hn.out] at hsucc
      have hXl := show Hid _ from hXl
      have hnb : 0 ≤ n ∧ n < 18446744073709551616 := by rw [hn.out]; exact tpK_bd hbp hbq k
      have htb := fun j => topK_bd hXb n hnb j
      have hgb := fun j => genAt_bd hXb j
      go_wp2_with (first
        | (with_reducible refine at_wpP ?_; refine at_index 73 _ _ rfl ?_; go_must (refine wpList_index2 rfl _ _ rfl p q rfl Hp.out Hq.out k rfl hlt ?_; rw [HX.out]))
        | (with_reducible refine at_wpP ?_; refine wpList_allocP rfl rfl ?_; rw [HZ.out]; intro g5 w5 hg5 b5 f5 s5)
        | (with_reducible refine at_wpP ?_; refine at_st 46 _ _ rfl ?_; go_must (refine wpList_storeP rfl _ _ rfl g5 rfl X rfl _ b5 hXl.out hZl.out ?_; intro w6 b6 f6; have l5 := b5.lt)))
      have zf := hf.size
      have F6 : Fr noB w w6 := (hf.thenN f5).thenT f6 (fun i hi q => by unfold onB1 at q; omega)
      go_loopw [3, 11] (fun t i wr => ∃ (j : Nat) (m : Int), j ≤ 8 ∧ i = .int .i64 (j : Int) ∧ Hid (m = topK X n j) ∧ t = .int .u64 m ∧ BxV wr g5 46 (pgv X) ∧ Fr noB w wr) (fun _ i _ => 8 - (intOf i).toNat)
      case atStart => exact ⟨0, n, by omega, rfl, (rfl : n = topK X n 0), rfl, b6, F6⟩
      case round =>
        obtain ⟨j, m, hj, rfl, hm, rfl, hB, hf2⟩ := hrel
        by_cases hjl : j < 8
        · have hj' : (j : Int) < 8 := by omega
          have hmb : 0 ≤ m ∧ m < 18446744073709551616 := by rw [hm.out]; exact htb j
          have hms := show Hid _ from topK_succ X n j
          rw [← hm.out] at hms
          have hgen := show Hid _ from fun W => genOf_any X hXl.out hXb j hjl W
          have hgj := hgb j
          obtain ⟨G, HG⟩ : ∃ G, Hid (genAt X j = G) := ⟨_, rfl⟩
          rw [HG.out] at hms hgj
          simp only [HG.out] at hgen
          go_wp2_with (first
            | (with_reducible refine at_wpP ?_; refine at_ld 46 _ rfl ?_; go_must (refine wpList_loadP rfl _ rfl g5 rfl _ hB hXl.out ?_))
            | (go_at_call 53; go_must (refine (hgen.out _).mono ?_; rintro e w7 ⟨rfl, f7⟩)))
          go_roundw
          case rel => exact ⟨j + 1, max m G, by omega, by go_num, show _ = _ from hms.out.symm, by first | rfl | (simp; done) | skip, hB.fr0 f7, hf2.thenN f7⟩
          case measure => simp [intOf]; omega
        · obtain rfl : j = 8 := by omega
          go_wp2
          go_roundw
          case rel => exact ⟨k + 1, m, by omega, by go_num, show _ = _ by rw [hsucc.out]; exact hm.out, rfl, hf2⟩
          case measure => simp [intOf]; omega
    · obtain rfl : k = 2 := by omega
      have hnT : n = T := by rw [hn.out, ← HT.out]; rfl
      subst hnT
      go_wp2
      go_ret
      exact ⟨rfl, hf⟩
end Go.Proofs.Ytijgfojnppcbjaa
/- slots of package root. -/
namespace Go.Proofs.Ytijgfojnppcbjaa
open Go.RowKit Go.Proofs.U
set_option linter.unusedSimpArgs false
set_option linter.unusedVariables false
/-- All pages, and all that is pending, are bytes. -/
def DSt.byt (X : DSt) : Prop := (∀ p ∈ X.pages, Byt p) ∧ ∀ x ∈ X.pend, Byt x.2
theorem lastW_byt {l : List (Int × List Int)} (h : ∀ x ∈ l, Byt x.2) (i : Int) {p : List Int} (hp : Byt p) : Byt (lastW l i p) := by
  unfold lastW
  induction l generalizing p with
  | nil => exact hp
  | cons x l ih =>
    rw [List.foldl_cons]
    refine ih (fun y hy => h y (by simp [hy])) ?_
    split
    · exact h x (by simp)
    · exact hp
theorem readP_byt {X : DSt} (h : X.byt) (i : Int) : Byt (readP X i).1 := by
  unfold readP
  split
  · split
    · exact zeroP_byt
    · refine lastW_byt h.2 i ?_
      by_cases hj : i.toNat < X.pages.length
      · have : X.pages.getD i.toNat [] = X.pages[i.toNat] := by simp [List.getD, hj]
        rw [this]; exact h.1 _ (by simp)
      · have : X.pages.getD i.toNat [] = [] := by simp [List.getD, hj]
        rw [this]; intro n hn; simp at hn
  · exact zeroP_byt
theorem readP_err (X : DSt) (i : Int) : (readP X i).2 = 0 ∨ (readP X i).2 = 41 ∨ (readP X i).2 = 43 := by
  unfold readP
  split
  · split <;> simp
  · simp
theorem run_idx2 (w : World) (g i : Nat) (hi : i < 2) : (Instr.indexAt 73 (.pointer (some ⟨g, 0, none⟩)) (.int .i64 (i : Int))).run Try.prog w = .ok (.pointer (some ⟨g, i * 256, none⟩)) w := by
  obtain ⟨ii, hinf, hsz⟩ := Option.map_eq_some_iff.1 size_page
  have h1 : (0 : Int) ≤ (i : Int) ∧ (i : Int) < 2 := by omega
  simp [Instr.indexAt, asIntOf, run_underlying under_two, h1, sizeOf, typeInfo, hinf, hsz, go_sem, Addr.plain]
  omega
section
variable {w : World} {ops : Array Oper} {rest : List Oper} {o : Oper} {a : Act} {Q : Exit → Act → World → Prop}
theorem wpList_idxA2 (hgd : Region.wanted o (yielded ops a.tmps) = true) (x y : Operand) (ho : o.op = .indexAddr 73 x y) (g : Nat) (hx : a.eval x = .pointer (some ⟨g, 0, none⟩)) (i : Nat) (hy : a.eval y = .int .i64 (i : Int)) (hi : i < 2)
    (h : wpList Try.prog ops Q rest (a.put o.dst (.pointer (some ⟨g, i * 256, none⟩))) w) : wpList Try.prog ops Q (o :: rest) a w := by
  refine wpList_wanted hgd fun K hK => ?_
  have hrun := run_idx2 w g i hi
  unfold Oper.wp
  simp [execOp, ho, hx, hy, hrun, Result.andThen]
  exact hK _ _ h
/-- One of both pages is put. -/
theorem wpList_stPm (hgd : o.guard = none) (x y : Operand) (ho : o.op = .store 46 x y) (g i : Nat) (hx : a.eval x = .pointer (some ⟨g, i * 256, none⟩)) (hi : i < 2) (p : List Int) (hy : a.eval y = pgV p) (hp : p.length = 256) (p0 q0 : List Int) (hA : BxV w g 73 (pp p0 q0)) (hp0 : p0.length = 256) (hq0 : q0.length = 256)
    (h : ∀ w', BxV w' g 73 (pp (if i = 0 then p else p0) (if i = 0 then q0 else p)) → Fr (onB1 g) w w' → wpList Try.prog ops Q rest (a.put o.dst undef) w') : wpList Try.prog ops Q (o :: rest) a w := by
  refine wpList_storeV hgd 46 x y ho g (i * 256) hx (pgv p) hy 73 (pp p0 q0) hA (by rw [size_page, pgv_len, hp]) (by rw [pgv_len, hp, pp_len p0 q0 hp0 hq0]; omega) (pgv_one p) ?_
  intro w' h1 h2
  refine h w' ?_ h2
  have e : putAt (pp p0 q0) (i * 256) (pgv p) = pp (if i = 0 then p else p0) (if i = 0 then q0 else p) := by
    have l1 := pgv_len p
    have l2 := pgv_len p0
    have l3 := pgv_len q0
    have : i = 0 ∨ i = 1 := by omega
    rcases this with rfl | rfl
    · simp only [pp, putAt, if_true, Nat.zero_mul, List.take_zero, List.nil_append, Nat.zero_add]
      rw [l1, hp, List.drop_append_of_le_length (by omega), List.drop_of_length_le (by omega), List.nil_append]
    · simp only [pp, putAt, Nat.one_mul, Nat.one_ne_zero, if_false]
      rw [List.take_append_of_le_length (by omega), List.take_of_length_le (by omega), List.drop_of_length_le (by rw [List.length_append]; omega), List.append_nil]
  rw [← e]; exact h1
end
theorem results_pp {fn : Func} {q u : Tmp} (h : fn.results = #[.cell q 73, .tmp u]) (tmps : Array Value) (w : World) (g : Nat) (a b : List Int) (hq : tmps.getD q undef = .pointer (some ⟨g, 0, none⟩)) (hA : BxV w g 73 (pp a b)) (ha : a.length = 256) (hb : b.length = 256) :
    (results fn tmps).run Try.prog w = .ok (.tuple #[ppV a b, tmps.getD u undef]) w := by
  rw [results_cell_tmp h, hq]
  have hr := run_loadVar_mid (P := Try.prog) w g 0 73 (pp a b) _ (hA.range 0 _ (by rw [List.drop_zero, List.take_length])) under_two rfl (by rw [size_two, pp_len a b ha hb])
  simp only [asAddr, Sem.run_pure, Result.andThen_ok, hr]
  rfl
theorem built_two : Try.prog.built 73 [] = some (pp zeroP zeroP).toArray := by kernel_rfl
section
variable {w : World} {ops : Array Oper} {rest : List Oper} {o : Oper} {a : Act} {Q : Exit → Act → World → Prop}
theorem wpList_build2 (hgd : Region.wanted o (yielded ops a.tmps) = true) (ho : o.op = .build 73 #[])
    (h : wpList Try.prog ops Q rest (a.put o.dst (ppV zeroP zeroP)) w) : wpList Try.prog ops Q (o :: rest) a w := by
  refine wpList_wanted hgd fun K hK => ?_
  have hrun := run_build (P := Try.prog) w 73 #[] _ built_two
  unfold Oper.wp
  simp [execOp, ho, hrun, Result.andThen]
  exact hK _ _ h
end
def slA (X : DSt) : List Int := if rdE X = 0 then (readP X 0).1 else zeroP
def slB (X : DSt) : List Int := if rdE X = 0 then (readP X 1).1 else zeroP

set_option maxRecDepth 100000 in
set_option maxHeartbeats 2000000 in
theorem slots_any {F : Nat → Prop} {X : DSt} (g : Nat) (w : World) (hD : Disk w F g X) (hm : X.pend.length ≤ 100000) :
    Calls Try.prog 29 #[ptr g] w fun e w' => e = .returned (.tuple #[ppV (slA X) (slB X), .int .i64 (rdE X)]) ∧ Fr noB w w' := by
  have l0 := readP_len hD 0
  have l1 := readP_len hD 1
  unfold slA slB rdE
  have r0 := show Hid _ from fun (W : World) (h : Disk W F g X) => read_any g 0 (by decide) W h hm
  have r1 := show Hid _ from fun (W : World) (h : Disk W F g X) => read_any g 1 (by decide) W h hm
  obtain ⟨⟨P0, E0⟩, H0⟩ : ∃ R, Hid (readP X 0 = R) := ⟨_, rfl⟩
  obtain ⟨⟨P1, E1⟩, H1⟩ : ∃ R, Hid (readP X 1 = R) := ⟨_, rfl⟩
  simp only [H0.out, H1.out] at l0 l1 r0 r1 ⊢
  have l0 := show Hid _ from l0
  have l1 := show Hid _ from l1
  obtain ⟨Z, HZ⟩ : ∃ Z, Hid (zeroP = Z) := ⟨_, rfl⟩
  have hZl : Hid (Z.length = 256) := by show _ = _; rw [← HZ.out]; exact zeroP_len
  simp only [HZ.out]
  go_enter Try.func29, Try.ntmps29
  go_wp2_with (first
    | (with_reducible refine at_wpP ?_; have b2' := b2; refine wpList_alloc2 rfl rfl ?_; rw [HZ.out]; intro g4 w4 hg4 b4 f4 s4; have c2 := b2.fr0 f4; have l2' := b2.lt; have l4 := b4.lt)
    | (with_reducible refine at_wpP ?_; refine wpList_alloc2 rfl rfl ?_; rw [HZ.out]; intro g2 w2 hg2 b2 f2 s2))
  have z2 := f2.size
  go_loopw [8] (fun i wr => ∃ (k : Nat) (a b : List Int), k ≤ 2 ∧ i = .int .i64 (k : Int) ∧ Hid ((k = 0 ∧ Z = a ∧ Z = b) ∨ (k = 1 ∧ P0 = a ∧ Z = b ∧ E0 = 0) ∨ (k = 2 ∧ P0 = a ∧ P1 = b ∧ E0 = 0 ∧ E1 = 0)) ∧ BxV wr g4 73 (pp a b) ∧ BxV wr g2 73 (pp Z Z) ∧ Fr noB w wr) (fun i _ => 2 - (intOf i).toNat)
  case atStart => exact ⟨0, Z, Z, by omega, rfl, show _ ∨ _ from Or.inl ⟨rfl, rfl, rfl⟩, b4, c2, f2.thenN f4⟩
  case round =>
    obtain ⟨k, a, b, hk, rfl, hc, hB, hC, hf⟩ := hrel
    rcases hc.out with ⟨rfl, rfl, rfl⟩ | ⟨rfl, rfl, rfl, rfl⟩ | ⟨rfl, rfl, rfl, rfl, rfl⟩
    · clear hc
      by_cases he : E0 = 0
      · subst he
        go_wp2_with (first
          | (go_at_call 28; go_must (refine (r0.out _ (hD.fr0 hf)).mono ?_; rintro e w5 ⟨rfl, f5⟩))
          | (with_reducible refine at_wpP ?_; refine wpList_allocP rfl rfl ?_; rw [HZ.out]; intro g6 w6 hg6 b6 f6 s6; have l6 := b6.lt; have zf := hf.size; have z5 := f5.size; have lB := hB.lt; have lC := hC.lt)
          | (with_reducible refine at_wpP ?_; refine at_st 46 _ _ rfl ?_; have c7' := c7; go_must (refine wpList_stPm rfl _ _ rfl g4 0 rfl (by decide) P0 rfl l0.out _ _ c7 hZl.out hZl.out ?_; intro w8 b8 f8))
          | (with_reducible refine at_wpP ?_; refine at_st 46 _ _ rfl ?_; go_must (refine wpList_storeP rfl _ _ rfl g6 rfl P0 rfl _ b6 l0.out hZl.out ?_; intro w7 b7 f7; have c7 := ((hB.fr0 f5).fr0 f6).ne f7 (by omega); have d7 := ((hC.fr0 f5).fr0 f6).ne f7 (by omega); have z7 := f7.size))
          | (with_reducible refine at_wpP ?_; refine at_ld 46 _ rfl ?_; go_must (refine wpList_loadP rfl _ rfl g6 rfl _ b7 l0.out ?_))
          | (refine at_idx 73 _ _ rfl ?_; go_must (refine wpList_idxA2 rfl _ _ rfl g4 rfl 0 rfl (by decide) ?_)))
        have F8 : Fr noB w w8 := (((hf.thenN f5).thenN f6).thenT f7 (fun i hi q => by unfold onB1 at q; omega)).thenT f8 (fun i hi q => by unfold onB1 at q; omega)
        have d8 := d7.ne f8 (by omega)
        go_roundw
        case rel => exact ⟨0 + 1, P0, Z, by omega, by go_num, by show _ ∨ _; simp, b8, d8, F8⟩
        case measure => simp [intOf]
      · go_wp2_with (first
          | (go_at_call 28; go_must (refine (r0.out _ (hD.fr0 hf)).mono ?_; rintro e w5 ⟨rfl, f5⟩))
          | (with_reducible refine at_wpP ?_; refine wpList_allocP rfl rfl ?_; rw [HZ.out]; intro g6 w6 hg6 b6 f6 s6; have l6 := b6.lt; have zf := hf.size; have z5 := f5.size; have lB := hB.lt; have lC := hC.lt)
          | (with_reducible refine at_wpP ?_; refine at_st 46 _ _ rfl ?_; go_must (refine wpList_storeP rfl _ _ rfl g6 rfl P0 rfl _ b6 l0.out hZl.out ?_; intro w7 b7 f7; have d7 := ((hC.fr0 f5).fr0 f6).ne f7 (by omega); have z7 := f7.size))
          | (with_reducible refine at_wpP ?_; refine wpList_build2 rfl rfl ?_; rw [HZ.out])
          | (with_reducible refine at_wpP ?_; refine at_st 73 _ _ rfl ?_; go_must (refine wpList_st2P rfl _ _ rfl g2 rfl Z Z Z Z rfl d7 hZl.out hZl.out hZl.out hZl.out ?_; intro w8 b8 f8)))
        have F8 : Fr noB w w8 := (((hf.thenN f5).thenN f6).thenT f7 (fun i hi q => by unfold onB1 at q; omega)).thenT f8 (fun i hi q => by unfold onB1 at q; omega)
        refine bodyPost_ret (results_pp Try.results29 _ w8 g2 Z Z rfl b8 hZl.out hZl.out) rfl ⟨?_, F8⟩
        simp [he]
    · clear hc
      by_cases he : E1 = 0
      · subst he
        go_wp2_with (first
          | (go_at_call 28; go_must (refine (r1.out _ (hD.fr0 hf)).mono ?_; rintro e w5 ⟨rfl, f5⟩))
          | (with_reducible refine at_wpP ?_; refine wpList_allocP rfl rfl ?_; rw [HZ.out]; intro g6 w6 hg6 b6 f6 s6; have l6 := b6.lt; have zf := hf.size; have z5 := f5.size; have lB := hB.lt; have lC := hC.lt)
          | (with_reducible refine at_wpP ?_; refine at_st 46 _ _ rfl ?_; have c7' := c7; go_must (refine wpList_stPm rfl _ _ rfl g4 1 rfl (by decide) P1 rfl l1.out P0 Z c7 l0.out hZl.out ?_; intro w8 b8 f8))
          | (with_reducible refine at_wpP ?_; refine at_st 46 _ _ rfl ?_; go_must (refine wpList_storeP rfl _ _ rfl g6 rfl P1 rfl _ b6 l1.out hZl.out ?_; intro w7 b7 f7; have c7 := ((hB.fr0 f5).fr0 f6).ne f7 (by omega); have d7 := ((hC.fr0 f5).fr0 f6).ne f7 (by omega); have z7 := f7.size))
          | (with_reducible refine at_wpP ?_; refine at_ld 46 _ rfl ?_; go_must (refine wpList_loadP rfl _ rfl g6 rfl _ b7 l1.out ?_))
          | (refine at_idx 73 _ _ rfl ?_; go_must (refine wpList_idxA2 rfl _ _ rfl g4 rfl 1 rfl (by decide) ?_)))
        have F8 : Fr noB w w8 := (((hf.thenN f5).thenN f6).thenT f7 (fun i hi q => by unfold onB1 at q; omega)).thenT f8 (fun i hi q => by unfold onB1 at q; omega)
        have d8 := d7.ne f8 (by omega)
        go_roundw
        case rel => exact ⟨1 + 1, P0, P1, by omega, by go_num, by show _ ∨ _; simp, b8, d8, F8⟩
        case measure => simp [intOf]
      · go_wp2_with (first
          | (go_at_call 28; go_must (refine (r1.out _ (hD.fr0 hf)).mono ?_; rintro e w5 ⟨rfl, f5⟩))
          | (with_reducible refine at_wpP ?_; refine wpList_allocP rfl rfl ?_; rw [HZ.out]; intro g6 w6 hg6 b6 f6 s6; have l6 := b6.lt; have zf := hf.size; have z5 := f5.size; have lB := hB.lt; have lC := hC.lt)
          | (with_reducible refine at_wpP ?_; refine at_st 46 _ _ rfl ?_; go_must (refine wpList_storeP rfl _ _ rfl g6 rfl P1 rfl _ b6 l1.out hZl.out ?_; intro w7 b7 f7; have d7 := ((hC.fr0 f5).fr0 f6).ne f7 (by omega); have z7 := f7.size))
          | (with_reducible refine at_wpP ?_; refine wpList_build2 rfl rfl ?_; rw [HZ.out])
          | (with_reducible refine at_wpP ?_; refine at_st 73 _ _ rfl ?_; go_must (refine wpList_st2P rfl _ _ rfl g2 rfl Z Z Z Z rfl d7 hZl.out hZl.out hZl.out hZl.out ?_; intro w8 b8 f8)))
        have F8 : Fr noB w w8 := (((hf.thenN f5).thenN f6).thenT f7 (fun i hi q => by unfold onB1 at q; omega)).thenT f8 (fun i hi q => by unfold onB1 at q; omega)
        refine bodyPost_ret (results_pp Try.results29 _ w8 g2 Z Z rfl b8 hZl.out hZl.out) rfl ⟨?_, F8⟩
        simp [he]
    · clear hc
      go_wp2_with (first
        | (with_reducible refine at_wpP ?_; refine at_ld 73 _ rfl ?_; go_must (refine wpList_ld2 rfl _ rfl g4 rfl _ _ hB l0.out l1.out ?_))
        | (with_reducible refine at_wpP ?_; refine at_st 73 _ _ rfl ?_; go_must (refine wpList_st2P rfl _ _ rfl g2 rfl _ _ Z Z rfl hC l0.out l1.out hZl.out hZl.out ?_; intro w8 b8 f8)))
      refine bodyPost_ret (results_pp Try.results29 _ w8 g2 _ _ rfl b8 l0.out l1.out) rfl ⟨?_, hf.thenT f8 (fun i hi q => by unfold onB1 at q; omega)⟩
      simp
end Go.Proofs.Ytijgfojnppcbjaa
/- Read and Next of package root. -/
namespace Go.Proofs.Ytijgfojnppcbjaa
open Go.RowKit Go.Proofs.U
set_option linter.unusedSimpArgs false
set_option linter.unusedVariables false

/-- What Read answers. -/
def ReadIs (w w' : World) (X : DSt) (e : Ending) : Prop := ∃ v, e = .returned (.tuple #[v, .int .u64 (rRead X).2.1, .int .i64 (rRead X).2.2]) ∧ SlI .u8 w' v (rRead X).1 ∧ (∀ q, v.ownBlock = some q → w.heap.size ≤ q ∧ q < w'.heap.size) ∧ Fr noB w w'

set_option maxRecDepth 100000 in
set_option maxHeartbeats 2000000 in
theorem rread_p {F : Nat → Prop} {X : DSt} (g : Nat) (w : World) (hD : Disk w F g X) (hm : X.pend.length ≤ 100000) (hb : X.byt) :
    Calls Try.prog 9 #[ptr g] w fun e w' => ReadIs w w' X e := by
  unfold ReadIs
  have hsl := show Hid _ from fun (W : World) (h : Disk W F g X) => slots_any g W h hm
  have hA : (slA X).length = 256 := by unfold slA; split <;> first | exact readP_len hD 0 | exact zeroP_len
  have hB : (slB X).length = 256 := by unfold slB; split <;> first | exact readP_len hD 1 | exact zeroP_len
  obtain ⟨Z, HZ⟩ : ∃ Z, Hid (zeroP = Z) := ⟨_, rfl⟩
  have hZl : Hid (Z.length = 256) := by show _ = _; rw [← HZ.out]; exact zeroP_len
  have b0 := readP_byt hb 0
  have b1 := readP_byt hb 1
  obtain ⟨E, HE⟩ : ∃ E, Hid (rdE X = E) := ⟨_, rfl⟩
  by_cases he : E = 0
  · subst he
    have hsA : slA X = (readP X 0).1 := by unfold slA; rw [HE.out]; rfl
    have hsB : slB X = (readP X 1).1 := by unfold slB; rw [HE.out]; rfl
    have hnw := show Hid _ from fun W => newestOf_any _ _ (hsA ▸ hA) (hsB ▸ hB) b0 b1 W
    have hrr : rRead X = if (nwst X).1 = 0 then ([], 0, 51) else ((nwst X).2, (nwst X).1, 0) := by unfold rRead; rw [HE.out]; rfl
    rw [hrr]
    unfold nwst
    have hnb := newest_bd b0 b1
    rw [hsA] at hA
    rw [hsB] at hB
    simp only [hsA, hsB, HE.out] at hsl
    clear hsA hsB hrr b0 b1
    obtain ⟨P0, H0⟩ : ∃ P, Hid ((readP X 0).1 = P) := ⟨_, rfl⟩
    obtain ⟨P1, H1⟩ : ∃ P, Hid ((readP X 1).1 = P) := ⟨_, rfl⟩
    simp only [H0.out, H1.out] at hA hB hsl hnw hnb ⊢
    obtain ⟨⟨G, C⟩, HN⟩ : ∃ R, Hid (newest P0 P1 = R) := ⟨_, rfl⟩
    simp only [HN.out] at hnw hnb ⊢
    have hA := show Hid _ from hA
    have hB := show Hid _ from hB
    by_cases hG : G = 0
    · subst hG
      simp only [if_true]
      go_enter Try.func9, Try.ntmps9
      go_wp2_with (first
        | (go_at_call 29; go_must (refine (hsl.out _ hD).mono ?_; rintro e w1 ⟨rfl, f1⟩))
        | (with_reducible refine at_wpP ?_; refine wpList_alloc2 rfl rfl ?_; rw [HZ.out]; intro g2 w2 hg2 b2 f2 s2; have l2 := b2.lt; have z1 := f1.size)
        | (with_reducible refine at_wpP ?_; refine at_st 73 _ _ rfl ?_; go_must (refine wpList_st2P rfl _ _ rfl g2 rfl P0 P1 Z Z rfl b2 hA.out hB.out hZl.out hZl.out ?_; intro w3 b3 f3; have z3 := f3.size))
        | (with_reducible refine at_wpP ?_; refine at_ld 73 _ rfl ?_; go_must (refine wpList_ld2 rfl _ rfl g2 rfl P0 P1 b3 hA.out hB.out ?_))
        | (go_at_call 30; go_must (refine (hnw.out _).mono ?_; rintro e w4 ⟨v4, rfl, i4, n4, f4⟩; have isv : isSl v4 := (by obtain ⟨a, c, rfl, _⟩ := i4.opn; exact isSl_mk _ _ _)))
        | (with_reducible refine at_wpP ?_; refine wpList_allocRt rfl rfl ?_; intro g5 w5 hg5 b5 f5 s5; have l5 := b5.lt; have z4 := f4.size)
        | (with_reducible refine at_wpP ?_; refine at_st 77 _ _ rfl ?_; go_must (refine wpList_stRt rfl _ _ rfl g5 rfl 0 v4 rfl isv _ _ b5 ?_; intro w6 b6 f6; obtain ⟨q0, _⟩ := b6.cell 0 _ rfl; obtain ⟨q1, _⟩ := b6.cell 1 _ rfl)))
      go_ret3
      refine ⟨_, rfl, SlI.nil _ _, (fun q hq => by simp [Value.ownBlock] at hq), ?_⟩
      exact ((((f1.thenN f2).thenT f3 (fun i hi q => by unfold onB1 at q; omega)).thenN f4).thenN f5).thenT f6 (fun i hi q => by unfold onB1 at q; omega)
    · have hG2 : (G == 0) = false := by simpa using hG
      rw [if_neg hG]
      go_enter Try.func9, Try.ntmps9
      go_wp2_with (first
        | (go_at_call 29; go_must (refine (hsl.out _ hD).mono ?_; rintro e w1 ⟨rfl, f1⟩))
        | (with_reducible refine at_wpP ?_; refine wpList_alloc2 rfl rfl ?_; rw [HZ.out]; intro g2 w2 hg2 b2 f2 s2; have l2 := b2.lt; have z1 := f1.size)
        | (with_reducible refine at_wpP ?_; refine at_st 73 _ _ rfl ?_; go_must (refine wpList_st2P rfl _ _ rfl g2 rfl P0 P1 Z Z rfl b2 hA.out hB.out hZl.out hZl.out ?_; intro w3 b3 f3; have z3 := f3.size))
        | (with_reducible refine at_wpP ?_; refine at_ld 73 _ rfl ?_; go_must (refine wpList_ld2 rfl _ rfl g2 rfl P0 P1 b3 hA.out hB.out ?_))
        | (go_at_call 30; go_must (refine (hnw.out _).mono ?_; rintro e w4 ⟨v4, rfl, i4, n4, f4⟩; have isv : isSl v4 := (by obtain ⟨a, c, rfl, _⟩ := i4.opn; exact isSl_mk _ _ _)))
        | (with_reducible refine at_wpP ?_; refine wpList_allocRt rfl rfl ?_; intro g5 w5 hg5 b5 f5 s5; have l5 := b5.lt; have z4 := f4.size)
        | (with_reducible refine at_wpP ?_; refine at_st 77 _ _ rfl ?_; go_must (refine wpList_stRt rfl _ _ rfl g5 rfl G v4 rfl isv _ _ b5 ?_; intro w6 b6 f6; obtain ⟨q0, _⟩ := b6.cell 0 _ rfl; obtain ⟨q1, _⟩ := b6.cell 1 _ rfl)))
      have i6 : SlI .u8 w6 v4 C := (i4.fr0 f5).fr f6 (fun b hb q => by have := (n4 b hb).2; unfold onB1 at q; omega)
      have F6 : Fr noB w w6 := ((((f1.thenN f2).thenT f3 (fun i hi q => by unfold onB1 at q; omega)).thenN f4).thenN f5).thenT f6 (fun i hi q => by unfold onB1 at q; omega)
      have z5 := f5.size
      have z6 := f6.size
      go_quiet (fail)
      go_wp2
      go_ret3
      refine ⟨v4, rfl, i6.fr0 ((Fr.refl _ _).drewN nq), (fun q hq => ?_), F6.drewN nq⟩
      have := n4 q hq
      exact ⟨by omega, by show q < w6.heap.size; omega⟩
  · have hrr : rRead X = ([], 0, E) := by unfold rRead; rw [HE.out, if_neg he]
    rw [hrr]
    have hsA : slA X = Z := by unfold slA; rw [HE.out, if_neg he]; exact HZ.out
    have hsB : slB X = Z := by unfold slB; rw [HE.out, if_neg he]; exact HZ.out
    simp only [hsA, hsB, HE.out] at hsl
    clear hsA hsB hrr hA hB b0 b1
    go_enter Try.func9, Try.ntmps9
    go_wp2_with (first
      | (go_at_call 29; go_must (refine (hsl.out _ hD).mono ?_; rintro e w1 ⟨rfl, f1⟩))
      | (with_reducible refine at_wpP ?_; refine wpList_alloc2 rfl rfl ?_; rw [HZ.out]; intro g2 w2 hg2 b2 f2 s2; have l2 := b2.lt; have z1 := f1.size)
      | (with_reducible refine at_wpP ?_; refine at_st 73 _ _ rfl ?_; go_must (refine wpList_st2P rfl _ _ rfl g2 rfl Z Z Z Z rfl b2 hZl.out hZl.out hZl.out hZl.out ?_; intro w3 b3 f3; have z3 := f3.size)))
    go_ret3
    exact ⟨_, rfl, SlI.nil _ _, (fun q hq => by simp [Value.ownBlock] at hq), (f1.thenN f2).thenT f3 (fun i hi q => by unfold onB1 at q; omega)⟩
end Go.Proofs.Ytijgfojnppcbjaa
/- DiskRuns, the plain part: the document's disk and the program's. -/
namespace Go.Proofs.Ytijgfojnppcbjaa
open Go.RowKit Go.Proofs.U
set_option linter.unusedSimpArgs false
set_option linter.unusedVariables false

theorem stay_all (m : Nat) (k s : Nat) (hk : k < m) (hs : s < 8) : stayK (List.replicate m 255) k s = true := by
  have e : (List.replicate m (255 : Int)).getD k 0 = 255 := by simp [List.getD, hk]
  unfold stayK
  rw [e]
  have : ∀ s : Fin 8, ((255 : Int) / 2 ^ s.val % 2 == 1) = true := by decide
  simpa [hk] using this ⟨s, hs⟩
theorem setS_congr (pages : List (List Int)) (pend : List (Int × List Int)) (st st' : Nat → Nat → Bool) (h : ∀ k s, k < pend.length → s < 8 → st k s = st' k s) : ∀ m, m ≤ pend.length → setS pages pend st m = setS pages pend st' m := by
  intro m
  induction m with
  | zero => intro _; rfl
  | succ m ih =>
    intro hm
    rw [setS_succ, setS_succ, ih (by omega)]
    unfold setS1
    congr 1
    unfold mixS
    apply List.map_congr_left
    intro i hi
    have hi8 : i / 32 < 8 := by have := List.mem_range.1 hi; omega
    rw [h m (i / 32) (by omega) hi8]
theorem mixS_none (old new : List Int) (st : Nat → Bool) (h : old.length = 256) (hs : ∀ s, st s = false) : mixS old new st 8 = old := by
  apply List.ext_getElem
  · simp [mixS, h]
  · intro i h1 h2
    simp [mixS, hs, List.getD, h2]
theorem setS_pl (pages : List (List Int)) (pend : List (Int × List Int)) (st : Nat → Nat → Bool) (h : ∀ p ∈ pages, p.length = 256) (k : Nat) : ∀ p ∈ setS pages pend st k, p.length = 256 := by
  induction k with
  | zero => exact h
  | succ k ih =>
    rw [setS_succ]
    unfold setS1
    intro p hp
    rcases List.mem_or_eq_of_mem_set hp with hp | hp
    · exact ih p hp
    · rw [hp]; exact mixS_len _ _ _ _
/-- A crash, as the document has it. -/
theorem setS_doc (pages : List (List Int)) (pend : List (Int × List Int)) (keep : List Int) (h : ∀ p ∈ pages, p.length = 256) (k : Nat) : setS pages pend (stayK keep) k = setlK pages pend keep k := by
  induction k with
  | zero => rfl
  | succ k ih =>
    rw [setS_succ, setlK_succ, ← ih]
    have hp := setS_pl pages pend (stayK keep) h k
    generalize setS pages pend (stayK keep) k = S at hp
    unfold setS1 setl1
    by_cases hk : k < keep.length
    · rw [if_pos hk]
      congr 1
      unfold mixS mixK
      apply List.map_congr_left
      intro i hi
      have hi := List.mem_range.1 hi
      have h8 : i / 32 < 8 := by omega
      simp [h8, hi, stayK, bitAt, hk]
    · rw [if_neg hk]
      generalize (pend.getD k (0, [])).1.toNat = at'
      by_cases hat : at' < S.length
      · have e : S.getD at' [] = S[at'] := by simp [List.getD, hat]
        rw [mixS_none _ _ _ (by rw [e]; exact hp _ (List.getElem_mem hat)) (fun s => by simp [stayK, hk]), e]
        exact List.set_getElem_self hat
      · exact List.set_eq_of_length_le (by omega)
structure RXD (X : DSt) (c : Bool) (l : Int) (bad : List Bool) : Prop where
  len : bad.length = X.pages.length
  bad : ∀ i, inR X.pages.length i = true → X.bad i = bad.getD i.toNat false
  cnt : c = true → 0 ≤ l ∧ l ≤ 9223372036854775807 ∧ X.left = l
  unc : c = false → X.left < 0
theorem RXD.new (n : Int) : RXD (newD n) false 0 (List.replicate (newN n) false) :=
  ⟨by simp [newD], fun i hi => by simp [newD, List.getD, List.getElem?_replicate]; split <;> rfl, fun h => (by cases h), fun _ => (by show (-1 : Int) < 0; decide)⟩
theorem RXD.hl {X : DSt} {c : Bool} {l : Int} {bad : List Bool} (h : RXD X c l bad) : c = true → -9223372036854775808 < l ∧ l ≤ 9223372036854775807 := fun hc => by have := h.cnt hc; omega
theorem RXD.act {X : DSt} {c : Bool} {l : Int} {bad : List Bool} (h : RXD X c l bad) :
    (actR c l X.down).2.1 = X.act.down ∧ (actR c l X.down).2.2 = X.actE ∧ RXD X.act c (actR c l X.down).1 bad := by
  obtain ⟨pages, xb, pend, d, lf⟩ := X
  have h1 := h.cnt
  have h2 := h.unc
  simp only at h1 h2
  unfold DSt.act DSt.actE actR actP
  simp only
  cases d with
  | true => exact ⟨by simp, by simp, ⟨h.len, h.bad, fun hc => by simpa using h1 hc, fun hc => by simpa using h2 hc⟩⟩
  | false =>
    cases c with
    | false =>
      have h3 := h2 rfl
      have e : (lf == 0) = false := by simp; omega
      have e2 : ¬ lf > 0 := by omega
      simp only [e, e2, Bool.false_or, Bool.false_and, if_false, Bool.false_eq_true]
      exact ⟨trivial, trivial, ⟨h.len, h.bad, fun hc => (by cases hc), fun _ => h3⟩⟩
    | true =>
      obtain ⟨h3, h4, rfl⟩ := h1 rfl
      by_cases e : lf = 0
      · subst e
        simp
        exact ⟨h.len, h.bad, fun _ => by simp, fun hc => (by cases hc)⟩
      · have e1 : (lf == 0) = false := by simpa using e
        have e2 : lf > 0 := by omega
        simp only [e1, e2, Bool.false_or, Bool.true_and, if_false, if_true, Bool.false_eq_true]
        exact ⟨trivial, trivial, ⟨h.len, h.bad, fun _ => ⟨by omega, by omega, rfl⟩, fun hc => (by cases hc)⟩⟩
theorem RXD.write {X : DSt} {c : Bool} {l : Int} {bad : List Bool} (h : RXD X c l bad) (i : Int) (p : List Int) :
    (X.write i p).pages = X.pages ∧
    (if inR X.pages.length i then (actR c l X.down).2.1 else X.down) = (X.write i p).down ∧ (if inR X.pages.length i then (actR c l X.down).2.2 else 41) = X.writeE i ∧
    (if inR X.pages.length i && (actR c l X.down).2.2 == 0 then X.pend ++ [(i, p)] else X.pend) = (X.write i p).pend ∧ RXD (X.write i p) c (if inR X.pages.length i then (actR c l X.down).1 else l) bad := by
  obtain ⟨h1, h2, h3⟩ := h.act
  unfold DSt.write DSt.writeE
  rw [h1, h2]
  cases inR X.pages.length i with
  | false => exact ⟨rfl, rfl, rfl, by simp, h⟩
  | true =>
    simp only [if_true, Bool.true_and]
    by_cases he : X.actE = 0
    · rw [if_pos he]
      exact ⟨by first | rfl | trivial, by first | rfl | trivial, by first | rfl | trivial, by simp [he], ⟨h3.len, h3.bad, h3.cnt, h3.unc⟩⟩
    · rw [if_neg he]
      exact ⟨by first | rfl | trivial, by first | rfl | trivial, by first | rfl | trivial, by simp [he]; rfl, h3⟩
theorem RXD.sync {X : DSt} {c : Bool} {l : Int} {bad : List Bool} (h : RXD X c l bad) (hp : ∀ p ∈ X.pages, p.length = 256) :
    (actR c l X.down).2.1 = X.sync.down ∧ (actR c l X.down).2.2 = X.actE ∧
    (if (actR c l X.down).2.2 == 0 then setlK X.pages X.pend (List.replicate X.pend.length 255) X.pend.length else X.pages) = X.sync.pages ∧
    (if (actR c l X.down).2.2 == 0 then [] else X.pend) = X.sync.pend ∧ RXD X.sync c (actR c l X.down).1 bad := by
  obtain ⟨h1, h2, h3⟩ := h.act
  unfold DSt.sync
  rw [h1, h2]
  by_cases he : X.actE = 0
  · rw [if_pos he]
    have hl : (X.act.settle (fun _ _ => true)).pages.length = X.pages.length := by simp [DSt.settle, setS_len]; rfl
    refine ⟨rfl, rfl, ?_, by simp [he, DSt.settle], ⟨by rw [hl]; exact h.len, fun i hi => by rw [hl] at hi; exact h.bad i hi, h3.cnt, h3.unc⟩⟩
    simp only [he, BEq.rfl, if_true]
    rw [← setS_doc _ _ _ hp]
    exact setS_congr _ _ _ _ (fun k s hk hs => stay_all _ k s hk hs) _ (Nat.le_refl _)
  · rw [if_neg he]
    have heb : (X.actE == 0) = false := by simpa using he
    exact ⟨rfl, rfl, by simp [heb]; rfl, by simp [heb]; rfl, h3⟩
theorem RXD.cut {X : DSt} {c : Bool} {l : Int} {bad : List Bool} (h : RXD X c l bad) (n : Int) (hn : -9223372036854775808 ≤ n ∧ n ≤ 9223372036854775807) : RXD { X with left := n } (decide (0 ≤ n)) n bad :=
  ⟨h.len, h.bad, fun hc => ⟨by simpa using hc, hn.2, rfl⟩, fun hc => by simp at hc; exact hc⟩
theorem RXD.crash {X : DSt} {c : Bool} {l : Int} {bad : List Bool} (h : RXD X c l bad) (hp : ∀ p ∈ X.pages, p.length = 256) (keep : List Int) :
    setlK X.pages X.pend keep X.pend.length = (X.crash keep).pages ∧ RXD (X.crash keep) false 0 bad := by
  have hl : (X.crash keep).pages.length = X.pages.length := by simp [DSt.crash, setS_len]
  refine ⟨(setS_doc _ _ _ hp _).symm, ⟨by rw [hl]; exact h.len, fun i hi => by rw [hl] at hi; exact h.bad i hi, fun hc => (by cases hc), fun _ => by show (-1 : Int) < 0; decide⟩⟩
theorem RXD.spoil {X : DSt} {c : Bool} {l : Int} {bad : List Bool} (h : RXD X c l bad) (i : Int) (b : Bool) :
    (X.spoil i b).pages = X.pages ∧ (X.spoil i b).pend = X.pend ∧ (X.spoil i b).down = X.down ∧ RXD (X.spoil i b) c l (if inR X.pages.length i then bad.set i.toNat b else bad) := by
  unfold DSt.spoil
  cases hin : inR X.pages.length i with
  | false => exact ⟨rfl, rfl, rfl, h⟩
  | true =>
    simp only [if_true]
    refine ⟨trivial, trivial, trivial, ⟨by simp [h.len], fun j hj => ?_, h.cnt, h.unc⟩⟩
    have h1 : 0 ≤ i ∧ i < (X.pages.length : Int) := by simpa [inR] using hin
    have h2 : 0 ≤ j ∧ j < (X.pages.length : Int) := by simpa [inR] using hj
    have hl := h.len
    simp only
    by_cases e : j = i
    · subst e
      have : j.toNat < bad.length := by omega
      simp [List.getD, this]
    · have e2 : ¬ i.toNat = j.toNat := by omega
      have e3 : (j == i) = false := by simpa using e
      rw [e3]
      simp only [Bool.false_eq_true, if_false]
      rw [h.bad j hj]
      simp [List.getD, List.getElem?_set_ne e2]
theorem RXD.read {X : DSt} {c : Bool} {l : Int} {bad : List Bool} (h : RXD X c l bad) (i : Int) : readR X.pages bad X.pend i = readP X i := by
  unfold readR readP
  cases hin : inR X.pages.length i with
  | false =>
    have : ¬ (0 ≤ i ∧ i < (X.pages.length : Int)) := by simp [inR] at hin; omega
    rw [if_neg this]; rfl
  | true =>
    have : 0 ≤ i ∧ i < (X.pages.length : Int) := by simpa [inR] using hin
    rw [if_pos this, h.bad i hin]; rfl
theorem disk_pl {w : World} {F : Nat → Prop} {g : Nat} {X : DSt} (h : Disk w F g X) : ∀ p ∈ X.pages, p.length = 256 := by
  obtain ⟨v1, m, v3, h⟩ := h
  intro p hp
  have := h.st.1 p hp
  rwa [pgv_len] at this
theorem disk_in {w : World} {F : Nat → Prop} {g : Nat} {X : DSt} (h : Disk w F g X) : (∀ x ∈ X.pend, 0 ≤ x.1 ∧ x.1 < (X.pages.length : Int)) ∧ X.pages.length ≤ 100000 := by
  obtain ⟨v1, m, v3, h⟩ := h
  exact ⟨h.pin, by have := h.len; omega⟩
end Go.Proofs.Ytijgfojnppcbjaa
/- DiskRuns: same. (Written by rs_gen.py.) -/
namespace Go.Proofs.U
open Go.RowKit
set_option linter.unusedSimpArgs false
set_option linter.unusedVariables false
/-- Where the cells of a slice lie that is not empty. -/
theorem SlR.addr {α : Type} {ec : α → List Value} {sz : Nat} {w : World} {v : Value} {l : List α} (h : SlR ec sz w v l) (hsz : 0 < sz) (hl : 0 < l.length) :
    ∃ b o cap, v = .slice (some ⟨b, o, none⟩) l.length cap ∧ ∀ j (hj : j < l.length) r u, (ec l[j])[r]? = some u → w.cell? ⟨b, o + j * sz + r, none⟩ = some u := by
  obtain ⟨hall, a, cap, rfl, hcap, hlen, hnone, hsome⟩ := h
  cases a with
  | none => have := hnone rfl; omega
  | some x =>
    have hc := hsome x rfl
    obtain ⟨b, o, sp⟩ := x
    have h0 : 0 < (l.flatMap ec).length := by rw [hlen]; exact Nat.mul_pos hl hsz
    have hsp : sp = none := by
      have := hc 0 _ (List.getElem?_eq_getElem h0)
      simpa [Addr.add] using World.cell?_spot this
    subst hsp
    refine ⟨b, o, cap, rfl, fun j hj r u hu => ?_⟩
    have hr : r < sz := by
      have h1 := (List.getElem?_eq_some_iff.1 hu).1
      rwa [hall _ (List.getElem_mem hj)] at h1
    have hf := flat_at ec sz l hall j hj r hr
    rw [hu] at hf
    have h2 := hc _ _ hf
    have hadd : (⟨b, o, none⟩ : Addr).add (j * sz + r) = ⟨b, o + j * sz + r, none⟩ := by unfold Addr.add; split <;> simp_all <;> omega
    rwa [hadd] at h2
theorem run_idxS {P : Program} {w : World} {sz : Nat} (t et : TypeId) (ht : P.underlying t = some (.slice et)) (hsz : (P.info? et).map (·.size) = some sz) (b o n cap : Nat) (k : IntKind) (j : Nat) (hj : j < n) :
    (Instr.indexAt t (.slice (some ⟨b, o, none⟩) n cap) (.int k (j : Int))).run P w = .ok (.pointer (some ⟨b, o + j * sz, none⟩)) w := by
  obtain ⟨ii, hinf, hsz'⟩ := Option.map_eq_some_iff.1 hsz
  have h1 : (0 : Int) ≤ (j : Int) ∧ (j : Int) < (n : Int) := by omega
  simp [Instr.indexAt, asIntOf, run_underlying ht, h1, sizeOf, typeInfo, hinf, hsz', go_sem, Addr.plain]
  omega
end Go.Proofs.U
namespace Go.Proofs.Ytijgfojnppcbjaa
open Go.RowKit Go.Proofs.U
set_option linter.unusedSimpArgs false
set_option linter.unusedVariables false
end Go.Proofs.Ytijgfojnppcbjaa
