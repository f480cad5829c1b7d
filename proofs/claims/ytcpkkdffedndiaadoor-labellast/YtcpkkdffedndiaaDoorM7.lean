/- LabelLast: the walk. -/
import Derived.Test.YtcpkkdffedndiaaDoorOpenL
import Derived.Test.YtcpkkdffedndiaaDoorL9
import Derived.Test.YtcpkkdffedndiaaDoorM7a
import Derived.Test.YtcpkkdffedndiaaDoorRI4
import Derived.Laws.StructEq
namespace Go.Proofs.YtcpkkdffedndiaaDoor
open Go.RowKit Go.Proofs.U
set_option linter.unusedSimpArgs false
set_option linter.unusedVariables false

def fdL (l : List (Int × Int)) (M : Int × Int) (k : Nat) : Bool := (l.length == 0) || (l.take k).any fun x => x == M
theorem fdL_succ (l : List (Int × Int)) (M : Int × Int) (k : Nat) (h : k < l.length) : fdL l M (k + 1) = (fdL l M k || l[k] == M) := by
  unfold fdL
  rw [List.take_succ_eq_append_getElem h, List.any_append]
  simp [Bool.or_assoc]

set_option maxRecDepth 100000 in
set_option maxHeartbeats 4000000 in
theorem last_in (l : List (Int × Int)) (sa : Option Addr) (cap t : Nat) (w : World) (hl : SlL w (.slice sa l.length cap) l) (hU : ∀ x ∈ l, U2 x.1 x.2) (ht : Tab w) (hlen : l.length ≤ 100) (htl : t ≤ l.length) :
    Calls Tryd.prog 9 #[.slice sa l.length cap, .int .i64 (t : Int)] w fun r w' => r = .returned (.bool true) ∧ Below w.heap.size w w' := by
  have hcap : l.length ≤ cap := by obtain ⟨_, _, he, h⟩ := hl.opn; cases he; exact h
  obtain ⟨M, HM⟩ : ∃ M, Hid (lastL l = M) := ⟨_, rfl⟩
  obtain ⟨m1, m2⟩ := M
  obtain ⟨D, HD⟩ : ∃ D, Hid (l.drop t = D) := ⟨_, rfl⟩
  obtain ⟨E, HE⟩ : ∃ E, Hid (l.take t = E) := ⟨_, rfl⟩
  have hDl : Hid (D.length = l.length - t) := by show _ = _; rw [← HD.out]; simp
  have hEl : Hid (E.length = t) := by show _ = _; rw [← HE.out]; simp; omega
  have hDE : Hid (lastL (D ++ E) = (m1, m2)) := by show _ = _; rw [← HD.out, ← HE.out, last_turn, HM.out]
  have d1 : ¬ (100 : Int) < (l.length : Int) := by omega
  have d2 : ¬ ((t : Int) < 0) := by omega
  have d3 : ¬ ((l.length : Int) < (t : Int)) := by omega
  have cL := fun w h => last_any (.slice sa l.length cap) l w h (by omega)
  rw [HM.out] at cL
  go_enter Tryd.func9, Tryd.ntmps9
  go_wp2_with (first
    | (go_at_call 12; go_must (refine (alive_any _ ht).mono ?_; rintro e w1 ⟨rfl, F1⟩))
    | (go_at_call 13; go_must (refine (cL _ (hl.fr0 F1)).mono ?_; rintro e w2 ⟨rfl, f2⟩; have F2 := F1.thenN f2))
    | (with_reducible refine at_wp ?_; refine wpList_stL rfl _ _ rfl w2.heap.size rfl _ _ _ _ rfl (Bx.made w2 0 0) ?_; go_must (intro w3 b3 f3 z3; clear z3; have F3 : Fr noB w w3 := (F2.alloc _).thenT f3 (fun i hi q => by unfold onL at q; have := F2.size; omega))))
  have hl3 := hl.fr0 F3
  have hSl : Sl w3.drew 2 (.slice sa l.length cap) l.length (l.flatMap lc) := (hl.fr0 (F3.drew)).2
  have hb3 := b3.lt
  refine wp_region_chain_lay (by kernel_rfl) [0, 4, 8, 9] [some 0, none, none, none, some 1, none, none, none, some 2, some 3, none, none]
    [fun _ => True, fun v => v = .slice sa l.length cap, fun v => v = .int .i64 (t : Int), fun v => Sl w3.drew 2 v D.length (D.flatMap lc), fun _ => True, fun v => v = .slice sa l.length cap, fun v => v = .int .i64 (t : Int),
     fun v => Sl w3.drew 2 v E.length (E.flatMap lc), fun _ => True, fun _ => True, fun v => v = .agg #[.int .u32 m1, .int .u32 m2], fun v => v = .bool false]
    (JL w3.drew D E (lab m1 m2)) (Fr.refl _ _) (by kernel_rfl) (by kernel_rfl) (by decide) ⟨?o0, ?o1, ?o2, ?o3, ?o4, ?o5, ?o6, ?o7, ?o8, ?o9, ?o10, ?o11, trivial⟩ ?oe
  case o0 =>
    intro A W hv hlen hJ hbase hdL hdH
    obtain rfl : hv = [] := List.eq_nil_of_length_eq_zero hlen
    exact heavy_val rfl (v := .slice (some ⟨W.heap.size, 0, none⟩) 0 0) (w' := W.alloc (.cells #[] 24)) (by simp [execOp, go_sem]) ⟨(JL.fr hJ).alloc _, World.ownsRow_made W #[] 0 (JL.fr hJ).size (Nat.zero_le _) rfl⟩
  case o1 =>
    intro A W hv hlen hJ hbase hdL hdH
    have e0 : A.eval (.tmp 0) = .slice sa l.length cap := hbase 0 (by kernel_rfl)
    exact light_val rfl (v := .slice sa l.length cap) (by simp [execOp, e0]) hJ rfl
  case o2 =>
    intro A W hv hlen hJ hbase hdL hdH
    have e0 : A.eval (.tmp 1) = .int .i64 (t : Int) := hbase 1 (by kernel_rfl)
    exact light_val rfl (v := .int .i64 (t : Int)) (by simp [execOp, e0]) hJ rfl
  case o3 =>
    intro A W hv hlen hJ hbase hdL hdH
    have e0 : A.eval (.tmp 27) = .slice sa l.length cap := hdL 1 27 (by kernel_rfl) (by kernel_rfl) (by kernel_rfl)
    have e1 : A.eval (.tmp 28) = .int .i64 (t : Int) := hdL 2 28 (by kernel_rfl) (by kernel_rfl) (by kernel_rfl)
    have hr := run_cutl (P := Tryd.prog) (w := W) 30 24 Tryd.underlying30 2 lab_size sa l.length cap .i64 t htl
    refine light_val rfl (v := .slice (if cap = t then sa else sa.map (·.add (t * 2))) (l.length - t) (cap - t)) (by simp [execOp, e0, e1, hr, Result.andThen]) hJ ?_
    have := hSl.cut t (l.length - t) (by omega) (ao' := if cap = t then sa else sa.map (·.add (t * 2))) (fun e => by simp [e]) (fun e => by simp [e]) (c' := cap - t) rfl
    rw [flat_cut, HD.out] at this
    have e2 : D.take (l.length - t) = D := List.take_of_length_le (by rw [hDl.out]; exact Nat.le_refl _)
    rw [e2] at this
    show Sl _ _ _ D.length _
    rw [hDl.out]; exact this
  case o4 =>
    intro A W hv hlen hJ hbase hdL hdH
    obtain ⟨v26, rfl⟩ := List.length_eq_one_iff.1 hlen
    have e26 : v26 = A.eval (.tmp 26) := by have := hdH 0 26 0 (by kernel_rfl) rfl (by kernel_rfl); simpa using this
    have hS : Sl w3.drew 2 (A.eval (.tmp 29)) D.length (D.flatMap lc) := hdL 3 29 (by kernel_rfl) (by kernel_rfl) (by kernel_rfl)
    obtain ⟨hfr, hown⟩ := hJ
    have h9 := hDl.out
    refine heavy_wp rfl ?_
    refine wp_app (.tmp 26) (.tmp 29) 30 rfl w3.drew.heap.size 24 _ 2 8 Tryd.underlying30 infoL rfl (by decide) _ 0 [] e26.symm hown _ D.length _ rfl (hS.fr0 hfr) (ones2 D) (by unfold maxLen; omega) (by omega) hfr.size ?_
    intro v' w' own' gr
    exact ⟨v', rfl, hfr.grown gr (owns_new hown), by simpa using own'⟩
  case o5 =>
    intro A W hv hlen hJ hbase hdL hdH
    have e0 : A.eval (.tmp 0) = .slice sa l.length cap := hbase 0 (by kernel_rfl)
    exact light_val rfl (v := .slice sa l.length cap) (by simp [execOp, e0]) hJ rfl
  case o6 =>
    intro A W hv hlen hJ hbase hdL hdH
    have e0 : A.eval (.tmp 1) = .int .i64 (t : Int) := hbase 1 (by kernel_rfl)
    exact light_val rfl (v := .int .i64 (t : Int)) (by simp [execOp, e0]) hJ rfl
  case o7 =>
    intro A W hv hlen hJ hbase hdL hdH
    have e0 : A.eval (.tmp 31) = .slice sa l.length cap := hdL 5 31 (by kernel_rfl) (by kernel_rfl) (by kernel_rfl)
    have e1 : A.eval (.tmp 32) = .int .i64 (t : Int) := hdL 6 32 (by kernel_rfl) (by kernel_rfl) (by kernel_rfl)
    have hr := run_cuth (P := Tryd.prog) (w := W) 30 24 Tryd.underlying30 2 lab_size sa l.length cap .i64 t (by omega)
    refine light_val rfl (v := .slice sa t cap) (by simp [execOp, e0, e1, hr, Result.andThen]) hJ ?_
    have := hSl.cut 0 t (by omega) (ao' := sa) (fun e => rfl) (fun e => by cases sa <;> simp [Addr.add]) (c' := cap) (by omega)
    rw [flat_cut, List.drop_zero, HE.out] at this
    show Sl _ _ _ E.length _
    rw [hEl.out]; exact this
  case o8 =>
    intro A W hv hlen hJ hbase hdL hdH
    match hv, hlen with
    | [x26, v30], _ =>
      have e30 : v30 = A.eval (.tmp 30) := by have := hdH 4 30 1 (by kernel_rfl) rfl (by kernel_rfl); simpa using this
      have hS : Sl w3.drew 2 (A.eval (.tmp 33)) E.length (E.flatMap lc) := hdL 7 33 (by kernel_rfl) (by kernel_rfl) (by kernel_rfl)
      obtain ⟨hfr, hown⟩ := hJ
      have h9 := hDl.out
      have h8 := hEl.out
      refine heavy_wp rfl ?_
      refine wp_app (.tmp 30) (.tmp 33) 30 rfl w3.drew.heap.size 24 _ 2 8 Tryd.underlying30 infoL rfl (by decide) _ D.length _ e30.symm hown _ E.length _ rfl (hS.fr0 hfr) (ones2 E) (by unfold maxLen; omega) (by omega) hfr.size ?_
      intro v' w' own' gr
      exact ⟨v', rfl, hfr.grown gr (owns_new hown), own'⟩
  case o9 =>
    intro A W hv hlen hJ hbase hdL hdH
    match hv, hlen with
    | [x26, x30, v34], _ =>
      have e34 : v34 = A.eval (.tmp 34) := by have := hdH 8 34 2 (by kernel_rfl) rfl (by kernel_rfl); simpa using this
      obtain ⟨hfr, hown⟩ := hJ
      have f34 : A.tmps[34]?.getD undef = v34 := by rw [e34]; simp [Act.eval]
      have hSS : SlL W v34 (D ++ E) := ⟨fun _ _ => rfl, by rw [List.length_append, List.flatMap_append]; exact Sl.of_owns hown⟩
      have h9 := hDl.out
      have h8 := hEl.out
      refine heavy_call rfl (args := #[v34]) (f := 13) (by simp [execOp, resolve, invoke, go_sem, ← e34, f34]) ?_
      refine (last_any v34 (D ++ E) W hSS (by rw [List.length_append]; omega)).mono ?_
      rintro e w' ⟨rfl, f'⟩
      refine ⟨_, rfl, hfr.thenN f', ?_⟩
      rw [hDE.out]
  case o10 =>
    intro A W hv hlen hJ hbase hdL hdH
    have e5 : A.eval (.tmp 5) = .pointer (some ⟨w2.heap.size, 0, none⟩) := hbase 5 (by kernel_rfl)
    have f5 : A.tmps[5]?.getD undef = .pointer (some ⟨w2.heap.size, 0, none⟩) := by simpa [Act.eval] using e5
    obtain ⟨q1, q2, q3, q4⟩ := ((b3.fr0 ((Fr.refl _ _).drew)).fr0 (JL.fr hJ)).all
    exact light_val rfl (v := .agg #[.int .u32 m1, .int .u32 m2]) (by simp [execOp, go_sem, e5, f5, q1, q2]) hJ rfl
  case o11 =>
    intro A W hv hlen hJ hbase hdL hdH
    have e36 : A.eval (.tmp 36) = .agg #[.int .u32 m1, .int .u32 m2] := hdL 10 36 (by kernel_rfl) (by kernel_rfl) (by kernel_rfl)
    have f36 : A.tmps[36]?.getD undef = .agg #[.int .u32 m1, .int .u32 m2] := by simpa [Act.eval] using e36
    have h35 := hdH 9 35 3 (by kernel_rfl) rfl (by kernel_rfl)
    match hv, hlen, h35 with
    | [x26, x30, x34, v35], _, h35 =>
      have e35 : A.eval (.tmp 35) = .agg #[.int .u32 m1, .int .u32 m2] := by
        have h1 : v35 = A.eval (.tmp 35) := by simpa using h35
        rw [← h1]; exact hJ.2
      have f35 : A.tmps[35]?.getD undef = .agg #[.int .u32 m1, .int .u32 m2] := by simpa [Act.eval] using e35
      exact light_val rfl (v := .bool false) (by simp [execOp, go_sem, e35, f35, e36, f36]) hJ rfl
  case oe =>
    intro vs W' hv hlen hJ hL hH
    have F4 : Fr noB w W' := (F3.drew).thenN (JL.fr hJ)
    have b4 := (b3.fr0 ((Fr.refl _ _).drew)).fr0 (JL.fr hJ)
    have x1 : vs 1 = _ := hL 1 (by rfl) (by rfl)
    have x2 : vs 2 = _ := hL 2 (by rfl) (by rfl)
    have x11 : vs 11 = _ := hL 11 (by rfl) (by rfl)
    simp only [layL, Nat.reduceAdd, x1, x2, x11, Act.put, List.setIfInBounds_toArray, List.set_cons_zero, List.set_cons_succ]
    clear x1 x2 x11 hL hH hJ
    generalize vs 0 = y0 at *
    generalize vs 3 = y3 at *
    generalize vs 4 = y4 at *
    generalize vs 5 = y5 at *
    generalize vs 6 = y6 at *
    generalize vs 7 = y7 at *
    generalize vs 8 = y8 at *
    generalize vs 9 = y9 at *
    generalize vs 10 = y10 at *
    have hMall : ∀ x ∈ l, leL x (m1, m2) := by rw [← HM.out]; exact last_ge l
    have hMend : Hid (fdL l (m1, m2) l.length = true) := by
      show _ = _
      unfold fdL
      rw [List.take_length]
      by_cases hl0 : l = []
      · simp [hl0]
      · have := last_mem hU hl0
        rw [HM.out] at this
        have h1 : l.any (fun x => x == (m1, m2)) = true := List.any_eq_true.2 ⟨_, this, by simp⟩
        rw [h1]; simp
    have hf0 : Hid (fdL l (m1, m2) 0 = (l.length == 0)) := by show _ = _; simp [fdL]
    obtain ⟨q1, q2, q3, q4⟩ := b4.all
    have hb4 := b4.lt
    have start : ∃ b : Bool, Hid ((l.length == 0) = b) := ⟨_, rfl⟩
    obtain ⟨b0, Hb0⟩ := start
    rw [Hb0.out] at hf0
    cases b0 with
    | true =>
      have hl0 : Hid (l.length = 0) := by show _ = _; have := Hb0.out; simpa using this
      have hm0 : (m1, m2) = ((0 : Int), (0 : Int)) := by rw [← HM.out, List.eq_nil_of_length_eq_zero hl0.out]; rfl
      have hi0 : ((l.length : Int) == 0) = true := by rw [hl0.out]; rfl
      obtain ⟨rfl, rfl⟩ : m1 = 0 ∧ m2 = 0 := by simpa using hm0
      clear hm0
      go_wp2
      go_loopw [6, 48] (fun fnd i wr => ∃ k : Nat, k ≤ l.length ∧ i = .int .i64 k ∧ fnd = .bool true ∧ Fr noB w wr) (fun _ i _ => l.length - (intOf i).toNat)
      case atStart => exact ⟨0, Nat.zero_le _, rfl, rfl, F4⟩
      case round =>
        obtain ⟨k, hk, rfl, rfl, hf⟩ := hrel
        have hge : ¬ ((k : Int) < (l.length : Int)) := by have := hl0.out; omega
        go_wp2
        go_ret
        exact ⟨rfl, hf.below⟩
    | false =>
      have hi0 : ((l.length : Int) == 0) = false := by have := Hb0.out; simpa using this
      go_wp2
      go_loopw [6, 48] (fun fnd i wr => ∃ k : Nat, k ≤ l.length ∧ i = .int .i64 k ∧ fnd = .bool (fdL l (m1, m2) k) ∧ Bx wr w2.heap.size m1 m2 ∧ Fr noB w wr) (fun _ i _ => l.length - (intOf i).toNat)
      case atStart => exact ⟨0, Nat.zero_le _, rfl, by rw [hf0.out], b4, F4⟩
      case round =>
        obtain ⟨k, hk, rfl, rfl, hB, hf⟩ := hrel
        have hlB := hB.lt
        by_cases hlt : k < l.length
        · have hS := hl.fr0 hf
          have hle := hMall l[k] (by simp)
          have hsucc := show Hid _ from fdL_succ l (m1, m2) k hlt
          obtain ⟨X, HX⟩ : ∃ X, Hid (l[k] = X) := ⟨l[k], (rfl : l[k] = l[k])⟩
          rw [HX.out] at hle hsucc
          obtain ⟨x1, x2⟩ := X
          have hcmp : ¬ 0 < cmpL x1 x2 m1 m2 := by unfold leL at hle; simp only at hle; omega
          clear hle
          obtain ⟨fk, Hfk⟩ : ∃ b, Hid (fdL l (m1, m2) k = b) := ⟨_, rfl⟩
          rw [Hfk.out] at hsucc
          rw [Hfk.out]
          cases fk with
          | true =>
            go_wp2_with (first
              | (refine at_idx 30 _ _ rfl ?_; go_must (refine wpList_idxR rfl 30 _ _ rfl 24 Tryd.underlying30 2 lab_size _ _ _ rfl hS (by decide) _ _ k rfl rfl hlt ?_; rw [HX.out]; intro ba oa hba hca; have p0 := hca 0 _ rfl; have p1 := hca 1 _ rfl; rw [Nat.add_zero] at p0; clear hca))
              | (go_at_call 18; go_must (refine (cmp_any _ _ _ _ _).mono ?_; rintro e w8 ⟨rfl, f8⟩; have b8 := b7.fr0 f8))
              | (with_reducible refine at_wp ?_; refine wpList_stL rfl _ _ rfl wr.heap.size rfl _ _ _ _ rfl (Bx.made wr 0 0) ?_; go_must (intro w7 c7 f7 z7; clear z7; have F7 : Fr noB w w7 := (hf.alloc _).thenT f7 (fun i hi q => by unfold onL at q; have := hf.size; omega); have b7 := (hB.alloc _).fr f7 (fun q => by unfold onL at q; omega); obtain ⟨r1, r2, r3, r4⟩ := c7.all; obtain ⟨s1, s2, s3, s4⟩ := b7.all)))
            go_roundw
            case rel => exact ⟨k + 1, by omega, by go_num, by rw [hsucc.out, Bool.true_or], b8, F7.thenN f8⟩
            case measure => simp [intOf]; omega
          | false =>
            by_cases hx1 : x1 = m1
            · by_cases hx2 : x2 = m2
              · subst hx1
                subst hx2
                go_wp2_with (first
                  | (refine at_idx 30 _ _ rfl ?_; go_must (refine wpList_idxR rfl 30 _ _ rfl 24 Tryd.underlying30 2 lab_size _ _ _ rfl hS (by decide) _ _ k rfl rfl hlt ?_; rw [HX.out]; intro ba oa hba hca; have p0 := hca 0 _ rfl; have p1 := hca 1 _ rfl; rw [Nat.add_zero] at p0; clear hca))
                  | (go_at_call 18; go_must (refine (cmp_any _ _ _ _ _).mono ?_; rintro e w8 ⟨rfl, f8⟩; have b8 := b7.fr0 f8))
                  | (with_reducible refine at_wp ?_; refine wpList_stL rfl _ _ rfl wr.heap.size rfl _ _ _ _ rfl (Bx.made wr 0 0) ?_; go_must (intro w7 c7 f7 z7; clear z7; have F7 : Fr noB w w7 := (hf.alloc _).thenT f7 (fun i hi q => by unfold onL at q; have := hf.size; omega); have b7 := (hB.alloc _).fr f7 (fun q => by unfold onL at q; omega); obtain ⟨r1, r2, r3, r4⟩ := c7.all; obtain ⟨s1, s2, s3, s4⟩ := b7.all)))
                go_roundw
                case rel => exact ⟨k + 1, by omega, by go_num, by rw [hsucc.out]; simp [], b8, F7.thenN f8⟩
                case measure => simp [intOf]; omega
              · subst hx1
                have hne : (x2 == m2) = false := by simpa using hx2
                go_wp2_with (first
                  | (refine at_idx 30 _ _ rfl ?_; go_must (refine wpList_idxR rfl 30 _ _ rfl 24 Tryd.underlying30 2 lab_size _ _ _ rfl hS (by decide) _ _ k rfl rfl hlt ?_; rw [HX.out]; intro ba oa hba hca; have p0 := hca 0 _ rfl; have p1 := hca 1 _ rfl; rw [Nat.add_zero] at p0; clear hca))
                  | (go_at_call 18; go_must (refine (cmp_any _ _ _ _ _).mono ?_; rintro e w8 ⟨rfl, f8⟩; have b8 := b7.fr0 f8))
                  | (with_reducible refine at_wp ?_; refine wpList_stL rfl _ _ rfl wr.heap.size rfl _ _ _ _ rfl (Bx.made wr 0 0) ?_; go_must (intro w7 c7 f7 z7; clear z7; have F7 : Fr noB w w7 := (hf.alloc _).thenT f7 (fun i hi q => by unfold onL at q; have := hf.size; omega); have b7 := (hB.alloc _).fr f7 (fun q => by unfold onL at q; omega); obtain ⟨r1, r2, r3, r4⟩ := c7.all; obtain ⟨s1, s2, s3, s4⟩ := b7.all)))
                go_roundw
                case rel => exact ⟨k + 1, by omega, by go_num, by rw [hsucc.out]; simp [hx2], b8, F7.thenN f8⟩
                case measure => simp [intOf]; omega
            · have hne : (x1 == m1) = false := by simpa using hx1
              go_wp2_with (first
                | (refine at_idx 30 _ _ rfl ?_; go_must (refine wpList_idxR rfl 30 _ _ rfl 24 Tryd.underlying30 2 lab_size _ _ _ rfl hS (by decide) _ _ k rfl rfl hlt ?_; rw [HX.out]; intro ba oa hba hca; have p0 := hca 0 _ rfl; have p1 := hca 1 _ rfl; rw [Nat.add_zero] at p0; clear hca))
                | (go_at_call 18; go_must (refine (cmp_any _ _ _ _ _).mono ?_; rintro e w8 ⟨rfl, f8⟩; have b8 := b7.fr0 f8))
                | (with_reducible refine at_wp ?_; refine wpList_stL rfl _ _ rfl wr.heap.size rfl _ _ _ _ rfl (Bx.made wr 0 0) ?_; go_must (intro w7 c7 f7 z7; clear z7; have F7 : Fr noB w w7 := (hf.alloc _).thenT f7 (fun i hi q => by unfold onL at q; have := hf.size; omega); have b7 := (hB.alloc _).fr f7 (fun q => by unfold onL at q; omega); obtain ⟨r1, r2, r3, r4⟩ := c7.all; obtain ⟨s1, s2, s3, s4⟩ := b7.all)))
              go_roundw
              case rel => exact ⟨k + 1, by omega, by go_num, by rw [hsucc.out]; simp [hx1], b8, F7.thenN f8⟩
              case measure => simp [intOf]; omega
        · obtain rfl : k = l.length := by omega
          rw [hMend.out]
          go_wp2
          go_ret
          exact ⟨rfl, hf.below⟩

set_option maxHeartbeats 2000000 in
theorem last_walk (vl : Value) (l : List (Int × Int)) (turn : Int) (w : World) (hl : SlL w vl l ∧ ∀ x ∈ l, U2 x.1 x.2) (htw : (Lit.int .i64 turn).wf = true) (ht : Tab w) :
    Calls Tryd.prog 9 #[vl, .int .i64 turn] w fun r w' => r = .returned (.bool true) ∧ Below w.heap.size w w' := by
  obtain ⟨hl, hU⟩ := hl
  obtain ⟨sa, cap, rfl, hcap⟩ := hl.opn
  by_cases h1 : (100 : Int) < (l.length : Int)
  · go_enter Tryd.func9, Tryd.ntmps9
    go_wp2_with (go_at_call 12; go_must (refine (alive_any _ ht).mono ?_; rintro e w1 ⟨rfl, F1⟩))
    go_ret
    exact ⟨rfl, F1.below⟩
  by_cases h2 : turn < 0
  · go_enter Tryd.func9, Tryd.ntmps9
    go_wp2_with (go_at_call 12; go_must (refine (alive_any _ ht).mono ?_; rintro e w1 ⟨rfl, F1⟩))
    go_ret
    exact ⟨rfl, F1.below⟩
  by_cases h3 : (l.length : Int) < turn
  · go_enter Tryd.func9, Tryd.ntmps9
    go_wp2_with (go_at_call 12; go_must (refine (alive_any _ ht).mono ?_; rintro e w1 ⟨rfl, F1⟩))
    go_ret
    exact ⟨rfl, F1.below⟩
  obtain ⟨t, rfl⟩ : ∃ t : Nat, turn = t := ⟨turn.toNat, by omega⟩
  exact last_in l sa cap t w hl hU ht (by omega) (by omega)
end Go.Proofs.YtcpkkdffedndiaaDoor
