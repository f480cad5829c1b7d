/- Texts Y11, Y12 of the proof of PoolClones, one behind the other. -/
import Derived.Test.YtghkpeejogldkaaBundlePoolClones1
import Derived.Test.YtghkpeejogldkaaBundlePoolClones2
import Derived.Test.YtghkpeejogldkaaBundlePoolClones3
import Derived.Test.YtghkpeejogldkaaBundlePoolClones4
import Derived.Test.YtghkpeejogldkaaBundlePoolClones5
import Derived.Test.YtghkpeejogldkaaBundlePoolClones6
import Derived.Test.YtghkpeejogldkaaBundlePoolClones7
import Derived.Test.YtghkpeejogldkaaBundlePoolClones8
import Derived.Test.YtghkpeejogldkaaBundlePoolClones9
import Derived.Test.YtghkpeejogldkaaBundlePoolClones10
import Derived.Test.YtghkpeejogldkaaBundlePoolClones11
/- Acts with a pool; PoolSafe. (Written by y11_gen.py.) -/
namespace Go.Proofs.Ytghkpeejogldkaa
open Go.RowKit Go.Proofs.U
set_option linter.unusedSimpArgs false
set_option linter.unusedVariables false

theorem act_size7 : (Try.prog.info? 38).map (·.size) = some 2 := by kernel_rfl
theorem act_zero7 : (Try.prog.info? 38).map (·.zero) = some (some (.agg (pairC .i64 .i64 (0, 0)).toArray)) := by kernel_rfl
theorem act_under7 : Try.prog.underlying 38 = some (.struct (Try.prog.fieldsOf 38)) := by kernel_rfl
/-- An act as a value; a variable that holds one. -/
def acV (x : Int × Int) : Value := .agg (pairC .i64 .i64 x).toArray
abbrev AcB (w : World) (g : Nat) (x : Int × Int) : Prop := BxV w g 38 (pairC .i64 .i64 x)
theorem AcB.all {w : World} {g : Nat} {x : Int × Int} (h : AcB w g x) : w.cell? ⟨g, 0, none⟩ = some (.int .i64 x.1) ∧ w.cell? ⟨g, 1, none⟩ = some (.int .i64 x.2) := ⟨(h.cell 0 _ rfl).1, (h.cell 1 _ rfl).1⟩
section
variable {w : World} {ops : Array Oper} {rest : List Oper} {o : Oper} {a : Act} {Q : Exit → Act → World → Prop}
theorem wpList_alAct (hgd : Region.wanted o (yielded ops a.tmps) = true) (ho : o.op = .alloc 38)
    (h : ∀ g w', Hid (g = w.heap.size) → AcB w' g (0, 0) → Fr noB w w' → w.heap.size ≤ g → wpList Try.prog ops Q rest (a.put o.dst (.pointer (some ⟨g, 0, none⟩))) w') : wpList Try.prog ops Q (o :: rest) a w :=
  wpList_allocV hgd _ ho _ act_zero7 h
theorem wpList_ldAct (hgd : o.guard = none) (y : Operand) (ho : o.op = .load 38 y) (b off : Nat) (hy : a.eval y = .pointer (some ⟨b, off, none⟩)) (x : Int × Int) (hc : ∀ q u, (pairC .i64 .i64 x)[q]? = some u → w.cell? ⟨b, off + q, none⟩ = some u)
    (h : wpList Try.prog ops Q rest (a.put o.dst (acV x)) w) : wpList Try.prog ops Q (o :: rest) a w :=
  wpList_load_mid hgd _ y ho b off hy (pairC .i64 .i64 x) _ (range_of fun j v hj => hc j v hj) act_under7 rfl act_size7 h
theorem wpList_stAct (hgd : o.guard = none) (y z : Operand) (ho : o.op = .store 38 y z) (g : Nat) (hy : a.eval y = .pointer (some ⟨g, 0, none⟩)) (x x' : Int × Int) (hB : AcB w g x) (hz : a.eval z = acV x')
    (h : ∀ w', AcB w' g x' → Fr (onB1 g) w w' → wpList Try.prog ops Q rest (a.put o.dst undef) w') : wpList Try.prog ops Q (o :: rest) a w := by
  refine wpList_storeV hgd _ y z ho g 0 hy (pairC .i64 .i64 x') hz _ (pairC .i64 .i64 x) hB act_size7 (Nat.le_refl _) (by intro v hv; simp [pairC] at hv; rcases hv with rfl | rfl <;> rfl) ?_
  intro w' h1 h2
  rw [putAt_all (pairC .i64 .i64 x) (pairC .i64 .i64 x') rfl] at h1
  exact h w' h1 h2
end

/-- How many counts there are above nought. -/
def heldN (c : List Int) : Nat := c.countP (fun x => decide (0 < x))
theorem heldN_le (c : List Int) : heldN c ≤ c.length := List.countP_le_length
theorem heldN_succ (c : List Int) (k : Nat) (h : k < c.length) : heldN (c.take (k + 1)) = heldN (c.take k) + if 0 < c.getD k 0 then 1 else 0 := by
  unfold heldN
  rw [List.take_succ_eq_append_getElem h, List.countP_append]
  congr 1
  simp [List.countP_cons, List.getD, h]
theorem plCounts_eq (L : List Pg) (h : L.length ≤ 240) : plCounts L = L.map Pg.c ++ List.replicate (240 - L.length) 0 := by
  refine List.ext_getElem (by rw [plCounts_len]; simp; omega) fun i h1 h2 => ?_
  rw [plCounts_len] at h1
  have e : (plCounts L)[i]'(by rw [plCounts_len]; exact h1) = (plAt L i).c := by simp [plCounts]
  rw [e]
  by_cases hi : i < L.length
  · rw [List.getElem_append_left (by simpa using hi), List.getElem_map, plAt_get _ _ hi]
  · rw [List.getElem_append_right (by simp; omega), List.getElem_replicate, plAt_out _ _ (by omega)]; rfl
theorem heldN_counts {L : List Pg} (h : plOk L) : heldN (plCounts L) = L.countP (fun x => !(x.c == 0)) := by
  have hc : ∀ x ∈ L, 0 ≤ x.c := by
    intro x hx
    obtain ⟨j, hj, rfl⟩ := List.mem_iff_getElem.1 hx
    have := (h.2 j).1
    rwa [plAt_get L j hj] at this
  unfold heldN
  rw [plCounts_eq L h.1, List.countP_append, List.countP_replicate, if_neg (by simp), Nat.add_zero, List.countP_map]
  refine List.countP_congr fun x hx => ?_
  have := hc x hx
  simp
  omega
theorem safe_free_n {L : List Pg} (hL : plOk L) (hs : ∀ i, (plAt L i).s = 0) : plFree L + heldN (plCounts L) = L.length := by
  rw [heldN_counts hL]; exact free_still hs
/-- What was held at the last commit isn't free. -/
def SafeL (base : List Int) (L : List Pg) : Prop := ∀ i, safeP (base.getD i 0) (plAt L i)
theorem SafeL.start {L : List Pg} (hs : ∀ i, (plAt L i).s = 0) : SafeL (plCounts L) L := by
  intro i
  by_cases hi : i < 240
  · rw [plCounts_at _ _ hi]; exact safe_start hs i
  · intro hb
    have hl := plCounts_len L
    have : (plCounts L).getD i 0 = 0 := by simp [List.getD, List.getElem?_eq_none (show (plCounts L).length ≤ i by omega)]
    rw [this] at hb
    exact absurd hb (by decide)
theorem plCounts_byt {L : List Pg} (h : plOk L) : Byt (plCounts L) := by
  intro x hx
  simp only [plCounts, List.mem_map, List.mem_range] at hx
  obtain ⟨i, _, rfl⟩ := hx
  have := h.2 i
  have h0 := this.1
  have h1 := this.2.1
  simp [Lit.wf, IntKind.min, IntKind.max, IntKind.signed, IntKind.bits]
  omega

set_option maxRecDepth 100000 in
set_option maxHeartbeats 4000000 in
theorem psafe_walk (n : Int) (vc : Value) (c : List Int) (va : Value) (acts : List (Int × Int)) (w : World) (hn : (Lit.int .i64 n).wf = true) (hc : IsArr vc 240 c) (ha : SlP .i64 .i64 w va acts) :
    Calls Try.prog 5 #[.int .i64 n, vc, va] w fun r w' => r = .returned (.bool true) ∧ Below w.heap.size w w' := by
  obtain ⟨rfl, hcl, hcb⟩ := hc
  have Hc := show Hid _ from hcl
  obtain ⟨hA, _⟩ := ha
  obtain ⟨a2, c2', rfl, hc2⟩ := hA.opn
  have hok := fun L h => plLoad_ok (n := n) hcl (fun i => hcb.at i) (L := L) h
  have hst := fun L h => load_still (n := n) hcl (L := L) h
  clear hcl
  by_cases hbig : 150 < acts.length
  · have hb1 : (150 : Int) < (acts.length : Int) := by omega
    go_enter Try.func5, Try.ntmps5
    go_wp2_with (first
      | (with_reducible refine at_wpP ?_; refine wpList_boxV rfl 30 _ rfl (pgv c) rfl ?_; intro g4 w1 hg4 b1 f1 s1)
      | (go_at_call 13; go_must (refine (palive_any _).mono ?_; rintro e w2 ⟨rfl, f2⟩)))
    go_ret
    exact ⟨rfl, (f1.thenN f2).below⟩
  · have hb1 : ¬ (150 : Int) < (acts.length : Int) := by omega
    cases hR : plLoad n c with
    | none =>
      have hld := show Hid _ from fun W => pload_any n c Hc.out hcb none hR W
      go_enter Try.func5, Try.ntmps5
      go_wp2_with (first
        | (with_reducible refine at_wpP ?_; refine wpList_boxV rfl 30 _ rfl (pgv c) rfl ?_; intro g4 w1 hg4 b1 f1 s1)
        | (go_at_call 13; go_must (refine (palive_any _).mono ?_; rintro e w2 ⟨rfl, f2⟩; have b2 := b1.fr0 f2))
        | (with_reducible refine at_wpP ?_; refine at_ld 30 _ rfl ?_; go_must (refine wpList_loadA arr_240 rfl _ rfl g4 rfl c b2 Hc.out ?_))
        | (go_at_call 12; go_must (refine (hld.out _).mono ?_; rintro e w3 ⟨f3, rfl⟩)))
      go_ret
      exact ⟨rfl, ((f1.thenN f2).thenN f3).below⟩
    | some L0 =>
      have hld := show Hid _ from fun W => pload_any n c Hc.out hcb (some L0) hR W
      have ok0 := hok L0 hR
      have st0 := hst L0 hR
      clear hok hst
      obtain ⟨base0, HB0⟩ : ∃ b, Hid (plCounts L0 = b) := ⟨_, rfl⟩
      have hb0l : Hid (base0.length = 240) := by show _ = _; rw [← HB0.out, plCounts_len]
      have hb0b : Byt base0 := by rw [← HB0.out]; exact plCounts_byt ok0
      have sf0 : Hid (SafeL base0 L0) := by show SafeL _ _; rw [← HB0.out]; exact SafeL.start st0
      go_enter Try.func5, Try.ntmps5
      go_wp2_with (first
        | (with_reducible refine at_wpP ?_; refine wpList_boxV rfl 30 _ rfl (pgv c) rfl ?_; intro g4 w1 hg4 b1 f1 s1)
        | (go_at_call 13; go_must (refine (palive_any _).mono ?_; rintro e w2 ⟨rfl, f2⟩; have b2 := b1.fr0 f2))
        | (with_reducible refine at_wpP ?_; refine at_ld 30 _ rfl ?_; go_must (refine wpList_loadA arr_240 rfl _ rfl g4 rfl c b2 Hc.out ?_))
        | (go_at_call 12; go_must (refine (hld.out _).mono ?_; rintro e w3 ⟨f3, g7, rfl, s7, p3⟩; have F3 := (f1.thenN f2).thenN f3; have l7 := p3.lt))
        | (go_at_call 28; go_must (refine (pcounts_any g7 _ p3).mono ?_; rw [HB0.out]; rintro e w4 ⟨rfl, f4⟩; have F4 := F3.thenN f4; have p4 := p3.fr0 f4; have z4 := f4.size))
        | (with_reducible refine at_wpP ?_; refine wpList_allocA arr_counts rfl rfl ?_; intro g9 w5 hg9 b5 f5 s9; have p5 := p4.fr0 f5; have F5 := F4.thenN f5; have l9 := b5.lt; have z5 := f5.size)
        | (with_reducible refine at_wpP ?_; refine at_st 50 _ _ rfl ?_; go_must (refine wpList_storeA arr_counts rfl _ _ rfl g9 rfl base0 rfl _ b5 hb0l.out (zerB_len 240) ?_; intro w6 b6 f6; have p6 := p5.ne f6 (by omega); have z6 := f6.size)))
      have zz1 := f1.size
      have zz2 := f2.size
      have zz3 := F3.size
      have zz4 := F4.size
      have s7 : w.heap.size ≤ g7 := by omega
      have s9 : w.heap.size ≤ g9 := by omega
      have F6 := Fr.own F5 s9 f6
      have g79 : g7 ≠ g9 := by omega
      go_loopw [36] (fun i wr => ∃ (k : Nat) (L : List Pg) (base : List Int), k ≤ acts.length ∧ i = .int .i64 (k : Int) ∧ PoolB wr g7 L ∧ BxV wr g9 50 (pgv base) ∧ plOk L ∧ Hid (base.length = 240) ∧ Byt base ∧ Hid (SafeL base L) ∧ Fr noB w wr) (fun i _ => acts.length - (intOf i).toNat)
      case atStart => exact ⟨0, L0, base0, by omega, rfl, p6, b6, ok0, hb0l, hb0b, sf0, F6⟩
      case round =>
        obtain ⟨k, L, base, hk, rfl, Bp, Bc, hL, hbl, hbb, hsf, hf⟩ := hrel
        have l7' := Bp.lt
        have l9' := Bc.lt
        have zf := hf.size
        by_cases hlt : k < acts.length
        · obtain ⟨x, Hx⟩ : ∃ x, Hid (acts[k] = x) := ⟨acts[k], (rfl : acts[k] = acts[k])⟩
          clear p6 b6 f6 F6 ok0 sf0 st0 hld F5 F4 F3 p5 p4 p3 b5 f5 f4 f3 b2 f2 b1 f1 hb0l hb0b
          by_cases hk0 : x.1 = 0
          · have hk := hk0
            rcases plTake_cases L with ⟨m, hm, hfr, _, hT⟩ | ⟨_, hT⟩
            · have hm2 : m < 240 := by have := hL.1; omega
              have hnb : ¬ 0 < base.getD m 0 := safe_free (hsf.out m) hfr
              have hbm := Bc.cell m (.int .u8 (base.getD m 0)) (by rw [pgv_get _ _ (by rw [hbl.out]; exact hm2)]; simp [List.getD, hbl.out, hm2])
              have ok1 := take_ok hL
              have sf1 : Hid (SafeL base (plTake L).1) := safe_take hsf.out
              rw [hT] at ok1 sf1
              have hm0 : ¬ (m : Int) < 0 := by omega
              have hm3 : ¬ (240 : Int) ≤ (m : Int) := by omega
              obtain ⟨y, Hy⟩ : ∃ y, Hid (base.getD m 0 = y) := ⟨_, rfl⟩
              rw [Hy.out] at hnb hbm
              go_wp2_with (first
                | (refine at_idx 33 _ _ rfl ?_; go_must (refine wpList_idxR rfl 33 _ _ rfl 38 Try.underlying33 2 act_size7 _ _ _ rfl (hA.fr0 hf) (by decide) _ _ k rfl rfl hlt ?_; rw [Hx.out]; intro ba oa hba hca))
                | (with_reducible refine at_wpP ?_; refine at_ld 38 _ rfl ?_; refine wpList_ldAct rfl _ rfl ba oa rfl x hca ?_)
                | (with_reducible refine at_wpP ?_; refine wpList_alAct rfl rfl ?_; intro ga w1 hga b1 f1 sa; have l1 := b1.lt; have F1 := hf.thenN f1; have z1 := f1.size)
                | (with_reducible refine at_wpP ?_; refine at_st 38 _ _ rfl ?_; go_must (refine wpList_stAct rfl _ _ rfl ga rfl _ x b1 rfl ?_; intro w2 b2 f2; have F2 := Fr.own F1 (by omega) f2; obtain ⟨q0, q1⟩ := b2.all; rw [show x.1 = 0 from hk] at q0; have z2 := f2.size; have p2 := Bp.fr0 f1; have p2 := p2.ne f2 (by omega); have c2 := Bc.fr0 f1; have c2 := c2.ne f2 (by omega)))
                | (go_at_call 10; go_must (refine (ptake_at hL hT g7 _ p2).mono ?_; rintro e w3 ⟨rfl, p3, f3⟩; have c3 := c2.ne f3 (by omega); have F3 := Fr.own F2 s7 f3; have qb := (c3.cell m (.int .u8 y) (by rw [pgv_get _ _ (by rw [hbl.out]; exact hm2), ← Hy.out]; simp [List.getD, hbl.out, hm2])).1))
                | (refine at_idx 50 _ _ rfl ?_; refine wpList_idxAt arr_counts rfl _ _ rfl g9 rfl .i64 _ m rfl rfl hm2 ?_))
              go_roundw
              case rel => exact ⟨k + 1, _, base, by omega, by go_num, p3, c3, ok1, hbl, hbb, sf1, F3⟩
              case measure => simp [intOf]; omega
            · have ok1 := hL
              go_wp2_with (first
                | (refine at_idx 33 _ _ rfl ?_; go_must (refine wpList_idxR rfl 33 _ _ rfl 38 Try.underlying33 2 act_size7 _ _ _ rfl (hA.fr0 hf) (by decide) _ _ k rfl rfl hlt ?_; rw [Hx.out]; intro ba oa hba hca))
                | (with_reducible refine at_wpP ?_; refine at_ld 38 _ rfl ?_; refine wpList_ldAct rfl _ rfl ba oa rfl x hca ?_)
                | (with_reducible refine at_wpP ?_; refine wpList_alAct rfl rfl ?_; intro ga w1 hga b1 f1 sa; have l1 := b1.lt; have F1 := hf.thenN f1; have z1 := f1.size)
                | (with_reducible refine at_wpP ?_; refine at_st 38 _ _ rfl ?_; go_must (refine wpList_stAct rfl _ _ rfl ga rfl _ x b1 rfl ?_; intro w2 b2 f2; have F2 := Fr.own F1 (by omega) f2; obtain ⟨q0, q1⟩ := b2.all; rw [show x.1 = 0 from hk] at q0; have z2 := f2.size; have p2 := Bp.fr0 f1; have p2 := p2.ne f2 (by omega); have c2 := Bc.fr0 f1; have c2 := c2.ne f2 (by omega)))
                | (go_at_call 10; go_must (refine (ptake_at hL hT g7 _ p2).mono ?_; rintro e w3 ⟨rfl, p3, f3⟩; have c3 := c2.ne f3 (by omega); have F3 := Fr.own F2 s7 f3)))
              go_roundw
              case rel => exact ⟨k + 1, _, base, by omega, by go_num, p3, c3, ok1, hbl, hbb, hsf, F3⟩
              case measure => simp [intOf]; omega
          · by_cases hk1 : x.1 = 1
            · have hk := hk1
              have ok1 := hold_ok hL x.2
              have sf1 : Hid (SafeL base _) := safe_hold hsf.out x.2
              go_wp2_with (first
                | (refine at_idx 33 _ _ rfl ?_; go_must (refine wpList_idxR rfl 33 _ _ rfl 38 Try.underlying33 2 act_size7 _ _ _ rfl (hA.fr0 hf) (by decide) _ _ k rfl rfl hlt ?_; rw [Hx.out]; intro ba oa hba hca))
                | (with_reducible refine at_wpP ?_; refine at_ld 38 _ rfl ?_; refine wpList_ldAct rfl _ rfl ba oa rfl x hca ?_)
                | (with_reducible refine at_wpP ?_; refine wpList_alAct rfl rfl ?_; intro ga w1 hga b1 f1 sa; have l1 := b1.lt; have F1 := hf.thenN f1; have z1 := f1.size)
                | (with_reducible refine at_wpP ?_; refine at_st 38 _ _ rfl ?_; go_must (refine wpList_stAct rfl _ _ rfl ga rfl _ x b1 rfl ?_; intro w2 b2 f2; have F2 := Fr.own F1 (by omega) f2; obtain ⟨q0, q1⟩ := b2.all; rw [show x.1 = 1 from hk] at q0; have z2 := f2.size; have p2 := Bp.fr0 f1; have p2 := p2.ne f2 (by omega); have c2 := Bc.fr0 f1; have c2 := c2.ne f2 (by omega)))
                | (go_at_call 11; go_must (refine (phold_any hL g7 x.2 _ p2).mono ?_; rintro e w3 ⟨rfl, p3, f3⟩; have c3 := c2.ne f3 (by omega); have F3 := Fr.own F2 s7 f3)))
              go_roundw
              case rel => exact ⟨k + 1, _, base, by omega, by go_num, p3, c3, ok1, hbl, hbb, sf1, F3⟩
              case measure => simp [intOf]; omega
            · by_cases hk2 : x.1 = 2
              · have hk := hk2
                have ok1 := drop_ok hL x.2
                have sf1 : Hid (SafeL base _) := safe_drop hsf.out x.2
                go_wp2_with (first
                  | (refine at_idx 33 _ _ rfl ?_; go_must (refine wpList_idxR rfl 33 _ _ rfl 38 Try.underlying33 2 act_size7 _ _ _ rfl (hA.fr0 hf) (by decide) _ _ k rfl rfl hlt ?_; rw [Hx.out]; intro ba oa hba hca))
                  | (with_reducible refine at_wpP ?_; refine at_ld 38 _ rfl ?_; refine wpList_ldAct rfl _ rfl ba oa rfl x hca ?_)
                  | (with_reducible refine at_wpP ?_; refine wpList_alAct rfl rfl ?_; intro ga w1 hga b1 f1 sa; have l1 := b1.lt; have F1 := hf.thenN f1; have z1 := f1.size)
                  | (with_reducible refine at_wpP ?_; refine at_st 38 _ _ rfl ?_; go_must (refine wpList_stAct rfl _ _ rfl ga rfl _ x b1 rfl ?_; intro w2 b2 f2; have F2 := Fr.own F1 (by omega) f2; obtain ⟨q0, q1⟩ := b2.all; rw [show x.1 = 2 from hk] at q0; have z2 := f2.size; have p2 := Bp.fr0 f1; have p2 := p2.ne f2 (by omega); have c2 := Bc.fr0 f1; have c2 := c2.ne f2 (by omega)))
                  | (go_at_call 18; go_must (refine (pdrop_any hL g7 x.2 _ p2).mono ?_; rintro e w3 ⟨rfl, p3, f3⟩; have c3 := c2.ne f3 (by omega); have F3 := Fr.own F2 s7 f3)))
                go_roundw
                case rel => exact ⟨k + 1, _, base, by omega, by go_num, p3, c3, ok1, hbl, hbb, sf1, F3⟩
                case measure => simp [intOf]; omega
              · by_cases hk5 : x.1 = 5
                · have hk := hk5
                  have ok1 := mark_ok hL
                  have sf1 : Hid (SafeL base _) := safe_mark hsf.out
                  go_wp2_with (first
                    | (refine at_idx 33 _ _ rfl ?_; go_must (refine wpList_idxR rfl 33 _ _ rfl 38 Try.underlying33 2 act_size7 _ _ _ rfl (hA.fr0 hf) (by decide) _ _ k rfl rfl hlt ?_; rw [Hx.out]; intro ba oa hba hca))
                    | (with_reducible refine at_wpP ?_; refine at_ld 38 _ rfl ?_; refine wpList_ldAct rfl _ rfl ba oa rfl x hca ?_)
                    | (with_reducible refine at_wpP ?_; refine wpList_alAct rfl rfl ?_; intro ga w1 hga b1 f1 sa; have l1 := b1.lt; have F1 := hf.thenN f1; have z1 := f1.size)
                    | (with_reducible refine at_wpP ?_; refine at_st 38 _ _ rfl ?_; go_must (refine wpList_stAct rfl _ _ rfl ga rfl _ x b1 rfl ?_; intro w2 b2 f2; have F2 := Fr.own F1 (by omega) f2; obtain ⟨q0, q1⟩ := b2.all; rw [show x.1 = 5 from hk] at q0; have z2 := f2.size; have p2 := Bp.fr0 f1; have p2 := p2.ne f2 (by omega); have c2 := Bc.fr0 f1; have c2 := c2.ne f2 (by omega)))
                    | (go_at_call 23; go_must (refine (pmark_any hL g7 _ p2).mono ?_; rintro e w3 ⟨gm, rfl, sm, pm, p3, f3⟩; have c3 := c2.ne f3 (by omega); have F3 := Fr.own F2 s7 f3)))
                  go_roundw
                  case rel => exact ⟨k + 1, _, base, by omega, by go_num, p3, c3, ok1, hbl, hbb, sf1, F3⟩
                  case measure => simp [intOf]; omega
                · by_cases hk6 : x.1 = 6
                  · have hk := hk6
                    have ok1 := tidy_ok hL
                    have sf1 : Hid (SafeL base _) := safe_tidy hsf.out
                    go_wp2_with (first
                      | (refine at_idx 33 _ _ rfl ?_; go_must (refine wpList_idxR rfl 33 _ _ rfl 38 Try.underlying33 2 act_size7 _ _ _ rfl (hA.fr0 hf) (by decide) _ _ k rfl rfl hlt ?_; rw [Hx.out]; intro ba oa hba hca))
                      | (with_reducible refine at_wpP ?_; refine at_ld 38 _ rfl ?_; refine wpList_ldAct rfl _ rfl ba oa rfl x hca ?_)
                      | (with_reducible refine at_wpP ?_; refine wpList_alAct rfl rfl ?_; intro ga w1 hga b1 f1 sa; have l1 := b1.lt; have F1 := hf.thenN f1; have z1 := f1.size)
                      | (with_reducible refine at_wpP ?_; refine at_st 38 _ _ rfl ?_; go_must (refine wpList_stAct rfl _ _ rfl ga rfl _ x b1 rfl ?_; intro w2 b2 f2; have F2 := Fr.own F1 (by omega) f2; obtain ⟨q0, q1⟩ := b2.all; rw [show x.1 = 6 from hk] at q0; have z2 := f2.size; have p2 := Bp.fr0 f1; have p2 := p2.ne f2 (by omega); have c2 := Bc.fr0 f1; have c2 := c2.ne f2 (by omega)))
                      | (go_at_call 26; go_must (refine (ptidy_any hL g7 _ p2).mono ?_; rintro e w3 ⟨rfl, p3, f3⟩; have c3 := c2.ne f3 (by omega); have F3 := Fr.own F2 s7 f3)))
                    go_roundw
                    case rel => exact ⟨k + 1, _, base, by omega, by go_num, p3, c3, ok1, hbl, hbb, sf1, F3⟩
                    case measure => simp [intOf]; omega
                  · by_cases hk3 : x.1 = 3
                    · have hk := hk3
                      have ok1 := comm_ok hL
                      have still1 := comm_still L
                      have hN := safe_free_n ok1 still1
                      have hCl := plCounts_len (plCommit L)
                      have hCb := plCounts_byt ok1
                      have sf1 : Hid (SafeL (plCounts (plCommit L)) (plCommit L)) := SafeL.start still1
                      have hml := ok1.1
                      obtain ⟨M, HM⟩ : ∃ M, Hid (plCommit L = M) := ⟨_, rfl⟩
                      rw [HM.out] at ok1 hN hCl hCb sf1 hml
                      obtain ⟨C, HC⟩ : ∃ C, Hid (plCounts M = C) := ⟨_, rfl⟩
                      rw [HC.out] at hN hCl hCb sf1
                      obtain ⟨H, HH⟩ : ∃ H, Hid (heldN C = H) := ⟨_, rfl⟩
                      rw [HH.out] at hN
                      obtain ⟨E, HE⟩ : ∃ E, Hid (plFree M = E) := ⟨_, rfl⟩
                      rw [HE.out] at hN
                      have hCl := show Hid _ from hCl
                      have hN := show Hid _ from hN
                      clear still1
                      go_wp2_with (first
                        | (refine at_idx 33 _ _ rfl ?_; go_must (refine wpList_idxR rfl 33 _ _ rfl 38 Try.underlying33 2 act_size7 _ _ _ rfl (hA.fr0 hf) (by decide) _ _ k rfl rfl hlt ?_; rw [Hx.out]; intro ba oa hba hca))
                        | (with_reducible refine at_wpP ?_; refine at_ld 38 _ rfl ?_; refine wpList_ldAct rfl _ rfl ba oa rfl x hca ?_)
                        | (with_reducible refine at_wpP ?_; refine wpList_alAct rfl rfl ?_; intro ga w1 hga b1 f1 sa; have l1 := b1.lt; have F1 := hf.thenN f1; have z1 := f1.size)
                        | (with_reducible refine at_wpP ?_; refine at_st 38 _ _ rfl ?_; go_must (refine wpList_stAct rfl _ _ rfl ga rfl _ x b1 rfl ?_; intro w2 b2 f2; have F2 := Fr.own F1 (by omega) f2; obtain ⟨q0, q1⟩ := b2.all; rw [show x.1 = 3 from hk] at q0; have z2 := f2.size; have p2 := Bp.fr0 f1; have p2 := p2.ne f2 (by omega); have c2 := Bc.fr0 f1; have c2 := c2.ne f2 (by omega)))
                        | (go_at_call 20; go_must (refine (pcommit_at HM.out g7 _ p2).mono ?_; rintro e w3 ⟨rfl, p3, f3⟩; have c3 := c2.ne f3 (by omega); have F3 := Fr.own F2 s7 f3))
                        | (go_at_call 28; go_must (refine (pcounts_any g7 _ p3).mono ?_; rw [HC.out]; rintro e w4 ⟨rfl, f4⟩; have c4 := c3.fr0 f4; have p4 := p3.fr0 f4; have F4 := F3.thenN f4))
                        | (with_reducible refine at_wpP ?_; refine at_st 50 _ _ rfl ?_; go_must (refine wpList_storeA arr_counts rfl _ _ rfl g9 rfl C rfl _ c4 hCl.out hbl.out ?_; intro w5 c5 f5; have p5 := p4.ne f5 g79; have F5 := Fr.own F4 s9 f5))
                        | (with_reducible refine at_wpP ?_; refine at_ld 50 _ rfl ?_; go_must (refine wpList_loadA arr_counts rfl _ rfl g9 rfl C c5 hCl.out ?_)))
                      go_loop [14, 92] (fun u i => ∃ (j : Nat) (m : Nat), j ≤ 240 ∧ i = .int .i64 (j : Int) ∧ u = .int .i64 (m : Int) ∧ Hid (heldN (C.take j) = m)) (fun _ i => 240 - (intOf i).toNat)
                      case atStart => exact ⟨0, 0, by omega, rfl, rfl, rfl⟩
                      case round =>
                        obtain ⟨j, m, hj, rfl, rfl, hm⟩ := hrel
                        have hml2 : m ≤ 240 := by
                          have := heldN_le (C.take j)
                          rw [hm.out, List.length_take, hCl.out] at this; omega
                        by_cases hjt : j < 240
                        · have hs := show Hid _ from heldN_succ C j (by rw [hCl.out]; exact hjt)
                          rw [hm.out] at hs
                          obtain ⟨y, Hy⟩ : ∃ y, Hid (C.getD j 0 = y) := ⟨_, rfl⟩
                          rw [Hy.out] at hs
                          by_cases hy : 0 < y
                          · rw [if_pos hy] at hs
                            go_wp2_with (first
                              | (refine at_index 50 _ _ rfl ?_; go_must (refine wpList_indexA arr_counts rfl _ _ rfl C rfl hCl.out j rfl hjt ?_; rw [Hy.out])))
                            go_round
                            case rel => exact ⟨j + 1, m + 1, by omega, by go_num, by go_num, hs⟩
                            case measure => simp [intOf]; omega
                          · rw [if_neg hy] at hs
                            go_wp2_with (first
                              | (refine at_index 50 _ _ rfl ?_; go_must (refine wpList_indexA arr_counts rfl _ _ rfl C rfl hCl.out j rfl hjt ?_; rw [Hy.out])))
                            go_round
                            case rel => exact ⟨j + 1, m, by omega, by go_num, rfl, hs⟩
                            case measure => simp [intOf]; omega
                        · obtain rfl : j = 240 := by omega
                          rw [List.take_of_length_le (by rw [hCl.out]; exact Nat.le_refl _)] at hm
                          obtain rfl : m = H := hm.out.symm.trans HH.out
                          have hsub : (M.length : Int) - (m : Int) = (E : Int) := by have := hN.out; omega
                          have hwr : IntKind.i64.wrap ((M.length : Int) - (m : Int)) = (E : Int) := by rw [hsub, IntKind.wrap_i64]; have := hN.out; omega
                          clear hsub
                          go_wp2_with (first
                            | (go_at_call 29; go_must (refine (pfreeN_any ok1 g7 _ p5).mono ?_; rw [HE.out]; rintro e w' ⟨rfl, rfl⟩))
                            | (go_at_call 14; go_must (refine (psize_any g7 _ p5).mono ?_; rintro e w' ⟨rfl, rfl⟩)))
                          go_roundw
                          case rel => exact ⟨k + 1, M, C, by omega, by go_num, p5, c5, ok1, hCl, hCb, sf1, F5⟩
                          case measure => simp [intOf]; omega
                    · have hk0' : (x.1 == 0) = false := by simpa using hk0
                      have hk1' : (x.1 == 1) = false := by simpa using hk1
                      have hk2' : (x.1 == 2) = false := by simpa using hk2
                      have hk5' : (x.1 == 5) = false := by simpa using hk5
                      have hk6' : (x.1 == 6) = false := by simpa using hk6
                      have hk3' : (x.1 == 3) = false := by simpa using hk3
                      clear hk0 hk1 hk2 hk5 hk6 hk3
                      go_wp2_with (first
                        | (refine at_idx 33 _ _ rfl ?_; go_must (refine wpList_idxR rfl 33 _ _ rfl 38 Try.underlying33 2 act_size7 _ _ _ rfl (hA.fr0 hf) (by decide) _ _ k rfl rfl hlt ?_; rw [Hx.out]; intro ba oa hba hca))
                        | (with_reducible refine at_wpP ?_; refine at_ld 38 _ rfl ?_; refine wpList_ldAct rfl _ rfl ba oa rfl x hca ?_)
                        | (with_reducible refine at_wpP ?_; refine wpList_alAct rfl rfl ?_; intro ga w1 hga b1 f1 sa; have l1 := b1.lt; have F1 := hf.thenN f1; have z1 := f1.size)
                        | (with_reducible refine at_wpP ?_; refine at_st 38 _ _ rfl ?_; go_must (refine wpList_stAct rfl _ _ rfl ga rfl _ x b1 rfl ?_; intro w2 b2 f2; have F2 := Fr.own F1 (by omega) f2; obtain ⟨q0, q1⟩ := b2.all; have z2 := f2.size; have p2 := Bp.fr0 f1; have p2 := p2.ne f2 (by omega); have c2 := Bc.fr0 f1; have c2 := c2.ne f2 (by omega))))
                      go_roundw
                      case rel => exact ⟨k + 1, L, base, by omega, by go_num, p2, c2, hL, hbl, hbb, hsf, F2⟩
                      case measure => simp [intOf]; omega
        · obtain rfl : k = acts.length := by omega
          go_wp2
          go_ret
          exact ⟨rfl, hf.below⟩
end Go.Proofs.Ytghkpeejogldkaa
/- PoolTurns. (Written by y12_gen.py.) -/
namespace Go.Proofs.Ytghkpeejogldkaa
open Go.RowKit Go.Proofs.U
set_option linter.unusedSimpArgs false
set_option linter.unusedVariables false
theorem tl_at (n : Nat) (x : Pg) (i : Nat) : plAt (turnL n x) i = if i = 0 then x else Pg0 := by
  cases i with
  | zero => rfl
  | succ j =>
    rw [if_neg (by omega)]
    unfold plAt turnL
    simp only [List.getD, List.getElem?_cons_succ, List.getElem?_replicate]
    split <;> rfl
theorem tl_ok (n : Nat) (hn : n + 1 ≤ 240) (x : Pg) (h : x.ok) : plOk (turnL n x) := by
  refine ⟨by rw [turn_len]; exact hn, fun i => ?_⟩
  rw [tl_at]
  split
  · exact h
  · exact Pg0_ok
theorem pg_ok (c : Int) (s : Nat) (h0 : 0 ≤ c) (h1 : c ≤ 255) (h2 : s ≤ 2) : (Pg.mk c s).ok := ⟨h0, h1, by show s ≤ 4; omega, fun h => by have h : 3 ≤ s := h; omega⟩
theorem pg_ok0 (s : Nat) (h2 : s ≤ 4) : (Pg.mk 0 s).ok := ⟨Int.le_refl _, (by decide : (0 : Int) ≤ 255), h2, fun _ => rfl⟩
theorem pg_held (c : Int) (s : Nat) (h : 0 < c) : (Pg.mk c s).held = true := by
  unfold Pg.held; simp; omega
theorem pfree_at {L : List Pg} {z : Nat} (hL : plOk L) (hz : plFree L = z) (g : Nat) (w : World) (h : PoolB w g L) :
    Calls Try.prog 29 #[ptr g] w fun r w' => r = .returned (.int .i64 (z : Int)) ∧ w = w' := by
  have := pfreeN_any hL g w h
  rwa [hz] at this
theorem pcount_at {L : List Pg} {i z : Int} (hL : plOk L) (hz : plCount L i = z) (g : Nat) (w : World) (h : PoolB w g L) :
    Calls Try.prog 30 #[ptr g, .int .i64 i] w fun r w' => r = .returned (.int .i64 z) ∧ w = w' := by
  have := pcount_any hL g i w h
  rwa [hz] at this
set_option maxRecDepth 100000 in
set_option maxHeartbeats 4000000 in
theorem pturns_walk (a0 : Int) (a1 : Int) (cm : Bool) (w : World) (w0 : (Lit.int .i64 a0).wf = true) (w1 : (Lit.int .i64 a1).wf = true) :
    Calls Try.prog 6 #[.int .i64 a0, .int .i64 a1, .bool cm] w fun r w' => r = .returned (.bool true) ∧ Below w.heap.size w w' := by
  clear w0 w1
  by_cases h0 : a0 < 1
  · go_enter Try.func6, Try.ntmps6
    go_wp2_with (first
      | (go_at_call 13; go_must (refine (palive_any _).mono ?_; rintro e w2 ⟨rfl, f2⟩)))
    go_ret
    exact ⟨rfl, f2.below⟩
  by_cases h1 : 240 < a0
  · go_enter Try.func6, Try.ntmps6
    go_wp2_with (first
      | (go_at_call 13; go_must (refine (palive_any _).mono ?_; rintro e w2 ⟨rfl, f2⟩)))
    go_ret
    exact ⟨rfl, f2.below⟩
  by_cases h2 : a1 < 1
  · go_enter Try.func6, Try.ntmps6
    go_wp2_with (first
      | (go_at_call 13; go_must (refine (palive_any _).mono ?_; rintro e w2 ⟨rfl, f2⟩)))
    go_ret
    exact ⟨rfl, f2.below⟩
  by_cases h3 : 255 < a1
  · go_enter Try.func6, Try.ntmps6
    go_wp2_with (first
      | (go_at_call 13; go_must (refine (palive_any _).mono ?_; rintro e w2 ⟨rfl, f2⟩)))
    go_ret
    exact ⟨rfl, f2.below⟩
  obtain ⟨n, rfl⟩ : ∃ n : Nat, a0 = ((n + 1 : Nat) : Int) := ⟨a0.toNat - 1, by omega⟩
  obtain ⟨t, rfl⟩ : ∃ t : Nat, a1 = (t : Int) := ⟨a1.toNat, by omega⟩
  have hn : n + 1 ≤ 240 := by omega
  have ht0 : 1 ≤ t := by omega
  have ht1 : t ≤ 255 := by omega
  have hnew : Hid (plNew ((n + 1 : Nat) : Int) = turnL n Pg0) := by
    show _ = _
    rw [turn_new (by omega)]; congr 1
  have hsub : IntKind.i64.wrap (((n + 1 : Nat) : Int) - 1) = (n : Int) := by rw [IntKind.wrap_i64]; omega
  have htsub : IntKind.i64.wrap ((t : Int) - 1) = ((t - 1 : Nat) : Int) := by rw [IntKind.wrap_i64]; omega
  have ok0 : plOk (turnL n Pg0) := tl_ok n hn _ Pg0_ok
  have okc : ∀ (c : Nat) (s : Nat), c ≤ 255 → s ≤ 2 → plOk (turnL n ⟨(c : Int), s⟩) := fun c s h1 h2 => tl_ok n hn _ (pg_ok _ _ (by omega) (by omega) h2)
  have ok1 : plOk (turnL n ⟨0, 1⟩) := okc 0 1 (by omega) (by omega)
  have hT := show Hid _ from turn_take n Pg0 rfl
  have hF1 : Hid (plFree (turnL n ⟨0, 1⟩) = n) := by show _ = _; rw [turn_free]; rfl
  have hneg1 : ((n + 1 : Nat) : Int) - 1 = (n : Int) := by omega
  obtain ⟨A, HA⟩ : ∃ A, Hid (turnL n = A) := ⟨_, rfl⟩
  obtain ⟨S, HS⟩ : ∃ S : Int, Hid (((n + 1 : Nat) : Int) = S) := ⟨_, rfl⟩
  have hS0 : ¬ S < 1 := by rw [← HS.out]; omega
  have hS1 : ¬ 240 < S := by rw [← HS.out]; omega
  rw [HS.out] at hsub hnew ⊢
  have hF4 : Hid (plFree (turnL n ⟨0, 4⟩) = n) := by show _ = _; rw [turn_free]; rfl
  have hFe : Hid (plFree (turnL n ⟨0, 0⟩) = n + 1) := by show _ = _; rw [turn_free]; rfl
  have hFS : ((n + 1 : Nat) : Int) = S := HS.out
  have hhold : ∀ k : Nat, k < t → Hid (plHold (turnL n ⟨(k : Int), 1⟩) 0 = (turnL n ⟨((k + 1 : Nat) : Int), 1⟩, 0)) := by
    intro k hk
    show _ = _
    rw [turn_hold n k 1 (by unfold Pg.held; simp), if_neg (by omega)]
    simp
  have hfull : t = 255 → Hid (plHold (turnL n ⟨(t : Int), 1⟩) 0 = (turnL n ⟨(t : Int), 1⟩, 72)) := by
    intro e
    show _ = _
    rw [turn_hold n t 1 (by unfold Pg.held; simp), if_pos (by omega)]
  have hcomm : Hid (plCommit (turnL n ⟨(t : Int), 1⟩) = turnL n ⟨(t : Int), 0⟩) := turn_comm n _
  have hdrop : ∀ (k : Nat) (s : Nat), k + 1 < t → Hid (plDrop (turnL n ⟨((t - k : Nat) : Int), s⟩) 0 = (turnL n ⟨((t - (k + 1) : Nat) : Int), s⟩, false, 0)) := by
    intro k s hk
    show _ = _
    rw [turn_drop n _ s (pg_held _ _ (by omega)), if_pos (by omega)]
    congr 3
    omega
  have hlast : ∀ (k : Nat) (s : Nat), k + 1 = t → Hid (plDrop (turnL n ⟨((t - k : Nat) : Int), s⟩) 0 = (turnL n ⟨0, dropS s⟩, true, 0)) := by
    intro k s hk
    show _ = _
    rw [turn_drop n _ s (pg_held _ _ (by omega)), if_neg (by omega)]
  have hno4 : Hid (plDrop (turnL n ⟨0, 4⟩) 0 = (turnL n ⟨0, 4⟩, false, 73)) := turn_dropN n 0 4 rfl
  have hno0 : Hid (plDrop (turnL n ⟨0, 0⟩) 0 = (turnL n ⟨0, 0⟩, false, 73)) := turn_dropN n 0 0 rfl
  have hcm4 : Hid (plCommit (turnL n ⟨0, 4⟩) = turnL n ⟨0, 0⟩) := turn_comm n _
  have ok4 : plOk (turnL n ⟨0, 4⟩) := tl_ok n hn _ (pg_ok0 4 (by omega))
  have hcnt : Hid (plCount (turnL n ⟨0, 0⟩) 0 = 0) := plCount_nat (L := turnL n ⟨0, 0⟩) 0
  simp only [HA.out] at hnew ok0 okc ok1 hT hF1 hF4 hFe hhold hfull hcomm hdrop hlast hno4 hno0 hcm4 ok4 hcnt
  have hFS := show Hid _ from hFS
  clear hneg1
  go_enter Try.func6, Try.ntmps6
  go_wp2_with (first
    | (go_at_call 13; go_must (refine (palive_any _).mono ?_; rintro e w2 ⟨rfl, f2⟩; have z2 := f2.size))
    | (go_at_call 9; go_must (refine (pnew_any S _).mono ?_; rw [hnew.out]; rintro e w3 ⟨g7, rfl, s7, p3, f3⟩; have F3 := f2.thenN f3))
    | (go_at_call 10; go_must (refine (ptake_at ok0 hT.out g7 _ p3).mono ?_; rintro e w4 ⟨rfl, p4, f4⟩; have F4 := Fr.own F3 (by omega) f4))
    | (go_at_call 29; go_must (refine (pfree_at ok1 hF1.out g7 _ p4).mono ?_; rintro e w' ⟨rfl, rfl⟩)))
  have s7' : w.heap.size ≤ g7 := by omega
  go_loopw [10] (fun i wr => ∃ (k : Nat), k ≤ t ∧ i = .int .i64 (k : Int) ∧ PoolB wr g7 (A ⟨(k : Int), 1⟩) ∧ Fr noB w wr) (fun i _ => t - (intOf i).toNat)
  case atStart => exact ⟨0, by omega, rfl, p4, F4⟩
  case round =>
    obtain ⟨k, hk, rfl, Bp, hf⟩ := hrel
    by_cases hlt : k < t
    · have hh := hhold k hlt
      have okk := okc k 1 (by omega) (by omega)
      go_wp2_with (first
        | (go_at_call 11; go_must (refine (phold_at okk hh.out g7 _ Bp).mono ?_; rintro e w5 ⟨rfl, p5, f5⟩; have F5 := Fr.own hf s7' f5)))
      go_roundw
      case rel => exact ⟨k + 1, by omega, by go_num, p5, F5⟩
      case measure => simp [intOf]; omega
    · obtain rfl : k = t := by omega
      have okt := okc k 1 (by omega) (by omega)
      have okt0 := okc k 0 (by omega) (by omega)
      clear p3 p4 f4 F4 f3 F3 hhold
      by_cases h255 : k = 255
      · have hfl := hfull h255
        have h255' : (k : Int) = 255 := by omega
        cases cm with
        | true =>
          go_wp2_with (first
            | (go_at_call 11; go_must (refine (phold_at okt hfl.out g7 _ Bp).mono ?_; rintro e w5 ⟨rfl, p5, f5⟩; have F5 := Fr.own hf s7' f5))
            | (go_at_call 20; go_must (refine (pcommit_at hcomm.out g7 _ p5).mono ?_; rintro e w6 ⟨rfl, p6, f6⟩; have F6 := Fr.own F5 s7' f6)))
          go_loopw [11] (fun i wr => ∃ (j : Nat), j ≤ k ∧ i = .int .i64 (j : Int) ∧ PoolB wr g7 (if j < k then A ⟨((k - j : Nat) : Int), 0⟩ else A ⟨0, 4⟩) ∧ Fr noB w wr) (fun i _ => k - (intOf i).toNat)
          case atStart => exact ⟨0, by omega, rfl, by rw [if_pos (by omega)]; exact p6, F6⟩
          case round =>
            obtain ⟨j, hj, rfl, Bq, hg⟩ := hrel
            by_cases hjt : j < k
            · rw [if_pos hjt] at Bq
              have okj := okc (k - j) 0 (by omega) (by omega)
              by_cases hj1 : j + 1 < k
              · have hd := hdrop j 0 hj1
                have hjn : ((j : Int) == ((k - 1 : Nat) : Int)) = false := by simp; omega
                go_wp2_with (first
                  | (go_at_call 18; go_must (refine (pdrop_at okj hd.out g7 _ Bq).mono ?_; rintro e w7 ⟨rfl, p7, f7⟩; have F7 := Fr.own hg s7' f7)))
                go_roundw
                case rel => exact ⟨j + 1, by omega, by go_num, by rw [if_pos hj1]; exact p7, F7⟩
                case measure => simp [intOf]; omega
              · obtain rfl : j = k - 1 := by omega
                have hd := hlast (k - 1) 0 (by omega)
                go_wp2_with (first
                  | (go_at_call 18; go_must (refine (pdrop_at okj hd.out g7 _ Bq).mono ?_; rintro e w7 ⟨rfl, p7, f7⟩; have F7 := Fr.own hg s7' f7)))
                go_roundw
                case rel => exact ⟨k - 1 + 1, by omega, by go_num, by rw [if_neg (by omega)]; exact p7, F7⟩
                case measure => simp [intOf]; omega
            · obtain rfl : j = k := by omega
              rw [if_neg (Nat.lt_irrefl _)] at Bq
              go_wp2_with (first
                | (go_at_call 29; have q := p9; go_must (refine (pfree_at ok0 hFe.out g7 _ p9).mono ?_; rintro e w' ⟨rfl, rfl⟩; rw [hFS.out]))
                | (go_at_call 29; go_must (refine (pfree_at ok4 hF4.out g7 _ Bq).mono ?_; rintro e w' ⟨rfl, rfl⟩))
                | (go_at_call 18; go_must (refine (pdrop_at ok4 hno4.out g7 _ Bq).mono ?_; rintro e w8 ⟨rfl, p8, f8⟩; have F8 := Fr.own hg s7' f8))
                | (go_at_call 20; go_must (refine (pcommit_at hcm4.out g7 _ p8).mono ?_; rintro e w9 ⟨rfl, p9, f9⟩; have F9 := Fr.own F8 s7' f9))
                | (go_at_call 30; go_must (refine (pcount_at ok0 hcnt.out g7 _ p9).mono ?_; rintro e w' ⟨rfl, rfl⟩)))
              go_ret
              exact ⟨rfl, F9.below⟩
        | false =>
          go_wp2_with (first
            | (go_at_call 11; go_must (refine (phold_at okt hfl.out g7 _ Bp).mono ?_; rintro e w5 ⟨rfl, p5, f5⟩; have F5 := Fr.own hf s7' f5)))
          go_loopw [11] (fun i wr => ∃ (j : Nat), j ≤ k ∧ i = .int .i64 (j : Int) ∧ PoolB wr g7 (if j < k then A ⟨((k - j : Nat) : Int), 1⟩ else A ⟨0, 0⟩) ∧ Fr noB w wr) (fun i _ => k - (intOf i).toNat)
          case atStart => exact ⟨0, by omega, rfl, by rw [if_pos (by omega)]; exact p5, F5⟩
          case round =>
            obtain ⟨j, hj, rfl, Bq, hg⟩ := hrel
            by_cases hjt : j < k
            · rw [if_pos hjt] at Bq
              have okj := okc (k - j) 1 (by omega) (by omega)
              by_cases hj1 : j + 1 < k
              · have hd := hdrop j 1 hj1
                have hjn : ((j : Int) == ((k - 1 : Nat) : Int)) = false := by simp; omega
                go_wp2_with (first
                  | (go_at_call 18; go_must (refine (pdrop_at okj hd.out g7 _ Bq).mono ?_; rintro e w7 ⟨rfl, p7, f7⟩; have F7 := Fr.own hg s7' f7)))
                go_roundw
                case rel => exact ⟨j + 1, by omega, by go_num, by rw [if_pos hj1]; exact p7, F7⟩
                case measure => simp [intOf]; omega
              · obtain rfl : j = k - 1 := by omega
                have hd := hlast (k - 1) 1 (by omega)
                go_wp2_with (first
                  | (go_at_call 18; go_must (refine (pdrop_at okj hd.out g7 _ Bq).mono ?_; rintro e w7 ⟨rfl, p7, f7⟩; have F7 := Fr.own hg s7' f7)))
                go_roundw
                case rel => exact ⟨k - 1 + 1, by omega, by go_num, by rw [if_neg (by omega)]; exact p7, F7⟩
                case measure => simp [intOf]; omega
            · obtain rfl : j = k := by omega
              rw [if_neg (Nat.lt_irrefl _)] at Bq
              go_wp2_with (first
                | (go_at_call 29; go_must (refine (pfree_at ok0 hFe.out g7 _ p8).mono ?_; rintro e w' ⟨rfl, rfl⟩; rw [hFS.out]))
                | (go_at_call 18; go_must (refine (pdrop_at ok0 hno0.out g7 _ Bq).mono ?_; rintro e w8 ⟨rfl, p8, f8⟩; have F8 := Fr.own hg s7' f8))
                | (go_at_call 30; go_must (refine (pcount_at ok0 hcnt.out g7 _ p8).mono ?_; rintro e w' ⟨rfl, rfl⟩)))
              go_ret
              exact ⟨rfl, F8.below⟩
      · have h255' : ((k : Int) == 255) = false := by simp; omega
        cases cm with
        | true =>
          go_wp2_with (first
            | (go_at_call 20; go_must (refine (pcommit_at hcomm.out g7 _ Bp).mono ?_; rintro e w6 ⟨rfl, p6, f6⟩; have F6 := Fr.own hf s7' f6)))
          go_loopw [11] (fun i wr => ∃ (j : Nat), j ≤ k ∧ i = .int .i64 (j : Int) ∧ PoolB wr g7 (if j < k then A ⟨((k - j : Nat) : Int), 0⟩ else A ⟨0, 4⟩) ∧ Fr noB w wr) (fun i _ => k - (intOf i).toNat)
          case atStart => exact ⟨0, by omega, rfl, by rw [if_pos (by omega)]; exact p6, F6⟩
          case round =>
            obtain ⟨j, hj, rfl, Bq, hg⟩ := hrel
            by_cases hjt : j < k
            · rw [if_pos hjt] at Bq
              have okj := okc (k - j) 0 (by omega) (by omega)
              by_cases hj1 : j + 1 < k
              · have hd := hdrop j 0 hj1
                have hjn : ((j : Int) == ((k - 1 : Nat) : Int)) = false := by simp; omega
                go_wp2_with (first
                  | (go_at_call 18; go_must (refine (pdrop_at okj hd.out g7 _ Bq).mono ?_; rintro e w7 ⟨rfl, p7, f7⟩; have F7 := Fr.own hg s7' f7)))
                go_roundw
                case rel => exact ⟨j + 1, by omega, by go_num, by rw [if_pos hj1]; exact p7, F7⟩
                case measure => simp [intOf]; omega
              · obtain rfl : j = k - 1 := by omega
                have hd := hlast (k - 1) 0 (by omega)
                go_wp2_with (first
                  | (go_at_call 18; go_must (refine (pdrop_at okj hd.out g7 _ Bq).mono ?_; rintro e w7 ⟨rfl, p7, f7⟩; have F7 := Fr.own hg s7' f7)))
                go_roundw
                case rel => exact ⟨k - 1 + 1, by omega, by go_num, by rw [if_neg (by omega)]; exact p7, F7⟩
                case measure => simp [intOf]; omega
            · obtain rfl : j = k := by omega
              rw [if_neg (Nat.lt_irrefl _)] at Bq
              go_wp2_with (first
                | (go_at_call 29; have q := p9; go_must (refine (pfree_at ok0 hFe.out g7 _ p9).mono ?_; rintro e w' ⟨rfl, rfl⟩; rw [hFS.out]))
                | (go_at_call 29; go_must (refine (pfree_at ok4 hF4.out g7 _ Bq).mono ?_; rintro e w' ⟨rfl, rfl⟩))
                | (go_at_call 18; go_must (refine (pdrop_at ok4 hno4.out g7 _ Bq).mono ?_; rintro e w8 ⟨rfl, p8, f8⟩; have F8 := Fr.own hg s7' f8))
                | (go_at_call 20; go_must (refine (pcommit_at hcm4.out g7 _ p8).mono ?_; rintro e w9 ⟨rfl, p9, f9⟩; have F9 := Fr.own F8 s7' f9))
                | (go_at_call 30; go_must (refine (pcount_at ok0 hcnt.out g7 _ p9).mono ?_; rintro e w' ⟨rfl, rfl⟩)))
              go_ret
              exact ⟨rfl, F9.below⟩
        | false =>
          go_wp2
          go_loopw [11] (fun i wr => ∃ (j : Nat), j ≤ k ∧ i = .int .i64 (j : Int) ∧ PoolB wr g7 (if j < k then A ⟨((k - j : Nat) : Int), 1⟩ else A ⟨0, 0⟩) ∧ Fr noB w wr) (fun i _ => k - (intOf i).toNat)
          case atStart => exact ⟨0, by omega, rfl, by rw [if_pos (by omega)]; exact Bp, hf⟩
          case round =>
            obtain ⟨j, hj, rfl, Bq, hg⟩ := hrel
            by_cases hjt : j < k
            · rw [if_pos hjt] at Bq
              have okj := okc (k - j) 1 (by omega) (by omega)
              by_cases hj1 : j + 1 < k
              · have hd := hdrop j 1 hj1
                have hjn : ((j : Int) == ((k - 1 : Nat) : Int)) = false := by simp; omega
                go_wp2_with (first
                  | (go_at_call 18; go_must (refine (pdrop_at okj hd.out g7 _ Bq).mono ?_; rintro e w7 ⟨rfl, p7, f7⟩; have F7 := Fr.own hg s7' f7)))
                go_roundw
                case rel => exact ⟨j + 1, by omega, by go_num, by rw [if_pos hj1]; exact p7, F7⟩
                case measure => simp [intOf]; omega
              · obtain rfl : j = k - 1 := by omega
                have hd := hlast (k - 1) 1 (by omega)
                go_wp2_with (first
                  | (go_at_call 18; go_must (refine (pdrop_at okj hd.out g7 _ Bq).mono ?_; rintro e w7 ⟨rfl, p7, f7⟩; have F7 := Fr.own hg s7' f7)))
                go_roundw
                case rel => exact ⟨k - 1 + 1, by omega, by go_num, by rw [if_neg (by omega)]; exact p7, F7⟩
                case measure => simp [intOf]; omega
            · obtain rfl : j = k := by omega
              rw [if_neg (Nat.lt_irrefl _)] at Bq
              go_wp2_with (first
                | (go_at_call 29; go_must (refine (pfree_at ok0 hFe.out g7 _ p8).mono ?_; rintro e w' ⟨rfl, rfl⟩; rw [hFS.out]))
                | (go_at_call 18; go_must (refine (pdrop_at ok0 hno0.out g7 _ Bq).mono ?_; rintro e w8 ⟨rfl, p8, f8⟩; have F8 := Fr.own hg s7' f8))
                | (go_at_call 30; go_must (refine (pcount_at ok0 hcnt.out g7 _ p8).mono ?_; rintro e w' ⟨rfl, rfl⟩)))
              go_ret
              exact ⟨rfl, F8.below⟩
end Go.Proofs.Ytghkpeejogldkaa
