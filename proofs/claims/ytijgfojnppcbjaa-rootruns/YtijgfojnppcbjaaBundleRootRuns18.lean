/- Texts V15 of the proof of RootRuns, one behind the other. -/
import Derived.Test.YtijgfojnppcbjaaBundleRootRuns1
import Derived.Test.YtijgfojnppcbjaaBundleRootRuns2
import Derived.Test.YtijgfojnppcbjaaBundleRootRuns3
import Derived.Test.YtijgfojnppcbjaaBundleRootRuns4
import Derived.Test.YtijgfojnppcbjaaBundleRootRuns5
import Derived.Test.YtijgfojnppcbjaaBundleRootRuns6
import Derived.Test.YtijgfojnppcbjaaBundleRootRuns7
import Derived.Test.YtijgfojnppcbjaaBundleRootRuns8
import Derived.Test.YtijgfojnppcbjaaBundleRootRuns9
import Derived.Test.YtijgfojnppcbjaaBundleRootRuns10
import Derived.Test.YtijgfojnppcbjaaBundleRootRuns11
import Derived.Test.YtijgfojnppcbjaaBundleRootRuns12
import Derived.Test.YtijgfojnppcbjaaBundleRootRuns13
import Derived.Test.YtijgfojnppcbjaaBundleRootRuns14
import Derived.Test.YtijgfojnppcbjaaBundleRootRuns15
import Derived.Test.YtijgfojnppcbjaaBundleRootRuns16
import Derived.Test.YtijgfojnppcbjaaBundleRootRuns17
/- The acts of layer 5's statements; RootTorn. (Written by v15_gen.py.) -/
namespace Go.Proofs.Ytijgfojnppcbjaa
open Go.RowKit Go.Proofs.U Go.ChangeShapes Go.WideShapes Go.ChangeAt
set_option linter.unusedSimpArgs false
set_option linter.unusedVariables false
/-- An act as it lies in memory. -/
structure Act5 where
  kind : Int
  at' : Int
  gen : Int
  cv : Value
  c : List Int
  kv : Value
  keep : List Int
def enc5 (x : Act5) : List Value := [.int .i64 x.kind, .int .i64 x.at', .int .u64 x.gen, x.cv, x.kv]
def Ok5 (w : World) (x : Act5) : Prop := (Lit.int .i64 x.kind).wf = true ∧ (Lit.int .i64 x.at').wf = true ∧ (Lit.int .u64 x.gen).wf = true ∧ SlI .u8 w x.cv x.c ∧ SlI .u8 w x.kv x.keep
def Sl5 (w : World) (v : Value) (l : List Act5) : Prop := SlR enc5 5 w v l ∧ ∀ x ∈ l, Ok5 w x
set_option maxRecDepth 100000 in
theorem opened_acts5 {H : Type} {enc : TypeId × Value → H} {W : World} {base : Nat} {v : Value} {d : DataW H} {p : List MemPlace}
    (hval : Value.okWide Try.prog W .any base 33 v) (h : DataW.Trod enc Try.prog W 0 (fun _ => true) true 33 v d p) : ∃ l, Sl5 W v l := by
  obtain ⟨a, len, cap, rfl⟩ := okWide_slice Try.underlying33 hval
  obtain ⟨fuel, hf⟩ := h
  rcases Deep.open_slice Try.underlying33 hf with ⟨hcs, _⟩ | ⟨x, l, c, m, n, D, Pl, hcs, _, hl, hm, hmm, _, hcell⟩
  · simp [Value.cells] at hcs
    obtain ⟨rfl, rfl, rfl⟩ := hcs
    exact ⟨[], ⟨⟨by simp, Sl.nil W 5⟩, by simp⟩⟩
  · simp [Value.cells] at hcs
    obtain ⟨rfl, rfl, rfl⟩ := hcs
    have hmc : m = cap := by simpa using hmm
    have ce : Try.prog.cellsOf 42 = 5 := by kernel_rfl
    have each : ∀ i, i < m → ∃ q : Act5, (∀ j v, (enc5 q)[j]? = some v → W.cell? (x.add (i * 5 + j)) = some v) ∧ Ok5 W q := by
      intro i hi
      obtain ⟨cs', h1, h2⟩ := hcell i hi
      rw [ce] at h1
      obtain ⟨_, hlen, hcl⟩ := World.cells?_some h1
      obtain ⟨xs, k, hk, hxy, _, hxl, hfl⟩ := DataW.trod_struct Try.underlying42 h2
      match xs, hxl, cs', hlen with
      | [y0, y1, y2, y3, y4], _, [v0, v1, v2, v3, v4], _ =>
        have g0 := hfl 0 _ rfl
        have g1 := hfl 1 _ rfl
        have g2 := hfl 2 _ rfl
        have g3 := hfl 3 _ rfl
        have g4 := hfl 4 _ rfl
        have ci : Try.prog.cellsOf 3 = 1 := by kernel_rfl
        have c8 : Try.prog.cellsOf 5 = 1 := by kernel_rfl
        have c64 : Try.prog.cellsOf 25 = 1 := by kernel_rfl
        have cs8 : Try.prog.cellsOf 24 = 1 := by kernel_rfl
        simp [ci, c8, cs8, c64] at g0 g1 g2 g3 g4
        obtain ⟨z0, e0, _, w0⟩ := DataW.trod_int Try.underlying3 g0
        obtain ⟨z1, e1, _, w1⟩ := DataW.trod_int Try.underlying3 g1
        obtain ⟨z2, e2, _, w2⟩ := DataW.trod_int Try.underlying25 g2
        obtain ⟨cl, hC⟩ := slI_of_cells Try.underlying24 Try.underlying5 c8 g3
        obtain ⟨kl, hS⟩ := slI_of_cells Try.underlying24 Try.underlying5 c8 g4
        simp at e0 e1 e2
        subst e0 e1 e2
        refine ⟨⟨z0, z1, z2, v3, cl, v4, kl⟩, ?_, w0, w1, w2, hC, hS⟩
        intro j u hj
        have hj4 : j < 5 := by have := (List.getElem?_eq_some_iff.1 hj).1; simpa [enc5] using this
        have hh := hcl j (by omega)
        rw [Deep.add_add] at hh
        rw [hh]
        exact hj
    let g : Nat → Act5 := fun i => if h : i < m then (each i h).choose else ⟨0, 0, 0, .nilFunc, [], .nilFunc, []⟩
    have hg : ∀ i, i < m → (∀ j v, (enc5 (g i))[j]? = some v → W.cell? (x.add (i * 5 + j)) = some v) ∧ Ok5 W (g i) := by
      intro i hi
      simp only [g, dif_pos hi]
      exact (each i hi).choose_spec
    have hflen : ∀ L : List Act5, (L.flatMap enc5).length = L.length * 5 := by
      intro L; induction L with
      | nil => rfl
      | cons z L ih => simp only [List.flatMap_cons, List.length_append, ih, List.length_cons]; simp [enc5]; omega
    refine ⟨(List.range len).map g, ⟨⟨fun y _ => rfl, ?_⟩, ?_⟩⟩
    · refine ⟨some x, cap, by simp, by simpa using hl, ?_, (fun h => by cases h), fun y hy j u hj => ?_⟩
      · rw [hflen]
      · cases hy
        have hjl : j < len * 5 := by
          have h2 := (List.getElem?_eq_some_iff.1 hj).1
          rw [hflen] at h2; simpa using h2
        have hq : j / 5 < ((List.range len).map g).length := by simp; omega
        have hfl := flat_at enc5 5 ((List.range len).map g) (fun _ _ => rfl) (j / 5) hq (j % 5) (by omega)
        rw [show j / 5 * 5 + j % 5 = j by omega, hj] at hfl
        simp only [List.getElem_map, List.getElem_range] at hfl
        have := (hg (j / 5) (by omega)).1 (j % 5) u hfl.symm
        rwa [show j / 5 * 5 + j % 5 = j by omega] at this
    · intro y hy
      obtain ⟨i, hi, rfl⟩ := List.mem_map.1 hy
      exact (hg i (by have := List.mem_range.1 hi; omega)).2
theorem act5_zero : (Try.prog.info? 42).map (·.zero) = some (some (.agg (enc5 ⟨0, 0, 0, .slice none 0 0, [], .slice none 0 0, []⟩).toArray)) := by kernel_rfl
theorem act5_size : (Try.prog.info? 42).map (·.size) = some 5 := by kernel_rfl
theorem under_act5 : Try.prog.underlying 42 = some (.struct (Try.prog.fieldsOf 42)) := by kernel_rfl
theorem act5_sizeE (x : Act5) : (Try.prog.info? 42).map (·.size) = some (enc5 x).length := act5_size
theorem enc5_le (x y : Act5) : 0 + (enc5 x).length ≤ (enc5 y).length := by simp [enc5]
theorem enc5_eq (x y : Act5) : (enc5 x).length = (enc5 y).length := rfl
theorem enc5_one {w : World} {x : Act5} (h : Ok5 w x) : ∀ u ∈ enc5 x, u.oneCell' = true := by
  intro u hu
  obtain ⟨a, c, h1, _⟩ := h.2.2.2.1.opn
  obtain ⟨b, d, h2, _⟩ := h.2.2.2.2.opn
  simp [enc5, h1, h2] at hu
  rcases hu with rfl | rfl | rfl | rfl | rfl <;> rfl
def great5 (l : List Act5) : Bool := decide (40 < l.length) || l.any (fun x => decide (400 < x.c.length))

set_option maxRecDepth 100000 in
set_option maxHeartbeats 2000000 in
theorem great_any (v : Value) (l : List Act5) (w : World) (hS : Sl5 w v l) :
    Calls Try.prog 13 #[v] w fun r w' => r = .returned (.bool (great5 l)) ∧ Fr noB w w' := by
  obtain ⟨a, cap, rfl, hcap⟩ := hS.1.opn
  unfold great5
  by_cases hgr : 40 < l.length
  · have hgr' : (40 : Int) < (l.length : Int) := by omega
    go_enter Try.func13, Try.ntmps13
    go_wp2
    go_ret
    exact ⟨by simp [hgr], Fr.refl _ _⟩
  · have hgr' : ¬ (40 : Int) < (l.length : Int) := by omega
    have hres : (decide (40 < l.length) || l.any (fun x => decide (400 < x.c.length))) = l.any (fun x => decide (400 < x.c.length)) := by simp [hgr]
    rw [hres]
    go_enter Try.func13, Try.ntmps13
    go_wp2
    go_loopw [10] (fun i wr => ∃ k : Nat, k ≤ l.length ∧ i = .int .i64 (k : Int) ∧ Hid ((l.take k).any (fun x => decide (400 < x.c.length)) = false) ∧ Fr noB w wr) (fun i _ => l.length - (intOf i).toNat)
    case atStart => exact ⟨0, by omega, rfl, show _ = _ by simp, Fr.refl _ _⟩
    case round =>
      obtain ⟨k, hk, rfl, hno, hf⟩ := hrel
      by_cases hlt : k < l.length
      · have hlt' : (k : Int) < (l.length : Int) := by omega
        have hSr := hS.1.fr0 hf
        have hxo := hS.2 l[k] (by simp)
        have hx1 := enc5_one hxo
        have hsx := hxo.2.2.2.1
        have htk : Hid ((l.take (k + 1)).any (fun x => decide (400 < x.c.length)) = decide (400 < l[k].c.length)) := by
          show _ = _
          rw [List.take_succ_eq_append_getElem hlt, List.any_append, hno.out]; simp
        have hal : Hid (decide (400 < l[k].c.length) = true → l.any (fun x => decide (400 < x.c.length)) = true) := by
          show _ → _
          intro h; rw [List.any_eq_true]; exact ⟨l[k], by simp, h⟩
        obtain ⟨⟨kd, ak, ag, cv, c, kv, kp⟩, HX⟩ : ∃ X, Hid (l[k] = X) := ⟨l[k], (rfl : l[k] = l[k])⟩
        rw [HX.out] at hx1 hsx htk hal
        simp only at hsx htk hal
        obtain ⟨a2, c2, rfl, hc2⟩ := hsx.opn
        by_cases hbig : 400 < c.length
        · have hbig' : (400 : Int) < (c.length : Int) := by omega
          go_wp2_with (first
            | (refine at_idx 33 _ _ rfl ?_; go_must (refine wpList_idxR rfl 33 _ _ rfl 42 Try.underlying33 5 act5_size _ _ _ rfl hSr (by decide) _ _ k rfl rfl hlt ?_; rw [HX.out]; intro ba oa hba hca))
            | (with_reducible refine at_wpP ?_; refine at_ld 42 _ rfl ?_; go_must (refine wpList_load_mid rfl 42 _ rfl ba oa rfl (enc5 ⟨kd, ak, ag, .slice a2 c.length c2, c, kv, kp⟩) _ (range_of fun j v hj => hca j v hj) under_act5 rfl (act5_sizeE _) ?_))
            | (with_reducible refine at_wpP ?_; refine wpList_allocV rfl 42 rfl _ act5_zero ?_; intro gx w4 hgx b4 f4 s4; have l4 := b4.lt)
            | (with_reducible refine at_wpP ?_; refine at_st 42 _ _ rfl ?_; go_must (refine wpList_storeV rfl 42 _ _ rfl gx 0 rfl (enc5 ⟨kd, ak, ag, .slice a2 c.length c2, c, kv, kp⟩) rfl _ _ b4 (act5_sizeE _) (enc5_le _ _) hx1 ?_; intro w5 b5 f5; rw [putAt_all _ _ (enc5_eq _ _)] at b5; obtain ⟨q3, _⟩ := b5.cell 3 _ rfl)))
          go_ret
          have zf := hf.size
          exact ⟨by rw [hal.out (by simpa using hbig)]; rfl, (hf.thenN f4).thenT f5 (fun i hi q => by unfold onB1 at q; omega)⟩
        · have hbig' : ¬ (400 : Int) < (c.length : Int) := by omega
          go_wp2_with (first
            | (refine at_idx 33 _ _ rfl ?_; go_must (refine wpList_idxR rfl 33 _ _ rfl 42 Try.underlying33 5 act5_size _ _ _ rfl hSr (by decide) _ _ k rfl rfl hlt ?_; rw [HX.out]; intro ba oa hba hca))
            | (with_reducible refine at_wpP ?_; refine at_ld 42 _ rfl ?_; go_must (refine wpList_load_mid rfl 42 _ rfl ba oa rfl (enc5 ⟨kd, ak, ag, .slice a2 c.length c2, c, kv, kp⟩) _ (range_of fun j v hj => hca j v hj) under_act5 rfl (act5_sizeE _) ?_))
            | (with_reducible refine at_wpP ?_; refine wpList_allocV rfl 42 rfl _ act5_zero ?_; intro gx w4 hgx b4 f4 s4; have l4 := b4.lt)
            | (with_reducible refine at_wpP ?_; refine at_st 42 _ _ rfl ?_; go_must (refine wpList_storeV rfl 42 _ _ rfl gx 0 rfl (enc5 ⟨kd, ak, ag, .slice a2 c.length c2, c, kv, kp⟩) rfl _ _ b4 (act5_sizeE _) (enc5_le _ _) hx1 ?_; intro w5 b5 f5; rw [putAt_all _ _ (enc5_eq _ _)] at b5; obtain ⟨q3, _⟩ := b5.cell 3 _ rfl)))
          go_roundw
          case rel =>
            have zf := hf.size
            exact ⟨k + 1, by omega, by go_num, show _ = _ by rw [htk.out]; simpa using hbig, (hf.thenN f4).thenT f5 (fun i hi q => by unfold onB1 at q; omega)⟩
          case measure => simp [intOf]; omega
      · obtain rfl : k = l.length := by omega
        go_wp2
        go_ret
        have := hno.out
        rw [List.take_length] at this
        exact ⟨by rw [this]; rfl, hf⟩

theorem torn_ok {X : DSt} {p q : List Int} (h : Two X p q) (hd : X.down = false) (ht : top p q ≤ 1000000) (c : List Int) (hc : c.length ≤ 186) (bc : Byt c) (keep : List Int) :
    ∃ (Y : DSt) (m e : Int) (p' q' : List Int), rWrite X c = (Y, m, e) ∧ Y.pend.length ≤ 1 ∧ Two (Y.crash keep) p' q' ∧ top p' q' ≤ top p q + 2 ∧
      ((e = 0 ∧ m = (newest p' q').1 ∧ (newest p q).1 < m ∧ (newest p' q').2 = c) ∨ (e = 42 ∧ (newest p' q' = newest p q ∨ ((newest p q).1 < (newest p' q').1 ∧ (newest p' q').2 = c)))) := by
  have h0 := top_nn p q
  obtain ⟨g1, g2, g3, _, _⟩ := h.nxG
  have hnt := newest_top h.bp h.bq
  have hGb : nextG X < 18446744073709551616 := by omega
  have hR := rootP_len (nextG X) c
  have bR := rootP_byt (nextG X) bc
  have hgR : ∀ s, s < 8 → genAt (rootP (nextG X) c) s = nextG X := fun s hs => genAt_root _ ⟨by omega, hGb⟩ _ s hs
  have hN := newest_new h.bp h.bq (G := nextG X) g1 hGb c hc
  by_cases hl0 : X.left = 0
  · have hw := h.cut0 (by omega) hd hl0 c hc
    have hT : Two ({ X with left := 0, down := true } : DSt) p q := ⟨h.pages, h.pend, h.bad, h.lp, h.lq, h.bp, h.bq⟩
    exact ⟨_, 0, 42, p, q, hw, by show X.pend.length ≤ 1; rw [h.pend]; simp, hT.crash keep, by omega, Or.inr ⟨rfl, Or.inl rfl⟩⟩
  · have hw := h.goes (by omega) hd hl0 c hc
    by_cases hl1 : X.left = 1
    · rw [if_pos hl1] at hw
      generalize nextG X = G at *
      generalize rootP G c = R at *
      have hpg : (({ X with left := 0, down := true, pend := [(G % 2, R)] } : DSt).crash keep).pages = [putS0 G (mixS p R (stayK keep 0) 8) p, putS1 G (mixS q R (stayK keep 0) 8) q] := by
        show setS X.pages [(G % 2, R)] (stayK keep) 1 = _
        rw [h.pages, setS_one]
      obtain ⟨old, hold, lo, bo, ho⟩ : ∃ old : List Int, (putS0 G (mixS p R (stayK keep 0) 8) p = putS0 G (mixS old R (stayK keep 0) 8) p ∧ putS1 G (mixS q R (stayK keep 0) 8) q = putS1 G (mixS old R (stayK keep 0) 8) q ∧ putS0 G old p = p ∧ putS1 G old q = q) ∧ old.length = 256 ∧ Byt old ∧ ∀ s, s < 8 → genAt old s < G := by
        unfold putS0 putS1
        by_cases hG : G % 2 = 0
        · exact ⟨p, by simp [hG], h.lp, h.bp, fun s hs => by have := top_p p q s hs; omega⟩
        · exact ⟨q, by simp [hG], h.lq, h.bq, fun s hs => by have := top_q p q s hs; omega⟩
      rw [hold.1, hold.2.1] at hpg
      have bm := mixS_byt bo bR (stayK keep 0)
      have hT : Two (({ X with left := 0, down := true, pend := [(G % 2, R)] } : DSt).crash keep) (putS0 G (mixS old R (stayK keep 0) 8) p) (putS1 G (mixS old R (stayK keep 0) 8) q) :=
        putS_two h G (mixS_len _ _ _ _) bm _ hpg rfl rfl
      refine ⟨_, 0, 42, _, _, hw, by simp, hT, ?_, Or.inr ⟨rfl, ?_⟩⟩
      · refine top_put (by omega) (by omega) (fun s hs => ?_)
        rw [genAt_mix _ _ _ lo hR s hs]
        split
        · rw [hgR s hs]; omega
        · have := ho s hs; omega
      · rcases mix_cases old R (stayK keep 0) lo hR bo bR hgR ho with e | e | e
        · rw [e, hN]
          exact Or.inr ⟨by simp only; omega, rfl⟩
        · rw [e, hold.2.2.1, hold.2.2.2]
          exact Or.inl rfl
        · exact Or.inl (newest_torn h.bp h.bq g3 e)
    · rw [if_neg hl1] at hw
      have hT0 := putS_two h (nextG X) hR bR _ (rfl : ({ X with left := (if 0 < X.left then X.left - 2 else X.left), pages := [putS0 (nextG X) (rootP (nextG X) c) p, putS1 (nextG X) (rootP (nextG X) c) q] } : DSt).pages = _) h.pend rfl
      refine ⟨_, _, 0, _, _, hw, by show X.pend.length ≤ 1; rw [h.pend]; simp, hT0.crash keep, ?_, Or.inl ⟨rfl, by rw [hN], by omega, by rw [hN]⟩⟩
      refine top_put (by omega) (by omega) (fun s hs => ?_)
      rw [hgR s hs]; omega
theorem two_left {X : DSt} {p q : List Int} (h : Two X p q) (n : Int) : Two { X with left := n } p q := ⟨h.pages, h.pend, h.bad, h.lp, h.lq, h.bp, h.bq⟩
theorem Sl5.fr0 {w w' : World} {v : Value} {l : List Act5} (h : Sl5 w v l) (f : Fr noB w w') : Sl5 w' v l := ⟨h.1.fr0 f, fun x hx => by obtain ⟨h1, h2, h3, h4, h5⟩ := h.2 x hx; exact ⟨h1, h2, h3, h4.fr0 f, h5.fr0 f⟩⟩

set_option maxRecDepth 100000 in
set_option maxHeartbeats 8000000 in
theorem torn_walk (v : Value) (l : List Act5) (w : World) (hS : Sl5 w v l) :
    Calls Try.prog 5 #[v] w fun r w' => r = .returned (.bool true) ∧ Below w.heap.size w w' := by
  have hSl := hS
  obtain ⟨a, cap, rfl, hcap⟩ := hS.1.opn
  obtain ⟨GB, HGB⟩ : ∃ b, Hid (great5 l = b) := ⟨_, rfl⟩
  cases GB with
  | true =>
    go_enter Try.func5, Try.ntmps5
    go_wp2_with (first
      | (go_at_call 12; go_must (refine (ralive_any _).mono ?_; rintro e w1 ⟨rfl, f1⟩))
      | (go_at_call 13; go_must (refine (great_any _ l _ (hSl.fr0 f1)).mono ?_; rw [HGB.out]; rintro e w2 ⟨rfl, f2⟩)))
    go_ret
    exact ⟨rfl, (f1.thenN f2).below⟩
  | false =>
    have hlen : l.length ≤ 40 := by
      have := HGB.out
      simp [great5] at this
      exact this.1
    have htwo := show Hid _ from two_new
    have hnw := show Hid _ from new_newest
    have htp := show Hid _ from new_top
    have hd0 : Hid ((newD 2).down = false) := rfl
    obtain ⟨X0, HX0⟩ : ∃ X, Hid (newD 2 = X) := ⟨_, rfl⟩
    rw [HX0.out] at htwo hd0
    go_enter Try.func5, Try.ntmps5
    go_wp2_with (first
      | (go_at_call 12; go_must (refine (ralive_any _).mono ?_; rintro e w1 ⟨rfl, f1⟩))
      | (go_at_call 13; go_must (refine (great_any _ l _ (hSl.fr0 f1)).mono ?_; rw [HGB.out]; rintro e w2 ⟨rfl, f2⟩))
      | (go_at_call 8; go_must (refine (new_any 2 (by omega) _).mono ?_; rw [HX0.out]; rintro e w3 ⟨g, rfl, d3, f3⟩)))
    have z1 := f1.size
    have z2 := f2.size
    have d3 : Disk w3 (fun k => w.heap.size ≤ k) g X0 := d3.mono (fun k _ q => by omega)
    go_loopw [4, 5, 22] (fun s t i wr => ∃ (k : Nat) (X : DSt) (p q : List Int) (n1 : Int) (n2 : List Int), k ≤ l.length ∧ i = .int .i64 (k : Int) ∧ t = .int .u64 n1 ∧ s = .string (strOfNums n2) ∧ Disk wr (fun k => w.heap.size ≤ k) g X ∧ Hid (Two X p q ∧ X.down = false ∧ newest p q = (n1, n2) ∧ top p q ≤ 2 * (k : Int)) ∧ Fr noB w wr) (fun _ _ i _ => l.length - (intOf i).toNat)
    case atStart => exact ⟨0, X0, zeroP, zeroP, 0, [], by omega, rfl, rfl, rfl, d3, show _ ∧ _ from ⟨htwo.out, hd0.out, hnw.out, by rw [htp.out]; decide⟩, (f1.thenN f2).thenN f3⟩
    case round =>
      obtain ⟨k, X, p, q, n1, n2, hk, rfl, rfl, rfl, hD, hT, hf⟩ := hrel
      have hp0 : Hid (X.pend = []) := hT.out.1.pend
      have hby : X.byt := hT.out.1.byt
      by_cases hlt : k < l.length
      · have hlt' : (k : Int) < (l.length : Int) := by omega
        have hSr := hS.1.fr0 hf
        have hxo := hS.2 l[k] (by simp)
        have hx1 := enc5_one hxo
        obtain ⟨o1, o2, o3, o4, o5⟩ := hxo
        obtain ⟨⟨kd, ak, ag, cv, c, kv, kp⟩, HX⟩ : ∃ X, Hid (l[k] = X) := ⟨l[k], (rfl : l[k] = l[k])⟩
        rw [HX.out] at hx1 o1 o2 o3 o4 o5
        simp only at o1 o2 o3 o4 o5
        obtain ⟨a2, c2, rfl, hc2⟩ := o4.opn
        obtain ⟨a3, c3, rfl, hc3⟩ := o5.opn
        have hpl : X.pend.length ≤ 90000 := by rw [hp0.out]; simp
        have zf := hf.size
        have hak := wf64 o2
        by_cases hc : 186 < c.length
        · have hc' : (186 : Int) < (c.length : Int) := by omega
          go_wp2_with (first
            | (refine at_idx 33 _ _ rfl ?_; go_must (refine wpList_idxR rfl 33 _ _ rfl 42 Try.underlying33 5 act5_size _ _ _ rfl hSr (by decide) _ _ k rfl rfl hlt ?_; rw [HX.out]; intro ba oa hba hca))
            | (with_reducible refine at_wpP ?_; refine at_ld 42 _ rfl ?_; go_must (refine wpList_load_mid rfl 42 _ rfl ba oa rfl (enc5 ⟨kd, ak, ag, .slice a2 c.length c2, c, .slice a3 kp.length c3, kp⟩) _ (range_of fun j v hj => hca j v hj) under_act5 rfl (act5_sizeE _) ?_))
            | (with_reducible refine at_wpP ?_; refine wpList_allocV rfl 42 rfl _ act5_zero ?_; intro gx w4 hgx b4 f4 s4; have l4 := b4.lt)
            | (with_reducible refine at_wpP ?_; refine at_st 42 _ _ rfl ?_; go_must (refine wpList_storeV rfl 42 _ _ rfl gx 0 rfl (enc5 ⟨kd, ak, ag, .slice a2 c.length c2, c, .slice a3 kp.length c3, kp⟩) rfl _ _ b4 (act5_sizeE _) (enc5_le _ _) hx1 ?_; intro w5 b5 f5; rw [putAt_all _ _ (enc5_eq _ _)] at b5; obtain ⟨q1, _⟩ := b5.cell 1 _ rfl; obtain ⟨q3, _⟩ := b5.cell 3 _ rfl; obtain ⟨q4, _⟩ := b5.cell 4 _ rfl; have D5 := ((hD.tight).fr0 f4).fr f5 (fun b hb q q' => (by have h9 := q.2; unfold onB1 at q'; omega)); have F5 : Fr noB w w5 := (hf.thenN f4).thenT f5 (fun i hi q => (by unfold onB1 at q; omega)); have D5g : Disk w5 (fun k => w.heap.size ≤ k ∧ k ≠ gx) g X := D5.mono (fun b _ q => ⟨q.1, (by have := q.2; omega)⟩); have D5 : Disk w5 (fun k => w.heap.size ≤ k) g X := D5.mono (fun b _ q => q.1))))
          go_roundw
          case rel => exact ⟨k + 1, X, p, q, n1, n2, by omega, by go_num, rfl, rfl, D5, show _ ∧ _ from ⟨hT.out.1, hT.out.2.1, hT.out.2.2.1, by have := hT.out.2.2.2; omega⟩, F5⟩
          case measure => simp [intOf]; omega
        · have hc' : ¬ (186 : Int) < (c.length : Int) := by omega
          obtain ⟨Y, m, e, p', q', hw, hYp, hT', ht', hcase⟩ := torn_ok (two_left hT.out.1 ak) hT.out.2.1 (by have := hT.out.2.2.2; omega) c (by omega) o4.2 kp
          rw [hT.out.2.2.1] at hcase
          have hrd := hT'.rd
          have hnb := newest_bd hT.out.1.bp hT.out.1.bq
          rw [hT.out.2.2.1] at hnb
          simp only at hnb
          obtain ⟨hn0, hn9⟩ := hnb
          have hbX : ({ X with left := ak } : DSt).byt := hby
          have hbY : (Y.crash kp).byt := hT'.byt
          have hpY : (Y.crash kp).pend.length ≤ 90000 := by rw [hT'.pend]; simp
          have hzero : n1 = 0 → n2 = [] := by
            intro e0
            have h1 := hT.out.2.2.1
            have := newest_zero (p := p) (q := q) (by rw [h1]; exact e0) hT.out.1.bp hT.out.1.bq
            rw [h1] at this
            simpa using congrArg Prod.snd this
          have hzero := show Hid _ from hzero
          obtain ⟨Y2, HY2⟩ : ∃ Y2, Hid (Y.crash kp = Y2) := ⟨_, rfl⟩
          obtain ⟨X1, HX1⟩ : ∃ X1, Hid (({ X with left := ak } : DSt) = X1) := ⟨_, rfl⟩
          rw [HY2.out] at hT' hrd hbY hpY
          rw [HX1.out] at hw hbX
          have hX1p : X1.pend.length ≤ 90000 := by rw [← HX1.out]; exact hpl
          have hd2 : Y2.down = false := by rw [← HY2.out]; rfl
          have hcr := show Hid _ from fun (F : Nat → Prop) (W : World) (h : Disk W F g Y) (hk : ∀ W', Fr (fun k => F k ∧ k < W.heap.size) W W' → SlI .u8 W' (.slice a3 kp.length c3) kp) => crash_anyW g _ kp W h (by omega) hk
          simp only [HY2.out] at hcr
          have hcut := show Hid _ from fun (F : Nat → Prop) (W : World) (h : Disk W F g X) => pcut_any g ak hak W h
          simp only [HX1.out] at hcut
          have hwr := show Hid _ from fun (F : Nat → Prop) (W : World) (h : Disk W F g X1) (hS : SlI .u8 W (.slice a2 c.length c2) c) => rwrite_p g _ c W h hX1p hbX hS
          simp only [hw] at hwr
          have hrr := show Hid _ from fun (F : Nat → Prop) (W : World) (h : Disk W F g Y2) => rread_p g W h (by omega) hbY
          unfold ReadIs at hrr
          obtain ⟨⟨m1, m2⟩, HM⟩ : ∃ M, Hid (newest p' q' = M) := ⟨_, rfl⟩
          simp only [HM.out] at hrd hcase
          simp only [hrd] at hrr
          have hT' : Hid (Two Y2 p' q' ∧ Y2.down = false ∧ newest p' q' = (m1, m2) ∧ top p' q' ≤ 2 * ((k + 1 : Nat) : Int)) := ⟨hT', hd2, HM.out, by have := hT.out.2.2.2; omega⟩
          clear hw hrd hbX hbY hpY ht' hd2 hX1p
          rcases hcase with ⟨rfl, hmm, hgt, hcc⟩ | ⟨rfl, hsame | ⟨hgt, hcc⟩⟩
          · -- written
            subst hmm
            replace hcc := show Hid (m2 = c) from hcc
            have hne : ¬ (m = 0) := by omega
            rw [hcc.out] at hT'
            simp only [if_neg hne, hcc.out] at hrr
            have t1 : ¬ (m ≤ n1) := by omega
            have t2 : (m == n1) = false := by simp; omega
            have t3 := str_refl c
            go_wp2_with (first
              | (refine at_idx 33 _ _ rfl ?_; go_must (refine wpList_idxR rfl 33 _ _ rfl 42 Try.underlying33 5 act5_size _ _ _ rfl hSr (by decide) _ _ k rfl rfl hlt ?_; rw [HX.out]; intro ba oa hba hca))
              | (with_reducible refine at_wpP ?_; refine at_ld 42 _ rfl ?_; go_must (refine wpList_load_mid rfl 42 _ rfl ba oa rfl (enc5 ⟨kd, ak, ag, .slice a2 c.length c2, c, .slice a3 kp.length c3, kp⟩) _ (range_of fun j v hj => hca j v hj) under_act5 rfl (act5_sizeE _) ?_))
              | (with_reducible refine at_wpP ?_; refine wpList_allocV rfl 42 rfl _ act5_zero ?_; intro gx w4 hgx b4 f4 s4; have l4 := b4.lt)
              | (with_reducible refine at_wpP ?_; refine at_st 42 _ _ rfl ?_; go_must (refine wpList_storeV rfl 42 _ _ rfl gx 0 rfl (enc5 ⟨kd, ak, ag, .slice a2 c.length c2, c, .slice a3 kp.length c3, kp⟩) rfl _ _ b4 (act5_sizeE _) (enc5_le _ _) hx1 ?_; intro w5 b5 f5; rw [putAt_all _ _ (enc5_eq _ _)] at b5; obtain ⟨q1, _⟩ := b5.cell 1 _ rfl; obtain ⟨q3, _⟩ := b5.cell 3 _ rfl; obtain ⟨q4, _⟩ := b5.cell 4 _ rfl; have D5 := ((hD.tight).fr0 f4).fr f5 (fun b hb q q' => (by have h9 := q.2; unfold onB1 at q'; omega)); have F5 : Fr noB w w5 := (hf.thenN f4).thenT f5 (fun i hi q => (by unfold onB1 at q; omega)); have D5g : Disk w5 (fun k => w.heap.size ≤ k ∧ k ≠ gx) g X := D5.mono (fun b _ q => ⟨q.1, (by have := q.2; omega)⟩); have D5 : Disk w5 (fun k => w.heap.size ≤ k) g X := D5.mono (fun b _ q => q.1)))
              | (go_at_call 19; go_must (refine (hcut.out _ _ D5g).mono ?_; rintro e w6 ⟨rfl, d6, f6⟩; have F6 : Fr noB w w6 := F5.thenT f6 (fun b hb q => (by have := q.1; omega)); have z6 := F6.size; have y6 := f6.size; have l5 := b5.lt; have b6 := b5.fr f6 (fun q => q.2 rfl); obtain ⟨r3, _⟩ := b6.cell 3 _ rfl))
              | (go_at_call 10; go_must (refine (hwr.out _ _ d6 (o4.fr0 F6)).mono ?_; rintro e w7 ⟨rfl, d7, f7⟩; have F7 : Fr noB w w7 := F6.thenT f7 (fun b hb q => (by have := q.1; omega)); have b7 := b6.fr f7 (fun q => q.2 rfl); obtain ⟨r4, _⟩ := b7.cell 4 _ rfl))
              | (go_at_call 21; go_must (refine (hcr.out _ _ d7 (fun W' hW => o5.fr0 (F7.thenT hW (fun b hb q => (by have := q.1; unfold orNew at this; omega))))).mono ?_; rintro e w8 ⟨rfl, d8, f8⟩; have F8 : Fr noB w w8 := F7.thenT f8 (fun b hb q => (by unfold orNew at q; omega)); have b8 := b7.fr f8 (fun q => (by unfold orNew at q; rcases q with q | q; exact q.2 rfl; omega))))
              | (go_at_call 9; go_must (refine (hrr.out _ _ d8).mono ?_; rintro e w9 ⟨v9, rfl, i9, n9, f9⟩; have I9 := o4.fr0 (F8.thenN f9); obtain ⟨r9, _⟩ := (b8.fr0 f9).cell 3 _ rfl))
              | (refine at_conv 24 9 _ rfl ?_; first | (refine wpList_str rfl _ 24 9 5 rfl Try.underlying24 Try.underlying5 Try.underlying9 _ _ rfl i9 ?_) | (refine wpList_str rfl _ 24 9 5 rfl Try.underlying24 Try.underlying5 Try.underlying9 _ _ rfl I9 ?_)))
            go_roundw
            case rel => exact ⟨k + 1, Y2, p', q', _, _, by omega, by go_num, rfl, rfl, (d8.fr0 f9).mono (fun b _ q => by unfold orNew at q; omega), hT', F8.thenN f9⟩
            case measure => simp [intOf]; omega
          · obtain ⟨e1, e2⟩ : m1 = n1 ∧ m2 = n2 := by simpa using hsame
            rw [e1, e2] at hT'
            simp only [e1, e2] at hrr
            clear hsame e1 e2
            by_cases hz : n1 = 0
            · subst hz
              obtain rfl := hzero.out rfl
              simp only [if_true] at hrr
              have t3 := str_refl []
              go_wp2_with (first
                | (refine at_idx 33 _ _ rfl ?_; go_must (refine wpList_idxR rfl 33 _ _ rfl 42 Try.underlying33 5 act5_size _ _ _ rfl hSr (by decide) _ _ k rfl rfl hlt ?_; rw [HX.out]; intro ba oa hba hca))
                | (with_reducible refine at_wpP ?_; refine at_ld 42 _ rfl ?_; go_must (refine wpList_load_mid rfl 42 _ rfl ba oa rfl (enc5 ⟨kd, ak, ag, .slice a2 c.length c2, c, .slice a3 kp.length c3, kp⟩) _ (range_of fun j v hj => hca j v hj) under_act5 rfl (act5_sizeE _) ?_))
                | (with_reducible refine at_wpP ?_; refine wpList_allocV rfl 42 rfl _ act5_zero ?_; intro gx w4 hgx b4 f4 s4; have l4 := b4.lt)
                | (with_reducible refine at_wpP ?_; refine at_st 42 _ _ rfl ?_; go_must (refine wpList_storeV rfl 42 _ _ rfl gx 0 rfl (enc5 ⟨kd, ak, ag, .slice a2 c.length c2, c, .slice a3 kp.length c3, kp⟩) rfl _ _ b4 (act5_sizeE _) (enc5_le _ _) hx1 ?_; intro w5 b5 f5; rw [putAt_all _ _ (enc5_eq _ _)] at b5; obtain ⟨q1, _⟩ := b5.cell 1 _ rfl; obtain ⟨q3, _⟩ := b5.cell 3 _ rfl; obtain ⟨q4, _⟩ := b5.cell 4 _ rfl; have D5 := ((hD.tight).fr0 f4).fr f5 (fun b hb q q' => (by have h9 := q.2; unfold onB1 at q'; omega)); have F5 : Fr noB w w5 := (hf.thenN f4).thenT f5 (fun i hi q => (by unfold onB1 at q; omega)); have D5g : Disk w5 (fun k => w.heap.size ≤ k ∧ k ≠ gx) g X := D5.mono (fun b _ q => ⟨q.1, (by have := q.2; omega)⟩); have D5 : Disk w5 (fun k => w.heap.size ≤ k) g X := D5.mono (fun b _ q => q.1)))
                | (go_at_call 19; go_must (refine (hcut.out _ _ D5g).mono ?_; rintro e w6 ⟨rfl, d6, f6⟩; have F6 : Fr noB w w6 := F5.thenT f6 (fun b hb q => (by have := q.1; omega)); have z6 := F6.size; have y6 := f6.size; have l5 := b5.lt; have b6 := b5.fr f6 (fun q => q.2 rfl); obtain ⟨r3, _⟩ := b6.cell 3 _ rfl))
                | (go_at_call 10; go_must (refine (hwr.out _ _ d6 (o4.fr0 F6)).mono ?_; rintro e w7 ⟨rfl, d7, f7⟩; have F7 : Fr noB w w7 := F6.thenT f7 (fun b hb q => (by have := q.1; omega)); have b7 := b6.fr f7 (fun q => q.2 rfl); obtain ⟨r4, _⟩ := b7.cell 4 _ rfl))
                | (go_at_call 21; go_must (refine (hcr.out _ _ d7 (fun W' hW => o5.fr0 (F7.thenT hW (fun b hb q => (by have := q.1; unfold orNew at this; omega))))).mono ?_; rintro e w8 ⟨rfl, d8, f8⟩; have F8 : Fr noB w w8 := F7.thenT f8 (fun b hb q => (by unfold orNew at q; omega)); have b8 := b7.fr f8 (fun q => (by unfold orNew at q; rcases q with q | q; exact q.2 rfl; omega))))
                | (go_at_call 9; go_must (refine (hrr.out _ _ d8).mono ?_; rintro e w9 ⟨v9, rfl, i9, n9, f9⟩; have I9 := o4.fr0 (F8.thenN f9); obtain ⟨r9, _⟩ := (b8.fr0 f9).cell 3 _ rfl))
                | (refine at_conv 24 9 _ rfl ?_; first | (refine wpList_str rfl _ 24 9 5 rfl Try.underlying24 Try.underlying5 Try.underlying9 _ _ rfl i9 ?_) | (refine wpList_str rfl _ 24 9 5 rfl Try.underlying24 Try.underlying5 Try.underlying9 _ _ rfl I9 ?_)))
              go_roundw
              case rel => exact ⟨k + 1, Y2, p', q', _, _, by omega, by go_num, rfl, rfl, (d8.fr0 f9).mono (fun b _ q => by unfold orNew at q; omega), hT', F8.thenN f9⟩
              case measure => simp [intOf]; omega
            · simp only [if_neg hz] at hrr
              have t3 := str_refl n2
              go_wp2_with (first
                | (refine at_idx 33 _ _ rfl ?_; go_must (refine wpList_idxR rfl 33 _ _ rfl 42 Try.underlying33 5 act5_size _ _ _ rfl hSr (by decide) _ _ k rfl rfl hlt ?_; rw [HX.out]; intro ba oa hba hca))
                | (with_reducible refine at_wpP ?_; refine at_ld 42 _ rfl ?_; go_must (refine wpList_load_mid rfl 42 _ rfl ba oa rfl (enc5 ⟨kd, ak, ag, .slice a2 c.length c2, c, .slice a3 kp.length c3, kp⟩) _ (range_of fun j v hj => hca j v hj) under_act5 rfl (act5_sizeE _) ?_))
                | (with_reducible refine at_wpP ?_; refine wpList_allocV rfl 42 rfl _ act5_zero ?_; intro gx w4 hgx b4 f4 s4; have l4 := b4.lt)
                | (with_reducible refine at_wpP ?_; refine at_st 42 _ _ rfl ?_; go_must (refine wpList_storeV rfl 42 _ _ rfl gx 0 rfl (enc5 ⟨kd, ak, ag, .slice a2 c.length c2, c, .slice a3 kp.length c3, kp⟩) rfl _ _ b4 (act5_sizeE _) (enc5_le _ _) hx1 ?_; intro w5 b5 f5; rw [putAt_all _ _ (enc5_eq _ _)] at b5; obtain ⟨q1, _⟩ := b5.cell 1 _ rfl; obtain ⟨q3, _⟩ := b5.cell 3 _ rfl; obtain ⟨q4, _⟩ := b5.cell 4 _ rfl; have D5 := ((hD.tight).fr0 f4).fr f5 (fun b hb q q' => (by have h9 := q.2; unfold onB1 at q'; omega)); have F5 : Fr noB w w5 := (hf.thenN f4).thenT f5 (fun i hi q => (by unfold onB1 at q; omega)); have D5g : Disk w5 (fun k => w.heap.size ≤ k ∧ k ≠ gx) g X := D5.mono (fun b _ q => ⟨q.1, (by have := q.2; omega)⟩); have D5 : Disk w5 (fun k => w.heap.size ≤ k) g X := D5.mono (fun b _ q => q.1)))
                | (go_at_call 19; go_must (refine (hcut.out _ _ D5g).mono ?_; rintro e w6 ⟨rfl, d6, f6⟩; have F6 : Fr noB w w6 := F5.thenT f6 (fun b hb q => (by have := q.1; omega)); have z6 := F6.size; have y6 := f6.size; have l5 := b5.lt; have b6 := b5.fr f6 (fun q => q.2 rfl); obtain ⟨r3, _⟩ := b6.cell 3 _ rfl))
                | (go_at_call 10; go_must (refine (hwr.out _ _ d6 (o4.fr0 F6)).mono ?_; rintro e w7 ⟨rfl, d7, f7⟩; have F7 : Fr noB w w7 := F6.thenT f7 (fun b hb q => (by have := q.1; omega)); have b7 := b6.fr f7 (fun q => q.2 rfl); obtain ⟨r4, _⟩ := b7.cell 4 _ rfl))
                | (go_at_call 21; go_must (refine (hcr.out _ _ d7 (fun W' hW => o5.fr0 (F7.thenT hW (fun b hb q => (by have := q.1; unfold orNew at this; omega))))).mono ?_; rintro e w8 ⟨rfl, d8, f8⟩; have F8 : Fr noB w w8 := F7.thenT f8 (fun b hb q => (by unfold orNew at q; omega)); have b8 := b7.fr f8 (fun q => (by unfold orNew at q; rcases q with q | q; exact q.2 rfl; omega))))
                | (go_at_call 9; go_must (refine (hrr.out _ _ d8).mono ?_; rintro e w9 ⟨v9, rfl, i9, n9, f9⟩; have I9 := o4.fr0 (F8.thenN f9); obtain ⟨r9, _⟩ := (b8.fr0 f9).cell 3 _ rfl))
                | (refine at_conv 24 9 _ rfl ?_; first | (refine wpList_str rfl _ 24 9 5 rfl Try.underlying24 Try.underlying5 Try.underlying9 _ _ rfl i9 ?_) | (refine wpList_str rfl _ 24 9 5 rfl Try.underlying24 Try.underlying5 Try.underlying9 _ _ rfl I9 ?_)))
              go_roundw
              case rel => exact ⟨k + 1, Y2, p', q', _, _, by omega, by go_num, rfl, rfl, (d8.fr0 f9).mono (fun b _ q => by unfold orNew at q; omega), hT', F8.thenN f9⟩
              case measure => simp [intOf]; omega
          · replace hcc := show Hid (m2 = c) from hcc
            have hne : ¬ (m1 = 0) := by omega
            rw [hcc.out] at hT'
            simp only [if_neg hne, hcc.out] at hrr
            have t2 : (m1 == n1) = false := by simp; omega
            have t3 := str_refl c
            go_wp2_with (first
              | (refine at_idx 33 _ _ rfl ?_; go_must (refine wpList_idxR rfl 33 _ _ rfl 42 Try.underlying33 5 act5_size _ _ _ rfl hSr (by decide) _ _ k rfl rfl hlt ?_; rw [HX.out]; intro ba oa hba hca))
              | (with_reducible refine at_wpP ?_; refine at_ld 42 _ rfl ?_; go_must (refine wpList_load_mid rfl 42 _ rfl ba oa rfl (enc5 ⟨kd, ak, ag, .slice a2 c.length c2, c, .slice a3 kp.length c3, kp⟩) _ (range_of fun j v hj => hca j v hj) under_act5 rfl (act5_sizeE _) ?_))
              | (with_reducible refine at_wpP ?_; refine wpList_allocV rfl 42 rfl _ act5_zero ?_; intro gx w4 hgx b4 f4 s4; have l4 := b4.lt)
              | (with_reducible refine at_wpP ?_; refine at_st 42 _ _ rfl ?_; go_must (refine wpList_storeV rfl 42 _ _ rfl gx 0 rfl (enc5 ⟨kd, ak, ag, .slice a2 c.length c2, c, .slice a3 kp.length c3, kp⟩) rfl _ _ b4 (act5_sizeE _) (enc5_le _ _) hx1 ?_; intro w5 b5 f5; rw [putAt_all _ _ (enc5_eq _ _)] at b5; obtain ⟨q1, _⟩ := b5.cell 1 _ rfl; obtain ⟨q3, _⟩ := b5.cell 3 _ rfl; obtain ⟨q4, _⟩ := b5.cell 4 _ rfl; have D5 := ((hD.tight).fr0 f4).fr f5 (fun b hb q q' => (by have h9 := q.2; unfold onB1 at q'; omega)); have F5 : Fr noB w w5 := (hf.thenN f4).thenT f5 (fun i hi q => (by unfold onB1 at q; omega)); have D5g : Disk w5 (fun k => w.heap.size ≤ k ∧ k ≠ gx) g X := D5.mono (fun b _ q => ⟨q.1, (by have := q.2; omega)⟩); have D5 : Disk w5 (fun k => w.heap.size ≤ k) g X := D5.mono (fun b _ q => q.1)))
              | (go_at_call 19; go_must (refine (hcut.out _ _ D5g).mono ?_; rintro e w6 ⟨rfl, d6, f6⟩; have F6 : Fr noB w w6 := F5.thenT f6 (fun b hb q => (by have := q.1; omega)); have z6 := F6.size; have y6 := f6.size; have l5 := b5.lt; have b6 := b5.fr f6 (fun q => q.2 rfl); obtain ⟨r3, _⟩ := b6.cell 3 _ rfl))
              | (go_at_call 10; go_must (refine (hwr.out _ _ d6 (o4.fr0 F6)).mono ?_; rintro e w7 ⟨rfl, d7, f7⟩; have F7 : Fr noB w w7 := F6.thenT f7 (fun b hb q => (by have := q.1; omega)); have b7 := b6.fr f7 (fun q => q.2 rfl); obtain ⟨r4, _⟩ := b7.cell 4 _ rfl))
              | (go_at_call 21; go_must (refine (hcr.out _ _ d7 (fun W' hW => o5.fr0 (F7.thenT hW (fun b hb q => (by have := q.1; unfold orNew at this; omega))))).mono ?_; rintro e w8 ⟨rfl, d8, f8⟩; have F8 : Fr noB w w8 := F7.thenT f8 (fun b hb q => (by unfold orNew at q; omega)); have b8 := b7.fr f8 (fun q => (by unfold orNew at q; rcases q with q | q; exact q.2 rfl; omega))))
              | (go_at_call 9; go_must (refine (hrr.out _ _ d8).mono ?_; rintro e w9 ⟨v9, rfl, i9, n9, f9⟩; have I9 := o4.fr0 (F8.thenN f9); obtain ⟨r9, _⟩ := (b8.fr0 f9).cell 3 _ rfl))
              | (refine at_conv 24 9 _ rfl ?_; first | (refine wpList_str rfl _ 24 9 5 rfl Try.underlying24 Try.underlying5 Try.underlying9 _ _ rfl i9 ?_) | (refine wpList_str rfl _ 24 9 5 rfl Try.underlying24 Try.underlying5 Try.underlying9 _ _ rfl I9 ?_)))
            go_roundw
            case rel => exact ⟨k + 1, Y2, p', q', _, _, by omega, by go_num, rfl, rfl, (d8.fr0 f9).mono (fun b _ q => by unfold orNew at q; omega), hT', F8.thenN f9⟩
            case measure => simp [intOf]; omega
      · have hlt' : ¬ (k : Int) < (l.length : Int) := by omega
        go_wp2
        go_ret
        exact ⟨rfl, hf.below⟩
end Go.Proofs.Ytijgfojnppcbjaa
