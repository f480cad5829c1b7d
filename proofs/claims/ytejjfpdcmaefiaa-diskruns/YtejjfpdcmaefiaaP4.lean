/- The document's disk: Read. -/
import Derived.Test.YtejjfpdcmaefiaaP3
namespace Go.Proofs.Ytejjfpdcmaefiaa
open Go.RowKit Go.Proofs.U
set_option linter.unusedSimpArgs false
set_option linter.unusedVariables false

abbrev encB (b : Bool) : List Value := [.bool b]
def encW (x : Int × List Int) : List Value := .int .i64 x.1 :: pgv x.2
abbrev SlPg (w : World) (v : Value) (l : List (List Int)) : Prop := SlR pgv 256 w v l
abbrev SlBo (w : World) (v : Value) (l : List Bool) : Prop := SlR encB 1 w v l
abbrev SlWr (w : World) (v : Value) (l : List (Int × List Int)) : Prop := SlR encW 257 w v l
theorem SlR.isSl {α : Type} {ec : α → List Value} {sz : Nat} {w : World} {v : Value} {l : List α} (h : SlR ec sz w v l) : isSl v := by
  obtain ⟨a, c, rfl, _⟩ := h.opn; exact ⟨_, _, _, rfl⟩
theorem write_size : (Try.prog.info? 79).map (·.size) = some 257 := by kernel_rfl

/-- What a page reads as: the last write of it, or what is stable. -/
def lastW (pend : List (Int × List Int)) (i : Int) (p : List Int) : List Int := pend.foldl (fun q x => if x.1 == i then x.2 else q) p
theorem lastW_none (i : Int) (p : List Int) (l : List (Int × List Int)) (h : ∀ x ∈ l, (x.1 == i) = false) : lastW l i p = p := by
  unfold lastW
  induction l generalizing p with
  | nil => rfl
  | cons x l ih => rw [List.foldl_cons, h x (by simp)]; exact ih p (fun y hy => h y (by simp [hy]))
theorem lastW_hit (i : Int) (p : List Int) (l : List (Int × List Int)) (k : Nat) (hk : k < l.length) (hx : (l[k].1 == i) = true) (h : ∀ j (hj : j < l.length), k < j → (l[j].1 == i) = false) : lastW l i p = l[k].2 := by
  have e : l = l.take (k + 1) ++ l.drop (k + 1) := (List.take_append_drop _ _).symm
  have h2 : ∀ x ∈ l.drop (k + 1), (x.1 == i) = false := by
    intro x hx
    obtain ⟨j, hj, rfl⟩ := List.mem_iff_getElem.1 hx
    rw [List.getElem_drop]
    exact h _ _ (by omega)
  have : lastW l i p = lastW (l.drop (k + 1)) i (lastW (l.take (k + 1)) i p) := by
    conv => lhs; rw [e]
    unfold lastW; rw [List.foldl_append]
  rw [this, lastW_none _ _ _ h2, List.take_succ_eq_append_getElem hk]
  unfold lastW
  rw [List.foldl_append, List.foldl_cons, List.foldl_nil, hx]
  rfl

theorem results_page2 {fn : Func} {q u : Tmp} (h : fn.results = #[.cell q 25, .tmp u]) (tmps : Array Value) (w : World) (g : Nat) (p : List Int) (hq : tmps.getD q undef = .pointer (some ⟨g, 0, none⟩)) (hA : BxV w g 25 (pgv p)) (hp : p.length = 256) :
    (results fn tmps).run Try.prog w = .ok (.tuple #[pgV p, tmps.getD u undef]) w := by
  rw [results_cell_tmp h, hq]
  have hr := run_loadVar_mid (P := Try.prog) w g 0 25 (pgv p) _ (hA.range 0 _ (by simp)) Try.underlying25 rfl (by rw [size_page, pgv_len, hp])
  simp only [asAddr, Sem.run_pure, Result.andThen_ok, hr]
  rfl

theorem range_of {w : World} {b o : Nat} {cs : List Value} (h : ∀ (j : Nat) (v : Value), cs[j]? = some v → w.cell? ⟨b, o + j, none⟩ = some v) : w.rangeAt b o cs := by
  intro j v hj
  exact h j v hj
section
variable {w : World} {ops : Array Oper} {rest : List Oper} {o : Oper} {a : Act} {Q : Exit → Act → World → Prop}
/-- A page read out of the midst of a block. -/
theorem wpList_ldPm (hgd : o.guard = none) (x : Operand) (ho : o.op = .load 25 x) (b off : Nat) (hx : a.eval x = .pointer (some ⟨b, off, none⟩)) (p : List Int) (hc : w.rangeAt b off (pgv p)) (hp : p.length = 256)
    (h : wpList Try.prog ops Q rest (a.put o.dst (pgV p)) w) : wpList Try.prog ops Q (o :: rest) a w :=
  wpList_load_mid hgd 25 x ho b off hx (pgv p) _ hc Try.underlying25 rfl (by rw [size_page, pgv_len, hp]) h
end

def readR (pages : List (List Int)) (bad : List Bool) (pend : List (Int × List Int)) (i : Int) : List Int × Int :=
  if 0 ≤ i ∧ i < (pages.length : Int) then (if bad.getD i.toNat false then (zeroP, 43) else (lastW pend i (pages.getD i.toNat []), 0)) else (zeroP, 41)

set_option maxRecDepth 100000 in
set_option maxHeartbeats 2000000 in
theorem rread_any (v1 v2 v3 : Value) (pages : List (List Int)) (bad : List Bool) (pend : List (Int × List Int)) (c : Bool) (l : Int) (d : Bool) (i : Int) (w : World)
    (h1 : SlPg w v1 pages) (h2 : SlBo w v2 bad) (h3 : SlWr w v3 pend) (hlb : bad.length = pages.length) (hm : pages.length ≤ 100000) (hm3 : pend.length ≤ 100000) :
    Calls Try.prog 26 #[dkV v1 v2 v3 c l d, .int .i64 i] w fun r w' => r = .returned (.tuple #[pgV (readR pages bad pend i).1, .int .i64 (readR pages bad pend i).2]) ∧ Fr noB w w' := by
  obtain ⟨a1, c1, rfl, _⟩ := h1.opn
  obtain ⟨a2, c2', rfl, _⟩ := h2.opn
  obtain ⟨a3, c3', rfl, _⟩ := h3.opn
  obtain ⟨Z, HZ⟩ : ∃ Z, Hid (zeroP = Z) := ⟨_, rfl⟩
  have hZl : Hid (Z.length = 256) := by show _ = _; rw [← HZ.out]; exact zeroP_len
  have Hlb := show Hid _ from hlb
  clear hlb
  by_cases hi : 0 ≤ i ∧ i < (pages.length : Int)
  · obtain ⟨n, rfl⟩ : ∃ n : Nat, i = n := ⟨i.toNat, by omega⟩
    have hn : n < pages.length := by omega
    have hnb : n < bad.length := by rw [Hlb.out]; exact hn
    have ht : (decide (0 ≤ (n : Int)) && decide ((n : Int) < (pages.length : Int))) = true := by simp; omega
    have hr : readR pages bad pend (n : Int) = if bad[n] then (Z, 43) else (lastW pend (n : Int) pages[n], 0) := by
      unfold readR; rw [if_pos hi, HZ.out]; simp [List.getD, hn, hnb]
    rw [hr]
    clear hr
    obtain ⟨bn, Hbn⟩ : ∃ b, Hid (bad[n] = b) := ⟨bad[n], (rfl : bad[n] = bad[n])⟩
    rw [Hbn.out]
    cases bn with
    | true =>
      simp only [if_true]
      go_enter Try.func26, Try.ntmps26
      go_wp2_with (first
        | (with_reducible refine at_wpP ?_; refine wpList_boxV rfl 39 _ rfl (dkL (.slice a1 pages.length c1) (.slice a2 bad.length c2') (.slice a3 pend.length c3') c l d) rfl ?_; intro g1 w1 hg1 b1 f1 s1)
        | (with_reducible refine at_wpP ?_; refine wpList_allocP rfl rfl ?_; rw [HZ.out]; intro g2 w2 hg2 b2 f2 s2; have c2 := b1.fr0 f2; have hl1 := b1.lt; have hl2 := b2.lt)
        | (with_reducible refine at_wpP ?_; refine wpList_ldD rfl _ rfl g1 rfl _ _ _ c l d c2 ?_)
        | (go_at_call 35; go_must (refine (there_any _ _ _ _ _ _ _ _ _ _).mono ?_; rintro e w3 ⟨rfl, f3⟩; have b3 := b2.fr0 f3; have c3 := c2.fr0 f3; obtain ⟨k0, k1, k2, k3, k4, k5⟩ := c3.six))
        | (refine at_idx 36 _ _ rfl ?_; go_must (refine wpList_idxR rfl 36 _ _ rfl 4 Try.underlying36 1 size_bool _ _ _ rfl (h2.fr0 ((f1.thenN f2).thenN f3)) (by decide) _ _ n rfl rfl hnb ?_; rw [Hbn.out]; intro ba oa hba hca; have p0 := hca 0 _ rfl; rw [Nat.add_zero] at p0))
        | (with_reducible refine at_wpP ?_; refine wpList_buildP rfl rfl ?_; rw [HZ.out])
        | (with_reducible refine at_wpP ?_; refine wpList_storeP rfl _ _ rfl g2 rfl _ rfl _ b3 hZl.out hZl.out ?_; intro w4 b4 f4))
      refine bodyPost_ret (v := .tuple #[pgV Z, .int .i64 43]) (results_page2 Try.results26 _ w4 g2 Z rfl b4 hZl.out) rfl ⟨rfl, ?_⟩
      exact ((f1.thenN f2).thenN f3).thenT f4 (fun i hi q => by unfold onB1 at q; have := f1.size; omega)
    | false =>
      simp only [Bool.false_eq_true, if_false]
      obtain ⟨R, HR⟩ : ∃ R, Hid (lastW pend (n : Int) pages[n] = R) := ⟨lastW pend (n : Int) pages[n], (rfl : _ = _)⟩
      rw [HR.out]
      have hPl := h1.1
      have hWl := h3.1
      go_enter Try.func26, Try.ntmps26
      go_wp2_with (first
        | (with_reducible refine at_wpP ?_; refine wpList_boxV rfl 39 _ rfl (dkL (.slice a1 pages.length c1) (.slice a2 bad.length c2') (.slice a3 pend.length c3') c l d) rfl ?_; intro g1 w1 hg1 b1 f1 s1)
        | (with_reducible refine at_wpP ?_; refine wpList_allocP rfl rfl ?_; rw [HZ.out]; intro g2 w2 hg2 b2 f2 s2; have c2 := b1.fr0 f2; have hl1 := b1.lt; have hl2 := b2.lt)
        | (with_reducible refine at_wpP ?_; refine wpList_ldD rfl _ rfl g1 rfl _ _ _ c l d c2 ?_)
        | (go_at_call 35; go_must (refine (there_any _ _ _ _ _ _ _ _ _ _).mono ?_; rintro e w3 ⟨rfl, f3⟩; have b3 := b2.fr0 f3; have c3 := c2.fr0 f3; obtain ⟨k0, k1, k2, k3, k4, k5⟩ := c3.six))
        | (refine at_idx 36 _ _ rfl ?_; go_must (refine wpList_idxR rfl 36 _ _ rfl 4 Try.underlying36 1 size_bool _ _ _ rfl (h2.fr0 ((f1.thenN f2).thenN f3)) (by decide) _ _ n rfl rfl hnb ?_; rw [Hbn.out]; intro ba oa hba hca; have p0 := hca 0 _ rfl; rw [Nat.add_zero] at p0)))
      have F3 := (f1.thenN f2).thenN f3
      have z1 := f1.size
      go_loop [6] (fun kk => ∃ m : Nat, m ≤ pend.length ∧ kk = .int .i64 ((m : Int) - 1) ∧ Hid (∀ j (hj : j < pend.length), m ≤ j → (pend[j].1 == (n : Int)) = false)) (fun kk => (intOf kk + 1).toNat)
      case atStart => exact ⟨pend.length, Nat.le_refl _, rfl, show ∀ j (hj : j < pend.length), _ from fun j hj h => by omega⟩
      case round =>
        obtain ⟨m, hm', rfl, hall⟩ := hrel
        rcases m with _ | k
        · have hR : Hid (pages[n] = R) := by
            show _ = _
            rw [← HR.out, lastW_none]
            intro x hx
            obtain ⟨j, hj, rfl⟩ := List.mem_iff_getElem.1 hx
            exact hall.out j hj (Nat.zero_le _)
          have hRl : R.length = 256 := by rw [← hR.out, ← pgv_len]; exact hPl _ (by simp)
          have e1 : ¬ ((0 : Int) ≤ ((0 : Nat) : Int) - 1) := by omega
          go_wp2_with (first
            | (refine at_idx 35 _ _ rfl ?_; go_must (refine wpList_idxR rfl 35 _ _ rfl 25 Try.underlying35 256 size_page _ _ _ rfl (h1.fr0 F3) (by decide) _ _ n rfl rfl hn ?_; rw [hR.out]; intro ba oa hba hca))
            | (with_reducible refine at_wpP ?_; refine wpList_ldPm rfl _ rfl ba oa rfl R (range_of fun j v hj => hca j v hj) hRl ?_)
            | (with_reducible refine at_wpP ?_; refine wpList_storeP rfl _ _ rfl g2 rfl _ rfl _ b3 hRl hZl.out ?_; intro w4 b4 f4))
          refine bodyPost_ret (v := .tuple #[pgV R, .int .i64 0]) (results_page2 Try.results26 _ w4 g2 R rfl b4 hRl) rfl ⟨rfl, ?_⟩
          exact F3.thenT f4 (fun i hi q => by unfold onB1 at q; omega)
        · have hk : k < pend.length := by omega
          have e1 : ((0 : Int) ≤ ((k + 1 : Nat) : Int) - 1) := by omega
          have e2 : ((k + 1 : Nat) : Int) - 1 = (k : Int) := by omega
          obtain ⟨X, HX⟩ : ∃ X, Hid (pend[k] = X) := ⟨pend[k], (rfl : pend[k] = pend[k])⟩
          obtain ⟨x1, x2⟩ := X
          by_cases hx : x1 = (n : Int)
          · have hR : x2 = R := by
              rw [← HR.out, lastW_hit (n : Int) pages[n] pend k hk (by rw [HX.out]; simpa using hx) (fun j hj hkj => hall.out j hj (by omega)), HX.out]
            subst hR
            subst hx
            have hRl : x2.length = 256 := by
              have := hWl pend[k] (by simp)
              rw [HX.out] at this
              simpa [encW, pgv_len] using this
            rw [e2]
            go_wp2_with (first
              | (refine at_idx 37 _ _ rfl ?_; go_must (refine wpList_idxR rfl 37 _ _ rfl 79 Try.underlying37 257 write_size _ _ _ rfl (h3.fr0 F3) (by decide) _ _ k rfl rfl hk ?_; rw [HX.out]; intro ba oa hba hca; have p0 := hca 0 _ rfl; rw [Nat.add_zero] at p0))
              | (with_reducible refine at_wpP ?_; refine wpList_ldPm rfl _ rfl ba (oa + 1) rfl x2 (range_of fun j v hj => by have := hca (j + 1) v (by simpa [encW] using hj); rwa [show oa + (j + 1) = oa + 1 + j by omega] at this) hRl ?_)
              | (with_reducible refine at_wpP ?_; refine wpList_storeP rfl _ _ rfl g2 rfl _ rfl _ b3 hRl hZl.out ?_; intro w4 b4 f4))
            refine bodyPost_ret (v := .tuple #[pgV x2, .int .i64 0]) (results_page2 Try.results26 _ w4 g2 x2 rfl b4 hRl) rfl ⟨rfl, ?_⟩
            exact F3.thenT f4 (fun i hi q => by unfold onB1 at q; omega)
          · have hxb : (x1 == (n : Int)) = false := by simpa using hx
            rw [e2]
            go_wp2_with (refine at_idx 37 _ _ rfl ?_; go_must (refine wpList_idxR rfl 37 _ _ rfl 79 Try.underlying37 257 write_size _ _ _ rfl (h3.fr0 F3) (by decide) _ _ k rfl rfl hk ?_; rw [HX.out]; intro ba oa hba hca; have p0 := hca 0 _ rfl; rw [Nat.add_zero] at p0))
            go_round
            case rel =>
              refine ⟨k, by omega, by go_num, ?_⟩
              show ∀ j (hj : j < pend.length), _
              intro j hj hkj
              by_cases hjk : j = k
              · subst hjk; rw [HX.out]; exact hxb
              · exact hall.out j hj (by omega)
            case measure => simp [intOf]
  · have hr : readR pages bad pend i = (Z, 41) := by unfold readR; rw [if_neg hi, HZ.out]
    rw [hr]
    have ht : (decide (0 ≤ i) && decide (i < (pages.length : Int))) = false := by
      rw [Bool.and_eq_false_iff]; simp; omega
    go_enter Try.func26, Try.ntmps26
    go_wp2_with (first
      | (with_reducible refine at_wpP ?_; refine wpList_boxV rfl 39 _ rfl (dkL (.slice a1 pages.length c1) (.slice a2 bad.length c2') (.slice a3 pend.length c3') c l d) rfl ?_; intro g1 w1 hg1 b1 f1 s1)
      | (with_reducible refine at_wpP ?_; refine wpList_allocP rfl rfl ?_; rw [HZ.out]; intro g2 w2 hg2 b2 f2 s2; have c2 := b1.fr0 f2; have hl1 := b1.lt; have hl2 := b2.lt)
      | (with_reducible refine at_wpP ?_; refine wpList_ldD rfl _ rfl g1 rfl _ _ _ c l d c2 ?_)
      | (go_at_call 35; go_must (refine (there_any _ _ _ _ _ _ _ _ _ _).mono ?_; rintro e w3 ⟨rfl, f3⟩; have b3 := b2.fr0 f3))
      | (with_reducible refine at_wpP ?_; refine wpList_buildP rfl rfl ?_; rw [HZ.out])
      | (with_reducible refine at_wpP ?_; refine wpList_storeP rfl _ _ rfl g2 rfl _ rfl _ b3 hZl.out hZl.out ?_; intro w4 b4 f4))
    refine bodyPost_ret (v := .tuple #[pgV Z, .int .i64 41]) (results_page2 Try.results26 _ w4 g2 Z rfl b4 hZl.out) rfl ⟨rfl, ?_⟩
    exact ((f1.thenN f2).thenN f3).thenT f4 (fun i hi q => by unfold onB1 at q; have := f1.size; omega)
end Go.Proofs.Ytejjfpdcmaefiaa
