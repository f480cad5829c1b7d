/- Texts JW, JS, TG of the proof of TreeSplits, one behind the other. -/
import Derived.Test.YtkhdniccnefdhaaBundleTreeSplits1
import Derived.Test.YtkhdniccnefdhaaBundleTreeSplits2
import Derived.Test.YtkhdniccnefdhaaBundleTreeSplits3
import Derived.Test.YtkhdniccnefdhaaBundleTreeSplits4
import Derived.Test.YtkhdniccnefdhaaBundleTreeSplits5
import Derived.Test.YtkhdniccnefdhaaBundleTreeSplits6
import Derived.Test.YtkhdniccnefdhaaBundleTreeSplits7
import Derived.Test.YtkhdniccnefdhaaBundleTreeSplits8
import Derived.Test.YtkhdniccnefdhaaBundleTreeSplits9
import Derived.Test.YtkhdniccnefdhaaBundleTreeSplits10
import Derived.Test.YtkhdniccnefdhaaBundleTreeSplits11
import Derived.Test.YtkhdniccnefdhaaBundleTreeSplits12
import Derived.Test.YtkhdniccnefdhaaBundleTreeSplits13
import Derived.Test.YtkhdniccnefdhaaBundleTreeSplits14
import Derived.Test.YtkhdniccnefdhaaBundleTreeSplits15
import Derived.Test.YtkhdniccnefdhaaBundleTreeSplits16
import Derived.Test.YtkhdniccnefdhaaBundleTreeSplits17
/- The document's Same of entries (layer 10); no condition. -/
namespace Go.Proofs.Ytkhdniccnefdhaa
open Go.RowKit Go.Proofs.U
set_option linter.unusedSimpArgs false
set_option linter.unusedVariables false
theorem cells_at {w : World} {b o n c : Nat} {l : List (Int × Int)} (h : SlR enC 2 w (.slice (some ⟨b, o, none⟩) n c) l) (k : Nat) (hk : k < l.length) {x : Int × Int} (hx : Hid (l[k] = x)) : ∀ q u, (enC x)[q]? = some u → w.cell? ⟨b, o + k * 2 + q, none⟩ = some u := by
  intro q u hq
  obtain ⟨hall, ao, cap, hv, hcap, hlen, hnone, hsome⟩ := h
  cases hv
  have hq2 : q < 2 := (List.getElem?_eq_some_iff.1 hq).1
  have hfl := flat_at enC 2 l hall k hk q hq2
  rw [hx.out, hq] at hfl
  have := hsome _ rfl _ _ hfl
  rw [Addr.add_lit] at this
  rw [Nat.add_assoc]
  exact this
set_option maxRecDepth 100000 in
set_option maxHeartbeats 4000000 in
theorem same10_any (va vb : Value) (la lb : List (Int × Int)) (w : World) (ha : SlP .i64 .i64 w va la) (hb : SlP .i64 .i64 w vb lb) (hm : la.length ≤ 1000) :
    Calls Try.prog 18 #[va, vb] w fun r w' => r = .returned (.bool (la == lb)) ∧ Fr noB w w' := by
  obtain ⟨a0, c0, hva, hc0⟩ := ha.1.opn
  obtain ⟨a1, c1, hvb, hc1⟩ := hb.1.opn
  by_cases hne : la.length = lb.length
  · by_cases h0 : la.length = 0
    · have e1 : la = [] := List.eq_nil_of_length_eq_zero h0
      have e2 : lb = [] := List.eq_nil_of_length_eq_zero (by omega)
      subst e1; subst e2
      subst hva; subst hvb
      go_enter Try.func18, Try.ntmps18
      go_wp2
      go_loop [13] (fun i => i = .int .i64 0) (fun _ => 0)
      case atStart => rfl
      case round =>
        subst hrel
        go_wp2
        go_ret
        exact ⟨rfl, Fr.refl _ _⟩
    · clear hva hvb hc0 hc1
      obtain ⟨ba, oa, ca, rfl, hca⟩ := SlR.addr ha.1 (by decide) (by omega)
      obtain ⟨bb, ob, cb, rfl, hcb⟩ := SlR.addr hb.1 (by decide) (by omega)
      have hnt : ((la.length : Int) == (lb.length : Int)) = true := by simp; omega
      have hneI : (la.length : Int) = (lb.length : Int) := by omega
      have hneI := show Hid _ from hneI
      have hne' := show Hid _ from hne
      clear hne
      go_enter Try.func18, Try.ntmps18
      go_wp2
      go_loopw [13] (fun i wr => ∃ (k : Nat), k ≤ la.length ∧ i = .int .i64 (k : Int) ∧ Hid (la.take k = lb.take k) ∧ Fr noB w wr) (fun i _ => la.length - (intOf i).toNat)
      case atStart => exact ⟨0, by omega, rfl, rfl, Fr.refl _ _⟩
      case round =>
        obtain ⟨k, hk, rfl, htk, hf⟩ := hrel
        by_cases hlt : k < la.length
        · have hltb : k < lb.length := by rw [← hne'.out]; exact hlt
          have hlt' : (k : Int) < (la.length : Int) := by omega
          have hltb' : (k : Int) < (lb.length : Int) := by omega
          obtain ⟨x, Hx⟩ : ∃ x, Hid (la[k] = x) := ⟨la[k], (rfl : la[k] = la[k])⟩
          obtain ⟨y, Hy⟩ : ∃ y, Hid (lb[k] = y) := ⟨lb[k], (rfl : lb[k] = lb[k])⟩
          go_wp2
          obtain ⟨w0, HW⟩ : ∃ w0, Hid (wr.drew = w0) := ⟨_, rfl⟩
          have f0 : Fr noB wr w0 := by rw [← HW.out]; exact (Fr.refl _ _).drew
          have z0 := f0.size
          have hSA := (ha.1.fr0 hf).fr0 f0
          have hSB := (hb.1.fr0 hf).fr0 f0
          refine wp_region_chain_layT (by kernel_rfl) [] [none, none, none, none, none, none, none, none, none]
            [fun v => v = .slice (some ⟨ba, oa, none⟩) la.length ca, fun v => v = .int .i64 (k : Int), fun v => v = .pointer (some ⟨ba, oa + k * 2, none⟩), fun v => v = enV x, fun v => v = .slice (some ⟨bb, ob, none⟩) lb.length cb, fun v => v = .int .i64 (k : Int), fun v => v = .pointer (some ⟨bb, ob + k * 2, none⟩), fun v => v = enV y, fun v => v = .bool (!(x == y))]
            (JGX w0) (by rw [HW.out]; exact Fr.refl _ _) (by kernel_rfl) (by kernel_rfl) (by decide) ⟨?o0, ?o1, ?o2, ?o3, ?o4, ?o5, ?o6, ?o7, ?o8, trivial⟩ ?oe
          case o0 =>
            intro A W hv hlen hJ hbase hdL hdH
            have e0 : A.eval (.tmp 0) = .slice (some ⟨ba, oa, none⟩) la.length ca := hbase 0 (by kernel_rfl)
            have f0 : A.tmps[0]?.getD undef = .slice (some ⟨ba, oa, none⟩) la.length ca := by simpa [Act.eval] using e0
            exact light_val rfl (v := .slice (some ⟨ba, oa, none⟩) la.length ca) (by simp [execOp, e0, f0]) hJ rfl
          case o1 =>
            intro A W hv hlen hJ hbase hdL hdH
            have e5 : A.eval (.tmp 5) = .int .i64 (k : Int) := hbase 5 (by kernel_rfl)
            have f5 : A.tmps[5]?.getD undef = .int .i64 (k : Int) := by simpa [Act.eval] using e5
            exact light_val rfl (v := .int .i64 (k : Int)) (by simp [execOp, e5, f5]) hJ rfl
          case o2 =>
            intro A W hv hlen hJ hbase hdL hdH
            have e16 : A.eval (.tmp 16) = .slice (some ⟨ba, oa, none⟩) la.length ca := hdL 0 16 (by kernel_rfl) (by kernel_rfl) (by kernel_rfl)
            have f16 : A.tmps[16]?.getD undef = .slice (some ⟨ba, oa, none⟩) la.length ca := by simpa [Act.eval] using e16
            have e17 : A.eval (.tmp 17) = .int .i64 (k : Int) := hdL 1 17 (by kernel_rfl) (by kernel_rfl) (by kernel_rfl)
            have f17 : A.tmps[17]?.getD undef = .int .i64 (k : Int) := by simpa [Act.eval] using e17
            have hr := run_idxS (P := Try.prog) (w := W) (sz := 2) 31 49 uE en_size ba oa la.length ca .i64 k (by exact hlt)
            exact light_val rfl (v := .pointer (some ⟨ba, oa + k * 2, none⟩)) (by simp [execOp, e16, e17, hr, Result.andThen]) hJ rfl
          case o3 =>
            intro A W hv hlen hJ hbase hdL hdH
            have e18 : A.eval (.tmp 18) = .pointer (some ⟨ba, oa + k * 2, none⟩) := hdL 2 18 (by kernel_rfl) (by kernel_rfl) (by kernel_rfl)
            have f18 : A.tmps[18]?.getD undef = .pointer (some ⟨ba, oa + k * 2, none⟩) := by simpa [Act.eval] using e18
            have hr := run_ldE W ba (oa + k * 2) x (cells_at (hSA.fr0 (show Fr noB w0 W from hJ)) k (by exact hlt) Hx)
            exact light_val rfl (v := enV x) (by simp [execOp, e18, hr, Result.andThen]) hJ rfl
          case o4 =>
            intro A W hv hlen hJ hbase hdL hdH
            have e1 : A.eval (.tmp 1) = .slice (some ⟨bb, ob, none⟩) lb.length cb := hbase 1 (by kernel_rfl)
            have f1 : A.tmps[1]?.getD undef = .slice (some ⟨bb, ob, none⟩) lb.length cb := by simpa [Act.eval] using e1
            exact light_val rfl (v := .slice (some ⟨bb, ob, none⟩) lb.length cb) (by simp [execOp, e1, f1]) hJ rfl
          case o5 =>
            intro A W hv hlen hJ hbase hdL hdH
            have e5 : A.eval (.tmp 5) = .int .i64 (k : Int) := hbase 5 (by kernel_rfl)
            have f5 : A.tmps[5]?.getD undef = .int .i64 (k : Int) := by simpa [Act.eval] using e5
            exact light_val rfl (v := .int .i64 (k : Int)) (by simp [execOp, e5, f5]) hJ rfl
          case o6 =>
            intro A W hv hlen hJ hbase hdL hdH
            have e20 : A.eval (.tmp 20) = .slice (some ⟨bb, ob, none⟩) lb.length cb := hdL 4 20 (by kernel_rfl) (by kernel_rfl) (by kernel_rfl)
            have f20 : A.tmps[20]?.getD undef = .slice (some ⟨bb, ob, none⟩) lb.length cb := by simpa [Act.eval] using e20
            have e21 : A.eval (.tmp 21) = .int .i64 (k : Int) := hdL 5 21 (by kernel_rfl) (by kernel_rfl) (by kernel_rfl)
            have f21 : A.tmps[21]?.getD undef = .int .i64 (k : Int) := by simpa [Act.eval] using e21
            have hr := run_idxS (P := Try.prog) (w := W) (sz := 2) 31 49 uE en_size bb ob lb.length cb .i64 k (by exact hltb)
            exact light_val rfl (v := .pointer (some ⟨bb, ob + k * 2, none⟩)) (by simp [execOp, e20, e21, hr, Result.andThen]) hJ rfl
          case o7 =>
            intro A W hv hlen hJ hbase hdL hdH
            have e22 : A.eval (.tmp 22) = .pointer (some ⟨bb, ob + k * 2, none⟩) := hdL 6 22 (by kernel_rfl) (by kernel_rfl) (by kernel_rfl)
            have f22 : A.tmps[22]?.getD undef = .pointer (some ⟨bb, ob + k * 2, none⟩) := by simpa [Act.eval] using e22
            have hr := run_ldE W bb (ob + k * 2) y (cells_at (hSB.fr0 (show Fr noB w0 W from hJ)) k (by exact hltb) Hy)
            exact light_val rfl (v := enV y) (by simp [execOp, e22, hr, Result.andThen]) hJ rfl
          case o8 =>
            intro A W hv hlen hJ hbase hdL hdH
            have e19 : A.eval (.tmp 19) = enV x := hdL 3 19 (by kernel_rfl) (by kernel_rfl) (by kernel_rfl)
            have f19 : A.tmps[19]?.getD undef = enV x := by simpa [Act.eval] using e19
            have e23 : A.eval (.tmp 23) = enV y := hdL 7 23 (by kernel_rfl) (by kernel_rfl) (by kernel_rfl)
            have f23 : A.tmps[23]?.getD undef = enV y := by simpa [Act.eval] using e23
            have hr := run_neE x y W
            have hg : (eqGuard .neq 49 (.tmp 19) (.tmp 23) (enV x) (enV y)).run Try.prog W = .ok () W := run_eqGuard_agg W _ _ _ _ _ _ en_eqg
            exact light_val rfl (v := .bool (!(x == y))) (by simp [execOp, e19, e23, hr, hg, Result.andThen]) hJ rfl
          case oe =>
            intro vs W' hv hlen hJ hL hH
            have x0 : vs 0 = .slice (some ⟨ba, oa, none⟩) la.length ca := hL 0 (by kernel_rfl) (by kernel_rfl)
            have x1 : vs 1 = .int .i64 (k : Int) := hL 1 (by kernel_rfl) (by kernel_rfl)
            have x2 : vs 2 = .pointer (some ⟨ba, oa + k * 2, none⟩) := hL 2 (by kernel_rfl) (by kernel_rfl)
            have x3 : vs 3 = enV x := hL 3 (by kernel_rfl) (by kernel_rfl)
            have x4 : vs 4 = .slice (some ⟨bb, ob, none⟩) lb.length cb := hL 4 (by kernel_rfl) (by kernel_rfl)
            have x5 : vs 5 = .int .i64 (k : Int) := hL 5 (by kernel_rfl) (by kernel_rfl)
            have x6 : vs 6 = .pointer (some ⟨bb, ob + k * 2, none⟩) := hL 6 (by kernel_rfl) (by kernel_rfl)
            have x7 : vs 7 = enV y := hL 7 (by kernel_rfl) (by kernel_rfl)
            have x8 : vs 8 = .bool (!(x == y)) := hL 8 (by kernel_rfl) (by kernel_rfl)
            simp only [layL, Nat.reduceAdd, Act.put, List.setIfInBounds_toArray, List.set_cons_zero, List.set_cons_succ, x0, x1, x2, x3, x4, x5, x6, x7, x8]
            clear x0 x1 x2 x3 x4 x5 x6 x7 x8 hL hH
            have hF : Fr noB w W' := hf.thenN (f0.thenN hJ)
            clear hJ
            by_cases hxy : x = y
            · have hb : (x == y) = true := by rw [beq_iff_eq]; exact hxy
              rw [hb]
              go_wp2
              go_roundw
              case rel => exact ⟨k + 1, by omega, by go_num, take_eq_succ htk hlt hltb (by rw [Hx.out, Hy.out, hxy]), hF⟩
              case measure => simp [intOf]; omega
            · have hb : (x == y) = false := by rw [beq_eq_false_iff_ne]; exact hxy
              rw [hb]
              have hr : (la == lb) = false := by
                rw [beq_eq_false_iff_ne]
                intro h
                subst h
                exact hxy (Hx.out.symm.trans Hy.out)
              go_wp2
              go_ret
              exact ⟨by first | rfl | (rw [hr]; rfl), hF⟩
        · have hke : k = la.length := by omega
          have hr : (la == lb) = true := by
            rw [beq_iff_eq]
            have h1 := htk.out
            rw [List.take_of_length_le (by omega), List.take_of_length_le (by rw [← hne'.out]; omega)] at h1
            exact h1
          have hlt' : ¬ (k : Int) < (la.length : Int) := by omega
          go_wp2
          go_ret
          exact ⟨by first | rfl | (rw [hr]; rfl), hf⟩
  · subst hva; subst hvb
    have hnt : ((la.length : Int) == (lb.length : Int)) = false := by simp; omega
    have hnt' : ¬ (la.length : Int) = (lb.length : Int) := by omega
    have hr : (la == lb) = false := by
      rw [beq_eq_false_iff_ne]
      intro e; exact hne (by rw [e])
    rw [hr]
    go_enter Try.func18, Try.ntmps18
    go_wp2
    go_ret
    exact ⟨rfl, Fr.refl _ _⟩
end Go.Proofs.Ytkhdniccnefdhaa
/- Stage 10's laws: treeAlive; TreeNames; no condition. -/
namespace Go.Proofs.Ytkhdniccnefdhaa
open Go.RowKit Go.Proofs.U
set_option linter.unusedSimpArgs false
set_option linter.unusedVariables false
/-- Each child has at least two entries. -/
def Q2 (l : List Nat) : Prop := ∀ c ∈ l, 2 ≤ c
theorem Above.st {w0 w w' : World} {F F' : Nat → Prop} {gs gp : Nat} {S : DSt × List Pg} {m : Nat} (h : Above w0 w F gs gp) (s : StT w w' F F' gs gp S m) : Above w0 w' F' gs gp :=
  ⟨fun k hk => by
    rcases (s.ft k hk).1 with q | q
    · exact h.f k q
    · have := h.fr.size; omega, h.s, h.p, h.fr.thenT s.fr fun k hk q => by
    rcases q with q | q
    · have := h.f k q; omega
    · have := h.p; omega⟩
theorem Above.fr0 {w0 w w' : World} {F : Nat → Prop} {gs gp : Nat} (h : Above w0 w F gs gp) (f : Fr noB w w') : Above w0 w' F gs gp := ⟨h.f, h.s, h.p, h.fr.thenN f⟩
theorem Above.pool {w0 w w' : World} {F : Nat → Prop} {gs gp : Nat} (h : Above w0 w F gs gp) (f : Fr (onB1 gp) w w') : Above w0 w' F gs gp := ⟨h.f, h.s, h.p, h.fr.thenT f fun k hk q => by unfold onB1 at q; have := h.p; omega⟩
theorem Above.own {w0 w w1 w' : World} {F : Nat → Prop} {gs gp g : Nat} (h : Above w0 w F gs gp) (f : Fr noB w w1) (hg : w.heap.size ≤ g) (k : Fr (onB1 g) w1 w') : Above w0 w' F gs gp := h.fr0 (Fr.ownX f hg k)
theorem PutR.good {X : DSt} {L : List Pg} {R : List Int} {T : List Nat} {Q : List Nat → Prop} {h : Nat} {l : List (Int × Int)} {X' : DSt} {L' : List Pg} {p' e : Int} (r : PutR X L R T Q h l X' L' p' e) (hf : 2 * h + 1 ≤ plFree L) (hc : ∀ q, cntL L q + (7 * h + 7) ≤ 255) : e = 0 := by
  rcases r.er with q | q | q
  · exact q
  · have := r.e71 q; omega
  · exact absurd hc (r.e72 q)
/-- A key is put into an empty tree that is the first root beside R. -/
theorem alive_in {X : DSt} {L : List Pg} {pg : Int} {N : Nat} (B : Base1 X L pg N) (hN : 2 ≤ N) {key : Int} {X' : DSt} {L' : List Pg} {p' e : Int} (r : PutR X L [pg] [] Q2 0 [(key, pg)] X' L' p' e) :
    e = 0 ∧ 0 ≤ p' ∧ ∃ L2, swF X' L' (-1) p' = (L2, 0) ∧ Inv X' L2 ([pg] ++ [p']) ∧ L2.length = L'.length ∧ RtAt X' L2 [] Q2 0 p' [(key, pg)] := by
  have he := r.good (by have := B.fr; omega) (fun q => by have := B.ct q; omega)
  obtain ⟨lv, hlv, iv, t⟩ := r.ys he
  have hlv0 : lv = 0 := by omega
  subst hlv0
  have h0 := r.p0 he
  obtain ⟨L2, sw, iv2, ln, _⟩ := swap_first iv h0 (by have := r.ct he p'.toNat; have := B.ct p'.toNat; omega)
  have hl := iv2.toT.root (r := p') (by simp)
  exact ⟨he, h0, L2, sw, iv2, ln, Or.inr ⟨h0, hl.2, by omega, t⟩⟩
theorem findL_hit (k p : Int) : findL [(k, p)] k = p := by simp [findL]
theorem findL_miss {k k' p : Int} (h : ¬ k = k') : findL [(k, p)] k' = -1 := by simp [findL, h]
theorem Swap_F {F : Nat → Prop} {gs gp : Nat} {X : DSt} {L L2 : List Pg} {m : Nat} {old next e : Int} (hn : ¬ next = -1) (hm : m ≤ 90000) {w : World} (h : Sto w F gs gp X L m) (hs : swF X L old next = (L2, e)) :
    Calls Try.prog 16 #[trV gs, .int .i64 old, .int .i64 next] w fun r w' => r = .returned (.int .i64 e) ∧ Sto w' F gs gp X L2 m ∧ Fr (onB1 gp) w w' := by
  have := Swap_any old next hn hm w h
  rw [hs] at this
  exact this
set_option maxRecDepth 100000 in
set_option maxHeartbeats 4000000 in
theorem talive_any (w : World) :
    Calls Try.prog 7 #[] w fun r w' => r = .returned (.bool true) ∧ Fr noB w w' := by
  have hN : plN (sizeN 20) = 16 := by decide
  have hM := fun W => made_T 20 (by decide) W
  rw [hN] at hM
  go_enter Try.func7, Try.ntmps7
  go_upto_region 2 with (first
    | (go_at_call 8; go_must (refine (hM _).mono ?_; rintro e w1 ⟨gs, gp, F, X, L, pg, rfl, st1, A1, B1⟩; have z1 := A1.fr.size))
    | (with_reducible refine at_wpP ?_; refine wpList_allocG rfl 25 rfl (.agg #[.pointer none]) [.pointer none] tr_zero rfl ?_; intro g2 w2 hg2 b2 f2 s2; have l2 := b2.lt; have z2 := f2.size)
    | (with_reducible refine at_wpP ?_; refine at_st 25 _ _ rfl ?_; go_must (refine wpList_stT rfl _ _ rfl g2 rfl gs rfl (.pointer none) b2 ?_; intro w3 b3 f3)))
  have F3 := Fr.ownX f2 s2 f3
  have st3 := st1.fr0 F3
  have A3 := A1.fr0 F3
  have hlv := B1.iv.toT.root (r := pg) (by simp)
  have hPut := Put_empty (Q := Q2) B1.iv.toT (by omega) 5 pg (by decide) hlv w3 st3
  have c3 := tr_cell b3
  have hgp := st3.ltp
  have hgs := st3.lts
  have hFt := st3.ft
  go_upto_region 5 with (first
    | (with_reducible refine at_wpP ?_; refine at_ld 25 _ rfl ?_; go_must (refine wpList_ldT rfl _ rfl g2 rfl gs b3 ?_))
    | (go_at_call 9; go_must (refine hPut.mono ?_; rintro e1 w4 ⟨X2, L2, p2, e2, ⟨F2, he1, T2⟩, R2⟩; subst he1)))
  obtain ⟨rfl, h0, L3, hsw, iv3, hln, rt⟩ := alive_in B1 (by decide) R2
  have A4 := A3.st T2
  have b4 := b3.fr T2.fr (fun q => by
    rcases q with q | q
    · have := st1.ft _ q; omega
    · have := st1.ltp; omega)
  have hg2 : ¬ g2 = gp := by have := st1.ltp; omega
  have hSw := Swap_F (by omega) (by omega) T2.st hsw
  have hpp : (pg == pg) = true := by simp
  have hF5 := fun W (s : Sto W F2 gs gp X2 L3 (1 + 20)) => Find_any iv3.toT (by omega) rt 5 W s
  have hF6 := fun W (s : Sto W F2 gs gp X2 L3 (1 + 20)) => Find_any iv3.toT (by omega) rt 6 W s
  rw [findL_hit] at hF5
  rw [findL_miss (by decide)] at hF6
  clear rt iv3 R2 hPut
  go_wp2_with (first
    | (with_reducible refine at_wpP ?_; refine at_ld 25 _ rfl ?_; have q := b5; go_must (first | refine wpList_ldT rfl _ rfl g2 rfl gs b5 ?_ | refine wpList_ldT rfl _ rfl g2 rfl gs b6 ?_))
    | (with_reducible refine at_wpP ?_; refine at_ld 25 _ rfl ?_; go_must (refine wpList_ldT rfl _ rfl g2 rfl gs b4 ?_))
    | (go_at_call 16; go_must (refine hSw.mono ?_; rintro e1 w5 ⟨rfl, s5, f5⟩; have z5 := f5.size; have b5 := b4.ne f5 hg2))
    | (go_at_call 12; have q := f6; go_must (refine (hF6 _ (s5.fr0 f6)).mono ?_; rintro e1 w7 ⟨rfl, f7⟩))
    | (go_at_call 12; go_must (refine (hF5 _ s5).mono ?_; rintro e1 w6 ⟨rfl, f6⟩; have b6 := b5.fr0 f6)))
  go_ret
  exact ⟨rfl, (((A4.pool f5).fr0 f6).fr0 f7).fr⟩
end Go.Proofs.Ytkhdniccnefdhaa
/- TreeSplits. (Written by tg_gen.py.) -/
namespace Go.Proofs.Ytkhdniccnefdhaa
open Go.RowKit Go.Proofs.U
set_option linter.unusedSimpArgs false
set_option linter.unusedVariables false
set_option maxRecDepth 100000 in
set_option maxHeartbeats 16000000 in
theorem tsplits_walk (v : Value) (keys : List Int) (w : World) (hk : SlI .i64 w v keys) :
    Calls Try.prog 5 #[v] w fun r w' => r = .returned (.bool true) ∧ Below w.heap.size w w' := by
  obtain ⟨a0, c0, rfl, hc0⟩ := hk.opn
  by_cases cc0 : (40 : Int) < (keys.length : Int)
  · have d0 : decide ((40 : Int) < (keys.length : Int)) = true := decide_eq_true cc0
    go_enter Try.func5, Try.ntmps5
    go_wp2_with (first
      | (go_at_call 7; go_must (refine (talive_any _).mono ?_; rintro e w0 ⟨rfl, f0⟩; have z0 := f0.size)))
    go_ret
    exact ⟨rfl, f0.below⟩
  · have d0 : decide ((40 : Int) < (keys.length : Int)) = false := decide_eq_false cc0
    have hM := fun W => made_T 60 (by decide) W
    go_enter Try.func5, Try.ntmps5
    go_wp2_with (first
      | (go_at_call 7; go_must (refine (talive_any _).mono ?_; rintro e w0 ⟨rfl, f0⟩; have z0 := f0.size))
      | (go_at_call 8; go_must (refine (hM _).mono ?_; rintro e w1 ⟨gs, gp, F, X, L, pg, rfl, st1, A1, B1⟩; have z1 := A1.fr.size))
      | (with_reducible refine at_wpP ?_; refine wpList_bldN rfl _ rfl 2 (zerB 16) nilS [(0, .int .i64 2)] rfl (built_ndK 2) ?_)
      | (with_reducible refine at_wpP ?_; have q := b3; refine wpList_allocN rfl rfl ?_; intro g5 w4 hg5 b4 f4 s4; have l4 := b4.lt; have z4 := f4.size)
      | (with_reducible refine at_wpP ?_; refine wpList_allocG rfl 25 rfl (.agg #[.pointer none]) [.pointer none] tr_zero rfl ?_; intro g3 w2 hg3 b2 f2 s2; have l2 := b2.lt; have z2 := f2.size)
      | (with_reducible refine at_wpP ?_; refine at_st 25 _ _ rfl ?_; go_must (refine wpList_stT rfl _ _ rfl g3 rfl gs rfl (.pointer none) b2 ?_; intro w3 b3 f3; have F3 := Fr.ownX f2 s2 f3; have z3 := f3.size))
      | (with_reducible refine at_wpP ?_; refine at_st 47 _ _ rfl ?_; have q := b4; go_must (refine wpList_stN rfl _ _ rfl g5 rfl 2 (zerB 16) nilS rfl (zerB_len 16) ⟨_, _, _, rfl⟩ 0 (zerB 16) nilS b4 (zerB_len 16) ?_; intro w5 b5 f5; have z5 := f5.size; have F5 := Fr.ownX f4 s4 f5)))
    have hgp := st1.ltp
    have hgs := st1.lts
    have hFt := st1.ft
    have st5 := (st1.fr0 F3).fr0 F5
    have D5 := ((f0.thenN A1.fr).thenN F3).thenN F5
    go_loopw [29, 6] (fun i la wr => ∃ (k : Nat) (es : List (Int × Int)) (last : Int) (v : Value), k ≤ keys.length ∧ i = .int .i64 (k : Int) ∧ la = .int .i64 last ∧ NdB wr g5 2 (zerB 16) v ∧ OwnR enC 2 49 wr w5.heap.size v es ∧ UpF pg es last ∧ es.length ≤ k ∧ Fr (onB1 g5) w5 wr) (fun i _ _ => keys.length - (intOf i).toNat)
    case atStart => exact ⟨0, [], -1, nilS, Nat.zero_le _, rfl, rfl, b5, OwnR.none _ _, UpF.nil pg, Nat.le_refl _, Fr.refl _ _⟩
    case round =>
      obtain ⟨j, es, last, v, hj, rfl, rfl, N, ho, hU, hej, hf⟩ := hrel
      have zf := hf.size
      have D := D5.thenT hf (fun i hi q => by unfold onB1 at q; omega)
      have kN := NdB.ents N (zerB_len 16)
      have hnb := ho.newB
      obtain ⟨a5, c5, rfl⟩ := ho.opn
      by_cases hlt : j < keys.length
      · obtain ⟨x, Hx⟩ : ∃ x, Hid (keys[j] = x) := ⟨keys[j], (rfl : keys[j] = keys[j])⟩
        have hv1 := (hk.fr0 D).1
        have hlt' : (j : Int) < (keys.length : Int) := by omega
        by_cases p : last < x
        · have p0 : decide (last < x) = true := decide_eq_true p
          by_cases q : x < 64
          · have q0 : decide (x < (64 : Int)) = true := decide_eq_true q
            have hU8 := hU.snoc p q
            go_wp2_with (first
              | (with_reducible refine at_wpP ?_; refine at_idx 36 _ _ rfl ?_; go_must (refine wpList_idx1 rfl 36 _ _ rfl 3 Try.underlying36 int_size1 (.slice a0 keys.length c0) _ _ rfl hv1 .i64 (j : Int) j rfl rfl hlt ?_; intro pp u hu hcu; obtain rfl := getX hu hlt Hx.out))
              | (with_reducible refine at_wpP ?_; refine wpList_bldE rfl _ _ rfl x pg rfl rfl ?_)
              | (with_reducible refine at_wpP ?_; refine wpList_mkC rfl 31 _ rfl uE _ en_info2 (by decide) (by decide) (x, pg) (enV (x, pg)) rfl rfl rfl ?_; intro g7 w7 b7 f7 s7; have z7 := f7.size; have N7 := N.fr0 f7)
              | (at_builtin; go_must (refine wpList_appL rfl _ _ 31 rfl _ 16 uE en_info rfl (by decide) (.slice a5 es.length c5) rfl (ho.fr0 f7) g7 rfl (x, pg) rfl _ b7 (en_one _) ?hq1 ?hq2 ?hq3 ?_; rotate_left 3; intro u8 w8 o8 f8 p8; have z8 := f8.size; have N8 := N7.fr f8 (fun q => by have := (hnb _ q).1; omega); obtain ⟨a8, n8, c8, h8⟩ := OwnR.slx o8; subst h8))
              | (with_reducible refine at_wpP ?_; refine at_st 31 _ _ rfl ?_; go_must (refine wpList_stEnt rfl _ _ rfl g5 rfl (.slice a8 n8 c8) rfl ⟨_, _, _, rfl⟩ 2 (zerB 16) _ N8 (zerB_len 16) ?_; intro w9 N9 f9; have o9 := o8.ne f9 (fun k hk => by have := (o8.newB k hk).1; omega))))
            case hq1 => unfold maxLen; omega
            case hq2 => omega
            case hq3 => omega
            go_roundw
            case rel => exact ⟨j + 1, _, x, _, by omega, by go_num, rfl, N9, o9, hU8, by simp; omega, ((hf.thenN f7).thenT f8 (fun y hy e => by have := (hnb y e).1; omega)).thenT f9 (fun i hi q => q)⟩
            case measure => simp [intOf]; omega
          · have q0 : decide (x < (64 : Int)) = false := decide_eq_false q
            go_wp2_with (first
              | (with_reducible refine at_wpP ?_; refine at_idx 36 _ _ rfl ?_; go_must (refine wpList_idx1 rfl 36 _ _ rfl 3 Try.underlying36 int_size1 (.slice a0 keys.length c0) _ _ rfl hv1 .i64 (j : Int) j rfl rfl hlt ?_; intro pp u hu hcu; obtain rfl := getX hu hlt Hx.out)))
            go_roundw
            case rel => exact ⟨j + 1, es, last, _, by omega, by go_num, rfl, N, ho, hU, by omega, hf⟩
            case measure => simp [intOf]; omega
        · have p0 : decide (last < x) = false := decide_eq_false p
          go_wp2_with (first
            | (with_reducible refine at_wpP ?_; refine at_idx 36 _ _ rfl ?_; go_must (refine wpList_idx1 rfl 36 _ _ rfl 3 Try.underlying36 int_size1 (.slice a0 keys.length c0) _ _ rfl hv1 .i64 (j : Int) j rfl rfl hlt ?_; intro pp u hu hcu; obtain rfl := getX hu hlt Hx.out)))
          go_roundw
          case rel => exact ⟨j + 1, es, last, _, by omega, by go_num, rfl, N, ho, hU, by omega, hf⟩
          case measure => simp [intOf]; omega
      · obtain rfl : j = keys.length := by omega
        have stR := st5.fr hf (fun k hk q b => by
          unfold onB1 at b
          rcases q with q | q | q
          · have := hFt _ q; omega
          · omega
          · omega)
        have bR := (b3.fr0 F5).ne hf (by omega)
        have hpgw := B1.iv.toT.root (show pg ∈ [pg] by simp)
        have hlow := B1.iv.toT.low hpgw.2
        have hwf : ∀ x ∈ es, (Lit.int .i64 x.1).wf = true ∧ (Lit.int .i64 x.2).wf = true := fun x hx => by
          obtain ⟨h1, h2, _⟩ := hU.at' x hx
          exact ⟨wfSm (by omega) (by omega), wfSm (by omega) (by omega)⟩
        have hnds : NdS wr (.slice a5 es.length c5) ⟨2, zerB 16, es⟩ := ⟨⟨ho.sl, hwf⟩, ⟨zerB_len 16, zerB_byt 16⟩, by show es.length ≤ 1000; omega, rfl⟩
        have hSp := split_any 2 (zerB 16) es (.slice a5 es.length c5) wr stR (by omega) hnds (fun x hx => by
          have h1 := hnb x hx
          exact ⟨fun q => by have := hFt _ q; omega, by omega, h1.2⟩)
        have hgR := stR.ltp
        have hnF5 : ∀ q, w1.heap.size ≤ q → ¬ stB F gp q := fun q hq s => by
          rcases s with s | s
          · have := hFt _ s; omega
          · omega
        have DT : ∀ {F' : Nat → Prop} {W : World} {S : DSt × List Pg} {m : Nat}, StT wr W F F' gs gp S m → Fr noB w W := fun {F' W S m} T => D.thenT T.fr (fun i hi q => by
          rcases q with q | q
          · have := A1.f _ q; omega
          · have := A1.p; omega)
        have hes40 : (es.length : Int) ≤ 40 := by omega
        by_cases h12 : 12 < es.length
        · have d12 : decide ((12 : Int) < (es.length : Int)) = true := decide_eq_true (by omega)
          have e81 : splF (X, L) 2 es = ((X, L), [], 81) := by unfold splF; rw [if_pos h12]
          rw [e81] at hSp
          go_wp2_with (first
            | (with_reducible refine at_wpP ?_; refine at_ld 25 _ rfl ?_; have q := bR; go_must (refine wpList_ldT rfl _ rfl g3 rfl gs bR ?_))
            | (with_reducible refine at_wpP ?_; refine at_ld 47 _ rfl ?_; go_must (refine wpList_ldN rfl _ rfl g5 rfl 2 (zerB 16) _ N (zerB_len 16) ?_))
            | (go_at_call 19; go_must (refine hSp.mono ?_; rintro e w10 ⟨F', u, rfl, T, ou, huF⟩; have z10 := T.fr.size; have N10 := N.fr T.fr (hnF5 _ (by omega)); have k10 := NdB.ents N10 (zerB_len 16); have b10 := bR.fr T.fr (hnF5 _ (by omega)); have t10 := (b10.cell 0 _ rfl).1; obtain ⟨au, cu, hu⟩ := ou.opn; subst hu)))
          go_ret
          exact ⟨rfl, (DT T).below⟩
        · have d12 : decide ((12 : Int) < (es.length : Int)) = false := decide_eq_false (by omega)
          obtain ⟨X', L', tops, hsp, htl, htop⟩ := split_ok B1 (by decide) st1.up hU (by omega)
          rw [hsp] at hSp
          have hpl := part_len (es := es)
          have hfl := partsL_flat es
          have hpp := (parts_len (es := es) (by omega)).2
          have htb : tops.length ≤ 2 := by rw [htl]; exact (parts_len (es := es) (by omega)).1
          obtain ⟨P, HP⟩ : ∃ P, Hid (partsL es = P) := ⟨_, rfl⟩
          rw [HP.out] at htl htop hpl hfl hpp
          have htf := fun k => take_flat (P := P) k
          have htf1 := fun k h => take_flat1 (P := P) k h
          rw [hfl] at htf
          have Htop := show Hid _ from htop
          replace htl := show Hid _ from htl
          replace hpl := show Hid _ from hpl
          replace hfl := show Hid _ from hfl
          clear htop
          by_cases h0 : es.length = 0
          · skip
            have d0' : decide (0 < es.length) = false := decide_eq_false (by omega)
            have d6 : decide ((6 : Int) < (es.length : Int)) = false := decide_eq_false (by omega)
            have hwl : Hid (((tops.length : Int) == 0) = true) := by show _ = _; rw [htl.out, hpl.out]; rw [if_pos h0]; rfl
            clear h0
            try clear h6
            go_wp2_with (first
              | (with_reducible refine at_wpP ?_; refine at_ld 25 _ rfl ?_; have q := bR; go_must (refine wpList_ldT rfl _ rfl g3 rfl gs bR ?_))
              | (with_reducible refine at_wpP ?_; refine at_ld 47 _ rfl ?_; go_must (refine wpList_ldN rfl _ rfl g5 rfl 2 (zerB 16) _ N (zerB_len 16) ?_))
              | (go_at_call 19; go_must (refine hSp.mono ?_; rintro e w10 ⟨F', u, rfl, T, ou, huF⟩; have z10 := T.fr.size; have N10 := N.fr T.fr (hnF5 _ (by omega)); have k10 := NdB.ents N10 (zerB_len 16); have b10 := bR.fr T.fr (hnF5 _ (by omega)); have t10 := (b10.cell 0 _ rfl).1; obtain ⟨au, cu, hu⟩ := ou.opn; subst hu))
              | (with_reducible refine at_wpP ?_; refine wpList_mk0 enC 2 rfl 31 rfl 49 Try.underlying31 en_size ?_; intro g11 w11 o11 f11 s11 t11; have z11 := f11.size))
            go_loopw [78, 12] (fun i va wq => ∃ (k : Nat), k ≤ tops.length ∧ i = .int .i64 (k : Int) ∧ OwnR enC 2 49 wq w10.heap.size va ((P.take k).flatten) ∧ Fr noB w10 wq) (fun i _ _ => tops.length - (intOf i).toNat)
            case atStart => exact ⟨0, Nat.zero_le _, rfl, o11, f11⟩
            case round =>
              obtain ⟨k, hk', rfl, oq, fq⟩ := hrel
              have zq := fq.size
              have bq := b10.fr0 fq
              have tq := (bq.cell 0 _ rfl).1
              have Nq := N10.fr0 fq
              have kq := NdB.ents Nq (zerB_len 16)
              have huq := (ou.sl).fr0 fq
              have sq := T.st.fr0 fq
              have hGl := htf k
              by_cases hlt : k < tops.length
              · have hltP : k < P.length := by have := htl.out; omega
                have hlt' : (k : Int) < (tops.length : Int) := by omega
                have hT := Htop.out k hlt hltP
                have hf1 := htf1 k hltP
                have hp2 := hpp _ (List.getElem_mem hltP)
                obtain ⟨y, Hy⟩ : ∃ y, Hid (tops[k] = y) := ⟨tops[k], (rfl : tops[k] = tops[k])⟩
                obtain ⟨p, Hp⟩ : ∃ p, Hid (P[k] = p) := ⟨P[k], (rfl : P[k] = P[k])⟩
                rw [Hy.out, Hp.out] at hT
                rw [Hp.out] at hf1 hp2
                obtain ⟨hp1, hp6, _⟩ := hp2
                have hk1 : Hid (k + 1 ≤ tops.length) := hlt
                obtain ⟨hget, hkey⟩ := hT
                rw [key0_at (by omega)] at hkey
                replace hget := show Hid _ from hget
                replace hkey := show Hid _ from hkey
                replace hf1 := show Hid _ from hf1
                generalize (P.take k).flatten = G at *
                obtain ⟨aq, cq, hvq⟩ := oq.opn
                subst hvq
                have hnq := oq.newB
                go_upto_region 28 with (first
                  | (with_reducible refine at_wpP ?_; refine at_idx 31 _ _ rfl ?_; go_must (refine wpList_idxR rfl 31 _ _ rfl 49 Try.underlying31 2 en_size _ _ _ rfl huq (by decide) _ _ k rfl rfl hlt ?_; rw [Hy.out]; intro ba oa hba hca))
                  | (with_reducible refine at_wpP ?_; refine at_ld 49 _ rfl ?_; have q := hca; go_must (refine wpList_ldE rfl _ rfl ba oa rfl y hca ?_))
                  | (with_reducible refine at_wpP ?_; refine wpList_allocE rfl rfl ?_; intro gl w12 hgl b12 f12 sl; have l12 := b12.lt; have z12 := f12.size)
                  | (with_reducible refine at_wpP ?_; refine at_st 49 _ _ rfl ?_; go_must (refine wpList_stE rfl _ _ rfl gl rfl (0, 0) y b12 rfl ?_; intro w13 b13 f13; have F13 := Fr.ownX f12 sl f13; have z13 := f13.size; obtain ⟨y0, y1⟩ := b13.all; have t13 := tq |> fun h => F13.cell h (fun q => q)))
                  | (go_at_call 20; go_must (refine (get_F _ (sq.fr0 F13) (by omega) hget.out).mono ?_; rintro e w14 ⟨vk, rfl, nk, hvk, f14⟩; have z14 := f14.size))
                  | (with_reducible refine at_wpP ?_; have q := nk; refine wpList_allocN rfl rfl ?_; intro gn w15 hgn b15 f15 sn; have z15 := f15.size; have l15 := b15.lt)
                  | (with_reducible refine at_wpP ?_; refine at_st 47 _ _ rfl ?_; have q := b15; go_must (refine wpList_stN rfl _ _ rfl gn rfl 2 (zerB 16) vk rfl (zerB_len 16) nk.sl 0 (zerB 16) nilS b15 (zerB_len 16) ?_; intro w16 b16 f16; have z16 := f16.size; have F16 := Fr.ownX f15 sn f16)))
                have nk16 := (nk.fr0 F16)
                obtain ⟨br, orr, cr, hve, hcel⟩ := SlR.addr nk16.1.1 (by decide) (show 0 < p.length by omega)
                subst hve
                have c0 := hcel 0 (show 0 < p.length by omega) 0 (.int .i64 y.1) (by show (enC p[0])[0]? = _; rw [hkey.out]; rfl)
                have k16 := NdB.ents b16 (zerB_len 16)
                have q16 := NdB.kind b16
                have F1416 := f14.thenN F16
                have y016 := F1416.cell y0 (fun q => q)
                have hp0' : (0 : Int) < (p.length : Int) := by omega
                have hp00 : ((p.length : Int) == 0) = false := beq_false_of_ne (by omega)
                have hp66 : decide ((6 : Int) < (p.length : Int)) = false := decide_eq_false (by omega)
                try simp only [Nat.zero_mul, Nat.add_zero] at c0
                go_wp2_with fail
                go_quiet (fail)
                have fd := (Fr.refl noB w16).drewN nq
                have zd := fd.size
                have k17 := fd.cell k16 (fun q => q)
                have F17 := (F13.thenN F1416).thenN fd
                have hsS := SlR.fr0 nk16.1.1 fd
                go_wp2_with (first
                  | (at_builtin; go_must (refine wpList_appM rfl _ _ 31 rfl _ 16 uE en_info rfl (by decide) (.slice aq G.length cq) rfl (oq.fr0 F17) _ p rfl hsS hp1 (fun y _ => en_one y) ?hq1 ?hq2 ?hq3 ?_; rotate_left 3; intro u18 w18 o18 f18 p18)))
                case hq1 => unfold maxLen; omega
                case hq2 => omega
                case hq3 => have := F17.size; omega
                go_roundw
                case rel => exact ⟨k + 1, hk1.out, by go_num, by rw [hf1.out]; exact o18, (fq.thenN F17).thenT f18 (fun i hi q => by have := (hnq i q).1; omega)⟩
                case measure => simp [intOf]; have := hk1.out; omega
              · obtain rfl : k = tops.length := by omega
                clear hlt
                have hGe : (P.take tops.length).flatten = es := by rw [List.take_of_length_le (by have := htl.out; omega), hfl.out]
                rw [hGe] at oq
                obtain ⟨aq, cq, hvq⟩ := oq.opn
                subst hvq
                have pa := EnO.slp oq hwf
                have pb : SlP .i64 .i64 wr (.slice a5 es.length c5) es := ⟨(ho.sl.fr T.fr (fun x hx => hnF5 _ (by have := (hnb x hx).1; omega))).fr0 fq, hwf⟩
                have hLL : Hid ((es == es) = true) := by show _ = _; simp
                replace hwl := hwl.out
                go_wp2_with (first
                  | (go_at_call 18; go_must (refine (same10_any _ _ _ _ _ pa pb (by omega)).mono ?_; rw [hLL.out]; rintro e w19 ⟨rfl, f19⟩)))
                go_ret
                exact ⟨rfl, (((DT T).thenN fq).thenN f19).below⟩
          · by_cases h6 : es.length ≤ 6
            · skip
              have d0' : decide (0 < es.length) = true := decide_eq_true (by omega)
              have d6 : decide ((6 : Int) < (es.length : Int)) = false := decide_eq_false (by omega)
              have hwl : Hid (((tops.length : Int) == 1) = true) := by show _ = _; rw [htl.out, hpl.out]; rw [if_neg h0, if_pos h6]; rfl
              clear h0
              try clear h6
              go_wp2_with (first
                | (with_reducible refine at_wpP ?_; refine at_ld 25 _ rfl ?_; have q := bR; go_must (refine wpList_ldT rfl _ rfl g3 rfl gs bR ?_))
                | (with_reducible refine at_wpP ?_; refine at_ld 47 _ rfl ?_; go_must (refine wpList_ldN rfl _ rfl g5 rfl 2 (zerB 16) _ N (zerB_len 16) ?_))
                | (go_at_call 19; go_must (refine hSp.mono ?_; rintro e w10 ⟨F', u, rfl, T, ou, huF⟩; have z10 := T.fr.size; have N10 := N.fr T.fr (hnF5 _ (by omega)); have k10 := NdB.ents N10 (zerB_len 16); have b10 := bR.fr T.fr (hnF5 _ (by omega)); have t10 := (b10.cell 0 _ rfl).1; obtain ⟨au, cu, hu⟩ := ou.opn; subst hu))
                | (with_reducible refine at_wpP ?_; refine wpList_mk0 enC 2 rfl 31 rfl 49 Try.underlying31 en_size ?_; intro g11 w11 o11 f11 s11 t11; have z11 := f11.size))
              go_loopw [78, 12] (fun i va wq => ∃ (k : Nat), k ≤ tops.length ∧ i = .int .i64 (k : Int) ∧ OwnR enC 2 49 wq w10.heap.size va ((P.take k).flatten) ∧ Fr noB w10 wq) (fun i _ _ => tops.length - (intOf i).toNat)
              case atStart => exact ⟨0, Nat.zero_le _, rfl, o11, f11⟩
              case round =>
                obtain ⟨k, hk', rfl, oq, fq⟩ := hrel
                have zq := fq.size
                have bq := b10.fr0 fq
                have tq := (bq.cell 0 _ rfl).1
                have Nq := N10.fr0 fq
                have kq := NdB.ents Nq (zerB_len 16)
                have huq := (ou.sl).fr0 fq
                have sq := T.st.fr0 fq
                have hGl := htf k
                by_cases hlt : k < tops.length
                · have hltP : k < P.length := by have := htl.out; omega
                  have hlt' : (k : Int) < (tops.length : Int) := by omega
                  have hT := Htop.out k hlt hltP
                  have hf1 := htf1 k hltP
                  have hp2 := hpp _ (List.getElem_mem hltP)
                  obtain ⟨y, Hy⟩ : ∃ y, Hid (tops[k] = y) := ⟨tops[k], (rfl : tops[k] = tops[k])⟩
                  obtain ⟨p, Hp⟩ : ∃ p, Hid (P[k] = p) := ⟨P[k], (rfl : P[k] = P[k])⟩
                  rw [Hy.out, Hp.out] at hT
                  rw [Hp.out] at hf1 hp2
                  obtain ⟨hp1, hp6, _⟩ := hp2
                  have hk1 : Hid (k + 1 ≤ tops.length) := hlt
                  obtain ⟨hget, hkey⟩ := hT
                  rw [key0_at (by omega)] at hkey
                  replace hget := show Hid _ from hget
                  replace hkey := show Hid _ from hkey
                  replace hf1 := show Hid _ from hf1
                  generalize (P.take k).flatten = G at *
                  obtain ⟨aq, cq, hvq⟩ := oq.opn
                  subst hvq
                  have hnq := oq.newB
                  go_upto_region 28 with (first
                    | (with_reducible refine at_wpP ?_; refine at_idx 31 _ _ rfl ?_; go_must (refine wpList_idxR rfl 31 _ _ rfl 49 Try.underlying31 2 en_size _ _ _ rfl huq (by decide) _ _ k rfl rfl hlt ?_; rw [Hy.out]; intro ba oa hba hca))
                    | (with_reducible refine at_wpP ?_; refine at_ld 49 _ rfl ?_; have q := hca; go_must (refine wpList_ldE rfl _ rfl ba oa rfl y hca ?_))
                    | (with_reducible refine at_wpP ?_; refine wpList_allocE rfl rfl ?_; intro gl w12 hgl b12 f12 sl; have l12 := b12.lt; have z12 := f12.size)
                    | (with_reducible refine at_wpP ?_; refine at_st 49 _ _ rfl ?_; go_must (refine wpList_stE rfl _ _ rfl gl rfl (0, 0) y b12 rfl ?_; intro w13 b13 f13; have F13 := Fr.ownX f12 sl f13; have z13 := f13.size; obtain ⟨y0, y1⟩ := b13.all; have t13 := tq |> fun h => F13.cell h (fun q => q)))
                    | (go_at_call 20; go_must (refine (get_F _ (sq.fr0 F13) (by omega) hget.out).mono ?_; rintro e w14 ⟨vk, rfl, nk, hvk, f14⟩; have z14 := f14.size))
                    | (with_reducible refine at_wpP ?_; have q := nk; refine wpList_allocN rfl rfl ?_; intro gn w15 hgn b15 f15 sn; have z15 := f15.size; have l15 := b15.lt)
                    | (with_reducible refine at_wpP ?_; refine at_st 47 _ _ rfl ?_; have q := b15; go_must (refine wpList_stN rfl _ _ rfl gn rfl 2 (zerB 16) vk rfl (zerB_len 16) nk.sl 0 (zerB 16) nilS b15 (zerB_len 16) ?_; intro w16 b16 f16; have z16 := f16.size; have F16 := Fr.ownX f15 sn f16)))
                  have nk16 := (nk.fr0 F16)
                  obtain ⟨br, orr, cr, hve, hcel⟩ := SlR.addr nk16.1.1 (by decide) (show 0 < p.length by omega)
                  subst hve
                  have c0 := hcel 0 (show 0 < p.length by omega) 0 (.int .i64 y.1) (by show (enC p[0])[0]? = _; rw [hkey.out]; rfl)
                  have k16 := NdB.ents b16 (zerB_len 16)
                  have q16 := NdB.kind b16
                  have F1416 := f14.thenN F16
                  have y016 := F1416.cell y0 (fun q => q)
                  have hp0' : (0 : Int) < (p.length : Int) := by omega
                  have hp00 : ((p.length : Int) == 0) = false := beq_false_of_ne (by omega)
                  have hp66 : decide ((6 : Int) < (p.length : Int)) = false := decide_eq_false (by omega)
                  try simp only [Nat.zero_mul, Nat.add_zero] at c0
                  go_wp2_with fail
                  go_quiet (fail)
                  have fd := (Fr.refl noB w16).drewN nq
                  have zd := fd.size
                  have k17 := fd.cell k16 (fun q => q)
                  have F17 := (F13.thenN F1416).thenN fd
                  have hsS := SlR.fr0 nk16.1.1 fd
                  go_wp2_with (first
                    | (at_builtin; go_must (refine wpList_appM rfl _ _ 31 rfl _ 16 uE en_info rfl (by decide) (.slice aq G.length cq) rfl (oq.fr0 F17) _ p rfl hsS hp1 (fun y _ => en_one y) ?hq1 ?hq2 ?hq3 ?_; rotate_left 3; intro u18 w18 o18 f18 p18)))
                  case hq1 => unfold maxLen; omega
                  case hq2 => omega
                  case hq3 => have := F17.size; omega
                  go_roundw
                  case rel => exact ⟨k + 1, hk1.out, by go_num, by rw [hf1.out]; exact o18, (fq.thenN F17).thenT f18 (fun i hi q => by have := (hnq i q).1; omega)⟩
                  case measure => simp [intOf]; have := hk1.out; omega
                · obtain rfl : k = tops.length := by omega
                  clear hlt
                  have hGe : (P.take tops.length).flatten = es := by rw [List.take_of_length_le (by have := htl.out; omega), hfl.out]
                  rw [hGe] at oq
                  obtain ⟨aq, cq, hvq⟩ := oq.opn
                  subst hvq
                  have pa := EnO.slp oq hwf
                  have pb : SlP .i64 .i64 wr (.slice a5 es.length c5) es := ⟨(ho.sl.fr T.fr (fun x hx => hnF5 _ (by have := (hnb x hx).1; omega))).fr0 fq, hwf⟩
                  have hLL : Hid ((es == es) = true) := by show _ = _; simp
                  replace hwl := hwl.out
                  go_wp2_with (first
                    | (go_at_call 18; go_must (refine (same10_any _ _ _ _ _ pa pb (by omega)).mono ?_; rw [hLL.out]; rintro e w19 ⟨rfl, f19⟩)))
                  go_ret
                  exact ⟨rfl, (((DT T).thenN fq).thenN f19).below⟩
            · skip
              have d0' : decide (0 < es.length) = true := decide_eq_true (by omega)
              have d6 : decide ((6 : Int) < (es.length : Int)) = true := decide_eq_true (by omega)
              have hwl : Hid (((tops.length : Int) == 2) = true) := by show _ = _; rw [htl.out, hpl.out]; rw [if_neg h0, if_neg h6]; rfl
              clear h0
              try clear h6
              go_wp2_with (first
                | (with_reducible refine at_wpP ?_; refine at_ld 25 _ rfl ?_; have q := bR; go_must (refine wpList_ldT rfl _ rfl g3 rfl gs bR ?_))
                | (with_reducible refine at_wpP ?_; refine at_ld 47 _ rfl ?_; go_must (refine wpList_ldN rfl _ rfl g5 rfl 2 (zerB 16) _ N (zerB_len 16) ?_))
                | (go_at_call 19; go_must (refine hSp.mono ?_; rintro e w10 ⟨F', u, rfl, T, ou, huF⟩; have z10 := T.fr.size; have N10 := N.fr T.fr (hnF5 _ (by omega)); have k10 := NdB.ents N10 (zerB_len 16); have b10 := bR.fr T.fr (hnF5 _ (by omega)); have t10 := (b10.cell 0 _ rfl).1; obtain ⟨au, cu, hu⟩ := ou.opn; subst hu))
                | (with_reducible refine at_wpP ?_; refine wpList_mk0 enC 2 rfl 31 rfl 49 Try.underlying31 en_size ?_; intro g11 w11 o11 f11 s11 t11; have z11 := f11.size))
              go_loopw [78, 12] (fun i va wq => ∃ (k : Nat), k ≤ tops.length ∧ i = .int .i64 (k : Int) ∧ OwnR enC 2 49 wq w10.heap.size va ((P.take k).flatten) ∧ Fr noB w10 wq) (fun i _ _ => tops.length - (intOf i).toNat)
              case atStart => exact ⟨0, Nat.zero_le _, rfl, o11, f11⟩
              case round =>
                obtain ⟨k, hk', rfl, oq, fq⟩ := hrel
                have zq := fq.size
                have bq := b10.fr0 fq
                have tq := (bq.cell 0 _ rfl).1
                have Nq := N10.fr0 fq
                have kq := NdB.ents Nq (zerB_len 16)
                have huq := (ou.sl).fr0 fq
                have sq := T.st.fr0 fq
                have hGl := htf k
                by_cases hlt : k < tops.length
                · have hltP : k < P.length := by have := htl.out; omega
                  have hlt' : (k : Int) < (tops.length : Int) := by omega
                  have hT := Htop.out k hlt hltP
                  have hf1 := htf1 k hltP
                  have hp2 := hpp _ (List.getElem_mem hltP)
                  obtain ⟨y, Hy⟩ : ∃ y, Hid (tops[k] = y) := ⟨tops[k], (rfl : tops[k] = tops[k])⟩
                  obtain ⟨p, Hp⟩ : ∃ p, Hid (P[k] = p) := ⟨P[k], (rfl : P[k] = P[k])⟩
                  rw [Hy.out, Hp.out] at hT
                  rw [Hp.out] at hf1 hp2
                  obtain ⟨hp1, hp6, _⟩ := hp2
                  have hk1 : Hid (k + 1 ≤ tops.length) := hlt
                  obtain ⟨hget, hkey⟩ := hT
                  rw [key0_at (by omega)] at hkey
                  replace hget := show Hid _ from hget
                  replace hkey := show Hid _ from hkey
                  replace hf1 := show Hid _ from hf1
                  generalize (P.take k).flatten = G at *
                  obtain ⟨aq, cq, hvq⟩ := oq.opn
                  subst hvq
                  have hnq := oq.newB
                  go_upto_region 28 with (first
                    | (with_reducible refine at_wpP ?_; refine at_idx 31 _ _ rfl ?_; go_must (refine wpList_idxR rfl 31 _ _ rfl 49 Try.underlying31 2 en_size _ _ _ rfl huq (by decide) _ _ k rfl rfl hlt ?_; rw [Hy.out]; intro ba oa hba hca))
                    | (with_reducible refine at_wpP ?_; refine at_ld 49 _ rfl ?_; have q := hca; go_must (refine wpList_ldE rfl _ rfl ba oa rfl y hca ?_))
                    | (with_reducible refine at_wpP ?_; refine wpList_allocE rfl rfl ?_; intro gl w12 hgl b12 f12 sl; have l12 := b12.lt; have z12 := f12.size)
                    | (with_reducible refine at_wpP ?_; refine at_st 49 _ _ rfl ?_; go_must (refine wpList_stE rfl _ _ rfl gl rfl (0, 0) y b12 rfl ?_; intro w13 b13 f13; have F13 := Fr.ownX f12 sl f13; have z13 := f13.size; obtain ⟨y0, y1⟩ := b13.all; have t13 := tq |> fun h => F13.cell h (fun q => q)))
                    | (go_at_call 20; go_must (refine (get_F _ (sq.fr0 F13) (by omega) hget.out).mono ?_; rintro e w14 ⟨vk, rfl, nk, hvk, f14⟩; have z14 := f14.size))
                    | (with_reducible refine at_wpP ?_; have q := nk; refine wpList_allocN rfl rfl ?_; intro gn w15 hgn b15 f15 sn; have z15 := f15.size; have l15 := b15.lt)
                    | (with_reducible refine at_wpP ?_; refine at_st 47 _ _ rfl ?_; have q := b15; go_must (refine wpList_stN rfl _ _ rfl gn rfl 2 (zerB 16) vk rfl (zerB_len 16) nk.sl 0 (zerB 16) nilS b15 (zerB_len 16) ?_; intro w16 b16 f16; have z16 := f16.size; have F16 := Fr.ownX f15 sn f16)))
                  have nk16 := (nk.fr0 F16)
                  obtain ⟨br, orr, cr, hve, hcel⟩ := SlR.addr nk16.1.1 (by decide) (show 0 < p.length by omega)
                  subst hve
                  have c0 := hcel 0 (show 0 < p.length by omega) 0 (.int .i64 y.1) (by show (enC p[0])[0]? = _; rw [hkey.out]; rfl)
                  have k16 := NdB.ents b16 (zerB_len 16)
                  have q16 := NdB.kind b16
                  have F1416 := f14.thenN F16
                  have y016 := F1416.cell y0 (fun q => q)
                  have hp0' : (0 : Int) < (p.length : Int) := by omega
                  have hp00 : ((p.length : Int) == 0) = false := beq_false_of_ne (by omega)
                  have hp66 : decide ((6 : Int) < (p.length : Int)) = false := decide_eq_false (by omega)
                  try simp only [Nat.zero_mul, Nat.add_zero] at c0
                  go_wp2_with fail
                  go_quiet (fail)
                  have fd := (Fr.refl noB w16).drewN nq
                  have zd := fd.size
                  have k17 := fd.cell k16 (fun q => q)
                  have F17 := (F13.thenN F1416).thenN fd
                  have hsS := SlR.fr0 nk16.1.1 fd
                  go_wp2_with (first
                    | (at_builtin; go_must (refine wpList_appM rfl _ _ 31 rfl _ 16 uE en_info rfl (by decide) (.slice aq G.length cq) rfl (oq.fr0 F17) _ p rfl hsS hp1 (fun y _ => en_one y) ?hq1 ?hq2 ?hq3 ?_; rotate_left 3; intro u18 w18 o18 f18 p18)))
                  case hq1 => unfold maxLen; omega
                  case hq2 => omega
                  case hq3 => have := F17.size; omega
                  go_roundw
                  case rel => exact ⟨k + 1, hk1.out, by go_num, by rw [hf1.out]; exact o18, (fq.thenN F17).thenT f18 (fun i hi q => by have := (hnq i q).1; omega)⟩
                  case measure => simp [intOf]; have := hk1.out; omega
                · obtain rfl : k = tops.length := by omega
                  clear hlt
                  have hGe : (P.take tops.length).flatten = es := by rw [List.take_of_length_le (by have := htl.out; omega), hfl.out]
                  rw [hGe] at oq
                  obtain ⟨aq, cq, hvq⟩ := oq.opn
                  subst hvq
                  have pa := EnO.slp oq hwf
                  have pb : SlP .i64 .i64 wr (.slice a5 es.length c5) es := ⟨(ho.sl.fr T.fr (fun x hx => hnF5 _ (by have := (hnb x hx).1; omega))).fr0 fq, hwf⟩
                  have hLL : Hid ((es == es) = true) := by show _ = _; simp
                  replace hwl := hwl.out
                  go_wp2_with (first
                    | (go_at_call 18; go_must (refine (same10_any _ _ _ _ _ pa pb (by omega)).mono ?_; rw [hLL.out]; rintro e w19 ⟨rfl, f19⟩)))
                  go_ret
                  exact ⟨rfl, (((DT T).thenN fq).thenN f19).below⟩
end Go.Proofs.Ytkhdniccnefdhaa
