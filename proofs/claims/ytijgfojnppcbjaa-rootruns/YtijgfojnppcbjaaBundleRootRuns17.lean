/- Texts W6, V14 of the proof of RootRuns, one behind the other. -/
import Derived.Test.YtijgfojnppcbjaaBundleRootRuns1
import Derived.Test.YtijgfojnppcbjaaBundleRootRuns2
import Derived.Test.YtijgfojnppcbjaaBundleRootRuns3
import Derived.Test.YtijgfojnppcbjaaBundleRootRuns4
import Derived.Test.YtijgfojnppcbjaaBundleRootRuns5
import Derived.Test.YtijgfojnppcbjaaBundleRootRuns6
import Derived.Test.YtijgfojnppcbjaaBundleRootRuns7
import Derived.Test.YtijgfojnppcbjaaBundleRootRuns8
import Derived.Test.YtijgfojnppcbjaaBundleRootRuns9
import Derived.Test.YtijgfojnppcbjaaBundleRootRuns10
import Derived.Test.YtijgfojnppcbjaaBundleRootRuns11
import Derived.Test.YtijgfojnppcbjaaBundleRootRuns12
import Derived.Test.YtijgfojnppcbjaaBundleRootRuns13
import Derived.Test.YtijgfojnppcbjaaBundleRootRuns14
import Derived.Test.YtijgfojnppcbjaaBundleRootRuns15
import Derived.Test.YtijgfojnppcbjaaBundleRootRuns16
/- The document's Put of roots. (Written by w6_gen.py.) -/
namespace Go.Proofs.Ytijgfojnppcbjaa
open Go.RowKit Go.Proofs.U
set_option linter.unusedSimpArgs false
set_option linter.unusedVariables false
theorem results_disk3 {fn : Func} {q u t : Tmp} (h : fn.results = #[.cell q 39, .tmp u, .tmp t]) (tmps : Array Value) (w : World) (g : Nat) (v1 v2 v3 : Value) (c : Bool) (l : Int) (d : Bool) (hq : tmps.getD q undef = .pointer (some ⟨g, 0, none⟩)) (hA : BxV w g 39 (dkL v1 v2 v3 c l d)) :
    (results fn tmps).run Try.prog w = .ok (.tuple #[dkV v1 v2 v3 c l d, tmps.getD u undef, tmps.getD t undef]) w := by
  have hr := run_loadVar_mid (P := Try.prog) w g 0 39 (dkL v1 v2 v3 c l d) _ (hA.range 0 _ (by simp)) Try.underlying39 rfl (by rw [size_disk]; rfl)
  have e : (results fn tmps).run Try.prog w = ((asAddr (tmps.getD q undef)).run Try.prog w).andThen fun a w₁ => ((loadVar 39 a).run Try.prog w₁).andThen fun v w₂ => .ok (.tuple #[v, tmps.getD u undef, tmps.getD t undef]) w₂ := by
    simp only [results, h]
    simp [Sem.run_bind, Result.andThen]
  rw [e, hq]
  simp only [asAddr, Sem.run_pure, Result.andThen_ok, hr]
theorem nwB.trans {a b c d : World} {v v' v'' : Value} (h : nwB a b v v') (k : nwB c d v' v'') (h1 : a.heap.size ≤ c.heap.size) (h2 : b.heap.size ≤ d.heap.size) : nwB a d v v'' := fun q hq => by
  rcases k q hq with e | e
  · rcases h q e with e | e
    · exact Or.inl e
    · exact Or.inr (by omega)
  · exact Or.inr (by omega)
theorem write_in {X : DSt} (h : ∀ x ∈ X.pend, 0 ≤ x.1 ∧ x.1 < (X.pages.length : Int)) (i : Int) (p : List Int) : ∀ x ∈ (X.write i p).pend, 0 ≤ x.1 ∧ x.1 < ((X.write i p).pages.length : Int) := by
  unfold DSt.write
  split
  · rename_i hi
    split
    · intro x hx
      have hx : x ∈ X.pend ++ [(i, p)] := hx
      rcases List.mem_append.1 hx with hx | hx
      · exact h x hx
      · simp at hx; subst hx
        simp [inR] at hi
        exact hi
    · exact h
  · exact h
theorem write_pages (X : DSt) (i : Int) (p : List Int) : (X.write i p).pages = X.pages := by
  unfold DSt.write
  split
  · split <;> rfl
  · rfl

theorem sync_pend (X : DSt) : X.sync.pend.length ≤ X.pend.length := by
  unfold DSt.sync
  split
  · simp [DSt.settle]
  · exact Nat.le_refl _
theorem sync_plen (X : DSt) : X.sync.pages.length = X.pages.length := by
  unfold DSt.sync
  split
  · simp [DSt.settle, setS_len]; rfl
  · rfl
theorem rWrite_pend (X : DSt) (c : List Int) : (rWrite X c).1.pend.length ≤ X.pend.length + 1 := by
  unfold rWrite
  split
  · exact Nat.le_succ _
  · split
    · exact Nat.le_succ _
    · have h1 : (X.write ((rNext X).1 % 2) (rootP (rNext X).1 c)).pend.length ≤ X.pend.length + 1 := write_pend X _ _ (Nat.le_refl _)
      have h2 := sync_pend (X.write ((rNext X).1 % 2) (rootP (rNext X).1 c))
      dsimp only
      split
      · exact h1
      · split
        · exact Nat.le_trans h2 h1
        · exact Nat.le_trans h2 h1
theorem rWrite_plen (X : DSt) (c : List Int) : (rWrite X c).1.pages.length = X.pages.length := by
  unfold rWrite
  split
  · rfl
  · split
    · rfl
    · have h1 : (X.write ((rNext X).1 % 2) (rootP (rNext X).1 c)).pages.length = X.pages.length := by rw [write_pages]
      have h2 := sync_plen (X.write ((rNext X).1 % 2) (rootP (rNext X).1 c))
      dsimp only
      split
      · exact h1
      · split
        · exact h2.trans h1
        · exact h2.trans h1

set_option maxRecDepth 100000 in
set_option maxHeartbeats 4000000 in
theorem dput_any {X : DSt} (v1 v2 v3 : Value) (bad : List Bool) (c : Bool) (l : Int) (w : World) (hRX : RXD X c l bad) (hp256 : ∀ p ∈ X.pages, p.length = 256) (hin : ∀ x ∈ X.pend, 0 ≤ x.1 ∧ x.1 < (X.pages.length : Int)) (hV : DocV w v1 v2 v3 X bad) (hl0 : (readP X 0).1.length = 256) (hl1 : (readP X 1).1.length = 256) (hb : X.byt) (hpm : X.pend.length ≤ 90000) (hn1 : ∀ q, v1.ownBlock = some q → q < w.heap.size) (hn3 : ∀ q, v3.ownBlock = some q → q < w.heap.size) (vc : Value) (cont : List Int) (hS : SlI .u8 w vc cont) :
    Calls Try.prog 15 #[dkV v1 v2 v3 c l X.down, vc] w fun e w' => ∃ v1' v3' l', e = .returned (.tuple #[dkV v1' v2 v3' c l' (rWrite X cont).1.down, .int .u64 (rWrite X cont).2.1, .int .i64 (rWrite X cont).2.2]) ∧
      SlPg w' v1' (rWrite X cont).1.pages ∧ SlWr w' v3' (rWrite X cont).1.pend ∧ RXD (rWrite X cont).1 c l' bad ∧ Fr noB w w' ∧ nwB w w' v1 v1' ∧ nwB w w' v3 v3' := by
  obtain ⟨ac, cc, rfl, hcc⟩ := hS.opn
  have hi1 := SlR.isSl hV.s1
  have hi2 := SlR.isSl hV.s2
  have hi3 := SlR.isSl hV.s3
  have hR := show Hid _ from hRX
  unfold rWrite
  by_cases hc : 186 < cont.length
  · rw [if_pos hc]
    have hc' : (186 : Int) < (cont.length : Int) := by omega
    go_enter Try.func15, Try.ntmps15
    go_wp2_with (first
      | (with_reducible refine at_wpP ?_; refine wpList_boxV rfl 39 _ rfl (dkL v1 v2 v3 c l X.down) rfl ?_; intro g2 w1 hg2 bx1 f1 s1; have l1 := bx1.lt)
      | (with_reducible refine at_wpP ?_; refine wpList_allocD rfl rfl ?_; intro g4 w2 hg4 b2 f2 s2; have l2 := b2.lt; have bx2 := bx1.fr0 f2; have z1 := f1.size)
      | (with_reducible refine at_wpP ?_; refine at_ld 39 _ rfl ?_; refine wpList_ldD rfl _ rfl g2 rfl _ _ _ _ _ _ bx2 ?_)
      | (with_reducible refine at_wpP ?_; refine at_st 39 _ _ rfl ?_; go_must (refine wpList_stD rfl _ _ rfl g4 rfl _ _ _ _ _ _ rfl _ b2 rfl hi1 hi2 hi3 ?_; intro w3 b3 f3)))
    refine bodyPost_ret (results_disk3 Try.results15 _ w3 g4 _ _ _ _ _ _ rfl b3) rfl ?_
    have z2 := f2.size
    have hg3 : ∀ (v : Value) (q : Nat), v.ownBlock = some q → True := fun _ _ _ => trivial
    have F3 : Fr noB w w3 := (f1.thenN f2).thenT f3 (fun i hi q => by unfold onB1 at q; omega)
    exact ⟨v1, v3, l, rfl, hV.s1.fr0 F3, hV.s3.fr0 F3, hRX, F3, nwB.refl _ _ _, nwB.refl _ _ _⟩
  · rw [if_neg hc]
    have hc' : ¬ (186 : Int) < (cont.length : Int) := by omega
    have hcl : cont.length ≤ 186 := by omega
    have hnx := show Hid _ from fun (W : World) (h : DocV W v1 v2 v3 X bad) => dnext_any v1 v2 v3 bad c l X.down W h hl0 hl1 hb
    have hgb := nextG_bd hb
    obtain ⟨⟨G, EN⟩, HN⟩ : ∃ R, Hid (rNext X = R) := ⟨_, rfl⟩
    simp only [HN.out] at hnx hgb ⊢
    by_cases hE : EN = 0
    · subst hE
      have hG := hgb rfl
      rw [if_neg (by simp : ¬ (0 : Int) ≠ 0)]
      obtain ⟨P, HP⟩ : ∃ P, Hid (rootP G cont = P) := ⟨_, rfl⟩
      have hPl : Hid (P.length = 256) := by show _ = _; rw [← HP.out, rootP_len]
      rw [HP.out]
      obtain ⟨hw1, hw2, hw3, hw4, hw5⟩ := hRX.write (G % 2) P
      have hYin := write_in hin (G % 2) P
      have hYp : (X.write (G % 2) P).pend.length ≤ 100000 := write_pend X _ P (by omega)
      obtain ⟨Y, HY⟩ : ∃ Y, Hid (X.write (G % 2) P = Y) := ⟨_, rfl⟩
      obtain ⟨E, HE⟩ : ∃ E, Hid (X.writeE (G % 2) = E) := ⟨_, rfl⟩
      obtain ⟨L', HL⟩ : ∃ L, Hid ((if inR X.pages.length (G % 2) then (actR c l X.down).1 else l) = L) := ⟨_, rfl⟩
      rw [HY.out] at hw1 hw2 hw4 hw5 hYin hYp ⊢
      rw [HE.out] at hw3 ⊢
      rw [HL.out] at hw5
      replace hw1 := show Hid _ from hw1
      replace hw2 := show Hid _ from hw2
      replace hw3 := show Hid _ from hw3
      replace hw4 := show Hid _ from hw4
      have hRY : Hid (RXD Y c L' bad) := hw5
      have etm : G.tmod 2 = G % 2 := Int.tmod_eq_emod_of_nonneg hG.1
      have ewu : IntKind.u64.wrap (G % 2) = G % 2 := wrap_u64_id _ (by omega) (by omega)
      have ewm : IntKind.i64.wrap (G % 2) = G % 2 := by rw [IntKind.wrap_i64]; omega
      obtain ⟨a1, c1, hv1, _⟩ := hV.s1.opn
      replace hv1 := show Hid _ from hv1
      have hY256 : ∀ p ∈ Y.pages, p.length = 256 := by rw [hw1.out]; exact hp256
      have hYg : Y.pages.length ≤ 100000 := by rw [hw1.out]; exact hV.pg
      obtain ⟨⟨YF, gF, eF⟩, HF⟩ : ∃ R, Hid ((if E ≠ 0 then (Y, 0, E) else if Y.actE ≠ 0 then (Y.sync, 0, Y.actE) else (Y.sync, G, 0)) = R) := ⟨_, rfl⟩
      rw [HF.out]
      dsimp only
      go_enter Try.func15, Try.ntmps15
      go_wp2_with (first
        | (with_reducible refine at_wpP ?_; refine wpList_boxV rfl 39 _ rfl (dkL v1 v2 v3 c l X.down) rfl ?_; intro g2 w1 hg2 bx1 f1 s1; have l1 := bx1.lt)
        | (with_reducible refine at_wpP ?_; refine wpList_allocD rfl rfl ?_; intro g4 w2 hg4 b2 f2 s2; have l2 := b2.lt; have bx2 := bx1.fr0 f2; have z1 := f1.size)
        | (with_reducible refine at_wpP ?_; refine at_ld 39 _ rfl ?_; refine wpList_ldD rfl _ rfl g2 rfl _ _ _ _ _ _ bx2 ?_)
        | (go_at_call 26; go_must (refine (hnx.out _ ((hV.fr0 f1).fr0 f2)).mono ?_; rintro e w3 ⟨rfl, f3⟩)))
      have z2 := f2.size
      have z3 := f3.size
      obtain ⟨w0, HW⟩ : ∃ w0, Hid (w3.drew = w0) := ⟨_, rfl⟩
      have f0 : Fr noB w3 w0 := by rw [← HW.out]; exact (Fr.refl _ _).drew
      have hBx0 := (bx2.fr0 f3).fr0 f0
      have hB40 := (b2.fr0 f3).fr0 f0
      have F0 : Fr noB w w0 := ((f1.thenN f2).thenN f3).thenN f0
      have hV0 := hV.fr0 F0
      have hIC := hS.fr0 F0
      have z0 := f0.size
      have z00 := F0.size
      refine wp_region_chain_lay (by kernel_rfl) [6, 7, 8, 9, 11] [none, none, none, none, none, none, some 0, some 1, some 2, some 3, none, some 4, none]
        [fun v => v = dkV v1 v2 v3 c l X.down, fun v => v = .int .u64 G, fun v => v = .int .u64 (G % 2), fun v => v = .int .i64 (G % 2), fun v => v = .int .u64 G, fun v => v = (.slice ac cont.length cc), fun _ => True, fun _ => True, fun _ => True, fun _ => True, fun v => v = .int .i64 E, fun _ => True, fun v => v = .int .i64 E]
        (JP w0 g2 v1 v2 v3 c L' Y.down E Y.pend P) (HW.out) (by kernel_rfl) (by kernel_rfl) (by decide) ⟨?o0, ?o1, ?o2, ?o3, ?o4, ?o5, ?o6, ?o7, ?o8, ?o9, ?o10, ?o11, ?o12, trivial⟩ ?oe
      case o0 =>
        intro A W hv hlen hJ hbase hdL hdH
        have e2 : A.eval (.tmp 2) = .pointer (some ⟨g2, 0, none⟩) := hbase 2 (by kernel_rfl)
        have f2 : A.tmps[2]?.getD undef = .pointer (some ⟨g2, 0, none⟩) := by simpa [Act.eval] using e2
        have hb1 : hv.length ≤ 1 := hlen.2 1 7 rfl (by kernel_rfl)
        have hbW : BxV W g2 39 (dkL v1 v2 v3 c l X.down) := by
          match hv, hb1, hJ with
          | [], _, hJ => cases hJ; exact hBx0
          | [_], _, hJ => exact hBx0.fr0 hJ.2
        have hr := run_ldD W g2 _ _ _ _ _ _ hbW
        exact light_val rfl (v := dkV v1 v2 v3 c l X.down) (by simp [execOp, e2, hr, Result.andThen]) hJ rfl
      case o1 =>
        intro A W hv hlen hJ hbase hdL hdH
        have e7 : A.eval (.tmp 7) = .int .u64 G := hbase 7 (by kernel_rfl)
        have f7 : A.tmps[7]?.getD undef = .int .u64 G := by simpa [Act.eval] using e7
        exact light_val rfl (v := .int .u64 G) (by simp [execOp, e7, f7]) hJ rfl
      case o2 =>
        intro A W hv hlen hJ hbase hdL hdH
        have e26 : A.eval (.tmp 26) = .int .u64 G := hdL 1 26 (by kernel_rfl) (by kernel_rfl) (by kernel_rfl)
        have f26 : A.tmps[26]?.getD undef = .int .u64 G := by simpa [Act.eval] using e26
        exact light_val rfl (v := .int .u64 (G % 2)) (by simp [execOp, go_sem, e26, f26, etm, ewu]) hJ rfl
      case o3 =>
        intro A W hv hlen hJ hbase hdL hdH
        have e27 : A.eval (.tmp 27) = .int .u64 (G % 2) := hdL 2 27 (by kernel_rfl) (by kernel_rfl) (by kernel_rfl)
        have f27 : A.tmps[27]?.getD undef = .int .u64 (G % 2) := by simpa [Act.eval] using e27
        exact light_val rfl (v := .int .i64 (G % 2)) (by simp [execOp, go_sem, e27, f27, ewm]) hJ rfl
      case o4 =>
        intro A W hv hlen hJ hbase hdL hdH
        have e7 : A.eval (.tmp 7) = .int .u64 G := hbase 7 (by kernel_rfl)
        have f7 : A.tmps[7]?.getD undef = .int .u64 G := by simpa [Act.eval] using e7
        exact light_val rfl (v := .int .u64 G) (by simp [execOp, e7, f7]) hJ rfl
      case o5 =>
        intro A W hv hlen hJ hbase hdL hdH
        have e1 : A.eval (.tmp 1) = (.slice ac cont.length cc) := hbase 1 (by kernel_rfl)
        have f1 : A.tmps[1]?.getD undef = (.slice ac cont.length cc) := by simpa [Act.eval] using e1
        exact light_val rfl (v := (.slice ac cont.length cc)) (by simp [execOp, e1, f1]) hJ rfl
      case o6 =>
        intro A W hv hlen hJ hbase hdL hdH
        have e29 : A.eval (.tmp 29) = .int .u64 G := hdL 4 29 (by kernel_rfl) (by kernel_rfl) (by kernel_rfl)
        have f29 : A.tmps[29]?.getD undef = .int .u64 G := by simpa [Act.eval] using e29
        have e30 : A.eval (.tmp 30) = (.slice ac cont.length cc) := hdL 5 30 (by kernel_rfl) (by kernel_rfl) (by kernel_rfl)
        have f30 : A.tmps[30]?.getD undef = (.slice ac cont.length cc) := by simpa [Act.eval] using e30
        obtain rfl : hv = [] := List.eq_nil_of_length_eq_zero hlen
        cases hJ
        refine heavy_call rfl (f := 16) (args := #[.int .u64 G, .slice ac cont.length cc]) (by simp [execOp, resolve, invoke, go_sem, e29, f29, e30, f30]) ?_
        refine (page_any G hG _ cont hcl _ hIC).mono ?_
        rw [HP.out]
        rintro e w' ⟨rfl, f'⟩
        exact ⟨_, rfl, rfl, f'⟩
      case o7 =>
        intro A W hv hlen hJ hbase hdL hdH
        have e25 : A.eval (.tmp 25) = dkV v1 v2 v3 c l X.down := hdL 0 25 (by kernel_rfl) (by kernel_rfl) (by kernel_rfl)
        have f25 : A.tmps[25]?.getD undef = dkV v1 v2 v3 c l X.down := by simpa [Act.eval] using e25
        have e28 : A.eval (.tmp 28) = .int .i64 (G % 2) := hdL 3 28 (by kernel_rfl) (by kernel_rfl) (by kernel_rfl)
        have f28 : A.tmps[28]?.getD undef = .int .i64 (G % 2) := by simpa [Act.eval] using e28
        obtain ⟨v31, rfl⟩ := List.length_eq_one_iff.1 hlen
        obtain ⟨rfl, hf5⟩ := hJ
        have e31 : A.eval (.tmp 31) = pgV P := by have := hdH 6 31 0 (by kernel_rfl) rfl (by kernel_rfl); simpa using this.symm
        have f31 : A.tmps[31]?.getD undef = pgV P := by simpa [Act.eval] using e31
        refine heavy_call rfl (args := #[dkV v1 v2 v3 c l X.down, .int .i64 (G % 2), pgV P]) (f := 18) (by simp [execOp, resolve, invoke, go_sem, e25, f25, e28, f28, e31, f31]) ?_
        refine (rput4_any v1 v2 v3 X.pages.length a1 c1 hv1.out hi2 X.pend c l hR.out.hl X.down (G % 2) P hPl.out W (hV0.s3.fr0 hf5) (by omega)).mono ?_
        rw [hw4.out, hw2.out, hw3.out, HL.out]
        rintro e w' ⟨v3', rfl, t3, f', nw⟩
        exact ⟨_, rfl, v3', rfl, t3, hf5.thenN f', nw.wid hf5.size (Nat.le_refl _)⟩
      case o8 =>
        intro A W hv hlen hJ hbase hdL hdH
        match hv, hlen with
        | [x0, t], _ =>
          have e32 : A.eval (.tmp 32) = t := by have := hdH 7 32 1 (by kernel_rfl) rfl (by kernel_rfl); simpa using this.symm
          exact heavy_val rfl (v := t) (w' := W) (by simp [execOp, e32]) hJ
      case o9 =>
        intro A W hv hlen hJ hbase hdL hdH
        match hv, hlen with
        | [x0, x1, t], _ =>
          obtain ⟨v3', rfl, h1⟩ := hJ
          have e24 : A.eval (.tmp 24) = .tuple #[dkV v1 v2 v3' c L' Y.down, .int .i64 E] := by have := hdH 8 24 2 (by kernel_rfl) rfl (by kernel_rfl); simpa using this.symm
          have f24 : A.tmps[24]?.getD undef = .tuple #[dkV v1 v2 v3' c L' Y.down, .int .i64 E] := by simpa [Act.eval] using e24
          exact heavy_val rfl (v := dkV v1 v2 v3' c L' Y.down) (w' := W) (by simp [execOp, go_sem, e24, f24]) ⟨v3', rfl, rfl, h1⟩
      case o10 =>
        intro A W hv hlen hJ hbase hdL hdH
        have v24 := hdH 8 24 2 (by kernel_rfl) rfl (by kernel_rfl)
        obtain ⟨x, e24⟩ := JP.tup hJ _ v24
        have f24 : A.tmps[24]?.getD undef = .tuple #[x, .int .i64 E] := by simpa [Act.eval] using e24
        exact light_val rfl (v := .int .i64 E) (by simp [execOp, go_sem, e24, f24]) hJ rfl
      case o11 =>
        intro A W hv hlen hJ hbase hdL hdH
        have e2 : A.eval (.tmp 2) = .pointer (some ⟨g2, 0, none⟩) := hbase 2 (by kernel_rfl)
        have f2 : A.tmps[2]?.getD undef = .pointer (some ⟨g2, 0, none⟩) := by simpa [Act.eval] using e2
        match hv, hlen with
        | [x0, x1, t, x], _ =>
          obtain ⟨v3', rfl, rfl, h1, h2, h3⟩ := hJ
          have e33 : A.eval (.tmp 33) = dkV v1 v2 v3' c L' Y.down := by have := hdH 9 33 3 (by kernel_rfl) rfl (by kernel_rfl); simpa using this.symm
          refine heavy_wp rfl ?_
          refine wp_stD (.tmp 2) (.tmp 33) rfl g2 e2 v1 v2 v3' c L' Y.down e33 _ (hBx0.fr0 h2) rfl hi1 hi2 (SlR.isSl h1) ?_
          intro w' b' f'
          exact ⟨undef, rfl, v3', W, rfl, h1, h2, h3, b', f'⟩
      case o12 =>
        intro A W hv hlen hJ hbase hdL hdH
        have e34 : A.eval (.tmp 34) = .int .i64 E := hdL 10 34 (by kernel_rfl) (by kernel_rfl) (by kernel_rfl)
        have f34 : A.tmps[34]?.getD undef = .int .i64 E := by simpa [Act.eval] using e34
        exact light_val rfl (v := .int .i64 E) (by simp [execOp, e34]) hJ rfl
      case oe =>
        intro vs W' hv hlen hJ hL hH
        match hv, hlen with
        | [x0, x1, x2, x3, x4], _ =>
          have hx9 : vs 12 = .int .i64 E := hL 12 (by rfl) (by rfl)
          obtain ⟨v3', W1, _, t3, fW1, nw3, bW, fW⟩ := hJ
          simp only [layL, Nat.reduceAdd, Act.put, List.setIfInBounds_toArray, List.set_cons_zero, List.set_cons_succ]
          clear hL hH
          generalize vs 0 = y100 at *
          generalize vs 1 = y101 at *
          generalize vs 2 = y102 at *
          generalize vs 3 = y103 at *
          generalize vs 4 = y104 at *
          generalize vs 5 = y105 at *
          generalize vs 6 = y106 at *
          generalize vs 7 = y107 at *
          generalize vs 8 = y108 at *
          generalize vs 9 = y109 at *
          generalize vs 10 = y110 at *
          generalize vs 11 = y111 at *
          generalize vs 12 = y112 at *
          subst hx9
          have z7 := fW1.size
          have z8 := fW.size
          have hi3' := SlR.isSl t3
          have hb4 := (hB40.fr0 fW1).ne fW (by omega)
          have hq3' : ∀ q, v3'.ownBlock = some q → q ≠ g2 ∧ q ≠ g4 := fun q hq => by
            rcases nw3 q hq with e | e
            · have := hn3 q e; omega
            · have := hB40.lt; have := hBx0.lt; omega
          have sW3 := t3.fr fW (fun q hq e => (hq3' q hq).1 e)
          have sW1 : SlPg W' v1 Y.pages := by rw [hw1.out]; exact ((hV0.s1.fr0 fW1).fr fW (fun q hq e => by have := hn1 q hq; unfold onB1 at e; omega))
          have FW : Fr noB w W' := (F0.thenN fW1).thenT fW (fun i hi q => by unfold onB1 at q; omega)
          by_cases hE1 : E = 0
          · subst hE1
            rw [if_neg (by simp : ¬ (0 : Int) ≠ 0)] at HF
            obtain ⟨hs1, hs2, hs3, hs4, hs5⟩ := hRY.out.sync hY256
            obtain ⟨S, HS⟩ : ∃ S, Hid (Y.sync = S) := ⟨_, rfl⟩
            obtain ⟨E2, HE2⟩ : ∃ E, Hid (Y.actE = E) := ⟨_, rfl⟩
            obtain ⟨L2, HL2⟩ : ∃ L, Hid ((actR c L' Y.down).1 = L) := ⟨_, rfl⟩
            rw [HS.out] at hs1 hs3 hs4 hs5
            rw [HE2.out] at hs2
            rw [HL2.out] at hs5
            replace hs1 := show Hid _ from hs1
            replace hs2 := show Hid _ from hs2
            replace hs3 := show Hid _ from hs3
            replace hs4 := show Hid _ from hs4
            have hRS : Hid (RXD S c L2 bad) := hs5
            by_cases hE2 : E2 = 0
            · subst hE2
              rw [HE2.out, if_neg (by simp : ¬ (0 : Int) ≠ 0), HS.out] at HF
              obtain ⟨rfl, rfl, rfl⟩ : S = YF ∧ G = gF ∧ 0 = eF := by simpa using HF.out
              clear HF
              go_wp2_with (first
                | (with_reducible refine at_wpP ?_; refine at_ld 39 _ rfl ?_; have b6' := b6; refine wpList_ldD rfl _ rfl g2 rfl _ _ _ _ _ _ b6 ?_)
                | (with_reducible refine at_wpP ?_; refine at_ld 39 _ rfl ?_; refine wpList_ldD rfl _ rfl g2 rfl _ _ _ _ _ _ bW ?_)
                | (go_at_call 35; go_must (refine (rsync_any v1 v2 v3' hi2 Y.pages Y.pend c L' hRY.out.hl Y.down _ sW1 sW3 hYin hYg hYp).mono ?_; rw [hs3.out, hs4.out, hs1.out, hs2.out, HL2.out]; rintro e w5 ⟨v1s, v3s, rfl, u1, u3, f5, nw5, nw6⟩; have hj1 := SlR.isSl u1; have hj3 := SlR.isSl u3; have z5 := f5.size))
                | (with_reducible refine at_wpP ?_; refine at_st 39 _ _ rfl ?_; have b6' := b6; go_must (refine wpList_stD rfl _ _ rfl g4 rfl _ _ _ _ _ _ rfl _ b46 rfl hj1 hi2 hj3 ?_; intro w7 b7 f7))
                | (with_reducible refine at_wpP ?_; refine at_st 39 _ _ rfl ?_; go_must (refine wpList_stD rfl _ _ rfl g2 rfl _ _ _ _ _ _ rfl _ (bW.fr0 f5) rfl hj1 hi2 hj3 ?_; intro w6 b6 f6; have b46 := (hb4.fr0 f5).ne f6 (by omega))))
              refine bodyPost_ret (results_disk3 Try.results15 _ w7 g4 _ _ _ _ _ _ rfl b7) rfl ?_
              have z6 := f6.size
              have z77 := f7.size
              have N1 : nwB w w7 v1 v1s := (nwB.wid nw5 (by omega) (by omega))
              have N3 : nwB w w7 v3 v3s := (nw3.trans nw6 (by omega) (by omega)).wid (by omega) (by omega)
              have q1 : ∀ q, v1s.ownBlock = some q → q ≠ g2 ∧ q ≠ g4 := fun q hq => by
                rcases nw5 q hq with e | e
                · have := hn1 q e; omega
                · omega
              have q3 : ∀ q, v3s.ownBlock = some q → q ≠ g2 ∧ q ≠ g4 := fun q hq => by
                rcases nw6 q hq with e | e
                · have := hq3' q e; exact this
                · omega
              have F7 : Fr noB w w7 := ((FW.thenN f5).thenT f6 (fun i hi q => by unfold onB1 at q; omega)).thenT f7 (fun i hi q => by unfold onB1 at q; omega)
              exact ⟨v1s, v3s, L2, rfl, (u1.fr f6 (fun q hq e => (q1 q hq).1 e)).fr f7 (fun q hq e => (q1 q hq).2 e), (u3.fr f6 (fun q hq e => (q3 q hq).1 e)).fr f7 (fun q hq e => (q3 q hq).2 e), hRS.out, F7, N1, N3⟩
            · rw [HE2.out, if_pos hE2, HS.out] at HF
              obtain ⟨rfl, rfl, rfl⟩ : S = YF ∧ 0 = gF ∧ E2 = eF := by simpa using HF.out
              clear HF
              go_wp2_with (first
                | (with_reducible refine at_wpP ?_; refine at_ld 39 _ rfl ?_; have b6' := b6; refine wpList_ldD rfl _ rfl g2 rfl _ _ _ _ _ _ b6 ?_)
                | (with_reducible refine at_wpP ?_; refine at_ld 39 _ rfl ?_; refine wpList_ldD rfl _ rfl g2 rfl _ _ _ _ _ _ bW ?_)
                | (go_at_call 35; go_must (refine (rsync_any v1 v2 v3' hi2 Y.pages Y.pend c L' hRY.out.hl Y.down _ sW1 sW3 hYin hYg hYp).mono ?_; rw [hs3.out, hs4.out, hs1.out, hs2.out, HL2.out]; rintro e w5 ⟨v1s, v3s, rfl, u1, u3, f5, nw5, nw6⟩; have hj1 := SlR.isSl u1; have hj3 := SlR.isSl u3; have z5 := f5.size))
                | (with_reducible refine at_wpP ?_; refine at_st 39 _ _ rfl ?_; have b6' := b6; go_must (refine wpList_stD rfl _ _ rfl g4 rfl _ _ _ _ _ _ rfl _ b46 rfl hj1 hi2 hj3 ?_; intro w7 b7 f7))
                | (with_reducible refine at_wpP ?_; refine at_st 39 _ _ rfl ?_; go_must (refine wpList_stD rfl _ _ rfl g2 rfl _ _ _ _ _ _ rfl _ (bW.fr0 f5) rfl hj1 hi2 hj3 ?_; intro w6 b6 f6; have b46 := (hb4.fr0 f5).ne f6 (by omega))))
              refine bodyPost_ret (results_disk3 Try.results15 _ w7 g4 _ _ _ _ _ _ rfl b7) rfl ?_
              have z6 := f6.size
              have z77 := f7.size
              have N1 : nwB w w7 v1 v1s := (nwB.wid nw5 (by omega) (by omega))
              have N3 : nwB w w7 v3 v3s := (nw3.trans nw6 (by omega) (by omega)).wid (by omega) (by omega)
              have q1 : ∀ q, v1s.ownBlock = some q → q ≠ g2 ∧ q ≠ g4 := fun q hq => by
                rcases nw5 q hq with e | e
                · have := hn1 q e; omega
                · omega
              have q3 : ∀ q, v3s.ownBlock = some q → q ≠ g2 ∧ q ≠ g4 := fun q hq => by
                rcases nw6 q hq with e | e
                · have := hq3' q e; exact this
                · omega
              have F7 : Fr noB w w7 := ((FW.thenN f5).thenT f6 (fun i hi q => by unfold onB1 at q; omega)).thenT f7 (fun i hi q => by unfold onB1 at q; omega)
              exact ⟨v1s, v3s, L2, rfl, (u1.fr f6 (fun q hq e => (q1 q hq).1 e)).fr f7 (fun q hq e => (q1 q hq).2 e), (u3.fr f6 (fun q hq e => (q3 q hq).1 e)).fr f7 (fun q hq e => (q3 q hq).2 e), hRS.out, F7, N1, N3⟩
          · rw [if_pos hE1] at HF
            obtain ⟨rfl, rfl, rfl⟩ : Y = YF ∧ 0 = gF ∧ E = eF := by simpa using HF.out
            clear HF
            go_wp2_with (first
              | (with_reducible refine at_wpP ?_; refine at_ld 39 _ rfl ?_; refine wpList_ldD rfl _ rfl g2 rfl _ _ _ _ _ _ bW ?_)
              | (with_reducible refine at_wpP ?_; refine at_st 39 _ _ rfl ?_; go_must (refine wpList_stD rfl _ _ rfl g4 rfl _ _ _ _ _ _ rfl _ hb4 rfl hi1 hi2 hi3' ?_; intro w5 b5 f5)))
            refine bodyPost_ret (results_disk3 Try.results15 _ w5 g4 _ _ _ _ _ _ rfl b5) rfl ?_
            have z55 := f5.size
            have F5 : Fr noB w w5 := FW.thenT f5 (fun i hi q => by unfold onB1 at q; omega)
            exact ⟨v1, v3', L', rfl, sW1.fr f5 (fun q hq e => by have := hn1 q hq; unfold onB1 at e; omega), sW3.fr f5 (fun q hq e => (hq3' q hq).2 e), hRY.out, F5, nwB.refl _ _ _, nw3.wid (by omega) (by omega)⟩
    · rw [if_pos hE]
      go_enter Try.func15, Try.ntmps15
      go_wp2_with (first
        | (with_reducible refine at_wpP ?_; refine wpList_boxV rfl 39 _ rfl (dkL v1 v2 v3 c l X.down) rfl ?_; intro g2 w1 hg2 bx1 f1 s1; have l1 := bx1.lt)
        | (with_reducible refine at_wpP ?_; refine wpList_allocD rfl rfl ?_; intro g4 w2 hg4 b2 f2 s2; have l2 := b2.lt; have bx2 := bx1.fr0 f2; have z1 := f1.size)
        | (with_reducible refine at_wpP ?_; have f3' := f3; refine at_ld 39 _ rfl ?_; refine wpList_ldD rfl _ rfl g2 rfl _ _ _ _ _ _ (bx2.fr0 f3) ?_)
        | (with_reducible refine at_wpP ?_; refine at_ld 39 _ rfl ?_; refine wpList_ldD rfl _ rfl g2 rfl _ _ _ _ _ _ bx2 ?_)
        | (go_at_call 26; go_must (refine (hnx.out _ ((hV.fr0 f1).fr0 f2)).mono ?_; rintro e w3 ⟨rfl, f3⟩))
        | (with_reducible refine at_wpP ?_; refine at_st 39 _ _ rfl ?_; go_must (refine wpList_stD rfl _ _ rfl g4 rfl _ _ _ _ _ _ rfl _ (b2.fr0 f3) rfl hi1 hi2 hi3 ?_; intro w4 b4 f4)))
      refine bodyPost_ret (results_disk3 Try.results15 _ w4 g4 _ _ _ _ _ _ rfl b4) rfl ?_
      have z2 := f2.size
      have F4 : Fr noB w w4 := ((f1.thenN f2).thenN f3).thenT f4 (fun i hi q => by unfold onB1 at q; omega)
      exact ⟨v1, v3, l, rfl, hV.s1.fr0 F4, hV.s3.fr0 F4, hRX, F4, nwB.refl _ _ _, nwB.refl _ _ _⟩
end Go.Proofs.Ytijgfojnppcbjaa
/- RootTurns. -/
namespace Go.Proofs.Ytijgfojnppcbjaa
open Go.RowKit Go.Proofs.U
set_option linter.unusedSimpArgs false
set_option linter.unusedVariables false
theorem putS_two {X : DSt} {p q : List Int} (h : Two X p q) (G : Int) {r : List Int} (hr : r.length = 256) (br : Byt r) (Y : DSt) (hp : Y.pages = [putS0 G r p, putS1 G r q]) (hq : Y.pend = []) (hb : Y.bad = X.bad) : Two Y (putS0 G r p) (putS1 G r q) := by
  refine ⟨hp, hq, by rw [hb]; exact h.bad, ?_, ?_, ?_, ?_⟩
  · unfold putS0; split; exact hr; exact h.lp
  · unfold putS1; split; exact h.lq; exact hr
  · unfold putS0; split; exact br; exact h.bp
  · unfold putS1; split; exact h.bq; exact br
theorem turn_ok {X : DSt} {p q : List Int} (h : Two X p q) (hd : X.down = false) (hl : X.left = -1) {last : Int} (h1 : (newest p q).1 = last) (h2 : top p q = last) (hb : last ≤ 1000) (c : List Int) (hc : c.length ≤ 186) (bc : Byt c) :
    rNext X = (last + 1, 0) ∧ ∃ Y p' q', rWrite X c = (Y, last + 1, 0) ∧ Two Y p' q' ∧ Y.down = false ∧ Y.left = -1 ∧ (newest p' q').1 = last + 1 ∧ top p' q' = last + 1 ∧ rRead Y = (c, last + 1, 0) := by
  have h0 := top_nn p q
  have hG : nextG X = last + 1 := by
    have := h.nxG.2.2.2.2
    rw [h1, h2] at this
    exact this (by omega)
  have hx := h.nx (by omega)
  rw [hG] at hx
  refine ⟨hx, ?_⟩
  have hw := h.goes (by omega) hd (by omega) c hc
  rw [hG, hl] at hw
  simp only [show ¬ ((-1 : Int) = 1) by decide, if_false, show ¬ ((0 : Int) < -1) by decide] at hw
  have hR := rootP_len (last + 1) c
  have bR := rootP_byt (last + 1) bc
  have hT := putS_two h (last + 1) hR bR _ (rfl : ({ X with left := -1, pages := [putS0 (last + 1) (rootP (last + 1) c) p, putS1 (last + 1) (rootP (last + 1) c) q] } : DSt).pages = _) h.pend rfl
  have hN := newest_new h.bp h.bq (G := last + 1) (by omega) (by omega) c hc
  refine ⟨_, _, _, hw, hT, hd, rfl, by rw [hN], ?_, ?_⟩
  · apply Int.le_antisymm
    · refine top_put (by omega) (by omega) (fun s hs => ?_)
      rw [genAt_root _ ⟨by omega, by omega⟩ _ s hs]; exact Int.le_refl _
    · have := newest_top hT.bp hT.bq
      rw [hN] at this; exact this
  · rw [hT.rd, hN]
    simp only
    rw [if_neg (by omega)]
theorem two_new : Two (newD 2) zeroP zeroP := ⟨rfl, rfl, fun _ => rfl, zeroP_len, zeroP_len, zeroP_byt, zeroP_byt⟩
theorem new_newest : newest zeroP zeroP = (0, []) := by kernel_rfl
theorem new_top : top zeroP zeroP = 0 := by kernel_rfl
theorem write_long {X : DSt} {c : List Int} (h : 186 < c.length) : rWrite X c = (X, 0, 51) := by unfold rWrite; rw [if_pos h]
theorem str_refl (l : List Int) : ((strOfNums l).toList == (strOfNums l).toList) = true := by simp

set_option maxRecDepth 100000 in
set_option maxHeartbeats 4000000 in
theorem turns5_walk (v : Value) (ls : List (List Int)) (w : World) (hS : SlB w v ls) :
    Calls Try.prog 6 #[v] w fun r w' => r = .returned (.bool true) ∧ Below w.heap.size w w' := by
  obtain ⟨a, cap, rfl, hcap⟩ := hS.opn
  obtain ⟨vs, hV, hin⟩ := hS
  by_cases hgr : 30 < ls.length
  · have hgr' : (30 : Int) < (ls.length : Int) := by omega
    go_enter Try.func6, Try.ntmps6
    go_wp2_with (first
      | (go_at_call 12; go_must (refine (ralive_any _).mono ?_; rintro e w1 ⟨rfl, f1⟩)))
    go_ret
    exact ⟨rfl, f1.below⟩
  · have hgr' : ¬ (30 : Int) < (ls.length : Int) := by omega
    have htwo := show Hid _ from two_new
    have hnw := show Hid _ from new_newest
    have htp := show Hid _ from new_top
    have hd0 : Hid ((newD 2).down = false) := rfl
    have hl0 : Hid ((newD 2).left = -1) := rfl
    obtain ⟨X0, HX0⟩ : ∃ X, Hid (newD 2 = X) := ⟨_, rfl⟩
    rw [HX0.out] at htwo hd0 hl0
    go_enter Try.func6, Try.ntmps6
    go_wp2_with (first
      | (go_at_call 12; go_must (refine (ralive_any _).mono ?_; rintro e w1 ⟨rfl, f1⟩))
      | (go_at_call 8; go_must (refine (new_any 2 (by omega) _).mono ?_; rw [HX0.out]; rintro e w2 ⟨g, rfl, d2, f2⟩)))
    have z1 := f1.size
    have d2 : Disk w2 (fun k => w.heap.size ≤ k) g X0 := d2.mono (fun k _ q => by omega)
    go_loopw [4, 22] (fun t i wr => ∃ (k : Nat) (X : DSt) (p q : List Int) (last : Int), k ≤ ls.length ∧ i = .int .i64 (k : Int) ∧ t = .int .u64 last ∧ Disk wr (fun k => w.heap.size ≤ k) g X ∧ Hid (Two X p q ∧ X.down = false ∧ X.left = -1 ∧ (newest p q).1 = last ∧ top p q = last) ∧ 0 ≤ last ∧ last ≤ k ∧ Fr noB w wr) (fun _ i _ => ls.length - (intOf i).toNat)
    case atStart => exact ⟨0, X0, zeroP, zeroP, 0, by omega, rfl, rfl, d2, show _ ∧ _ from ⟨htwo.out, hd0.out, hl0.out, by rw [hnw.out], htp.out⟩, by omega, by omega, f1.thenN f2⟩
    case round =>
      obtain ⟨k, X, p, q, last, hk, rfl, rfl, hD, hT, hl1, hl2, hf⟩ := hrel
      have hp0 : Hid (X.pend = []) := hT.out.1.pend
      have hby : X.byt := hT.out.1.byt
      by_cases hlt : k < ls.length
      · have hlt' : (k : Int) < (ls.length : Int) := by omega
        have hink := hin k hlt
        obtain ⟨c, HC⟩ : ∃ c, Hid (ls[k] = c) := ⟨ls[k], (rfl : ls[k] = ls[k])⟩
        rw [HC.out] at hink
        have hVr := hV.fr0 hf
        have hpl : X.pend.length ≤ 90000 := by rw [hp0.out]; simp
        have zf := hf.size
        by_cases hc : 186 < c.length
        · have hc' : (186 : Int) < (c.length : Int) := by omega
          have hwr := show Hid _ from fun (W : World) (v : Value) (h : Disk W (fun k => w.heap.size ≤ k) g X) (hS : SlI .u8 W v c) => rwrite_p g v c W h hpl hby hS
          simp only [write_long hc] at hwr
          have hnx := show Hid _ from fun (W : World) (h : Disk W (fun k => w.heap.size ≤ k) g X) => rnext_p g W h (by omega) hby
          obtain ⟨⟨N1, N2⟩, HN⟩ : ∃ R, Hid (rNext X = R) := ⟨_, rfl⟩
          simp only [HN.out] at hnx
          go_wp2_with (first
            | (refine at_idx 64 _ _ rfl ?_; go_must (refine wpList_idx1 rfl 64 _ _ rfl 24 Try.underlying64 size24 _ _ _ rfl hVr _ _ k rfl rfl hlt ?_; intro pa u hu hcell; have hul := (hink u hu).fr0 hf; obtain ⟨a2, c2, rfl, hc2⟩ := hul.opn))
            | (go_at_call 11; go_must (refine (hnx.out _ hD).mono ?_; rintro e w3 ⟨rfl, f3⟩))
            | (go_at_call 10; go_must (refine (hwr.out _ _ (hD.fr0 f3) (hul.fr0 f3)).mono ?_; rintro e w4 ⟨rfl, d4, f4⟩)))
          go_roundw
          case rel =>
            have z3 := f3.size
            exact ⟨k + 1, X, p, q, last, by omega, by go_num, rfl, d4.mono (fun b _ q => by rcases q with q | q; exact q; omega), hT, hl1, by omega, (hf.thenN f3).thenT f4 (fun b hb q => by omega)⟩
          case measure => simp [intOf]; omega
        · have hc' : ¬ (186 : Int) < (c.length : Int) := by omega
          have bc : Byt c := (hink _ (List.getElem?_eq_getElem (by have := hV; obtain ⟨_, _, _, _, h2, _⟩ := this; omega))).2
          obtain ⟨hx, Y, p', q', hw, hT', hd', hl', hn', ht', hr'⟩ := turn_ok hT.out.1 hT.out.2.1 hT.out.2.2.1 hT.out.2.2.2.1 hT.out.2.2.2.2 (by omega) c (by omega) bc
          have hbY : Y.byt := hT'.byt
          have hpY : Y.pend.length ≤ 90000 := by rw [hT'.pend]; simp
          have hwr := show Hid _ from fun (W : World) (v : Value) (h : Disk W (fun k => w.heap.size ≤ k) g X) (hS : SlI .u8 W v c) => rwrite_p g v c W h hpl hby hS
          simp only [hw] at hwr
          have hnx := show Hid _ from fun (W : World) (h : Disk W (fun k => w.heap.size ≤ k) g X) => rnext_p g W h (by omega) hby
          simp only [hx] at hnx
          have hrr := show Hid _ from fun (F : Nat → Prop) (W : World) (h : Disk W F g Y) => rread_p g W h (by omega) hbY
          unfold ReadIs at hrr
          simp only [hr'] at hrr
          have hT' : Hid (Two Y p' q' ∧ Y.down = false ∧ Y.left = -1 ∧ (newest p' q').1 = last + 1 ∧ top p' q' = last + 1) := ⟨hT', hd', hl', hn', ht'⟩
          have hst := str_refl c
          clear hx hw hd' hl' hn' ht' hr' hbY hpY
          go_wp2_with (first
            | (refine at_idx 64 _ _ rfl ?_; go_must (refine wpList_idx1 rfl 64 _ _ rfl 24 Try.underlying64 size24 _ _ _ rfl hVr _ _ k rfl rfl hlt ?_; intro pa u hu hcell; have hul := (hink u hu).fr0 hf; obtain ⟨a2, c2, rfl, hc2⟩ := hul.opn))
            | (go_at_call 11; go_must (refine (hnx.out _ hD).mono ?_; rintro e w3 ⟨rfl, f3⟩))
            | (go_at_call 10; go_must (refine (hwr.out _ _ (hD.fr0 f3) (hul.fr0 f3)).mono ?_; rintro e w4 ⟨rfl, d4, f4⟩))
            | (go_at_call 9; go_must (refine (hrr.out _ _ d4).mono ?_; rintro e w5 ⟨v5, rfl, i5, n5, f5⟩; have z3 := f3.size; have F4 : Fr noB w w4 := (hf.thenN f3).thenT f4 (fun b hb q => by omega); have I5 : SlI .u8 w5 (.slice a2 c.length c2) c := (hink _ hu).fr0 (F4.thenN f5); obtain ⟨a5, c5, rfl, hc5⟩ := i5.opn))
            | (refine at_conv 24 9 _ rfl ?_; first | (refine wpList_str rfl _ 24 9 5 rfl Try.underlying24 Try.underlying5 Try.underlying9 _ _ rfl i5 ?_) | (refine wpList_str rfl _ 24 9 5 rfl Try.underlying24 Try.underlying5 Try.underlying9 _ _ rfl I5 ?_)))
          go_roundw
          case rel =>
            have z4 := F4.size
            exact ⟨k + 1, Y, p', q', last + 1, by omega, by go_num, rfl, (d4.fr0 f5).mono (fun b _ q => by rcases q with q | q; exact q; omega), hT', by omega, by omega, F4.thenN f5⟩
          case measure => simp [intOf]; omega
      · have hlt' : ¬ (k : Int) < (ls.length : Int) := by omega
        go_wp2
        go_ret
        exact ⟨rfl, hf.below⟩
end Go.Proofs.Ytijgfojnppcbjaa
