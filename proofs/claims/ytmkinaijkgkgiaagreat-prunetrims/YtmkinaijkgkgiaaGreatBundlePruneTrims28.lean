/- Texts UY, UZ, VA, TC, VD of the proof of PruneTrims, one behind the other. -/
import Derived.Test.YtmkinaijkgkgiaaGreatBundlePruneTrims1
import Derived.Test.YtmkinaijkgkgiaaGreatBundlePruneTrims2
import Derived.Test.YtmkinaijkgkgiaaGreatBundlePruneTrims3
import Derived.Test.YtmkinaijkgkgiaaGreatBundlePruneTrims4
import Derived.Test.YtmkinaijkgkgiaaGreatBundlePruneTrims5
import Derived.Test.YtmkinaijkgkgiaaGreatBundlePruneTrims6
import Derived.Test.YtmkinaijkgkgiaaGreatBundlePruneTrims7
import Derived.Test.YtmkinaijkgkgiaaGreatBundlePruneTrims8
import Derived.Test.YtmkinaijkgkgiaaGreatBundlePruneTrims9
import Derived.Test.YtmkinaijkgkgiaaGreatBundlePruneTrims10
import Derived.Test.YtmkinaijkgkgiaaGreatBundlePruneTrims11
import Derived.Test.YtmkinaijkgkgiaaGreatBundlePruneTrims12
import Derived.Test.YtmkinaijkgkgiaaGreatBundlePruneTrims13
import Derived.Test.YtmkinaijkgkgiaaGreatBundlePruneTrims14
import Derived.Test.YtmkinaijkgkgiaaGreatBundlePruneTrims15
import Derived.Test.YtmkinaijkgkgiaaGreatBundlePruneTrims16
import Derived.Test.YtmkinaijkgkgiaaGreatBundlePruneTrims17
import Derived.Test.YtmkinaijkgkgiaaGreatBundlePruneTrims18
import Derived.Test.YtmkinaijkgkgiaaGreatBundlePruneTrims19
import Derived.Test.YtmkinaijkgkgiaaGreatBundlePruneTrims20
import Derived.Test.YtmkinaijkgkgiaaGreatBundlePruneTrims21
import Derived.Test.YtmkinaijkgkgiaaGreatBundlePruneTrims22
import Derived.Test.YtmkinaijkgkgiaaGreatBundlePruneTrims23
import Derived.Test.YtmkinaijkgkgiaaGreatBundlePruneTrims24
import Derived.Test.YtmkinaijkgkgiaaGreatBundlePruneTrims25
import Derived.Test.YtmkinaijkgkgiaaGreatBundlePruneTrims26
import Derived.Test.YtmkinaijkgkgiaaGreatBundlePruneTrims27
/- without, whatever its level; no condition. -/
namespace Go.Proofs.YtmkinaijkgkgiaaGreat
open Go.RowKit Go.Proofs.U
set_option linter.unusedSimpArgs false
set_option linter.unusedVariables false
theorem InvT.get {X : DSt} {L : List Pg} {R : List Int} {T : List Nat} (h : InvT X L R T) {p : Int} (h0 : 0 ≤ p) (hq : 0 < cntT L T p.toNat) : getF X L p = ((rdN X p).1, 0) := by
  unfold getF
  rw [h.held h0 hq, if_pos rfl]
  have := h.rd p.toNat hq
  rw [Int.toNat_of_nonneg h0] at this
  exact Prod.ext rfl this
theorem wio_any {X : DSt} {L : List Pg} {R : List Int} {T : List Nat} {m : Nat} (hI : InvT X L R T) (hm : m ≤ 70000) (key : Int) {F : Nat → Prop} {gs gp : Nat} : ∀ (lv : Nat) {es : List (Int × Int)} {lo hi : Int} (w : World) (base : Nat) (nb : List Int) (v : Value), lv ≤ 8 → WiA w F gs gp base X L m lv nb es v → KeysUp es → 1 ≤ es.length → es.length ≤ 6 → okN X lv es lo hi → (∀ x ∈ es, (0 ≤ x.1 ∧ x.1 ≤ 63 ∧ 0 ≤ x.2 ∧ x.2 ≤ 239) ∧ 0 < cntT L T x.2.toNat) → 0 ≤ lo → hi ≤ 64 →
    (∃ z ∈ lsN X lv es, z.1 = key) → lv ≤ plFree L → (∀ q, cntL L q + 6 * lv ≤ 255) → ∀ {X' : DSt} {L' : List Pg} {es' : List (Int × Int)}, wioF X L lv es key = ((X', L'), es', 0) →
    Calls Tryz.prog 58 #[trV gs, ndV (kdL lv) nb v, .int .i64 key] w fun r w' => WioC w w' F gs gp base v (kdL lv) nb ((X', L'), es', 0) (m + 2 * lv) r
  | 0, es, lo, hi, w, base, nb, v, _, A, hu, h1, h6, hn, hlive, hlo, hhi, hk, hf, hc, X', L', es', he => by
    unfold wioF at he
    cases he
    exact wio_at0 A key hu h6 hk
  | lv + 1, es, lo, hi, w, base, nb, v, hlv, A, hu, h1, h6, hn, hlive, hlo, hhi, hk, hf, hc, X', L', es', he => by
    have hri : rises (-1) es = true := rises_up hu fun x hx => ⟨by have := hlive x hx; omega, by have := hlive x hx; omega⟩
    obtain ⟨hj, hsp, hca, hcb⟩ := pick_is (key := key) hri h1
    obtain ⟨A', c, B, hes, hpk, hok, hkA, hkB, hkc, hck⟩ := pick_has hu h1 hn hri hk
    have hgc : es[pickX es key] = c := by
      have : es[pickX es key] = es.getD (pickX es key) (0, 0) := by simp [List.getD, hj]
      rw [this, hpk]; exact getD_at hes
    have hgd : es.getD (pickX es key) (0, 0) = c := by rw [hpk]; exact getD_at hes
    have hAt : ∀ i, AtIs es key i → i = ((pickX es key : Nat) : Int) := fun i hi' => at_one hj (by rw [hgc]; exact hck) hcb hu hi'
    have hcm : c ∈ es := by rw [hes]; simp
    have hcl := hlive c hcm
    have hrngc := hn.1 c hcm
    have hnxt : nxt B hi ≤ 64 := by
      cases B with
      | nil => exact hhi
      | cons y r => have := hlive y (by rw [hes]; simp); simp only [nxt]; omega
    obtain ⟨cu, c1, c6, cr⟩ := hok.es
    have ckid : ∀ y ∈ es, ∀ x ∈ esX X y.2, 0 < cntT L T x.2.toNat := fun y hy x hx => (hI.kid (hlive y hy).1.2.2.1 (hlive y hy).2 x.2 (by unfold kids; exact List.mem_map_of_mem hx)).2.2
    have hl2 : ∀ x ∈ esX X c.2, (0 ≤ x.1 ∧ x.1 ≤ 63 ∧ 0 ≤ x.2 ∧ x.2 ≤ 239) ∧ 0 < cntT L T x.2.toNat := fun x hx => ⟨cr x hx, ckid c hcm x hx⟩
    have hkc' : ∃ z ∈ lsN X lv (esX X c.2), z.1 = key := by rw [← lsT_N]; exact hkc
    obtain ⟨X1, L1, c', M1, ew, hU1, s⟩ := wio_ok hI key lv (es := esX X c.2) (lo := c.1) (hi := nxt B hi) A.st.up cu c1 hok.n hl2 (by omega) hnxt hkc' (by omega) (fun q => by have := hc q; omega)
    have hmono : ∀ q : Nat, 0 < cntT L T q → 0 < cntT L1 (M1 ++ T) q := fun q hq => by
      have := (s.ext.kp q (hI.live hq).1).2.2
      unfold cntT at hq ⊢
      rw [List.count_append]; omega
    have hpl : placeF (X1, L1) (kdL lv) es (pickX es key) c' = ((X', L'), es', 0) := by
      unfold wioF at he
      rw [hgd, ew] at he
      rw [← he]
      exact (if_pos rfl).symm
    have hrec := fun (W : World) (b : Nat) (u : Value) (AA : WiA W F gs gp b X L m lv (rdN X c.2).1.b (rdN X c.2).1.es u) => wio_any hI hm key (F := F) (gs := gs) (gp := gp) lv (es := esX X c.2) (lo := c.1) (hi := nxt B hi) W b (rdN X c.2).1.b u (by omega) AA cu c1 c6 hok.n hl2 (by omega) hnxt hkc' (by omega) (fun q => by have := hc q; omega) ew
    have hok1 : ∀ y ∈ es, ∃ w', okT X1 lv y.2 y.1 w' := fun y hy => by
      obtain ⟨w', hw'⟩ := okC_mem hn.2 y hy
      exact ⟨w', (okT.ext hI s.ext hw' (hlive y hy).1.2.2.1 (hlive y hy).2).1⟩
    have r := wio_atS (lv := lv) (N := (rdN X c.2).1) (y := c) A key (by omega) (by omega : m + 2 * lv ≤ 80000) h6 hj hgc hAt (hI.get hcl.1.2.2.1 hcl.2) hok.kd c6 hrec (fun x hx => by
      have := (s.mem x hx).1
      exact ⟨wfSm (by omega) (by omega), wfSm (by omega) (by omega)⟩) (by have := s.ln; omega) (fun y hy => ⟨s.iv.get (hlive y hy).1.2.2.1 (hmono _ (hlive y hy).2), by
      obtain ⟨w', hw'⟩ := hok1 y hy
      exact hw'.es.2.2.1⟩) (fun y hy x hx => by
      obtain ⟨w', hw'⟩ := hok1 y hy
      have := hw'.es.2.2.2 x hx
      exact ⟨wfSm (by omega) (by omega), wfSm (by omega) (by omega)⟩) hpl
    have e3 : kdL (lv + 1) = 3 := rfl
    rw [e3, show m + 2 * (lv + 1) = m + 2 * lv + 2 by omega]
    exact r
end Go.Proofs.YtmkinaijkgkgiaaGreat
/- cut: the root of a tree without a key that is in it; no condition. (Written by uz_gen.py.) -/
namespace Go.Proofs.YtmkinaijkgkgiaaGreat
open Go.RowKit Go.Proofs.U
set_option linter.unusedSimpArgs false
set_option linter.unusedVariables false
/-- While the child's tree is cut. -/
def JCt (w0 : World) (F : Nat → Prop) (gs gp : Nat) (S : DSt × List Pg) (m : Nat) (V : Value) : List Value → World → Prop
  | [], W => W = w0
  | [v], W => v = V ∧ ∃ F', StT w0 W F F' gs gp S m
  | _, _ => False
theorem JCt.z {w0 : World} {F : Nat → Prop} {gs gp : Nat} {S : DSt × List Pg} {m : Nat} {V : Value} {hv : List Value} {W : World} (h : JCt w0 F gs gp S m V hv W) (hl : hv.length ≤ 0) : W = w0 := by
  have : hv = [] := List.eq_nil_of_length_eq_zero (by omega)
  subst this
  exact h
theorem JCt.val {w0 : World} {F : Nat → Prop} {gs gp : Nat} {S : DSt × List Pg} {m : Nat} {V : Value} : ∀ {hv : List Value} {W : World} {x : Value}, JCt w0 F gs gp S m V hv W → hv[0]? = some x → x = V
  | [], _, _, _, h => by simp at h
  | [v], _, _, j, h => by simp at h; subst h; exact j.1
  | _ :: _ :: _, _, _, j, _ => j.elim
theorem soleN_lv (lv : Nat) (nb : List Int) (es : List (Int × Int)) : soleN ⟨kdL lv, nb, es⟩ = (decide (0 < lv) && decide (es.length = 1)) := by
  unfold soleN kdL
  cases lv with
  | zero => rfl
  | succ lv =>
    simp only [Nat.succ_ne_zero, if_false]
    have e : ((es.length : Int) == 1) = decide (es.length = 1) := by
      by_cases h : es.length = 1
      · simp [h]
      · have : ¬ ((es.length : Int) = 1) := by omega
        simp [h, this]
    rw [e]
    simp
set_option maxRecDepth 100000 in
set_option maxHeartbeats 4000000 in
theorem cut_sole {w : World} {F : Nat → Prop} {gs gp : Nat} {X X' : DSt} {L L' : List Pg} {m m1 : Nat} {p key p' : Int} {N : Nd} {c : Int × Int} (hm : m ≤ 90000) (h : Sto w F gs gp X L m) (hg : getF X L p = (N, 0)) (hsole : soleN N = true) (hes : N.es = [c])
    (hrec : ∀ W, Sto W F gs gp X L m → Calls Tryz.prog 34 #[trV gs, .int .i64 c.2, .int .i64 key] W fun r w' => TopIs W w' F gs gp (X', L') p' 0 m1 r) :
    Calls Tryz.prog 34 #[trV gs, .int .i64 p, .int .i64 key] w fun r w' => TopIs w w' F gs gp (X', L') p' 0 m1 r := by
  have hG := fun W (f : Fr noB w W) => nget_own p W (h.fr0 f) (by omega)
  rw [hg] at hG
  have hes := show Hid _ from hes
  go_enter Tryz.func34, Tryz.ntmps34
  go_upto_region 5 with (first
    | (with_reducible refine at_wpP ?_; refine wpList_boxG rfl 28 _ rfl (trV gs) [ptr gs] rfl rfl ?_; intro g3 w3 hg3 b3 f3 s3; have l3 := b3.lt; have z3 := f3.size; have c3 := pr_cell b3)
    | (go_at_call 40; go_must (refine (hG _ f3).mono ?_; rintro e w4 ⟨v, rfl, n4, o4, f4, q4⟩; have z4 := f4.size; have hv := NdS.sl n4; replace hv := show Hid _ from hv; have hbl := NdS.bl n4; have c4 := b3.fr0 f4))
    | (with_reducible refine at_wpP ?_; have q := n4; refine wpList_allocN rfl rfl ?_; intro g8 w5 hg8 b5 f5 s5; have l5 := b5.lt; have z5 := f5.size)
    | (with_reducible refine at_wpP ?_; refine at_st 72 _ _ rfl ?_; have q := b5; go_must (refine wpList_stN rfl _ _ rfl g8 rfl N.k N.b v rfl hbl.out hv.out 0 (zerB 16) nilS b5 (zerB_len 16) ?_; intro w6 b6 f6; have z6 := f6.size; have F6 := Fr.ownX f5 s5 f6; have n6 := n4.fr0 F6; have c6 := c4.fr0 F6))
    | (with_reducible refine at_wpP ?_; refine at_ld 72 _ rfl ?_; have q := b6; go_must (refine wpList_ldN rfl _ rfl g8 rfl N.k N.b v b6 hbl.out ?_))
    | (go_at_call 57; have q := n6; go_must (refine (sole_any n6).mono ?_; rintro e w7 ⟨rfl, f7⟩; rw [hsole])))
  have F7 : Fr noB w w7 := ((f3.thenN f4).thenN F6).thenN f7
  have b7 := b6.fr0 f7
  have c7 := c6.fr0 f7
  have e7 := NdB.ents b7 hbl.out
  have n7 := n6.fr0 f7
  have H7 := h.fr0 F7
  have S7 : SlR enC 2 w7 v [c] := by have := n7.slr; rw [hes.out] at this; exact this
  obtain ⟨va, vc, hvv, _⟩ := S7.opn
  have hvv : v = .slice va 1 vc := hvv
  subst hvv
  obtain ⟨w0o, HWo⟩ : ∃ w0, Hid (w7.drew = w0) := ⟨_, rfl⟩
  have f0o : Fr noB w7 w0o := by rw [← HWo.out]; exact (Fr.refl _ _).drew
  have z0o := f0o.size
  obtain ⟨be, oe, hix, hcc⟩ := idx_raw S7 (j := 0) (by simp)
  have hc2 := f0o.cell (hcc 1 _ rfl) (fun q => q)
  have e7o := f0o.cell e7 (fun q => q)
  have c7o := c7.fr0 f0o
  have H7o := H7.fr0 f0o
  refine wp_region_chain_layT (by kernel_rfl) [7] [none, none, none, none, none, none, none, some 0, none, none, none, none]
    [fun v => v = trV gs, fun v => v = .pointer (some ⟨g8, 17, none⟩), fun v => v = .slice va 1 vc, fun v => v = .pointer (some ⟨be, oe, none⟩), fun v => v = .pointer (some ⟨be, oe + 1, none⟩), fun v => v = .int .i64 c.2, fun v => v = .int .i64 key, fun _ => True, fun v => v = .int .i64 p', fun v => v = .int .i64 0, fun v => v = .int .i64 p', fun v => v = .int .i64 0]
    (JCt w0o F gs gp (X', L') m1 (.tuple #[.int .i64 p', .int .i64 0])) (HWo.out) (by kernel_rfl) (by kernel_rfl) (by decide) ⟨?o0, ?o1, ?o2, ?o3, ?o4, ?o5, ?o6, ?o7, ?o8, ?o9, ?o10, ?o11, trivial⟩ ?oe
  case o0 =>
    intro A W hv hlen hJ hbase hdL hdH
    have e3 : A.eval (.tmp 3) = .pointer (some ⟨g3, 0, none⟩) := hbase 3 (by kernel_rfl)
    have f3 : A.tmps[3]?.getD undef = .pointer (some ⟨g3, 0, none⟩) := by simpa [Act.eval] using e3
    have hb := hlen.2 3 0 7 rfl (by kernel_rfl)
    obtain rfl := hJ.z hb
    have hr := run_ldP c7o
    exact light_val rfl (v := trV gs) (by simp [execOp, e3, hr, Result.andThen]) hJ rfl
  case o1 =>
    intro A W hv hlen hJ hbase hdL hdH
    have e8 : A.eval (.tmp 8) = .pointer (some ⟨g8, 0, none⟩) := hbase 8 (by kernel_rfl)
    have f8 : A.tmps[8]?.getD undef = .pointer (some ⟨g8, 0, none⟩) := by simpa [Act.eval] using e8
    exact light_val rfl (v := .pointer (some ⟨g8, 17, none⟩)) (by simp [execOp, go_sem, e8, f8]) hJ rfl
  case o2 =>
    intro A W hv hlen hJ hbase hdL hdH
    have e25 : A.eval (.tmp 25) = .pointer (some ⟨g8, 17, none⟩) := hdL 1 25 (by kernel_rfl) (by kernel_rfl) (by kernel_rfl)
    have f25 : A.tmps[25]?.getD undef = .pointer (some ⟨g8, 17, none⟩) := by simpa [Act.eval] using e25
    have hb := hlen.2 6 0 7 rfl (by kernel_rfl)
    obtain rfl := hJ.z hb
    exact light_val rfl (v := .slice va 1 vc) (by simp [execOp, go_sem, e25, f25, e7o]) hJ rfl
  case o3 =>
    intro A W hv hlen hJ hbase hdL hdH
    have e26 : A.eval (.tmp 26) = .slice va 1 vc := hdL 2 26 (by kernel_rfl) (by kernel_rfl) (by kernel_rfl)
    have f26 : A.tmps[26]?.getD undef = .slice va 1 vc := by simpa [Act.eval] using e26
    have hr : (Instr.indexAt 31 (.slice va 1 vc) (.int .i64 0)).run Tryz.prog W = .ok (.pointer (some ⟨be, oe, none⟩)) W := hix W
    have ec : A.eval (.const (.int .i64 0)) = .int .i64 0 := rfl
    exact light_val rfl (v := .pointer (some ⟨be, oe, none⟩)) (by simp [execOp, e26, ec, hr, Result.andThen]) hJ rfl
  case o4 =>
    intro A W hv hlen hJ hbase hdL hdH
    have e27 : A.eval (.tmp 27) = .pointer (some ⟨be, oe, none⟩) := hdL 3 27 (by kernel_rfl) (by kernel_rfl) (by kernel_rfl)
    have f27 : A.tmps[27]?.getD undef = .pointer (some ⟨be, oe, none⟩) := by simpa [Act.eval] using e27
    exact light_val rfl (v := .pointer (some ⟨be, oe + 1, none⟩)) (by simp [execOp, go_sem, e27, f27]) hJ rfl
  case o5 =>
    intro A W hv hlen hJ hbase hdL hdH
    have e28 : A.eval (.tmp 28) = .pointer (some ⟨be, oe + 1, none⟩) := hdL 4 28 (by kernel_rfl) (by kernel_rfl) (by kernel_rfl)
    have f28 : A.tmps[28]?.getD undef = .pointer (some ⟨be, oe + 1, none⟩) := by simpa [Act.eval] using e28
    have hb := hlen.2 3 0 7 rfl (by kernel_rfl)
    obtain rfl := hJ.z hb
    exact light_val rfl (v := .int .i64 c.2) (by simp [execOp, go_sem, e28, f28, hc2]) hJ rfl
  case o6 =>
    intro A W hv hlen hJ hbase hdL hdH
    have e2 : A.eval (.tmp 2) = .int .i64 key := hbase 2 (by kernel_rfl)
    have f2 : A.tmps[2]?.getD undef = .int .i64 key := by simpa [Act.eval] using e2
    exact light_val rfl (v := .int .i64 key) (by simp [execOp, e2, f2]) hJ rfl
  case o7 =>
    intro A W hv hlen hJ hbase hdL hdH
    have e24 : A.eval (.tmp 24) = trV gs := hdL 0 24 (by kernel_rfl) (by kernel_rfl) (by kernel_rfl)
    have f24 : A.tmps[24]?.getD undef = trV gs := by simpa [Act.eval] using e24
    have e29 : A.eval (.tmp 29) = .int .i64 c.2 := hdL 5 29 (by kernel_rfl) (by kernel_rfl) (by kernel_rfl)
    have f29 : A.tmps[29]?.getD undef = .int .i64 c.2 := by simpa [Act.eval] using e29
    have e30 : A.eval (.tmp 30) = .int .i64 key := hdL 6 30 (by kernel_rfl) (by kernel_rfl) (by kernel_rfl)
    have f30 : A.tmps[30]?.getD undef = .int .i64 key := by simpa [Act.eval] using e30
    obtain rfl : hv = [] := List.eq_nil_of_length_eq_zero hlen
    obtain rfl := (show W = _ from hJ)
    refine heavy_call rfl (args := #[trV gs, .int .i64 c.2, .int .i64 key]) (f := 34) (by simp [execOp, resolve, invoke, go_sem, e24, f24, e29, f29, e30, f30]) ?_
    refine (hrec W H7o).mono ?_
    rintro e1 w' ⟨F', rfl, T⟩
    exact ⟨_, rfl, rfl, F', T⟩
  case o8 =>
    intro A W hv hlen hJ hbase hdL hdH
    have ev := hJ.val (hdH 7 31 0 (by kernel_rfl) rfl (by kernel_rfl))
    have fv : A.tmps[31]?.getD undef = .tuple #[.int .i64 p', .int .i64 0] := by simpa [Act.eval] using ev
    exact light_val rfl (v := .int .i64 p') (by simp [execOp, go_sem, ev, fv]) hJ rfl
  case o9 =>
    intro A W hv hlen hJ hbase hdL hdH
    have ev := hJ.val (hdH 7 31 0 (by kernel_rfl) rfl (by kernel_rfl))
    have fv : A.tmps[31]?.getD undef = .tuple #[.int .i64 p', .int .i64 0] := by simpa [Act.eval] using ev
    exact light_val rfl (v := .int .i64 0) (by simp [execOp, go_sem, ev, fv]) hJ rfl
  case o10 =>
    intro A W hv hlen hJ hbase hdL hdH
    have e32 : A.eval (.tmp 32) = .int .i64 p' := hdL 8 32 (by kernel_rfl) (by kernel_rfl) (by kernel_rfl)
    have f32 : A.tmps[32]?.getD undef = .int .i64 p' := by simpa [Act.eval] using e32
    exact light_val rfl (v := .int .i64 p') (by simp [execOp, e32, f32]) hJ rfl
  case o11 =>
    intro A W hv hlen hJ hbase hdL hdH
    have e33 : A.eval (.tmp 33) = .int .i64 0 := hdL 9 33 (by kernel_rfl) (by kernel_rfl) (by kernel_rfl)
    have f33 : A.tmps[33]?.getD undef = .int .i64 0 := by simpa [Act.eval] using e33
    exact light_val rfl (v := .int .i64 0) (by simp [execOp, e33, f33]) hJ rfl
  case oe =>
    intro vs W'o hv hlen hJ hL hH
    have x0 : vs 0 = trV gs := hL 0 (by kernel_rfl) (by kernel_rfl)
    have x1 : vs 1 = .pointer (some ⟨g8, 17, none⟩) := hL 1 (by kernel_rfl) (by kernel_rfl)
    have x2 : vs 2 = .slice va 1 vc := hL 2 (by kernel_rfl) (by kernel_rfl)
    have x3 : vs 3 = .pointer (some ⟨be, oe, none⟩) := hL 3 (by kernel_rfl) (by kernel_rfl)
    have x4 : vs 4 = .pointer (some ⟨be, oe + 1, none⟩) := hL 4 (by kernel_rfl) (by kernel_rfl)
    have x5 : vs 5 = .int .i64 c.2 := hL 5 (by kernel_rfl) (by kernel_rfl)
    have x6 : vs 6 = .int .i64 key := hL 6 (by kernel_rfl) (by kernel_rfl)
    have x7 : vs 7 = .tuple #[.int .i64 p', .int .i64 0] := hJ.val (hH 0 7 rfl (by kernel_rfl))
    have x8 : vs 8 = .int .i64 p' := hL 8 (by kernel_rfl) (by kernel_rfl)
    have x9 : vs 9 = .int .i64 0 := hL 9 (by kernel_rfl) (by kernel_rfl)
    have x10 : vs 10 = .int .i64 p' := hL 10 (by kernel_rfl) (by kernel_rfl)
    have x11 : vs 11 = .int .i64 0 := hL 11 (by kernel_rfl) (by kernel_rfl)
    simp only [layL, Nat.reduceAdd, Act.put, List.setIfInBounds_toArray, List.set_cons_zero, List.set_cons_succ, x0, x1, x2, x3, x4, x5, x6, x7, x8, x9, x10, x11]
    clear x0 x1 x2 x3 x4 x5 x6 x7 x8 x9 x10 x11 hL hH
    obtain ⟨v31, rfl⟩ := List.length_eq_one_iff.1 hlen
    obtain ⟨_, F', T⟩ := hJ
    go_wp2
    go_ret2
    exact ⟨F', rfl, T.pre (F7.thenN f0o)⟩
set_option maxRecDepth 100000 in
set_option maxHeartbeats 4000000 in
theorem cut_one {w : World} {F : Nat → Prop} {gs gp : Nat} {X X1 : DSt} {L L1 : List Pg} {m m1 lv : Nat} {p key : Int} {N : Nd} {es' : List (Int × Int)} {c : Int × Int} (hm : m ≤ 80000) (hm1 : m1 ≤ 80000) (h : Sto w F gs gp X L m) (hg : getF X L p = (N, 0)) (hNk : N.k = kdL lv) (hsole : soleN N = false) (hs2 : soleN ⟨N.k, N.b, es'⟩ = true)
    (hW : ∀ (W : World) (b : Nat) (u : Value), WiA W F gs gp b X L m lv N.b N.es u → Calls Tryz.prog 58 #[trV gs, ndV (kdL lv) N.b u, .int .i64 key] W fun r w' => WioC W w' F gs gp b u (kdL lv) N.b ((X1, L1), es', 0) m1 r)
    (hwf : ∀ x ∈ es', (Lit.int .i64 x.1).wf = true ∧ (Lit.int .i64 x.2).wf = true) (hl6 : es'.length ≤ 6) (hes : es' = [c]) :
    Calls Tryz.prog 34 #[trV gs, .int .i64 p, .int .i64 key] w fun r w' => TopIs w w' F gs gp (X1, L1) c.2 0 m1 r := by
  have hG := fun W (f : Fr noB w W) => nget_own p W (h.fr0 f) (by omega)
  rw [hg] at hG
  replace hNk := show Hid _ from hNk
  have hFt := h.ft
  have hgsl := h.lts
  have hgpl := h.ltp
  subst hes
  go_enter Tryz.func34, Tryz.ntmps34
  go_upto_region 6 with (first
    | (with_reducible refine at_wpP ?_; refine wpList_boxG rfl 28 _ rfl (trV gs) [ptr gs] rfl rfl ?_; intro g3 w3 hg3 b3 f3 s3; have l3 := b3.lt; have z3 := f3.size; have c3 := pr_cell b3)
    | (go_at_call 40; go_must (refine (hG _ f3).mono ?_; rintro e w4 ⟨v, rfl, n4, o4, f4, q4⟩; have z4 := f4.size; have hv := NdS.sl n4; replace hv := show Hid _ from hv; have hbl := NdS.bl n4; have c4 := b3.fr0 f4))
    | (with_reducible refine at_wpP ?_; have q := n4; refine wpList_allocN rfl rfl ?_; intro g8 w5 hg8 b5 f5 s5; have l5 := b5.lt; have z5 := f5.size)
    | (with_reducible refine at_wpP ?_; refine at_st 72 _ _ rfl ?_; have q := b5; go_must (refine wpList_stN rfl _ _ rfl g8 rfl N.k N.b v rfl hbl.out hv.out 0 (zerB 16) nilS b5 (zerB_len 16) ?_; intro w6 b6 f6; have z6 := f6.size; have F6 := Fr.ownX f5 s5 f6; have n6 := n4.fr0 F6; have c6 := c4.fr0 F6))
    | (with_reducible refine at_wpP ?_; refine at_ld 72 _ rfl ?_; have q := b6; go_must (refine wpList_ldN rfl _ rfl g8 rfl N.k N.b v b6 hbl.out ?_))
    | (go_at_call 57; have q := n6; go_must (refine (sole_any n6).mono ?_; rintro e w7 ⟨rfl, f7⟩; rw [hsole])))
  have F7 : Fr noB w w7 := ((f3.thenN f4).thenN F6).thenN f7
  have b7 := b6.fr0 f7
  have c7 := c6.fr0 f7
  have n7 := n6.fr0 f7
  have H7 := h.fr0 F7
  have q7 := (q4.fr0 F6).fr0 f7
  have z7 := f7.size
  have zF := F6.size
  have o4' : ∀ q, v.ownBlock = some q → w3.heap.size ≤ q ∧ q < w4.heap.size := fun q hq => q4.newB q hq
  have hnew : ∀ q, w.heap.size ≤ q → ¬ (F q ∨ q = gp ∨ q = gs) := fun q hq h => by
    rcases h with h | h | h
    · have := hFt q h; omega
    · omega
    · omega
  have hb16 := n7.2.1
  have hkw := n7.2.2.2
  have WA : WiA w7 F gs gp w3.heap.size X L m lv N.b N.es v := ⟨H7, by omega, q7, by
    have := n7
    obtain ⟨nk, nbb, nes⟩ := N
    have hNk' : nk = kdL lv := hNk.out
    simp only at this ⊢
    rw [← hNk']
    exact this, fun q hq => by
    have h1 := o4' q hq
    have h2 := hnew q (by omega)
    exact ⟨fun h => h2 (Or.inl h), fun h => h2 (Or.inr (Or.inl h)), fun h => h2 (Or.inr (Or.inr h)), by omega⟩⟩
  have hWc := hW w7 _ v WA
  rw [← hNk.out] at hWc
  have l7 := b7.lt
  have hvg8 : ¬ v.ownBlock = some g8 := fun hq => by have := o4' g8 hq; omega
  have sl8 : ∀ {W : World} {u : Value}, SlR enC 2 W u [c] → NdS W u ⟨N.k, N.b, [c]⟩ := fun hS => ⟨⟨hS, hwf⟩, hb16, by show List.length [c] ≤ 1000; omega, hkw⟩
  go_upto_region 10 with (first
    | (with_reducible refine at_wpP ?_; refine at_ld 28 _ rfl ?_; go_must (refine wpList_ldP rfl _ rfl g3 rfl gs c7 ?_))
    | (with_reducible refine at_wpP ?_; refine at_ld 72 _ rfl ?_; have q := b9; go_must (refine wpList_ldN rfl _ rfl g8 rfl N.k N.b v8 b9 hbl.out ?_))
    | (with_reducible refine at_wpP ?_; refine at_ld 72 _ rfl ?_; go_must (refine wpList_ldN rfl _ rfl g8 rfl N.k N.b v b7 hbl.out ?_))
    | (go_at_call 58; go_must (refine hWc.mono ?_; rintro e w8 ⟨F1, v8, rfl, T8, o8, p8⟩; have z8 := T8.fr.size; have b8 := b7.fr T8.fr (fun q => q.elim (fun h => absurd h hvg8) (fun h => absurd (h.imp id Or.inl) (hnew g8 (by omega)))); have c8 := c7.fr T8.fr (fun q => q.elim (fun h => by have := o4' g3 h; omega) (fun h => absurd (h.imp id Or.inl) (hnew g3 (by omega)))); have hv8 := OwnR.slx o8; replace hv8 := show Hid _ from hv8))
    | (with_reducible refine at_wpP ?_; refine at_st 72 _ _ rfl ?_; have q := b8; go_must (refine wpList_stN rfl _ _ rfl g8 rfl N.k N.b v8 rfl hbl.out hv8.out N.k N.b v b8 hbl.out ?_; intro w9 b9 f9; have z9 := f9.size; have c9 := c8.fr f9 (fun q => by unfold onB1 at q; omega); have o9 := o8.fr f9 (fun q hq h => (p8 q hq).2.elim (fun h' => by unfold onB1 at h; subst h; exact absurd h' hvg8) (fun h' => by unfold onB1 at h; omega)); have n9 := sl8 o9.sl))
    | (go_at_call 57; have q := n9; go_must (refine (sole_any n9).mono ?_; rintro e w10 ⟨rfl, f10⟩; rw [hs2])))
  have H9 : Sto w9 F1 gs gp X1 L1 m1 := T8.st.fr f9 (fun q hq hF hv => by
    unfold onB1 at hv
    subst hv
    rcases hF with h | h | h
    · rcases (T8.ft _ h).1 with h | h
      · exact hnew _ (by omega) (Or.inl h)
      · omega
    · omega
    · omega)
  have H10 := H9.fr0 f10
  have b10 := b9.fr0 f10
  have c10 := c9.fr0 f10
  have o10 := o9.fr0 f10
  have e10 := NdB.ents b10 hbl.out
  have F10 : Fr (stB F gp) w w10 := ((((F7.mono (fun _ _ q => q.elim)).thenT T8.fr (fun x hx q => by
    rcases q with q | q
    · have := o4' x q; omega
    · exact q)).thenT f9 (fun x hx q => by unfold onB1 at q; omega)).thenN f10)
  have hF1 : ∀ q, F1 q → (F q ∨ w.heap.size ≤ q) := fun q hq => ((T8.ft q hq).1).imp id (fun h => by omega)
  have z10 := f10.size
  have S10 : SlR enC 2 w10 v8 [c] := o10.sl
  obtain ⟨va, vc, hvv, _⟩ := S10.opn
  have hvv : v8 = .slice va 1 vc := hvv
  subst hvv
  go_wp2_with (first
    | (with_reducible refine at_wpP ?_; refine at_idx 31 _ _ rfl ?_; go_must (refine wpList_idxR rfl 31 _ _ rfl 40 uE 2 en_size enC (.slice va 1 vc) [c] rfl S10 (by decide) .i64 0 0 rfl rfl (by simp) ?_; intro eb eo heb hec; have hec1 := hec 1 _ rfl)))
  go_ret2
  exact ⟨F1, rfl, ⟨H10, fun q hq => ⟨hF1 q hq, H10.ft q hq⟩, F10⟩⟩
set_option maxRecDepth 100000 in
set_option maxHeartbeats 4000000 in
theorem cut_spl {w : World} {F : Nat → Prop} {gs gp : Nat} {X X1 X2 : DSt} {L L1 L2 : List Pg} {m m1 lv : Nat} {p key : Int} {N : Nd} {es' : List (Int × Int)} {t : Int × Int} (hm : m ≤ 80000) (hm1 : m1 ≤ 80000) (h : Sto w F gs gp X L m) (hg : getF X L p = (N, 0)) (hNk : N.k = kdL lv) (hsole : soleN N = false) (hs2 : soleN ⟨N.k, N.b, es'⟩ = false)
    (hW : ∀ (W : World) (b : Nat) (u : Value), WiA W F gs gp b X L m lv N.b N.es u → Calls Tryz.prog 58 #[trV gs, ndV (kdL lv) N.b u, .int .i64 key] W fun r w' => WioC W w' F gs gp b u (kdL lv) N.b ((X1, L1), es', 0) m1 r)
    (hwf : ∀ x ∈ es', (Lit.int .i64 x.1).wf = true ∧ (Lit.int .i64 x.2).wf = true) (hl6 : es'.length ≤ 6) (hs : splF (X1, L1) N.k es' = ((X2, L2), [t], 0)) :
    Calls Tryz.prog 34 #[trV gs, .int .i64 p, .int .i64 key] w fun r w' => TopIs w w' F gs gp (X2, L2) t.2 0 (m1 + 2) r := by
  have hG := fun W (f : Fr noB w W) => nget_own p W (h.fr0 f) (by omega)
  rw [hg] at hG
  replace hNk := show Hid _ from hNk
  have hFt := h.ft
  have hgsl := h.lts
  have hgpl := h.ltp
  go_enter Tryz.func34, Tryz.ntmps34
  go_upto_region 6 with (first
    | (with_reducible refine at_wpP ?_; refine wpList_boxG rfl 28 _ rfl (trV gs) [ptr gs] rfl rfl ?_; intro g3 w3 hg3 b3 f3 s3; have l3 := b3.lt; have z3 := f3.size; have c3 := pr_cell b3)
    | (go_at_call 40; go_must (refine (hG _ f3).mono ?_; rintro e w4 ⟨v, rfl, n4, o4, f4, q4⟩; have z4 := f4.size; have hv := NdS.sl n4; replace hv := show Hid _ from hv; have hbl := NdS.bl n4; have c4 := b3.fr0 f4))
    | (with_reducible refine at_wpP ?_; have q := n4; refine wpList_allocN rfl rfl ?_; intro g8 w5 hg8 b5 f5 s5; have l5 := b5.lt; have z5 := f5.size)
    | (with_reducible refine at_wpP ?_; refine at_st 72 _ _ rfl ?_; have q := b5; go_must (refine wpList_stN rfl _ _ rfl g8 rfl N.k N.b v rfl hbl.out hv.out 0 (zerB 16) nilS b5 (zerB_len 16) ?_; intro w6 b6 f6; have z6 := f6.size; have F6 := Fr.ownX f5 s5 f6; have n6 := n4.fr0 F6; have c6 := c4.fr0 F6))
    | (with_reducible refine at_wpP ?_; refine at_ld 72 _ rfl ?_; have q := b6; go_must (refine wpList_ldN rfl _ rfl g8 rfl N.k N.b v b6 hbl.out ?_))
    | (go_at_call 57; have q := n6; go_must (refine (sole_any n6).mono ?_; rintro e w7 ⟨rfl, f7⟩; rw [hsole])))
  have F7 : Fr noB w w7 := ((f3.thenN f4).thenN F6).thenN f7
  have b7 := b6.fr0 f7
  have c7 := c6.fr0 f7
  have n7 := n6.fr0 f7
  have H7 := h.fr0 F7
  have q7 := (q4.fr0 F6).fr0 f7
  have z7 := f7.size
  have zF := F6.size
  have o4' : ∀ q, v.ownBlock = some q → w3.heap.size ≤ q ∧ q < w4.heap.size := fun q hq => q4.newB q hq
  have hnew : ∀ q, w.heap.size ≤ q → ¬ (F q ∨ q = gp ∨ q = gs) := fun q hq h => by
    rcases h with h | h | h
    · have := hFt q h; omega
    · omega
    · omega
  have hb16 := n7.2.1
  have hkw := n7.2.2.2
  have WA : WiA w7 F gs gp w3.heap.size X L m lv N.b N.es v := ⟨H7, by omega, q7, by
    have := n7
    obtain ⟨nk, nbb, nes⟩ := N
    have hNk' : nk = kdL lv := hNk.out
    simp only at this ⊢
    rw [← hNk']
    exact this, fun q hq => by
    have h1 := o4' q hq
    have h2 := hnew q (by omega)
    exact ⟨fun h => h2 (Or.inl h), fun h => h2 (Or.inr (Or.inl h)), fun h => h2 (Or.inr (Or.inr h)), by omega⟩⟩
  have hWc := hW w7 _ v WA
  rw [← hNk.out] at hWc
  have l7 := b7.lt
  have hvg8 : ¬ v.ownBlock = some g8 := fun hq => by have := o4' g8 hq; omega
  have sl8 : ∀ {W : World} {u : Value}, SlR enC 2 W u es' → NdS W u ⟨N.k, N.b, es'⟩ := fun hS => ⟨⟨hS, hwf⟩, hb16, by show List.length es' ≤ 1000; omega, hkw⟩
  go_upto_region 11 with (first
    | (with_reducible refine at_wpP ?_; refine at_ld 28 _ rfl ?_; go_must (refine wpList_ldP rfl _ rfl g3 rfl gs c7 ?_))
    | (with_reducible refine at_wpP ?_; refine at_ld 72 _ rfl ?_; have q := b9; go_must (refine wpList_ldN rfl _ rfl g8 rfl N.k N.b v8 b9 hbl.out ?_))
    | (with_reducible refine at_wpP ?_; refine at_ld 72 _ rfl ?_; go_must (refine wpList_ldN rfl _ rfl g8 rfl N.k N.b v b7 hbl.out ?_))
    | (go_at_call 58; go_must (refine hWc.mono ?_; rintro e w8 ⟨F1, v8, rfl, T8, o8, p8⟩; have z8 := T8.fr.size; have b8 := b7.fr T8.fr (fun q => q.elim (fun h => absurd h hvg8) (fun h => absurd (h.imp id Or.inl) (hnew g8 (by omega)))); have c8 := c7.fr T8.fr (fun q => q.elim (fun h => by have := o4' g3 h; omega) (fun h => absurd (h.imp id Or.inl) (hnew g3 (by omega)))); have hv8 := OwnR.slx o8; replace hv8 := show Hid _ from hv8))
    | (with_reducible refine at_wpP ?_; refine at_st 72 _ _ rfl ?_; have q := b8; go_must (refine wpList_stN rfl _ _ rfl g8 rfl N.k N.b v8 rfl hbl.out hv8.out N.k N.b v b8 hbl.out ?_; intro w9 b9 f9; have z9 := f9.size; have c9 := c8.fr f9 (fun q => by unfold onB1 at q; omega); have o9 := o8.fr f9 (fun q hq h => (p8 q hq).2.elim (fun h' => by unfold onB1 at h; subst h; exact absurd h' hvg8) (fun h' => by unfold onB1 at h; omega)); have n9 := sl8 o9.sl))
    | (go_at_call 57; have q := n9; go_must (refine (sole_any n9).mono ?_; rintro e w10 ⟨rfl, f10⟩; rw [hs2])))
  have H9 : Sto w9 F1 gs gp X1 L1 m1 := T8.st.fr f9 (fun q hq hF hv => by
    unfold onB1 at hv
    subst hv
    rcases hF with h | h | h
    · rcases (T8.ft _ h).1 with h | h
      · exact hnew _ (by omega) (Or.inl h)
      · omega
    · omega
    · omega)
  have H10 := H9.fr0 f10
  have b10 := b9.fr0 f10
  have c10 := c9.fr0 f10
  have o10 := o9.fr0 f10
  have e10 := NdB.ents b10 hbl.out
  have F10 : Fr (stB F gp) w w10 := ((((F7.mono (fun _ _ q => q.elim)).thenT T8.fr (fun x hx q => by
    rcases q with q | q
    · have := o4' x q; omega
    · exact q)).thenT f9 (fun x hx q => by unfold onB1 at q; omega)).thenN f10)
  have hF1 : ∀ q, F1 q → (F q ∨ w.heap.size ≤ q) := fun q hq => ((T8.ft q hq).1).imp id (fun h => by omega)
  have z10 := f10.size
  have hSp := split_any (X := X1) (L := L1) N.k N.b es' v8 w10 H10 (by omega) (sl8 o10.sl) (fun q hq => by
    refine ⟨(p8 q hq).1, ?_, (o10.newB q hq).2⟩
    rcases (p8 q hq).2 with h | h
    · have := o4' q h; intro e; exact hnew q (by omega) (Or.inr (Or.inl e))
    · intro e; omega)
  rw [hs] at hSp
  go_upto_region 12 with (first
    | (with_reducible refine at_wpP ?_; refine at_ld 26 _ rfl ?_; go_must (refine wpList_ldPT rfl _ rfl g3 rfl gs c10 ?_))
    | (with_reducible refine at_wpP ?_; refine at_ld 72 _ rfl ?_; go_must (refine wpList_ldN rfl _ rfl g8 rfl N.k N.b v8 b10 hbl.out ?_))
    | (go_at_call 32; go_must (refine hSp.mono ?_; rintro e w11 ⟨F2, u, rfl, T11, o11, a11⟩; have z11 := T11.fr.size)))
  have F11 : Fr (stB F gp) w w11 := F10.thenT T11.fr (fun x hx q => by
    rcases q with q | q
    · rcases hF1 x q with h | h
      · exact Or.inl h
      · omega
    · exact Or.inr q)
  have hF2 : ∀ q, F2 q → (F q ∨ w.heap.size ≤ q) := fun q hq => by
    rcases (T11.ft q hq).1 with h | h
    · exact hF1 q h
    · exact Or.inr (by omega)
  have S11 : SlR enC 2 w11 u [t] := o11.sl
  obtain ⟨va, vc, hvv, _⟩ := S11.opn
  have hvv : u = .slice va 1 vc := hvv
  subst hvv
  go_wp2_with (first
    | (with_reducible refine at_wpP ?_; refine at_idx 31 _ _ rfl ?_; go_must (refine wpList_idxR rfl 31 _ _ rfl 40 uE 2 en_size enC (.slice va 1 vc) [t] rfl S11 (by decide) .i64 0 0 rfl rfl (by simp) ?_; intro eb eo heb hec; have hec1 := hec 1 _ rfl)))
  go_ret2
  exact ⟨F2, rfl, ⟨T11.st, fun q hq => ⟨hF2 q hq, (T11.ft q hq).2⟩, F11⟩⟩
set_option maxRecDepth 100000 in
set_option maxHeartbeats 4000000 in
theorem cut_nil {w : World} {F : Nat → Prop} {gs gp : Nat} {X X1 X2 : DSt} {L L1 L2 : List Pg} {m m1 lv : Nat} {p key : Int} {N : Nd} {es' : List (Int × Int)} (hm : m ≤ 80000) (hm1 : m1 ≤ 80000) (h : Sto w F gs gp X L m) (hg : getF X L p = (N, 0)) (hNk : N.k = kdL lv) (hsole : soleN N = false) (hs2 : soleN ⟨N.k, N.b, es'⟩ = false)
    (hW : ∀ (W : World) (b : Nat) (u : Value), WiA W F gs gp b X L m lv N.b N.es u → Calls Tryz.prog 58 #[trV gs, ndV (kdL lv) N.b u, .int .i64 key] W fun r w' => WioC W w' F gs gp b u (kdL lv) N.b ((X1, L1), es', 0) m1 r)
    (hwf : ∀ x ∈ es', (Lit.int .i64 x.1).wf = true ∧ (Lit.int .i64 x.2).wf = true) (hl6 : es'.length ≤ 6) (hs : splF (X1, L1) N.k es' = ((X2, L2), [], 0)) :
    Calls Tryz.prog 34 #[trV gs, .int .i64 p, .int .i64 key] w fun r w' => TopIs w w' F gs gp (X2, L2) (-1) 0 (m1 + 2) r := by
  have hG := fun W (f : Fr noB w W) => nget_own p W (h.fr0 f) (by omega)
  rw [hg] at hG
  replace hNk := show Hid _ from hNk
  have hFt := h.ft
  have hgsl := h.lts
  have hgpl := h.ltp
  go_enter Tryz.func34, Tryz.ntmps34
  go_upto_region 6 with (first
    | (with_reducible refine at_wpP ?_; refine wpList_boxG rfl 28 _ rfl (trV gs) [ptr gs] rfl rfl ?_; intro g3 w3 hg3 b3 f3 s3; have l3 := b3.lt; have z3 := f3.size; have c3 := pr_cell b3)
    | (go_at_call 40; go_must (refine (hG _ f3).mono ?_; rintro e w4 ⟨v, rfl, n4, o4, f4, q4⟩; have z4 := f4.size; have hv := NdS.sl n4; replace hv := show Hid _ from hv; have hbl := NdS.bl n4; have c4 := b3.fr0 f4))
    | (with_reducible refine at_wpP ?_; have q := n4; refine wpList_allocN rfl rfl ?_; intro g8 w5 hg8 b5 f5 s5; have l5 := b5.lt; have z5 := f5.size)
    | (with_reducible refine at_wpP ?_; refine at_st 72 _ _ rfl ?_; have q := b5; go_must (refine wpList_stN rfl _ _ rfl g8 rfl N.k N.b v rfl hbl.out hv.out 0 (zerB 16) nilS b5 (zerB_len 16) ?_; intro w6 b6 f6; have z6 := f6.size; have F6 := Fr.ownX f5 s5 f6; have n6 := n4.fr0 F6; have c6 := c4.fr0 F6))
    | (with_reducible refine at_wpP ?_; refine at_ld 72 _ rfl ?_; have q := b6; go_must (refine wpList_ldN rfl _ rfl g8 rfl N.k N.b v b6 hbl.out ?_))
    | (go_at_call 57; have q := n6; go_must (refine (sole_any n6).mono ?_; rintro e w7 ⟨rfl, f7⟩; rw [hsole])))
  have F7 : Fr noB w w7 := ((f3.thenN f4).thenN F6).thenN f7
  have b7 := b6.fr0 f7
  have c7 := c6.fr0 f7
  have n7 := n6.fr0 f7
  have H7 := h.fr0 F7
  have q7 := (q4.fr0 F6).fr0 f7
  have z7 := f7.size
  have zF := F6.size
  have o4' : ∀ q, v.ownBlock = some q → w3.heap.size ≤ q ∧ q < w4.heap.size := fun q hq => q4.newB q hq
  have hnew : ∀ q, w.heap.size ≤ q → ¬ (F q ∨ q = gp ∨ q = gs) := fun q hq h => by
    rcases h with h | h | h
    · have := hFt q h; omega
    · omega
    · omega
  have hb16 := n7.2.1
  have hkw := n7.2.2.2
  have WA : WiA w7 F gs gp w3.heap.size X L m lv N.b N.es v := ⟨H7, by omega, q7, by
    have := n7
    obtain ⟨nk, nbb, nes⟩ := N
    have hNk' : nk = kdL lv := hNk.out
    simp only at this ⊢
    rw [← hNk']
    exact this, fun q hq => by
    have h1 := o4' q hq
    have h2 := hnew q (by omega)
    exact ⟨fun h => h2 (Or.inl h), fun h => h2 (Or.inr (Or.inl h)), fun h => h2 (Or.inr (Or.inr h)), by omega⟩⟩
  have hWc := hW w7 _ v WA
  rw [← hNk.out] at hWc
  have l7 := b7.lt
  have hvg8 : ¬ v.ownBlock = some g8 := fun hq => by have := o4' g8 hq; omega
  have sl8 : ∀ {W : World} {u : Value}, SlR enC 2 W u es' → NdS W u ⟨N.k, N.b, es'⟩ := fun hS => ⟨⟨hS, hwf⟩, hb16, by show List.length es' ≤ 1000; omega, hkw⟩
  go_upto_region 11 with (first
    | (with_reducible refine at_wpP ?_; refine at_ld 28 _ rfl ?_; go_must (refine wpList_ldP rfl _ rfl g3 rfl gs c7 ?_))
    | (with_reducible refine at_wpP ?_; refine at_ld 72 _ rfl ?_; have q := b9; go_must (refine wpList_ldN rfl _ rfl g8 rfl N.k N.b v8 b9 hbl.out ?_))
    | (with_reducible refine at_wpP ?_; refine at_ld 72 _ rfl ?_; go_must (refine wpList_ldN rfl _ rfl g8 rfl N.k N.b v b7 hbl.out ?_))
    | (go_at_call 58; go_must (refine hWc.mono ?_; rintro e w8 ⟨F1, v8, rfl, T8, o8, p8⟩; have z8 := T8.fr.size; have b8 := b7.fr T8.fr (fun q => q.elim (fun h => absurd h hvg8) (fun h => absurd (h.imp id Or.inl) (hnew g8 (by omega)))); have c8 := c7.fr T8.fr (fun q => q.elim (fun h => by have := o4' g3 h; omega) (fun h => absurd (h.imp id Or.inl) (hnew g3 (by omega)))); have hv8 := OwnR.slx o8; replace hv8 := show Hid _ from hv8))
    | (with_reducible refine at_wpP ?_; refine at_st 72 _ _ rfl ?_; have q := b8; go_must (refine wpList_stN rfl _ _ rfl g8 rfl N.k N.b v8 rfl hbl.out hv8.out N.k N.b v b8 hbl.out ?_; intro w9 b9 f9; have z9 := f9.size; have c9 := c8.fr f9 (fun q => by unfold onB1 at q; omega); have o9 := o8.fr f9 (fun q hq h => (p8 q hq).2.elim (fun h' => by unfold onB1 at h; subst h; exact absurd h' hvg8) (fun h' => by unfold onB1 at h; omega)); have n9 := sl8 o9.sl))
    | (go_at_call 57; have q := n9; go_must (refine (sole_any n9).mono ?_; rintro e w10 ⟨rfl, f10⟩; rw [hs2])))
  have H9 : Sto w9 F1 gs gp X1 L1 m1 := T8.st.fr f9 (fun q hq hF hv => by
    unfold onB1 at hv
    subst hv
    rcases hF with h | h | h
    · rcases (T8.ft _ h).1 with h | h
      · exact hnew _ (by omega) (Or.inl h)
      · omega
    · omega
    · omega)
  have H10 := H9.fr0 f10
  have b10 := b9.fr0 f10
  have c10 := c9.fr0 f10
  have o10 := o9.fr0 f10
  have e10 := NdB.ents b10 hbl.out
  have F10 : Fr (stB F gp) w w10 := ((((F7.mono (fun _ _ q => q.elim)).thenT T8.fr (fun x hx q => by
    rcases q with q | q
    · have := o4' x q; omega
    · exact q)).thenT f9 (fun x hx q => by unfold onB1 at q; omega)).thenN f10)
  have hF1 : ∀ q, F1 q → (F q ∨ w.heap.size ≤ q) := fun q hq => ((T8.ft q hq).1).imp id (fun h => by omega)
  have z10 := f10.size
  have hSp := split_any (X := X1) (L := L1) N.k N.b es' v8 w10 H10 (by omega) (sl8 o10.sl) (fun q hq => by
    refine ⟨(p8 q hq).1, ?_, (o10.newB q hq).2⟩
    rcases (p8 q hq).2 with h | h
    · have := o4' q h; intro e; exact hnew q (by omega) (Or.inr (Or.inl e))
    · intro e; omega)
  rw [hs] at hSp
  go_upto_region 12 with (first
    | (with_reducible refine at_wpP ?_; refine at_ld 26 _ rfl ?_; go_must (refine wpList_ldPT rfl _ rfl g3 rfl gs c10 ?_))
    | (with_reducible refine at_wpP ?_; refine at_ld 72 _ rfl ?_; go_must (refine wpList_ldN rfl _ rfl g8 rfl N.k N.b v8 b10 hbl.out ?_))
    | (go_at_call 32; go_must (refine hSp.mono ?_; rintro e w11 ⟨F2, u, rfl, T11, o11, a11⟩; have z11 := T11.fr.size)))
  have F11 : Fr (stB F gp) w w11 := F10.thenT T11.fr (fun x hx q => by
    rcases q with q | q
    · rcases hF1 x q with h | h
      · exact Or.inl h
      · omega
    · exact Or.inr q)
  have hF2 : ∀ q, F2 q → (F q ∨ w.heap.size ≤ q) := fun q hq => by
    rcases (T11.ft q hq).1 with h | h
    · exact hF1 q h
    · exact Or.inr (by omega)
  have S11 : SlR enC 2 w11 u [] := o11.sl
  obtain ⟨va, vc, hvv, _⟩ := S11.opn
  have hvv : u = .slice va 0 vc := hvv
  subst hvv
  go_wp2
  go_ret2
  exact ⟨F2, rfl, ⟨T11.st, fun q hq => ⟨hF2 q hq, (T11.ft q hq).2⟩, F11⟩⟩
end Go.Proofs.YtmkinaijkgkgiaaGreat
/- cut, whatever the tree's level; no condition. -/
namespace Go.Proofs.YtmkinaijkgkgiaaGreat
open Go.RowKit Go.Proofs.U
set_option linter.unusedSimpArgs false
set_option linter.unusedVariables false
theorem cut_flat {X : DSt} {L : List Pg} {R : List Int} {T : List Nat} {m lv : Nat} (hI : InvT X L R T) (hm : m ≤ 60000) (key : Int) {F : Nat → Prop} {gs gp : Nat} {p : Int} (w : World) (hlv : lv ≤ 8) (hok : okT X lv p 0 64) (h0 : 0 ≤ p) (hp : 0 < cntT L T p.toNat) (hk : ∃ z ∈ lsT X lv p, z.1 = key) (hf : lv + 1 ≤ plFree L) (hc : ∀ q, cntL L q + (6 * lv + 6) ≤ 255) (h : Sto w F gs gp X L m) (hns : ¬ (0 < lv ∧ szX X p = 1))
    {X' : DSt} {L' : List Pg} {p' : Int} (he : topF lv (wioF X L lv (esX X p) key) = ((X', L'), p', 0)) :
    Calls Tryz.prog 34 #[trV gs, .int .i64 p, .int .i64 key] w fun r w' => TopIs w w' F gs gp (X', L') p' 0 (m + 2 * lv + 2) r := by
  obtain ⟨eu, e1, e6, er⟩ := hok.es
  have hl : ∀ x ∈ esX X p, (0 ≤ x.1 ∧ x.1 ≤ 63 ∧ 0 ≤ x.2 ∧ x.2 ≤ 239) ∧ 0 < cntT L T x.2.toNat := fun x hx => ⟨er x hx, (hI.kid h0 hp x.2 (by unfold kids; exact List.mem_map_of_mem hx)).2.2⟩
  have hk' : ∃ z ∈ lsN X lv (esX X p), z.1 = key := by rw [← lsT_N]; exact hk
  obtain ⟨X1, L1, es', M, ew, hU1, s⟩ := wio_ok hI key lv h.up eu e1 hok.n hl (by omega) (by omega) hk' (by omega) (fun q => by have := hc q; omega)
  have hW := fun (W : World) (b : Nat) (u : Value) (A : WiA W F gs gp b X L m lv (rdN X p).1.b (rdN X p).1.es u) => wio_any hI (by omega) key (F := F) (gs := gs) (gp := gp) lv (es := esX X p) W b (rdN X p).1.b u hlv A eu e1 e6 hok.n hl (by omega) (by omega) hk' (by omega) (fun q => by have := hc q; omega) ew
  have hso : soleN (rdN X p).1 = false := by
    have e : (rdN X p).1 = ⟨kdL lv, (rdN X p).1.b, esX X p⟩ := by
      rw [← hok.kd]; rfl
    rw [e, soleN_lv]
    have : (esX X p).length = szX X p := rfl
    rw [this]
    by_cases q : 0 < lv
    · have : ¬ szX X p = 1 := fun q2 => hns ⟨q, q2⟩
      simp [this]
    · simp [q]
  have hs2 : ∀ nb, soleN ⟨(rdN X p).1.k, nb, es'⟩ = (decide (0 < lv) && decide (es'.length = 1)) := fun nb => by rw [hok.kd, soleN_lv]
  have hwf : ∀ x ∈ es', (Lit.int .i64 x.1).wf = true ∧ (Lit.int .i64 x.2).wf = true := fun x hx => by
    have := (s.mem x hx).1
    exact ⟨wfSm (by omega) (by omega), wfSm (by omega) (by omega)⟩
  have hl6 : es'.length ≤ 6 := by have := s.ln; omega
  have hG := hI.get h0 hp
  unfold topF at he
  rw [ew] at he
  simp only [if_true] at he
  by_cases h2 : 0 < lv ∧ es'.length = 1
  · rw [if_pos h2] at he
    simp only [Prod.mk.injEq] at he
    obtain ⟨⟨rfl, rfl⟩, rfl, _⟩ := he
    obtain ⟨c, rfl⟩ : ∃ c, es' = [c] := List.length_eq_one_iff.1 h2.2
    refine (cut_one (c := c) (m1 := m + 2 * lv) (by omega) (by omega) h hG hok.kd hso (by rw [hs2]; simp [h2.1]) hW hwf hl6 rfl).mono ?_
    rintro r w' ⟨F', e, st⟩
    exact ⟨F', e, st.mono (by omega)⟩
  · rw [if_neg h2] at he
    have hsf : soleN ⟨(rdN X p).1.k, (rdN X p).1.b, es'⟩ = false := by
      rw [hs2]
      by_cases q : 0 < lv
      · have : ¬ es'.length = 1 := fun q2 => h2 ⟨q, q2⟩
        simp [this]
      · simp [q]
    simp only [Prod.mk.injEq] at he
    obtain ⟨a1, a2, a3⟩ := he
    rw [← hok.kd] at a1 a2 a3
    generalize hq : splF (X1, L1) (rdN X p).1.k es' = S at a1 a2 a3
    obtain ⟨S1, tops, e⟩ := S
    simp only at a1 a2 a3
    subst a1
    subst a3
    by_cases hz : es'.length = 0
    · have hzn : es' = [] := List.eq_nil_of_length_eq_zero hz
      have e0 : splF (X1, L1) (rdN X p).1.k es' = ((X1, L1), [], 0) := by rw [hzn]; rfl
      rw [e0] at hq
      simp only [Prod.mk.injEq] at hq
      obtain ⟨⟨rfl, rfl⟩, rfl, _⟩ := hq
      have a2 : p' = -1 := by rw [← a2]; rfl
      subst a2
      exact cut_nil (m1 := m + 2 * lv) (by omega) (by omega) h hG hok.kd hso hsf hW hwf hl6 e0
    · obtain ⟨t, rfl⟩ := splF_one (by omega) hl6 hq
      have a2 : p' = t.2 := by rw [← a2]; rfl
      subst a2
      exact cut_spl (m1 := m + 2 * lv) (by omega) (by omega) h hG hok.kd hso hsf hW hwf hl6 hq
theorem cut_lv {X : DSt} {L : List Pg} {R : List Int} {T : List Nat} {m : Nat} (hI : InvT X L R T) (hm : m ≤ 60000) (key : Int) {F : Nat → Prop} {gs gp : Nat} : ∀ (lv : Nat) {p : Int} (w : World), lv ≤ 8 → okT X lv p 0 64 → 0 ≤ p → 0 < cntT L T p.toNat → (∃ z ∈ lsT X lv p, z.1 = key) → lv + 1 ≤ plFree L → (∀ q, cntL L q + (6 * lv + 6) ≤ 255) → Sto w F gs gp X L m →
    ∀ {X' : DSt} {L' : List Pg} {p' : Int}, cutF X L lv p key = ((X', L'), p', 0) →
    Calls Tryz.prog 34 #[trV gs, .int .i64 p, .int .i64 key] w fun r w' => TopIs w w' F gs gp (X', L') p' 0 (m + 2 * lv + 2) r
  | 0, p, w, hlv, hok, h0, hp, hk, hf, hc, h, X', L', p', he => cut_flat hI hm key w hlv hok h0 hp hk hf hc h (by omega) he
  | lv + 1, p, w, hlv, hok, h0, hp, hk, hf, hc, h, X', L', p', he => by
    unfold cutF at he
    by_cases hs : szX X p = 1
    · rw [if_pos hs] at he
      obtain ⟨c, hcs⟩ : ∃ c, esX X p = [c] := List.length_eq_one_iff.1 hs
      rw [hcs] at he
      simp only [List.getD_cons_zero] at he
      have hokc : okT X lv c.2 c.1 64 := by
        have := hok.2.2.2
        rw [hcs] at this
        exact this
      have hc0 := hok.2.2.1 c (by rw [hcs]; simp)
      have hkid := hI.kid h0 hp c.2 (by unfold kids; exact List.mem_map_of_mem (by show c ∈ esX X p; rw [hcs]; simp))
      have hlsc : lsT X (lv + 1) p = lsT X lv c.2 := by
        show ((esX X p).flatMap fun x => lsT X lv x.2) = _
        rw [hcs]; simp
      rw [hlsc] at hk
      have hso : soleN (rdN X p).1 = true := by
        have e : (rdN X p).1 = ⟨kdL (lv + 1), (rdN X p).1.b, esX X p⟩ := by rw [← hok.kd]; rfl
        rw [e, soleN_lv, hcs]
        simp
      refine cut_sole (m1 := m + 2 * (lv + 1) + 2) (by omega) h (hI.get h0 hp) hso hcs fun W HW => ?_
      refine (cut_lv hI hm key (F := F) (gs := gs) (gp := gp) lv W (by omega) (okT_mono hokc hc0.1 (Int.le_refl _)) hkid.1 hkid.2.2 hk (by omega) (fun q => by have := hc q; omega) HW he).mono ?_
      rintro r w' ⟨F', e, st⟩
      exact ⟨F', e, st.mono (by omega)⟩
    · rw [if_neg hs] at he
      exact cut_flat hI hm key w hlv hok h0 hp hk hf hc h (fun q => hs q.2) he
end Go.Proofs.YtmkinaijkgkgiaaGreat
/- Build with its answers named ahead of the world; no condition. -/
namespace Go.Proofs.YtmkinaijkgkgiaaGreat
open Go.RowKit Go.Proofs.U
set_option linter.unusedSimpArgs false
set_option linter.unusedVariables false
set_option maxRecDepth 100000 in
set_option maxHeartbeats 4000000 in
theorem Build_steps {F : Nat → Prop} {gs gp : Nat} {m : Nat} (s : Nat → BSt) (es : List (Int × Int)) (h0 : (s 0).root = -1) (h1 : ∀ (k : Nat) (hk : k < es.length), BStep (m + 20 * k) es[k] (s k) (s (k + 1))) (hm : m ≤ 10000) (he : es.length ≤ 100) (v : Value) (w : World) (h : Sto w F gs gp (s 0).X (s 0).L m) (hS : SlR enC 2 w v es) (hvF : ∀ x, v.ownBlock = some x → ¬ F x ∧ x ≠ gp) :
    Calls Tryz.prog 17 #[trV gs, v] w fun r w' => ∃ F', r = .returned (.tuple #[.int .i64 (s es.length).root, .int .i64 0]) ∧ StT w w' F F' gs gp ((s es.length).X, (s es.length).L) (m + 20 * es.length) := by
  obtain ⟨a0, c0, rfl, hc0⟩ := hS.opn
  have hgp := h.ltp
  have hgs := h.lts
  have hFt := h.ft
  have h1' := show Hid _ from h1
  have h0' := show Hid _ from h0
  clear h1 h0
  go_enter Tryz.func17, Tryz.ntmps17
  go_wp2_with (first
    | (with_reducible refine at_wpP ?_; refine wpList_boxG rfl 26 _ rfl (trV gs) [ptr gs] rfl rfl ?_; intro g1 w1 hg1 b1 f1 s1; have l1 := b1.lt; have z1 := f1.size))
  have H1 := h.fr0 f1
  have hS1 := hS.fr0 f1
  go_loopw [14, 6] (fun i r wr => ∃ (k : Nat) (Fk : Nat → Prop), k ≤ es.length ∧ i = .int .i64 (k : Int) ∧ r = .int .i64 (s k).root ∧ StT w1 wr F Fk gs gp ((s k).X, (s k).L) (m + 20 * k)) (fun i _ _ => es.length - (intOf i).toNat)
  case atStart => exact ⟨0, F, Nat.zero_le _, rfl, by rw [h0'.out], StT.start H1⟩
  case round =>
    obtain ⟨j, Fk, hj, rfl, rfl, T⟩ := hrel
    have hnF : ∀ x, w.heap.size ≤ x → ¬ stB F gp x := fun x hx q => by
      rcases q with q | q
      · have := hFt _ q; omega
      · omega
    have bj := b1.fr T.fr (hnF _ s1)
    by_cases hlt : j < es.length
    · have st := h1'.out j hlt
      obtain ⟨x, Hx⟩ : ∃ x, Hid (es[j] = x) := ⟨es[j], (rfl : es[j] = es[j])⟩
      rw [Hx.out] at st
      have hSj := hS1.fr T.fr (fun k hk q => by
        have := hvF k hk
        rcases q with q | q
        · exact this.1 q
        · exact this.2 q)
      have zj := T.fr.size
      have hFk := T.st.ft
      have hgk := T.st.ltp
      have hgsk := T.st.lts
      generalize s j = sj at *
      generalize hs' : s (j + 1) = s' at *
      have hs' := show Hid _ from hs'
      obtain ⟨⟨L1, hPut, sw⟩, hnn⟩ := st
      have hP := fun W (f : Fr noB _ W) => hPut Fk gs gp W (T.st.fr0 f)
      have hnFk : ¬ stB Fk gp g1 := fun q => by
        rcases q with q | q
        · rcases (T.ft _ q).1 with q | q
          · have := hFt _ q; omega
          · omega
        · omega
      have hlt' : (j : Int) < (es.length : Int) := by omega
      go_upto_region 6 with (first
        | (with_reducible refine at_wpP ?_; refine at_idx 31 _ _ rfl ?_; go_must (refine wpList_idxR rfl 31 _ _ rfl 40 Tryz.underlying31 2 en_size _ _ _ rfl hSj (by decide) _ _ j rfl rfl hlt ?_; rw [Hx.out]; intro ba oa hba hca))
        | (with_reducible refine at_wpP ?_; refine at_ld 40 _ rfl ?_; have q := hca; refine wpList_ldE rfl _ rfl ba oa rfl x hca ?_)
        | (with_reducible refine at_wpP ?_; refine wpList_allocE rfl rfl ?_; intro gl w5 hgl b5 f5 sl; have l5 := b5.lt; have z5 := f5.size)
        | (with_reducible refine at_wpP ?_; refine at_st 40 _ _ rfl ?_; go_must (refine wpList_stE rfl _ _ rfl gl rfl (0, 0) x b5 rfl ?_; intro w6 B6 f6; have F6 := Fr.ownX f5 sl f6; have z6 := f6.size; obtain ⟨k0, k1⟩ := B6.all; have b6 := bj.fr0 F6))
        | (with_reducible refine at_wpP ?_; refine at_ld 26 _ rfl ?_; go_must (refine wpList_ldT rfl _ rfl g1 rfl gs b6 ?_))
        | (go_at_call 8; go_must (refine (hP _ F6).mono ?_; rintro e1 w7 ⟨F2, he1, T7⟩; subst he1)))
      have z7 := T7.fr.size
      have b7 := b6.fr T7.fr hnFk
      have hSw := Swap_F (by omega) (by omega) T7.st sw
      go_wp2_with (first
        | (with_reducible refine at_wpP ?_; refine at_ld 26 _ rfl ?_; go_must (refine wpList_ldT rfl _ rfl g1 rfl gs b7 ?_))
        | (go_at_call 14; go_must (refine hSw.mono ?_; rintro e1 w8 ⟨rfl, s8, f8⟩; have z8 := f8.size)))
      go_roundw
      case rel => exact ⟨j + 1, F2, by omega, by go_num, by rw [hs'.out], by rw [hs'.out]; exact ((((T.fr0 F6).trans H1.ft T7).pool f8 s8).mono (by omega))⟩
      case measure => simp [intOf]; omega
    · obtain rfl : j = es.length := by omega
      go_wp2
      go_ret2
      exact ⟨Fk, rfl, T.pre f1⟩
end Go.Proofs.YtmkinaijkgkgiaaGreat
/- Cut in memory, and what is read of a tree whatever its root's size; no condition. -/
namespace Go.Proofs.YtmkinaijkgkgiaaGreat
open Go.RowKit Go.Proofs.U
set_option linter.unusedSimpArgs false
set_option linter.unusedVariables false
/-- A root: None, or a tree that is there. -/
def RtOk (X : DSt) (L : List Pg) (T : List Nat) (lv : Nat) (root : Int) (l : List (Int × Int)) : Prop :=
  (root = -1 ∧ l = []) ∨ (0 ≤ root ∧ 0 < cntT L T root.toNat ∧ lv < 8 ∧ okT X lv root 0 64 ∧ lsT X lv root = l)
set_option maxRecDepth 100000 in
set_option maxHeartbeats 2000000 in
theorem Find_ok {F : Nat → Prop} {gs gp : Nat} {X : DSt} {L : List Pg} {R : List Int} {T : List Nat} {m lv : Nat} {root : Int} {l : List (Int × Int)} (hI : InvT X L R T) (hm : m ≤ 100000) (hr : RtOk X L T lv root l) (key : Int) (w : World) (h : Sto w F gs gp X L m) :
    Calls Tryz.prog 24 #[trV gs, .int .i64 root, .int .i64 key] w fun r w' => FindIs w w' (findL l key) r := by
  have hF : ∀ W, Fr noB w W → Calls Tryz.prog 44 #[trV gs, .int .i64 root, .int .i64 key, .int .i64 0] W fun r w' => FindIs W w' (findL l key) r := by
    intro W f
    rcases hr with ⟨rfl, rfl⟩ | ⟨h0, hp, hlv, tok, tls⟩
    · exact fnd_none key 0 W
    · rw [← tls]
      exact find_lv hI hm key lv 0 W tok h0 hp (Int.le_refl _) (by omega) (h.fr0 f)
  go_enter Tryz.func24, Tryz.ntmps24
  go_wp2_with (first
    | (with_reducible refine at_wpP ?_; refine wpList_boxG rfl 26 _ rfl (trV gs) [ptr gs] rfl rfl ?_; intro g4 w4 hg4 b4 f4 s4; have l4 := b4.lt; have z4 := f4.size)
    | (with_reducible refine at_wpP ?_; refine at_ld 26 _ rfl ?_; go_must (refine wpList_ldT rfl _ rfl g4 rfl gs b4 ?_))
    | (go_at_call 44; go_must (refine (hF _ f4).mono ?_; rintro e w5 ⟨rfl, f5⟩)))
  go_ret2
  exact ⟨rfl, f4.thenN f5⟩
set_option maxRecDepth 100000 in
set_option maxHeartbeats 2000000 in
theorem List_ok {F : Nat → Prop} {gs gp : Nat} {X : DSt} {L : List Pg} {R : List Int} {T : List Nat} {m lv : Nat} {root : Int} {l : List (Int × Int)} (hI : InvT X L R T) (hm : m ≤ 100000) (hr : RtOk X L T lv root l) (w : World) (h : Sto w F gs gp X L m) :
    Calls Tryz.prog 12 #[trV gs, .int .i64 root] w fun r w' => LstIs w w' l r := by
  have hF : ∀ W, Fr noB w W → Calls Tryz.prog 35 #[trV gs, .int .i64 root, .int .i64 0] W fun r w' => LstIs W w' l r := by
    intro W f
    rcases hr with ⟨rfl, rfl⟩ | ⟨h0, hp, hlv, tok, tls⟩
    · exact lst_none (F := F) (gp := gp) 0 W
    · rw [← tls]
      exact lst_lv hI hm lv 0 W tok h0 hp (Int.le_refl _) (Int.le_refl _) (Int.le_refl _) (by omega) (h.fr0 f)
  go_enter Tryz.func12, Tryz.ntmps12
  go_wp2_with (first
    | (with_reducible refine at_wpP ?_; refine wpList_boxG rfl 26 _ rfl (trV gs) [ptr gs] rfl rfl ?_; intro g4 w4 hg4 b4 f4 s4; have l4 := b4.lt; have z4 := f4.size)
    | (with_reducible refine at_wpP ?_; refine at_ld 26 _ rfl ?_; go_must (refine wpList_ldT rfl _ rfl g4 rfl gs b4 ?_))
    | (go_at_call 35; go_must (refine (hF _ f4).mono ?_; rintro e w5 ⟨u, rfl, o5, f5⟩)))
  go_ret2
  exact ⟨u, rfl, o5.rebase f4.size, f4.thenN f5⟩
/-- What Cut answers. -/
def CutEx (X : DSt) (L : List Pg) (root key : Int) (m : Nat) (X' : DSt) (L' : List Pg) (p' : Int) : Prop := ∀ (F : Nat → Prop) (gs gp : Nat) (w : World), Sto w F gs gp X L m → Calls Tryz.prog 10 #[trV gs, .int .i64 root, .int .i64 key] w fun r w' => ∃ F', r = .returned (.tuple #[.int .i64 p', .bool true, .int .i64 0]) ∧ StT w w' F F' gs gp (X', L') (m + 20)
/-- What Swap does. -/
def SwapEx (X : DSt) (L : List Pg) (root next : Int) (L2 : List Pg) : Prop := ∀ (F : Nat → Prop) (gs gp m : Nat) (w : World), m ≤ 90000 → Sto w F gs gp X L m → Calls Tryz.prog 14 #[trV gs, .int .i64 root, .int .i64 next] w fun r w' => r = .returned (.int .i64 0) ∧ Sto w' F gs gp X L2 m ∧ Fr (onB1 gp) w w'
set_option maxRecDepth 100000 in
set_option maxHeartbeats 2000000 in
theorem Cut_bad {F : Nat → Prop} {gs gp : Nat} {X : DSt} {L : List Pg} {m : Nat} (root key : Int) (hk : key < 0 ∨ 63 < key) (w : World) (h : Sto w F gs gp X L m) :
    Calls Tryz.prog 10 #[trV gs, .int .i64 root, .int .i64 key] w fun r w' => r = .returned (.tuple #[.int .i64 (-1), .bool false, .int .i64 101]) ∧ Fr noB w w' := by
  by_cases h0 : key < 0
  · have t1 : decide (key < (0 : Int)) = true := by simpa using h0
    go_enter Tryz.func10, Tryz.ntmps10
    go_wp2_with (first
      | (with_reducible refine at_wpP ?_; refine wpList_boxG rfl 28 _ rfl (trV gs) [ptr gs] rfl rfl ?_; intro g4 w4 hg4 b4 f4 s4; have l4 := b4.lt; have z4 := f4.size))
    go_ret3
    exact ⟨rfl, f4⟩
  · have t1 : decide (key < (0 : Int)) = false := by simpa using h0
    have t2 : decide ((64 : Int) ≤ key) = true := by simp; omega
    go_enter Tryz.func10, Tryz.ntmps10
    go_wp2_with (first
      | (with_reducible refine at_wpP ?_; refine wpList_boxG rfl 28 _ rfl (trV gs) [ptr gs] rfl rfl ?_; intro g4 w4 hg4 b4 f4 s4; have l4 := b4.lt; have z4 := f4.size))
    go_ret3
    exact ⟨rfl, f4⟩
set_option maxRecDepth 100000 in
set_option maxHeartbeats 2000000 in
theorem Cut_not {F : Nat → Prop} {gs gp : Nat} {X : DSt} {L : List Pg} {R : List Int} {T : List Nat} {m lv : Nat} {root : Int} {l : List (Int × Int)} (hI : InvT X L R T) (hm : m ≤ 60000) (hr : RtOk X L T lv root l) (key : Int) (hk : 0 ≤ key ∧ key ≤ 63) (hn : findL l key = -1) (w : World) (h : Sto w F gs gp X L m) :
    Calls Tryz.prog 10 #[trV gs, .int .i64 root, .int .i64 key] w fun r w' => r = .returned (.tuple #[.int .i64 root, .bool false, .int .i64 0]) ∧ Fr noB w w' := by
  have hF := fun W (f : Fr noB w W) => Find_ok hI (by omega) hr key W (h.fr0 f)
  rw [hn] at hF
  have t1 : decide (key < (0 : Int)) = false := by simp; omega
  have t2 : decide ((64 : Int) ≤ key) = false := by simp; omega
  go_enter Tryz.func10, Tryz.ntmps10
  go_wp2_with (first
    | (with_reducible refine at_wpP ?_; refine wpList_boxG rfl 28 _ rfl (trV gs) [ptr gs] rfl rfl ?_; intro g4 w4 hg4 b4 f4 s4; have l4 := b4.lt; have z4 := f4.size)
    | (with_reducible refine at_wpP ?_; refine at_ld 26 _ rfl ?_; go_must (refine wpList_ldPT rfl _ rfl g4 rfl gs b4 ?_))
    | (go_at_call 24; go_must (refine (hF _ f4).mono ?_; rintro e w5 ⟨rfl, f5⟩)))
  go_ret3
  exact ⟨rfl, f4.thenN f5⟩
set_option maxRecDepth 100000 in
set_option maxHeartbeats 2000000 in
theorem Cut_yes {F : Nat → Prop} {gs gp : Nat} {X X' : DSt} {L L' : List Pg} {R : List Int} {T : List Nat} {m m1 lv : Nat} {root p' : Int} {l : List (Int × Int)} (hI : InvT X L R T) (hm : m ≤ 60000) (hr : RtOk X L T lv root l) (key : Int) (hk : 0 ≤ key ∧ key ≤ 63) (hn : ¬ findL l key = -1) (w : World) (h : Sto w F gs gp X L m)
    (hC : ∀ W, Sto W F gs gp X L m → Calls Tryz.prog 34 #[trV gs, .int .i64 root, .int .i64 key] W fun r w' => TopIs W w' F gs gp (X', L') p' 0 m1 r) :
    Calls Tryz.prog 10 #[trV gs, .int .i64 root, .int .i64 key] w fun r w' => ∃ F', r = .returned (.tuple #[.int .i64 p', .bool true, .int .i64 0]) ∧ StT w w' F F' gs gp (X', L') m1 := by
  have hF := fun W (f : Fr noB w W) => Find_ok hI (by omega) hr key W (h.fr0 f)
  have t1 : decide (key < (0 : Int)) = false := by simp; omega
  have t2 : decide ((64 : Int) ≤ key) = false := by simp; omega
  obtain ⟨pg, Hpg⟩ : ∃ pg, Hid (findL l key = pg) := ⟨_, rfl⟩
  rw [Hpg.out] at hF hn
  have t3 : (pg == -1) = false := by simpa using hn
  have hP := fun W (s : Sto W F gs gp X L m) => npool_any W s
  go_enter Tryz.func10, Tryz.ntmps10
  go_wp2_with (first
    | (with_reducible refine at_wpP ?_; refine wpList_boxG rfl 28 _ rfl (trV gs) [ptr gs] rfl rfl ?_; intro g4 w4 hg4 b4 f4 s4; have l4 := b4.lt; have z4 := f4.size)
    | (with_reducible refine at_wpP ?_; refine at_ld 26 _ rfl ?_; go_must (refine wpList_ldPT rfl _ rfl g4 rfl gs b4 ?_))
    | (go_at_call 24; go_must (refine (hF _ f4).mono ?_; rintro e w5 ⟨rfl, f5⟩; have b5 := b4.fr0 f5; have c5 := pr_cell b5))
    | (go_at_call 19; go_must (refine (hP _ (h.fr0 (f4.thenN f5))).mono ?_; rintro e w6 ⟨rfl, rfl⟩))
    | (go_at_call 33; go_must (refine (pclone_any gp _ (h.fr0 (f4.thenN f5)).pl).mono ?_; rintro e w7 ⟨gc, rfl, gcl, pb7, f7⟩; have b7 := b5.fr0 f7))
    | (with_reducible refine at_wpP ?_; refine at_ld 28 _ rfl ?_; go_must (refine wpList_ldP rfl _ rfl g4 rfl gs b7 ?_))
    | (go_at_call 34; go_must (refine (hC _ (h.fr0 ((f4.thenN f5).thenN f7))).mono ?_; rintro e w8 ⟨F', rfl, T8⟩)))
  go_ret3
  exact ⟨F', rfl, T8.pre ((f4.thenN f5).thenN f7)⟩
set_option maxRecDepth 100000 in
set_option maxHeartbeats 2000000 in
theorem Swap_none {F : Nat → Prop} {gs gp : Nat} {X : DSt} {L L2 : List Pg} {m : Nat} (old : Int) (ho : ¬ old = -1) (hm : m ≤ 90000) (hd : dropF X (muL L + 1) L old = (L2, 0)) (w : World) (h : Sto w F gs gp X L m) :
    Calls Tryz.prog 14 #[trV gs, .int .i64 old, .int .i64 (-1)] w fun r w' => r = .returned (.int .i64 0) ∧ Sto w' F gs gp X L2 m ∧ Fr (onB1 gp) w w' := by
  have ho1 : (old == -1) = false := by simpa using ho
  have hD := fun W (s : Sto W F gs gp X L m) => ndrop_any (by omega) (muL L + 1) L old W (Nat.lt_succ_self _) s
  rw [hd] at hD
  go_enter Tryz.func14, Tryz.ntmps14
  go_wp2_with (first
    | (with_reducible refine at_wpP ?_; refine wpList_boxG rfl 26 _ rfl (trV gs) [ptr gs] rfl rfl ?_; intro g4 w4 hg4 b4 f4 s4; have l4 := b4.lt; have z4 := f4.size; have c4 := tr_cell b4)
    | (go_at_call 36; go_must (refine (hD _ (h.fr0 f4)).mono ?_; rintro e6 w6 ⟨rfl, s6, f6⟩; have z6 := f6.size)))
  go_ret
  exact ⟨rfl, s6, (f4.mono (fun _ _ q => q.elim)).thenT f6 (fun _ _ q => q)⟩
end Go.Proofs.YtmkinaijkgkgiaaGreat
