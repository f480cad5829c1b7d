/- Texts VI, TH2, VJ, JW, TH1, VK of the proof of PruneCuts, one behind the other. -/
import Derived.Test.YtmkinaijkgkgiaaGreatBundlePruneCuts1
import Derived.Test.YtmkinaijkgkgiaaGreatBundlePruneCuts2
import Derived.Test.YtmkinaijkgkgiaaGreatBundlePruneCuts3
import Derived.Test.YtmkinaijkgkgiaaGreatBundlePruneCuts4
import Derived.Test.YtmkinaijkgkgiaaGreatBundlePruneCuts5
import Derived.Test.YtmkinaijkgkgiaaGreatBundlePruneCuts6
import Derived.Test.YtmkinaijkgkgiaaGreatBundlePruneCuts7
import Derived.Test.YtmkinaijkgkgiaaGreatBundlePruneCuts8
import Derived.Test.YtmkinaijkgkgiaaGreatBundlePruneCuts9
import Derived.Test.YtmkinaijkgkgiaaGreatBundlePruneCuts10
import Derived.Test.YtmkinaijkgkgiaaGreatBundlePruneCuts11
import Derived.Test.YtmkinaijkgkgiaaGreatBundlePruneCuts12
import Derived.Test.YtmkinaijkgkgiaaGreatBundlePruneCuts13
import Derived.Test.YtmkinaijkgkgiaaGreatBundlePruneCuts14
import Derived.Test.YtmkinaijkgkgiaaGreatBundlePruneCuts15
import Derived.Test.YtmkinaijkgkgiaaGreatBundlePruneCuts16
import Derived.Test.YtmkinaijkgkgiaaGreatBundlePruneCuts17
import Derived.Test.YtmkinaijkgkgiaaGreatBundlePruneCuts18
import Derived.Test.YtmkinaijkgkgiaaGreatBundlePruneCuts19
import Derived.Test.YtmkinaijkgkgiaaGreatBundlePruneCuts20
import Derived.Test.YtmkinaijkgkgiaaGreatBundlePruneCuts21
import Derived.Test.YtmkinaijkgkgiaaGreatBundlePruneCuts22
import Derived.Test.YtmkinaijkgkgiaaGreatBundlePruneCuts23
import Derived.Test.YtmkinaijkgkgiaaGreatBundlePruneCuts24
import Derived.Test.YtmkinaijkgkgiaaGreatBundlePruneCuts25
import Derived.Test.YtmkinaijkgkgiaaGreatBundlePruneCuts26
import Derived.Test.YtmkinaijkgkgiaaGreatBundlePruneCuts27
import Derived.Test.YtmkinaijkgkgiaaGreatBundlePruneCuts28
import Derived.Test.YtmkinaijkgkgiaaGreatBundlePruneCuts29
/- What is reached of a tree whatever its root's size, and that just so many pages are used; also behind a mark; plain; no condition. -/
namespace Go.Proofs.YtmkinaijkgkgiaaGreat
open Go.RowKit Go.Proofs.U
set_option linter.unusedSimpArgs false
set_option linter.unusedVariables false
theorem cntL_tidy (L : List Pg) : cntL (plTidy L) = cntL L := by
  funext q
  unfold cntL plTidy
  rw [plAt_map _ _ tidy0]
  unfold tidyP
  split <;> rfl
theorem Inv.tidy {X : DSt} {L : List Pg} {R : List Int} (h : Inv X L R) : Inv X (plTidy L) R := by
  refine ⟨h.nn, ⟨tidy_ok h.di.ok, h.di.ex.tidy, fun i hi => ?_, fun q hq => h.di.rd q (by rwa [cntL_tidy] at hq)⟩, by rw [cntL_tidy]; exact h.fl⟩
  have hm : (plAt (plTidy L) i) = tidyP (plAt L i) := by unfold plTidy; rw [plAt_map _ _ tidy0]
  rw [hm] at hi ⊢
  unfold tidyP at hi ⊢
  split at hi
  · unfold Pg.frsh at hi; simp at hi
  · rename_i h1
    rw [if_neg h1]
    exact h.di.nf i hi
/-- Pages are fresh, or young, or nothing. -/
def PlTd (L : List Pg) : Prop := ∀ i, (plAt L i).s = 1 ∨ (plAt L i).s = 2 ∨ ((plAt L i).s = 0 ∧ (plAt L i).c = 0)
theorem PlM.tidy {k : Nat} {L : List Pg} (hok : plOk L) (h : PlM k L) : PlTd (plTidy L) := by
  intro i
  have hm : (plAt (plTidy L) i) = tidyP (plAt L i) := by unfold plTidy; rw [plAt_map _ _ tidy0]
  rw [hm]
  unfold tidyP
  rcases h.ok i with q | q | q | q
  · rw [if_neg (by omega)]; exact Or.inl q
  · rw [if_neg (by omega)]; exact Or.inr (Or.inl q)
  · rw [if_pos q]
    exact Or.inr (Or.inr ⟨rfl, (hok.2 i).2.2.2 (by omega)⟩)
  · rw [if_neg (by omega)]; exact Or.inr (Or.inr q)
theorem used_liveT {X : DSt} {L : List Pg} {R : List Int} (h : Inv X L R) (y : PlTd L) : plFree L + (U.live L.length (cntL L)).length = L.length := by
  have key : ∀ n, n ≤ L.length → (L.take n).countP Pg.free + ((List.range n).filter fun q => decide (0 < cntL L q)).length = n := by
    intro n
    induction n with
    | zero => intro _; rfl
    | succ n ih =>
      intro hn
      have := ih (by omega)
      rw [List.take_succ_eq_append_getElem (by omega), List.countP_append, List.range_succ, List.filter_append, List.length_append]
      have hx : [L[n]].countP Pg.free + ([n].filter fun q => decide (0 < cntL L q)).length = 1 := by
        have hp : plAt L n = L[n] := plAt_get L n (by omega)
        have hy12 : ((plAt L n).s = 1 ∨ (plAt L n).s = 2) ∨ ((plAt L n).s = 0 ∧ (plAt L n).c = 0) := by
          rcases y n with q | q | q
          · exact Or.inl (Or.inl q)
          · exact Or.inl (Or.inr q)
          · exact Or.inr q
        rcases hy12 with hy | ⟨hs, hc⟩
        · have hf : (plAt L n).frsh = true := by unfold Pg.frsh; rcases hy with hy | hy <;> rw [hy] <;> rfl
          have hc := h.di.nf n hf
          have h1 : 0 < cntL L n := (cnt_pos n).2 hc
          have h2 : L[n].free = false := by rw [← hp]; unfold Pg.free; rcases hy with hy | hy <;> rw [hy] <;> simp
          simp [List.filter, List.countP_cons, h1, h2]
        · have h1 : L[n].free = true := by rw [← hp]; unfold Pg.free; rw [hs, hc]; rfl
          have h2 : ¬ 0 < cntL L n := fun q => by have := (cnt_pos n).1 q; omega
          simp [List.filter, List.countP_cons, h1, h2]
      omega
  have := key L.length (Nat.le_refl _)
  rwa [List.take_length] at this
/-- A pool whose blocks and tree are all that it holds. -/
structure KE (X : DSt) (L : List Pg) (B : List Int) (lv : Nat) (root : Int) : Prop where
  iv : Inv X L (rtsB B root)
  fam : FamK X (rtsB B root) B (oneTs [] lv root)
  bl : ∀ b ∈ B, 0 ≤ b ∧ (rdN X b).1.k = 1 ∧ (rdN X b).1.es = []
  rt : root = -1 ∨ (0 ≤ root ∧ okT X lv root 0 64)
  yt : PlTd L
theorem KT.tidied {X : DSt} {L : List Pg} {B : List Int} {lv : Nat} {root : Int} {l : List (Int × Int)} {d k : Nat} (o : KT X L B lv root l d k) : KE X (plTidy L) B lv root :=
  ⟨o.iv.tidy, o.fam, o.bl, o.rt.imp (fun q => q.1) (fun q => ⟨q.1, q.2.2.1⟩), o.pm.tidy o.iv.di.ok⟩
theorem KE.reach {X : DSt} {L : List Pg} {B : List Int} {lv : Nat} {root : Int} (o : KE X L B lv root) : ∃ S, reachF (getF X L) [root] = (S, 0) ∧ (∀ x, S x = true → 0 ≤ x ∧ 0 < cntL L x.toNat) ∧ (¬ root = -1 → ∀ q ∈ occT X lv root, S q = true) := by
  rcases o.rt with hr | ⟨r0, t⟩
  · subst hr
    exact ⟨fun _ => false, rfl, fun x hx => (by cases hx), fun h => absurd rfl h⟩
  · have hr : ¬ root = -1 := by omega
    have hp := (o.iv.toT.root (r := root) (by unfold rtsB; rw [if_neg hr]; simp)).2
    rw [cntT_nil] at hp
    have hf : ∀ S p, nS S < 241 → 0 ≤ p → 0 < cntL L p.toNat → (rootF (getF X L) S p).2 = 0 ∧ PostS X L S (rootF (getF X L) S p).1 ∧ (rootF (getF X L) S p).1 p = true := by
      intro S p hn h0 hc
      have e : rootF (getF X L) S p = seeF (getF X L) 241 S p := by unfold rootF; rw [if_neg (by omega)]
      rw [e]
      exact see_good o.iv.di 241 S p hn h0 hc
    obtain ⟨k1, k2, k3⟩ := each_see hf [root] (fun _ => false) (nS_lt _) (fun p h => by obtain rfl := List.mem_singleton.1 h; exact ⟨r0, hp⟩)
    refine ⟨(reachF (getF X L) [root]).1, by unfold reachF; rw [← k1], fun x hx => ?_, fun _ => ?_⟩
    · rcases k2.2 x hx with q | q
      · cases q
      · exact ⟨q.1, q.2.1⟩
    · refine occ_seen (fun x hx => ?_) t (k3 root (by simp))
      rcases k2.2 x hx with q | q
      · cases q
      · exact q.2.2
theorem KE.exactL {X : DSt} {L : List Pg} {B : List Int} {lv : Nat} {root : Int} (o : KE X L B lv root) (hn : B.Nodup) {S : Int → Bool} (h1 : ∀ x, S x = true → 0 ≤ x ∧ 0 < cntL L x.toNat) (h2 : ¬ root = -1 → ∀ q ∈ occT X lv root, S q = true) {l' : List Int} (hl : SeenL S l') :
    plFree L + ((inL X l').length + B.length) = L.length := by
  have hu := used_liveT o.iv o.yt
  have hf := o.fam
  have hin : ∀ x ∈ inL X l', 0 ≤ x ∧ 0 < cntL L x.toNat ∧ ¬ (rdN X x).1.k = 1 := fun x hx => by
    obtain ⟨a, b⟩ := List.mem_filter.1 hx
    have := h1 x ((hl.mem x).1 a)
    exact ⟨this.1, this.2, by simpa using b⟩
  have hroot : ∀ b ∈ B, 0 ≤ b ∧ 0 < cntL L b.toNat := fun b hb => by
    have := o.iv.toT.root (rtsB_B (root := root) hb)
    rwa [cntT_nil] at this
  have hlt : ∀ q : Nat, 0 < cntL L q → q < L.length := fun q hq => (o.iv.toT.live (by rwa [cntT_nil])).2.1
  have hle : (U.live L.length (cntL L)).length ≤ (B ++ inL X l').length := by
    have := len_sub (W := (B ++ inL X l').map Int.toNat) (live_nodup L.length (cntL L)) fun r hr => by
      have hc := (mem_live.1 hr).2
      have hm := hf.live o.iv hc
      refine List.mem_map.2 ⟨(r : Int), ?_, by simp⟩
      unfold famP at hm
      rcases List.mem_append.1 hm with q | q
      · exact List.mem_append_left _ q
      · obtain ⟨t, ht, hq⟩ := List.mem_flatMap.1 q
        rcases oneTs_mem ht with h | ⟨hne, rfl⟩
        · cases h
        · rcases o.rt with e | ⟨_, t⟩
          · exact absurd e hne
          refine List.mem_append_right _ (List.mem_filter.2 ⟨(hl.mem _).2 (h2 hne _ hq), ?_⟩)
          have := occ_kd t _ hq
          simpa using this
    rwa [List.length_map] at this
  have hge : (B ++ inL X l').length ≤ (U.live L.length (cntL L)).length := by
    have hnd : ((B ++ inL X l').map Int.toNat).Nodup := by
      have h3 : (B ++ inL X l').Nodup := List.nodup_append.2 ⟨hn, hl.nd.filter _, fun a ha c hc e => by
        subst e
        exact (hin a hc).2.2 (o.bl a ha).2.1⟩
      refine List.pairwise_map.2 (List.Pairwise.imp_of_mem (fun {a b} ha hb hab => ?_) h3)
      have pa : 0 ≤ a := by
        rcases List.mem_append.1 ha with q | q
        · exact (hroot a q).1
        · exact (hin a q).1
      have pb : 0 ≤ b := by
        rcases List.mem_append.1 hb with q | q
        · exact (hroot b q).1
        · exact (hin b q).1
      omega
    have := len_sub (W := U.live L.length (cntL L)) hnd fun r hr => by
      obtain ⟨x, hx, rfl⟩ := List.mem_map.1 hr
      have hc : 0 < cntL L x.toNat := by
        rcases List.mem_append.1 hx with q | q
        · exact (hroot x q).2
        · exact (hin x q).2.1
      exact mem_live.2 ⟨hlt _ hc, hc⟩
    rwa [List.length_map] at this
  rw [List.length_append] at hle hge
  omega
end Go.Proofs.YtmkinaijkgkgiaaGreat
/- Pages of blocks, and whether just so many pages are used as are reached; no condition. (Written by th2_gen.py.) -/
namespace Go.Proofs.YtmkinaijkgkgiaaGreat
open Go.RowKit Go.Proofs.U
set_option linter.unusedSimpArgs false
set_option linter.unusedVariables false
theorem one_int {w : World} {g : Nat} {x : Int} (b : BxV w g 3 (en64 x)) (hx : (Lit.int .i64 x).wf = true) : SlI .i64 w (.slice (some ⟨g, 0, none⟩) 1 1) [x] := by
  refine ⟨⟨_, _, rfl, Nat.le_refl _, rfl, (fun h => by cases h), fun z hz => ?_⟩, fun y hy => by rw [List.mem_singleton.1 hy]; exact hx⟩
  cases hz
  intro j u hj
  rw [Addr.plain, Nat.zero_add]
  exact (b.cell j u hj).1
theorem inL_snoc {X : DSt} (l : List Int) (x : Int) : inL X (l ++ [x]) = inL X l ++ (if (rdN X x).1.k = 1 then [] else [x]) := by
  unfold inL
  rw [List.filter_append]
  by_cases h : (rdN X x).1.k = 1
  · rw [if_pos h]; simp [h]
  · rw [if_neg h]; simp [h]
end Go.Proofs.YtmkinaijkgkgiaaGreat
/- Whether just so many pages are used as are reached: law 11's; no condition. (Written by vj_gen.py.) -/
namespace Go.Proofs.YtmkinaijkgkgiaaGreat
open Go.RowKit Go.Proofs.U
set_option linter.unusedSimpArgs false
set_option linter.unusedVariables false
set_option maxRecDepth 100000 in
set_option maxHeartbeats 16000000 in
theorem exact_P {F : Nat → Prop} {gs gp : Nat} {X : DSt} {L0 : List Pg} {pg : Int} {m lv : Nat} {root : Int} {l : List (Int × Int)} {d k : Nat} (o0 : KT X L0 [pg] lv root l d k) (hm : m ≤ 100000) (w : World) (h : Sto w F gs gp X L0 m) :
    Calls Tryz.prog 16 #[trV gs, .int .i64 root] w fun r w' => r = .returned (.bool true) ∧ Fr (onB1 gp) w w' := by
  have hgp := h.ltp
  have hgs := h.lts
  have hFt := h.ft
  have o := o0.tidied
  have hti := ptidy_any h.ok gp
  have hok2 := tidy_ok h.ok
  have hlen2 := tidy_len L0
  have hL0 := h.ok.1
  obtain ⟨L, HL⟩ : ∃ L, Hid (plTidy L0 = L) := ⟨_, rfl⟩
  rw [HL.out] at o hti hok2 hlen2
  obtain ⟨S, hS, hS1, hS2⟩ := o.reach
  have hEx := fun l' (hl : SeenL S l') => show Hid (plFree L + ((inL X l').length + 1) = L.length) from o.exactL (by simp) hS1 hS2 hl
  have hdi := o.iv.di
  have hrw : (Lit.int .i64 root).wf = true := by
    by_cases hr : root = -1
    · rw [hr]; rfl
    · have hq := o0.live hr
      have := o0.iv.toT.low hq.2
      exact wfSm (by omega) (by omega)
  have hL240 := hok2.1
  obtain ⟨NN, HNN⟩ : ∃ NN : Nat, Hid (L.length = NN) := ⟨_, rfl⟩
  have hre := fun W v (s : Sto W F gs gp X L m) (hv : SlI .i64 W v [root]) => reach_any hm v [root] (by simp) W s hv
  rw [hS] at hre
  clear hS
  go_enter Tryz.func16, Tryz.ntmps16
  go_upto_region 5 with (first
    | (with_reducible refine at_wpP ?_; refine wpList_boxG rfl 28 _ rfl (trV gs) [ptr gs] rfl rfl ?_; intro g3 w1 hg3 b1 f1 s1; have l1 := b1.lt; have z1 := f1.size; have k1 := (b1.cell 0 _ rfl).1; have st1 := h.fr0 f1)
    | (go_at_call 19; go_must (refine (npool_any _ st1).mono ?_; rintro e w1 ⟨rfl, rfl⟩))
    | (go_at_call 38; go_must (refine (hti _ st1.pl).mono ?_; rintro e w2 ⟨rfl, p2, f2⟩; have z2 := f2.size; have b2 := b1.ne f2 (by omega); have k2 := (b2.cell 0 _ rfl).1; have st2 := st1.pool f2 p2 hok2 hlen2))
    | (with_reducible refine at_wpP ?_; have q := st2; refine wpList_mkC (ec := en64) (sz := 1) rfl 52 _ rfl Tryz.underlying52 _ info_int2 (by decide) (by decide) root (.int .i64 root) rfl rfl rfl ?_; intro g4 w3 b4 f3 s4; have z3 := f3.size)
    | (go_at_call 39; go_must (refine (hre _ _ (st2.fr0 f3) (one_int b4 hrw)).mono ?_; rintro e w4 ⟨u, l', rfl, hse, hSl, hnew, f4⟩; have z4 := f4.size)))
  have hl' := hse (by first | trivial | rfl)
  obtain ⟨au, cu, rfl, hcu⟩ := hSl.opn
  have hlen := hl'.len
  have st4 := (st2.fr0 f3).fr0 f4
  have D4 : Fr (onB1 gp) w w4 := ((((f1.mono (fun _ _ q => q.elim)).trans f2).thenN f3).thenN f4)
  have b4' := (b2.fr0 f3).fr0 f4
  have e4 := hEx l' hl'
  go_wp2
  go_loopw [30, 7] (fun i c wr => ∃ (k : Nat), k ≤ l'.length ∧ i = .int .i64 (k : Int) ∧ c = .int .i64 ((inL X (l'.take k)).length : Int) ∧ Fr noB w4 wr) (fun i _ _ => l'.length - (intOf i).toNat)
  case atStart => exact ⟨0, Nat.zero_le _, rfl, rfl, Fr.refl _ _⟩
  case round =>
    obtain ⟨j, hj, rfl, rfl, hf⟩ := hrel
    have zf := hf.size
    have str := st4.fr0 hf
    have br := b4'.fr0 hf
    have kr := (br.cell 0 _ rfl).1
    by_cases hlt : j < l'.length
    · have hv1 := (hSl.fr0 hf).1
      obtain ⟨x, Hx⟩ : ∃ x, Hid (l'[j] = x) := ⟨l'[j], (rfl : l'[j] = l'[j])⟩
      have hlt' : (j : Int) < (l'.length : Int) := by omega
      have hx1 := hS1 x ((hl'.mem x).1 (by rw [← Hx.out]; simp))
      obtain ⟨hg1, hg2⟩ := getF_live hdi hx1.1 hx1.2
      have hts : inL X (l'.take (j + 1)) = inL X (l'.take j) ++ (if (rdN X x).1.k = 1 then [] else [x]) := by rw [List.take_succ_eq_append_getElem hlt, Hx.out, inL_snoc]
      have hil : (inL X (l'.take j)).length ≤ j := by
        have h1 : (inL X (l'.take j)).length ≤ (l'.take j).length := List.length_filter_le _ _
        rw [List.length_take] at h1
        omega
      generalize hR : rdN X x = R at *
      obtain ⟨n, e0⟩ := R
      simp only at hg2 hts
      subst hg2
      have hget := fun W (s : Sto W F gs gp X L m) => get_F x s hm hg1
      clear hg1 hR hx1
      by_cases hk1 : n.k = 1
      · have d1 : (n.k == 1) = true := by simpa using hk1
        rw [if_pos hk1, List.append_nil] at hts
        have hts := show Hid _ from hts
        clear hk1
        go_wp2_with (first
          | (with_reducible refine at_wpP ?_; refine at_idx 52 _ _ rfl ?_; go_must (refine wpList_idx1 rfl 52 _ _ rfl 3 Tryz.underlying52 int_size1 (.slice au l'.length cu) _ _ rfl hv1 .i64 (j : Int) j rfl rfl hlt ?_; intro pp u hu hcu; obtain rfl := getX hu hlt Hx.out))
          | (go_at_call 40; go_must (refine (hget _ str).mono ?_; rintro e w5 ⟨vk, rfl, nk, hvk, f5⟩; have z5 := f5.size; have hbl := nk.bl))
          | (with_reducible refine at_wpP ?_; have q := nk; refine wpList_allocN rfl rfl ?_; intro gn w6 hgn b6 f6 sn; have z6 := f6.size; have l6 := b6.lt)
          | (with_reducible refine at_wpP ?_; refine at_st 72 _ _ rfl ?_; have q := b6; go_must (refine wpList_stN rfl _ _ rfl gn rfl n.k n.b vk rfl hbl.out nk.sl 0 (zerB 16) nilS b6 (zerB_len 16) ?_; intro w7 b7 f7; have z7 := f7.size; have F7 := Fr.ownX f6 sn f7; have q7 := NdB.kind b7)))
        go_roundw
        case rel => exact ⟨j + 1, by omega, by go_num, by rw [hts.out], (hf.thenN f5).thenN F7⟩
        case measure => simp [intOf]; omega
      · have d1 : (n.k == 1) = false := by simpa using hk1
        rw [if_neg hk1] at hts
        have hts : Hid (((inL X (l'.take (j + 1))).length : Int) = ((inL X (l'.take j)).length : Int) + 1) := by show _ = _; rw [hts]; simp
        clear hk1
        generalize (inL X (l'.take j)).length = c at *
        go_wp2_with (first
          | (with_reducible refine at_wpP ?_; refine at_idx 52 _ _ rfl ?_; go_must (refine wpList_idx1 rfl 52 _ _ rfl 3 Tryz.underlying52 int_size1 (.slice au l'.length cu) _ _ rfl hv1 .i64 (j : Int) j rfl rfl hlt ?_; intro pp u hu hcu; obtain rfl := getX hu hlt Hx.out))
          | (go_at_call 40; go_must (refine (hget _ str).mono ?_; rintro e w5 ⟨vk, rfl, nk, hvk, f5⟩; have z5 := f5.size; have hbl := nk.bl))
          | (with_reducible refine at_wpP ?_; have q := nk; refine wpList_allocN rfl rfl ?_; intro gn w6 hgn b6 f6 sn; have z6 := f6.size; have l6 := b6.lt)
          | (with_reducible refine at_wpP ?_; refine at_st 72 _ _ rfl ?_; have q := b6; go_must (refine wpList_stN rfl _ _ rfl gn rfl n.k n.b vk rfl hbl.out nk.sl 0 (zerB 16) nilS b6 (zerB_len 16) ?_; intro w7 b7 f7; have z7 := f7.size; have F7 := Fr.ownX f6 sn f7; have q7 := NdB.kind b7)))
        go_roundw
        case rel => exact ⟨j + 1, by omega, by go_num, by rw [hts.out], (hf.thenN f5).thenN F7⟩
        case measure => simp [intOf]; omega
    · obtain rfl : j = l'.length := by omega
      rw [List.take_length]
      have he := show Hid _ from (by have := e4.out; omega : (L0.length : Int) - (plFree L : Int) = ((inL X l').length : Int) + 1)
      have hb1 : (inL X l').length ≤ 240 := by
        have h1 : (inL X l').length ≤ l'.length := List.length_filter_le _ _
        omega
      have hfl := plFree_le L
      generalize (inL X l').length = c at *
      have hsd := fun n => str.fr0 ((Fr.refl noB wr).drewN n)
      go_wp2_with fail
      go_quiet ((first
        | (go_at_call 19; exact Calls.quiet_of_same ((npool_any _ (hsd _)).mono (fun _ _ h => ⟨h.1, h.2.symm⟩)))
        | (go_at_call 41; exact Calls.quiet_of_same ((psize_any _ _ (hsd _).pl).mono (fun _ _ h => ⟨h.1, h.2.symm⟩)))
        | (go_at_call 20; exact Calls.quiet_of_same ((free_F (hsd _) rfl).mono (fun _ _ h => ⟨h.1, h.2.symm⟩)))))
      go_wp2
      go_ret
      exact ⟨by rw [he.out]; simp, (D4.thenN hf).drewN nq⟩
end Go.Proofs.YtmkinaijkgkgiaaGreat
/- The document's Same of entries (layer 10); no condition. -/
namespace Go.Proofs.YtmkinaijkgkgiaaGreat
open Go.RowKit Go.Proofs.U
set_option linter.unusedSimpArgs false
set_option linter.unusedVariables false
theorem cells_at {w : World} {b o n c : Nat} {l : List (Int × Int)} (h : SlR enC 2 w (.slice (some ⟨b, o, none⟩) n c) l) (k : Nat) (hk : k < l.length) {x : Int × Int} (hx : Hid (l[k] = x)) : ∀ q u, (enC x)[q]? = some u → w.cell? ⟨b, o + k * 2 + q, none⟩ = some u := by
  intro q u hq
  obtain ⟨hall, ao, cap, hv, hcap, hlen, hnone, hsome⟩ := h
  cases hv
  have hq2 : q < 2 := (List.getElem?_eq_some_iff.1 hq).1
  have hfl := flat_at enC 2 l hall k hk q hq2
  rw [hx.out, hq] at hfl
  have := hsome _ rfl _ _ hfl
  rw [Addr.add_lit] at this
  rw [Nat.add_assoc]
  exact this
set_option maxRecDepth 100000 in
set_option maxHeartbeats 4000000 in
theorem same10_any (va vb : Value) (la lb : List (Int × Int)) (w : World) (ha : SlP .i64 .i64 w va la) (hb : SlP .i64 .i64 w vb lb) (hm : la.length ≤ 1000) :
    Calls Tryz.prog 13 #[va, vb] w fun r w' => r = .returned (.bool (la == lb)) ∧ Fr noB w w' := by
  obtain ⟨a0, c0, hva, hc0⟩ := ha.1.opn
  obtain ⟨a1, c1, hvb, hc1⟩ := hb.1.opn
  by_cases hne : la.length = lb.length
  · by_cases h0 : la.length = 0
    · have e1 : la = [] := List.eq_nil_of_length_eq_zero h0
      have e2 : lb = [] := List.eq_nil_of_length_eq_zero (by omega)
      subst e1; subst e2
      subst hva; subst hvb
      go_enter Tryz.func13, Tryz.ntmps13
      go_wp2
      go_loop [13] (fun i => i = .int .i64 0) (fun _ => 0)
      case atStart => rfl
      case round =>
        subst hrel
        go_wp2
        go_ret
        exact ⟨rfl, Fr.refl _ _⟩
    · clear hva hvb hc0 hc1
      obtain ⟨ba, oa, ca, rfl, hca⟩ := SlR.addr ha.1 (by decide) (by omega)
      obtain ⟨bb, ob, cb, rfl, hcb⟩ := SlR.addr hb.1 (by decide) (by omega)
      have hnt : ((la.length : Int) == (lb.length : Int)) = true := by simp; omega
      have hneI : (la.length : Int) = (lb.length : Int) := by omega
      have hneI := show Hid _ from hneI
      have hne' := show Hid _ from hne
      clear hne
      go_enter Tryz.func13, Tryz.ntmps13
      go_wp2
      go_loopw [13] (fun i wr => ∃ (k : Nat), k ≤ la.length ∧ i = .int .i64 (k : Int) ∧ Hid (la.take k = lb.take k) ∧ Fr noB w wr) (fun i _ => la.length - (intOf i).toNat)
      case atStart => exact ⟨0, by omega, rfl, rfl, Fr.refl _ _⟩
      case round =>
        obtain ⟨k, hk, rfl, htk, hf⟩ := hrel
        by_cases hlt : k < la.length
        · have hltb : k < lb.length := by rw [← hne'.out]; exact hlt
          have hlt' : (k : Int) < (la.length : Int) := by omega
          have hltb' : (k : Int) < (lb.length : Int) := by omega
          obtain ⟨x, Hx⟩ : ∃ x, Hid (la[k] = x) := ⟨la[k], (rfl : la[k] = la[k])⟩
          obtain ⟨y, Hy⟩ : ∃ y, Hid (lb[k] = y) := ⟨lb[k], (rfl : lb[k] = lb[k])⟩
          go_wp2
          obtain ⟨w0, HW⟩ : ∃ w0, Hid (wr.drew = w0) := ⟨_, rfl⟩
          have f0 : Fr noB wr w0 := by rw [← HW.out]; exact (Fr.refl _ _).drew
          have z0 := f0.size
          have hSA := (ha.1.fr0 hf).fr0 f0
          have hSB := (hb.1.fr0 hf).fr0 f0
          refine wp_region_chain_layT (by kernel_rfl) [] [none, none, none, none, none, none, none, none, none]
            [fun v => v = .slice (some ⟨ba, oa, none⟩) la.length ca, fun v => v = .int .i64 (k : Int), fun v => v = .pointer (some ⟨ba, oa + k * 2, none⟩), fun v => v = enV x, fun v => v = .slice (some ⟨bb, ob, none⟩) lb.length cb, fun v => v = .int .i64 (k : Int), fun v => v = .pointer (some ⟨bb, ob + k * 2, none⟩), fun v => v = enV y, fun v => v = .bool (!(x == y))]
            (JGX w0) (by rw [HW.out]; exact Fr.refl _ _) (by kernel_rfl) (by kernel_rfl) (by decide) ⟨?o0, ?o1, ?o2, ?o3, ?o4, ?o5, ?o6, ?o7, ?o8, trivial⟩ ?oe
          case o0 =>
            intro A W hv hlen hJ hbase hdL hdH
            have e0 : A.eval (.tmp 0) = .slice (some ⟨ba, oa, none⟩) la.length ca := hbase 0 (by kernel_rfl)
            have f0 : A.tmps[0]?.getD undef = .slice (some ⟨ba, oa, none⟩) la.length ca := by simpa [Act.eval] using e0
            exact light_val rfl (v := .slice (some ⟨ba, oa, none⟩) la.length ca) (by simp [execOp, e0, f0]) hJ rfl
          case o1 =>
            intro A W hv hlen hJ hbase hdL hdH
            have e5 : A.eval (.tmp 5) = .int .i64 (k : Int) := hbase 5 (by kernel_rfl)
            have f5 : A.tmps[5]?.getD undef = .int .i64 (k : Int) := by simpa [Act.eval] using e5
            exact light_val rfl (v := .int .i64 (k : Int)) (by simp [execOp, e5, f5]) hJ rfl
          case o2 =>
            intro A W hv hlen hJ hbase hdL hdH
            have e16 : A.eval (.tmp 16) = .slice (some ⟨ba, oa, none⟩) la.length ca := hdL 0 16 (by kernel_rfl) (by kernel_rfl) (by kernel_rfl)
            have f16 : A.tmps[16]?.getD undef = .slice (some ⟨ba, oa, none⟩) la.length ca := by simpa [Act.eval] using e16
            have e17 : A.eval (.tmp 17) = .int .i64 (k : Int) := hdL 1 17 (by kernel_rfl) (by kernel_rfl) (by kernel_rfl)
            have f17 : A.tmps[17]?.getD undef = .int .i64 (k : Int) := by simpa [Act.eval] using e17
            have hr := run_idxS (P := Tryz.prog) (w := W) (sz := 2) 31 40 uE en_size ba oa la.length ca .i64 k (by exact hlt)
            exact light_val rfl (v := .pointer (some ⟨ba, oa + k * 2, none⟩)) (by simp [execOp, e16, e17, hr, Result.andThen]) hJ rfl
          case o3 =>
            intro A W hv hlen hJ hbase hdL hdH
            have e18 : A.eval (.tmp 18) = .pointer (some ⟨ba, oa + k * 2, none⟩) := hdL 2 18 (by kernel_rfl) (by kernel_rfl) (by kernel_rfl)
            have f18 : A.tmps[18]?.getD undef = .pointer (some ⟨ba, oa + k * 2, none⟩) := by simpa [Act.eval] using e18
            have hr := run_ldE W ba (oa + k * 2) x (cells_at (hSA.fr0 (show Fr noB w0 W from hJ)) k (by exact hlt) Hx)
            exact light_val rfl (v := enV x) (by simp [execOp, e18, hr, Result.andThen]) hJ rfl
          case o4 =>
            intro A W hv hlen hJ hbase hdL hdH
            have e1 : A.eval (.tmp 1) = .slice (some ⟨bb, ob, none⟩) lb.length cb := hbase 1 (by kernel_rfl)
            have f1 : A.tmps[1]?.getD undef = .slice (some ⟨bb, ob, none⟩) lb.length cb := by simpa [Act.eval] using e1
            exact light_val rfl (v := .slice (some ⟨bb, ob, none⟩) lb.length cb) (by simp [execOp, e1, f1]) hJ rfl
          case o5 =>
            intro A W hv hlen hJ hbase hdL hdH
            have e5 : A.eval (.tmp 5) = .int .i64 (k : Int) := hbase 5 (by kernel_rfl)
            have f5 : A.tmps[5]?.getD undef = .int .i64 (k : Int) := by simpa [Act.eval] using e5
            exact light_val rfl (v := .int .i64 (k : Int)) (by simp [execOp, e5, f5]) hJ rfl
          case o6 =>
            intro A W hv hlen hJ hbase hdL hdH
            have e20 : A.eval (.tmp 20) = .slice (some ⟨bb, ob, none⟩) lb.length cb := hdL 4 20 (by kernel_rfl) (by kernel_rfl) (by kernel_rfl)
            have f20 : A.tmps[20]?.getD undef = .slice (some ⟨bb, ob, none⟩) lb.length cb := by simpa [Act.eval] using e20
            have e21 : A.eval (.tmp 21) = .int .i64 (k : Int) := hdL 5 21 (by kernel_rfl) (by kernel_rfl) (by kernel_rfl)
            have f21 : A.tmps[21]?.getD undef = .int .i64 (k : Int) := by simpa [Act.eval] using e21
            have hr := run_idxS (P := Tryz.prog) (w := W) (sz := 2) 31 40 uE en_size bb ob lb.length cb .i64 k (by exact hltb)
            exact light_val rfl (v := .pointer (some ⟨bb, ob + k * 2, none⟩)) (by simp [execOp, e20, e21, hr, Result.andThen]) hJ rfl
          case o7 =>
            intro A W hv hlen hJ hbase hdL hdH
            have e22 : A.eval (.tmp 22) = .pointer (some ⟨bb, ob + k * 2, none⟩) := hdL 6 22 (by kernel_rfl) (by kernel_rfl) (by kernel_rfl)
            have f22 : A.tmps[22]?.getD undef = .pointer (some ⟨bb, ob + k * 2, none⟩) := by simpa [Act.eval] using e22
            have hr := run_ldE W bb (ob + k * 2) y (cells_at (hSB.fr0 (show Fr noB w0 W from hJ)) k (by exact hltb) Hy)
            exact light_val rfl (v := enV y) (by simp [execOp, e22, hr, Result.andThen]) hJ rfl
          case o8 =>
            intro A W hv hlen hJ hbase hdL hdH
            have e19 : A.eval (.tmp 19) = enV x := hdL 3 19 (by kernel_rfl) (by kernel_rfl) (by kernel_rfl)
            have f19 : A.tmps[19]?.getD undef = enV x := by simpa [Act.eval] using e19
            have e23 : A.eval (.tmp 23) = enV y := hdL 7 23 (by kernel_rfl) (by kernel_rfl) (by kernel_rfl)
            have f23 : A.tmps[23]?.getD undef = enV y := by simpa [Act.eval] using e23
            have hr := run_neE x y W
            have hg : (eqGuard .neq 40 (.tmp 19) (.tmp 23) (enV x) (enV y)).run Tryz.prog W = .ok () W := run_eqGuard_agg W _ _ _ _ _ _ en_eqg
            exact light_val rfl (v := .bool (!(x == y))) (by simp [execOp, e19, e23, hr, hg, Result.andThen]) hJ rfl
          case oe =>
            intro vs W' hv hlen hJ hL hH
            have x0 : vs 0 = .slice (some ⟨ba, oa, none⟩) la.length ca := hL 0 (by kernel_rfl) (by kernel_rfl)
            have x1 : vs 1 = .int .i64 (k : Int) := hL 1 (by kernel_rfl) (by kernel_rfl)
            have x2 : vs 2 = .pointer (some ⟨ba, oa + k * 2, none⟩) := hL 2 (by kernel_rfl) (by kernel_rfl)
            have x3 : vs 3 = enV x := hL 3 (by kernel_rfl) (by kernel_rfl)
            have x4 : vs 4 = .slice (some ⟨bb, ob, none⟩) lb.length cb := hL 4 (by kernel_rfl) (by kernel_rfl)
            have x5 : vs 5 = .int .i64 (k : Int) := hL 5 (by kernel_rfl) (by kernel_rfl)
            have x6 : vs 6 = .pointer (some ⟨bb, ob + k * 2, none⟩) := hL 6 (by kernel_rfl) (by kernel_rfl)
            have x7 : vs 7 = enV y := hL 7 (by kernel_rfl) (by kernel_rfl)
            have x8 : vs 8 = .bool (!(x == y)) := hL 8 (by kernel_rfl) (by kernel_rfl)
            simp only [layL, Nat.reduceAdd, Act.put, List.setIfInBounds_toArray, List.set_cons_zero, List.set_cons_succ, x0, x1, x2, x3, x4, x5, x6, x7, x8]
            clear x0 x1 x2 x3 x4 x5 x6 x7 x8 hL hH
            have hF : Fr noB w W' := hf.thenN (f0.thenN hJ)
            clear hJ
            by_cases hxy : x = y
            · have hb : (x == y) = true := by rw [beq_iff_eq]; exact hxy
              rw [hb]
              go_wp2
              go_roundw
              case rel => exact ⟨k + 1, by omega, by go_num, take_eq_succ htk hlt hltb (by rw [Hx.out, Hy.out, hxy]), hF⟩
              case measure => simp [intOf]; omega
            · have hb : (x == y) = false := by rw [beq_eq_false_iff_ne]; exact hxy
              rw [hb]
              have hr : (la == lb) = false := by
                rw [beq_eq_false_iff_ne]
                intro h
                subst h
                exact hxy (Hx.out.symm.trans Hy.out)
              go_wp2
              go_ret
              exact ⟨by first | rfl | (rw [hr]; rfl), hF⟩
        · have hke : k = la.length := by omega
          have hr : (la == lb) = true := by
            rw [beq_iff_eq]
            have h1 := htk.out
            rw [List.take_of_length_le (by omega), List.take_of_length_le (by rw [← hne'.out]; omega)] at h1
            exact h1
          have hlt' : ¬ (k : Int) < (la.length : Int) := by omega
          go_wp2
          go_ret
          exact ⟨by first | rfl | (rw [hr]; rfl), hf⟩
  · subst hva; subst hvb
    have hnt : ((la.length : Int) == (lb.length : Int)) = false := by simp; omega
    have hnt' : ¬ (la.length : Int) = (lb.length : Int) := by omega
    have hr : (la == lb) = false := by
      rw [beq_eq_false_iff_ne]
      intro e; exact hne (by rw [e])
    rw [hr]
    go_enter Tryz.func13, Tryz.ntmps13
    go_wp2
    go_ret
    exact ⟨rfl, Fr.refl _ _⟩
end Go.Proofs.YtmkinaijkgkgiaaGreat
/- The document's Put and Find; no condition. (Written by th1_gen.py.) -/
namespace Go.Proofs.YtmkinaijkgkgiaaGreat
open Go.RowKit Go.Proofs.U
set_option linter.unusedSimpArgs false
set_option linter.unusedVariables false
/-- What is still to come. -/
def tailR (d : Bool) (r : List (Int × Int)) (x : Int × Int) : List (Int × Int) := if d then r.filter (fun z => !(z.1 == x.1)) else putL r x
theorem tailR_t1 {r : List (Int × Int)} {x y : Int × Int} (h : y.1 = x.1) : tailR true (y :: r) x = tailR true r x := by
  unfold tailR; simp [h]
theorem tailR_t0 {r : List (Int × Int)} {x y : Int × Int} (h : ¬ y.1 = x.1) : tailR true (y :: r) x = y :: tailR true r x := by
  unfold tailR; simp [h]
theorem tailR_f1 {r : List (Int × Int)} {x y : Int × Int} (h : y.1 = x.1) : tailR false (y :: r) x = x :: tailR true r x := by
  unfold tailR; simp [putL, h]
theorem tailR_f0 {r : List (Int × Int)} {x y : Int × Int} (h0 : x.1 ≤ y.1) (h : ¬ y.1 = x.1) : tailR false (y :: r) x = x :: y :: tailR true r x := by
  unfold tailR; simp [putL, h0, h]
theorem tailR_fl {r : List (Int × Int)} {x y : Int × Int} (h0 : ¬ x.1 ≤ y.1) : tailR false (y :: r) x = y :: tailR false r x := by
  unfold tailR; simp [putL, h0]
theorem bx_cells {w : World} {g : Nat} {x : Int × Int} (b : BxV w g 40 (enC x)) : ∀ q u, (enC x)[q]? = some u → w.cell? ⟨g, 0 + q, none⟩ = some u := fun q u h => by rw [Nat.zero_add]; exact (b.cell q u h).1
set_option maxRecDepth 100000 in
set_option maxHeartbeats 16000000 in
theorem refPut_no (v : Value) (x : Int × Int) (w : World) (hx : x.1 < 0 ∨ 63 < x.1) :
    Calls Tryz.prog 9 #[v, enV x] w fun r w' => r = .returned (.tuple #[v, .int .i64 101]) ∧ Fr noB w w' := by
  by_cases h0 : x.1 < 0
  · have d0 : decide (x.1 < (0 : Int)) = true := decide_eq_true h0
    go_enter Tryz.func9, Tryz.ntmps9
    go_wp2_with (first
      | (with_reducible refine at_wpP ?_; refine wpList_boxG rfl 40 _ rfl (enV x) (enC x) rfl rfl ?_; intro g1 w1 hg1 b1 f1 s1; have q1 := (b1.cell 0 _ rfl).1))
    go_ret2
    exact ⟨rfl, f1⟩
  · have d0 : decide (x.1 < (0 : Int)) = false := decide_eq_false h0
    have d1 : decide ((63 : Int) < x.1) = true := decide_eq_true (by omega)
    go_enter Tryz.func9, Tryz.ntmps9
    go_wp2_with (first
      | (with_reducible refine at_wpP ?_; refine wpList_boxG rfl 40 _ rfl (enV x) (enC x) rfl rfl ?_; intro g1 w1 hg1 b1 f1 s1; have q1 := (b1.cell 0 _ rfl).1))
    go_ret2
    exact ⟨rfl, f1⟩
set_option maxRecDepth 100000 in
set_option maxHeartbeats 16000000 in
theorem refPut_any (v : Value) (la : List (Int × Int)) (x : Int × Int) (w : World) (hv : SlR enC 2 w v la) (hx : 0 ≤ x.1 ∧ x.1 ≤ 63) (hl : la.length ≤ 1000) :
    Calls Tryz.prog 9 #[v, enV x] w fun r w' => ∃ u, r = .returned (.tuple #[u, .int .i64 0]) ∧ EnO w' w.heap.size u (putL la x) ∧ Fr noB w w' := by
  obtain ⟨a0, c0, rfl, hc0⟩ := hv.opn
  have d0 : decide (x.1 < (0 : Int)) = false := decide_eq_false (by omega)
  have d1 : decide ((63 : Int) < x.1) = false := decide_eq_false (by omega)
  go_enter Tryz.func9, Tryz.ntmps9
  go_wp2_with (first
    | (with_reducible refine at_wpP ?_; refine wpList_boxG rfl 40 _ rfl (enV x) (enC x) rfl rfl ?_; intro g1 w1 hg1 b1 f1 s1; have q1 := (b1.cell 0 _ rfl).1; have z1 := f1.size; have l1 := b1.lt)
    | (with_reducible refine at_wpP ?_; refine wpList_mk0 enC 2 rfl 31 rfl 40 Tryz.underlying31 en_size ?_; intro g4 w4 o4 f4 s4 t4; have z4 := f4.size))
  go_loopw [22, 6, 7] (fun i v d wr => ∃ (k : Nat) (o : List (Int × Int)) (dn : Bool), k ≤ la.length ∧ i = .int .i64 (k : Int) ∧ OwnR enC 2 40 wr w1.heap.size v o ∧ d = .bool dn ∧ Hid (o ++ tailR dn (la.drop k) x = putL la x) ∧ o.length ≤ 2 * k ∧ Fr noB w1 wr) (fun i _ _ _ => la.length - (intOf i).toNat)
  case atStart => exact ⟨0, [], false, Nat.zero_le _, rfl, o4, rfl, rfl, by simp, f4⟩
  case round =>
    obtain ⟨j, o, dn, hj, rfl, ho, rfl, he, hol, hf⟩ := hrel
    have hSj := (hv.fr0 f1).fr0 hf
    have zf := hf.size
    have cr := b1.fr0 hf
    have kr := (cr.cell 0 _ rfl).1
    have hnb := ho.newB
    obtain ⟨ao, co, rfl⟩ := ho.opn
    by_cases hlt : j < la.length
    · obtain ⟨y, Hy⟩ : ∃ y, Hid (la[j] = y) := ⟨la[j], (rfl : la[j] = la[j])⟩
      have hlt' : (j : Int) < (la.length : Int) := by omega
      have hdr : la.drop j = y :: la.drop (j + 1) := by rw [List.drop_eq_getElem_cons hlt, Hy.out]
      rw [hdr] at he
      clear hdr
      by_cases e : y.1 = x.1
      · cases dn with
        | true =>
          have de : (y.1 == x.1) = true := by simpa using e
          have hn := show Hid _ from (by have := he.out; rwa [tailR_t1 e] at this : o ++ tailR true (la.drop (j + 1)) x = putL la x)
          clear he
          go_wp2_with (first
            | (with_reducible refine at_wpP ?_; refine at_idx 31 _ _ rfl ?_; go_must (refine wpList_idxR rfl 31 _ _ rfl 40 Tryz.underlying31 2 en_size _ _ _ rfl hSj (by decide) _ _ j rfl rfl hlt ?_; rw [Hy.out]; intro ba oa hba hca))
            | (with_reducible refine at_wpP ?_; refine at_ld 40 _ rfl ?_; have q := hca; go_must (refine wpList_ldE rfl _ rfl ba oa rfl y hca ?_))
            | (with_reducible refine at_wpP ?_; refine wpList_allocE rfl rfl ?_; intro gl w5 hgl b5 f5 sl; have l5 := b5.lt; have z5 := f5.size)
            | (with_reducible refine at_wpP ?_; refine at_st 40 _ _ rfl ?_; go_must (refine wpList_stE rfl _ _ rfl gl rfl (0, 0) y b5 rfl ?_; intro w6 B6 f6; have F6 := Fr.ownX f5 sl f6; have z6 := f6.size; obtain ⟨k0, k1⟩ := B6.all; have c6 := b1.fr0 (hf.thenN F6); have q6 := (c6.cell 0 _ rfl).1; have o6 := ho.fr0 F6)))
          go_roundw
          case rel => exact ⟨j + 1, o, true, by omega, by go_num, o6, rfl, hn, by omega, hf.thenN F6⟩
          case measure => simp [intOf]; omega
        | false =>
          have de : (y.1 == x.1) = true := by simpa using e
          have dl : decide (x.1 ≤ y.1) = true := decide_eq_true (by omega)
          have hn := show Hid _ from (by have := he.out; rwa [tailR_f1 e] at this : o ++ (x :: tailR true (la.drop (j + 1)) x) = putL la x)
          clear he
          go_wp2_with (first
            | (with_reducible refine at_wpP ?_; refine at_ld 40 _ rfl ?_; have q := c6; go_must (refine wpList_ldE rfl _ rfl g1 0 rfl x (bx_cells c6) ?_))
            | (with_reducible refine at_wpP ?_; refine wpList_mkC rfl 31 _ rfl uE _ en_info2 (by decide) (by decide) x (enV x) rfl rfl rfl ?_; intro g7 w7 b7 f7 s7; have z7 := f7.size)
            | (at_builtin; have q := b7; go_must (refine wpList_appL rfl _ _ 31 rfl _ 16 uE en_info rfl (by decide) (.slice ao o.length co) rfl (o6.fr0 f7) g7 rfl x rfl _ b7 (en_one _) ?hq1 ?hq2 ?hq3 ?_; rotate_left 3; intro u8 w8 o8 f8 p8; have z8 := f8.size; have c8 := (c6.fr0 f7).fr f8 (fun q => by have := (hnb _ q).1; omega); have q8 := (c8.cell 0 _ rfl).1; have B8 := (B6.fr0 f7).fr f8 (fun q => by have := (hnb _ q).2; omega); obtain ⟨k08, k18⟩ := EnB.all B8))
            | (with_reducible refine at_wpP ?_; refine at_idx 31 _ _ rfl ?_; go_must (refine wpList_idxR rfl 31 _ _ rfl 40 Tryz.underlying31 2 en_size _ _ _ rfl hSj (by decide) _ _ j rfl rfl hlt ?_; rw [Hy.out]; intro ba oa hba hca))
            | (with_reducible refine at_wpP ?_; refine at_ld 40 _ rfl ?_; have q := hca; go_must (refine wpList_ldE rfl _ rfl ba oa rfl y hca ?_))
            | (with_reducible refine at_wpP ?_; refine wpList_allocE rfl rfl ?_; intro gl w5 hgl b5 f5 sl; have l5 := b5.lt; have z5 := f5.size)
            | (with_reducible refine at_wpP ?_; refine at_st 40 _ _ rfl ?_; go_must (refine wpList_stE rfl _ _ rfl gl rfl (0, 0) y b5 rfl ?_; intro w6 B6 f6; have F6 := Fr.ownX f5 sl f6; have z6 := f6.size; obtain ⟨k0, k1⟩ := B6.all; have c6 := b1.fr0 (hf.thenN F6); have q6 := (c6.cell 0 _ rfl).1; have o6 := ho.fr0 F6)))
          case hq1 => unfold maxLen; omega
          case hq2 => omega
          case hq3 => omega
          go_roundw
          case rel => exact ⟨j + 1, _, true, by omega, by go_num, o8, rfl, (by show _ = _; rw [List.append_assoc]; exact hn.out), by simp; omega, ((hf.thenN F6).thenN f7).thenT f8 (fun k hk e => by have := (hnb k e).1; omega)⟩
          case measure => simp [intOf]; omega
      · cases dn with
        | true =>
          have de : (y.1 == x.1) = false := by simpa using e
          have hn := show Hid _ from (by have := he.out; rwa [tailR_t0 e] at this : o ++ (y :: tailR true (la.drop (j + 1)) x) = putL la x)
          clear he
          go_wp2_with (first
            | (with_reducible refine at_wpP ?_; refine at_ld 40 _ rfl ?_; have q := B6; go_must (refine wpList_ldE rfl _ rfl gl 0 rfl y (bx_cells B6) ?_))
            | (with_reducible refine at_wpP ?_; refine wpList_mkC rfl 31 _ rfl uE _ en_info2 (by decide) (by decide) y (enV y) rfl rfl rfl ?_; intro g7 w7 b7 f7 s7; have z7 := f7.size)
            | (at_builtin; have q := b7; go_must (refine wpList_appL rfl _ _ 31 rfl _ 16 uE en_info rfl (by decide) (.slice ao o.length co) rfl (o6.fr0 f7) g7 rfl y rfl _ b7 (en_one _) ?hq1 ?hq2 ?hq3 ?_; rotate_left 3; intro u8 w8 o8 f8 p8; have z8 := f8.size))
            | (with_reducible refine at_wpP ?_; refine at_idx 31 _ _ rfl ?_; go_must (refine wpList_idxR rfl 31 _ _ rfl 40 Tryz.underlying31 2 en_size _ _ _ rfl hSj (by decide) _ _ j rfl rfl hlt ?_; rw [Hy.out]; intro ba oa hba hca))
            | (with_reducible refine at_wpP ?_; refine at_ld 40 _ rfl ?_; have q := hca; go_must (refine wpList_ldE rfl _ rfl ba oa rfl y hca ?_))
            | (with_reducible refine at_wpP ?_; refine wpList_allocE rfl rfl ?_; intro gl w5 hgl b5 f5 sl; have l5 := b5.lt; have z5 := f5.size)
            | (with_reducible refine at_wpP ?_; refine at_st 40 _ _ rfl ?_; go_must (refine wpList_stE rfl _ _ rfl gl rfl (0, 0) y b5 rfl ?_; intro w6 B6 f6; have F6 := Fr.ownX f5 sl f6; have z6 := f6.size; obtain ⟨k0, k1⟩ := B6.all; have c6 := b1.fr0 (hf.thenN F6); have q6 := (c6.cell 0 _ rfl).1; have o6 := ho.fr0 F6)))
          case hq1 => unfold maxLen; omega
          case hq2 => omega
          case hq3 => omega
          go_roundw
          case rel => exact ⟨j + 1, _, true, by omega, by go_num, o8, rfl, (by show _ = _; rw [List.append_assoc]; exact hn.out), by simp; omega, ((hf.thenN F6).thenN f7).thenT f8 (fun k hk e => by have := (hnb k e).1; omega)⟩
          case measure => simp [intOf]; omega
        | false =>
          by_cases hle : x.1 ≤ y.1
          · skip
            have de : (y.1 == x.1) = false := by simpa using e
            have dl : decide (x.1 ≤ y.1) = true := decide_eq_true (by omega)
            have hn := show Hid _ from (by have := he.out; rwa [tailR_f0 hle e] at this : o ++ (x :: y :: tailR true (la.drop (j + 1)) x) = putL la x)
            clear he
            go_upto_region 11 with (first
              | (with_reducible refine at_wpP ?_; refine at_ld 40 _ rfl ?_; have q := c6; go_must (refine wpList_ldE rfl _ rfl g1 0 rfl x (bx_cells c6) ?_))
              | (with_reducible refine at_wpP ?_; refine wpList_mkC rfl 31 _ rfl uE _ en_info2 (by decide) (by decide) x (enV x) rfl rfl rfl ?_; intro g7 w7 b7 f7 s7; have z7 := f7.size)
              | (at_builtin; have q := b7; go_must (refine wpList_appL rfl _ _ 31 rfl _ 16 uE en_info rfl (by decide) (.slice ao o.length co) rfl (o6.fr0 f7) g7 rfl x rfl _ b7 (en_one _) ?hq1 ?hq2 ?hq3 ?_; rotate_left 3; intro u8 w8 o8 f8 p8; have z8 := f8.size; have c8 := (c6.fr0 f7).fr f8 (fun q => by have := (hnb _ q).1; omega); have q8 := (c8.cell 0 _ rfl).1; have B8 := (B6.fr0 f7).fr f8 (fun q => by have := (hnb _ q).2; omega); obtain ⟨k08, k18⟩ := EnB.all B8))
              | (with_reducible refine at_wpP ?_; refine at_idx 31 _ _ rfl ?_; go_must (refine wpList_idxR rfl 31 _ _ rfl 40 Tryz.underlying31 2 en_size _ _ _ rfl hSj (by decide) _ _ j rfl rfl hlt ?_; rw [Hy.out]; intro ba oa hba hca))
              | (with_reducible refine at_wpP ?_; refine at_ld 40 _ rfl ?_; have q := hca; go_must (refine wpList_ldE rfl _ rfl ba oa rfl y hca ?_))
              | (with_reducible refine at_wpP ?_; refine wpList_allocE rfl rfl ?_; intro gl w5 hgl b5 f5 sl; have l5 := b5.lt; have z5 := f5.size)
              | (with_reducible refine at_wpP ?_; refine at_st 40 _ _ rfl ?_; go_must (refine wpList_stE rfl _ _ rfl gl rfl (0, 0) y b5 rfl ?_; intro w6 B6 f6; have F6 := Fr.ownX f5 sl f6; have z6 := f6.size; obtain ⟨k0, k1⟩ := B6.all; have c6 := b1.fr0 (hf.thenN F6); have q6 := (c6.cell 0 _ rfl).1; have o6 := ho.fr0 F6)))
            case hq1 => unfold maxLen; omega
            case hq2 => omega
            case hq3 => omega
            have hnb8 := o8.newB
            have hl8 : (o ++ [x]).length = o.length + 1 := by simp
            obtain ⟨o', HO⟩ : ∃ o', Hid (o ++ [x] = o') := ⟨_, rfl⟩
            rw [HO.out] at o8 hl8
            obtain ⟨a8, c8', hu8⟩ := o8.opn
            subst hu8
            go_wp2_with (first
              | (with_reducible refine at_wpP ?_; refine at_ld 40 _ rfl ?_; have q := B8; go_must (refine wpList_ldE rfl _ rfl gl 0 rfl y (bx_cells B8) ?_))
              | (with_reducible refine at_wpP ?_; refine wpList_mkC rfl 31 _ rfl uE _ en_info2 (by decide) (by decide) y (enV y) rfl rfl rfl ?_; intro g9 w9 b9 f9 s9; have z9 := f9.size)
              | (at_builtin; have q := b9; go_must (refine wpList_appL rfl _ _ 31 rfl _ 16 uE en_info rfl (by decide) (.slice a8 o'.length c8') rfl (o8.fr0 f9) g9 rfl y rfl _ b9 (en_one _) ?hq1 ?hq2 ?hq3 ?_; rotate_left 3; intro u10 w10 o10 f10 p10; have z10 := f10.size)))
            case hq1 => unfold maxLen; omega
            case hq2 => omega
            case hq3 => omega
            go_roundw
            case rel => exact ⟨j + 1, _, true, by omega, by go_num, o10, rfl, (by show _ = _; rw [← HO.out, List.append_assoc, List.append_assoc]; exact hn.out), by simp; omega, ((((hf.thenN F6).thenN f7).thenT f8 (fun k hk e => by have := (hnb k e).1; omega)).thenN f9).thenT f10 (fun k hk e => by have := (hnb8 k e).1; omega)⟩
            case measure => simp [intOf]; omega
          · skip
            have de : (y.1 == x.1) = false := by simpa using e
            have dl : decide (x.1 ≤ y.1) = false := decide_eq_false (by omega)
            have hn := show Hid _ from (by have := he.out; rwa [tailR_fl hle] at this : o ++ (y :: tailR false (la.drop (j + 1)) x) = putL la x)
            clear he
            go_wp2_with (first
              | (with_reducible refine at_wpP ?_; refine at_ld 40 _ rfl ?_; have q := B6; go_must (refine wpList_ldE rfl _ rfl gl 0 rfl y (bx_cells B6) ?_))
              | (with_reducible refine at_wpP ?_; refine wpList_mkC rfl 31 _ rfl uE _ en_info2 (by decide) (by decide) y (enV y) rfl rfl rfl ?_; intro g7 w7 b7 f7 s7; have z7 := f7.size)
              | (at_builtin; have q := b7; go_must (refine wpList_appL rfl _ _ 31 rfl _ 16 uE en_info rfl (by decide) (.slice ao o.length co) rfl (o6.fr0 f7) g7 rfl y rfl _ b7 (en_one _) ?hq1 ?hq2 ?hq3 ?_; rotate_left 3; intro u8 w8 o8 f8 p8; have z8 := f8.size))
              | (with_reducible refine at_wpP ?_; refine at_idx 31 _ _ rfl ?_; go_must (refine wpList_idxR rfl 31 _ _ rfl 40 Tryz.underlying31 2 en_size _ _ _ rfl hSj (by decide) _ _ j rfl rfl hlt ?_; rw [Hy.out]; intro ba oa hba hca))
              | (with_reducible refine at_wpP ?_; refine at_ld 40 _ rfl ?_; have q := hca; go_must (refine wpList_ldE rfl _ rfl ba oa rfl y hca ?_))
              | (with_reducible refine at_wpP ?_; refine wpList_allocE rfl rfl ?_; intro gl w5 hgl b5 f5 sl; have l5 := b5.lt; have z5 := f5.size)
              | (with_reducible refine at_wpP ?_; refine at_st 40 _ _ rfl ?_; go_must (refine wpList_stE rfl _ _ rfl gl rfl (0, 0) y b5 rfl ?_; intro w6 B6 f6; have F6 := Fr.ownX f5 sl f6; have z6 := f6.size; obtain ⟨k0, k1⟩ := B6.all; have c6 := b1.fr0 (hf.thenN F6); have q6 := (c6.cell 0 _ rfl).1; have o6 := ho.fr0 F6)))
            case hq1 => unfold maxLen; omega
            case hq2 => omega
            case hq3 => omega
            go_roundw
            case rel => exact ⟨j + 1, _, false, by omega, by go_num, o8, rfl, (by show _ = _; rw [List.append_assoc]; exact hn.out), by simp; omega, ((hf.thenN F6).thenN f7).thenT f8 (fun k hk e => by have := (hnb k e).1; omega)⟩
            case measure => simp [intOf]; omega
    · obtain rfl : j = la.length := by omega
      rw [List.drop_length] at he
      cases dn with
      | true =>
        have he : o = putL la x := by have := he.out; simpa [tailR] using this
        subst he
        go_wp2
        go_ret2
        exact ⟨_, rfl, ho.rebase (by omega), f1.thenN hf⟩
      | false =>
        have he := show Hid _ from (by have := he.out; simpa [tailR, putL] using this : o ++ [x] = putL la x)
        go_wp2_with (first
          | (with_reducible refine at_wpP ?_; refine at_ld 40 _ rfl ?_; have q := cr; go_must (refine wpList_ldE rfl _ rfl g1 0 rfl x (bx_cells cr) ?_))
          | (with_reducible refine at_wpP ?_; refine wpList_mkC rfl 31 _ rfl uE _ en_info2 (by decide) (by decide) x (enV x) rfl rfl rfl ?_; intro g7 w7 b7 f7 s7; have z7 := f7.size)
          | (at_builtin; have q := b7; go_must (refine wpList_appL rfl _ _ 31 rfl _ 16 uE en_info rfl (by decide) (.slice ao o.length co) rfl (ho.fr0 f7) g7 rfl x rfl _ b7 (en_one _) ?hq1 ?hq2 ?hq3 ?_; rotate_left 3; intro u8 w8 o8 f8 p8; have z8 := f8.size)))
        case hq1 => unfold maxLen; omega
        case hq2 => omega
        case hq3 => omega
        go_ret2
        exact ⟨_, rfl, by rw [← he.out]; exact o8.rebase (by omega), ((f1.thenN hf).thenN f7).thenT f8 (fun k hk e => by have := (hnb k e).1; omega)⟩
end Go.Proofs.YtmkinaijkgkgiaaGreat
/- The document's Cut of layer 10; no condition. (Written by vk_gen.py.) -/
namespace Go.Proofs.YtmkinaijkgkgiaaGreat
open Go.RowKit Go.Proofs.U
set_option linter.unusedSimpArgs false
set_option linter.unusedVariables false
theorem cutL_t {r : List (Int × Int)} {y : Int × Int} {k : Int} (h : y.1 = k) : cutL (y :: r) k = cutL r k := by unfold cutL; simp [h]
theorem cutL_f {r : List (Int × Int)} {y : Int × Int} {k : Int} (h : ¬ y.1 = k) : cutL (y :: r) k = y :: cutL r k := by unfold cutL; simp [h]
theorem cutK_none {l : List (Int × Int)} {k : Int} (h : ∀ z ∈ l, ¬ z.1 = k) : cutL l k = l := by
  unfold cutL
  exact List.filter_eq_self.2 fun z hz => by simpa using h z hz
theorem cutL_lt {l : List (Int × Int)} {k : Int} (h : ∃ z ∈ l, z.1 = k) : (cutL l k).length < l.length := by
  unfold cutL
  obtain ⟨z, hz, e⟩ := h
  exact List.length_filter_lt_length_iff_exists.2 ⟨z, hz, by simpa using e⟩
set_option maxRecDepth 100000 in
set_option maxHeartbeats 16000000 in
theorem refCut_any (v : Value) (la : List (Int × Int)) (key : Int) (w : World) (hv : SlR enC 2 w v la) (hl : la.length ≤ 1000) :
    Calls Tryz.prog 11 #[v, .int .i64 key] w fun r w' => ∃ u, r = .returned (.tuple #[u, .bool (decide ((cutL la key).length < la.length))]) ∧ EnO w' w.heap.size u (cutL la key) ∧ Fr noB w w' := by
  obtain ⟨a0, c0, rfl, hc0⟩ := hv.opn
  go_enter Tryz.func11, Tryz.ntmps11
  go_wp2_with (first
    | (with_reducible refine at_wpP ?_; refine wpList_mk0 enC 2 rfl 31 rfl 40 Tryz.underlying31 en_size ?_; intro g4 w4 o4 f4 s4 t4; have z4 := f4.size))
  go_loopw [12, 6] (fun i v wr => ∃ (k : Nat) (o : List (Int × Int)), k ≤ la.length ∧ i = .int .i64 (k : Int) ∧ OwnR enC 2 40 wr w.heap.size v o ∧ Hid (o ++ cutL (la.drop k) key = cutL la key) ∧ o.length ≤ k ∧ Fr noB w wr) (fun i _ _ => la.length - (intOf i).toNat)
  case atStart => exact ⟨0, [], Nat.zero_le _, rfl, o4, rfl, by simp, f4⟩
  case round =>
    obtain ⟨j, o, hj, rfl, ho, he, hol, hf⟩ := hrel
    have hSj := hv.fr0 hf
    have zf := hf.size
    have hnb := ho.newB
    obtain ⟨ao, co, rfl⟩ := ho.opn
    by_cases hlt : j < la.length
    · obtain ⟨y, Hy⟩ : ∃ y, Hid (la[j] = y) := ⟨la[j], (rfl : la[j] = la[j])⟩
      have hlt' : (j : Int) < (la.length : Int) := by omega
      have hdr : la.drop j = y :: la.drop (j + 1) := by rw [List.drop_eq_getElem_cons hlt, Hy.out]
      rw [hdr] at he
      clear hdr
      by_cases e : y.1 = key
      · have de : (y.1 == key) = true := by simpa using e
        have hn := show Hid _ from (by have := he.out; rwa [cutL_t e] at this : o ++ cutL (la.drop (j + 1)) key = cutL la key)
        clear he
        go_wp2_with (first
          | (with_reducible refine at_wpP ?_; refine at_idx 31 _ _ rfl ?_; go_must (refine wpList_idxR rfl 31 _ _ rfl 40 Tryz.underlying31 2 en_size _ _ _ rfl hSj (by decide) _ _ j rfl rfl hlt ?_; rw [Hy.out]; intro ba oa hba hca))
          | (with_reducible refine at_wpP ?_; refine at_ld 40 _ rfl ?_; have q := hca; go_must (refine wpList_ldE rfl _ rfl ba oa rfl y hca ?_))
          | (with_reducible refine at_wpP ?_; refine wpList_allocE rfl rfl ?_; intro gl w5 hgl b5 f5 sl; have l5 := b5.lt; have z5 := f5.size)
          | (with_reducible refine at_wpP ?_; refine at_st 40 _ _ rfl ?_; go_must (refine wpList_stE rfl _ _ rfl gl rfl (0, 0) y b5 rfl ?_; intro w6 B6 f6; have F6 := Fr.ownX f5 sl f6; have z6 := f6.size; obtain ⟨k0, k1⟩ := B6.all; have o6 := ho.fr0 F6)))
        go_roundw
        case rel => exact ⟨j + 1, o, by omega, by go_num, o6, hn, by omega, hf.thenN F6⟩
        case measure => simp [intOf]; omega
      · have de : (y.1 == key) = false := by simpa using e
        have hn := show Hid _ from (by have := he.out; rw [cutL_f e] at this; simpa using this : (o ++ [y]) ++ cutL (la.drop (j + 1)) key = cutL la key)
        clear he
        go_wp2_with (first
          | (with_reducible refine at_wpP ?_; refine at_ld 40 _ rfl ?_; have q := B6; go_must (refine wpList_ldE rfl _ rfl gl 0 rfl y (bx_cells B6) ?_))
          | (with_reducible refine at_wpP ?_; refine wpList_mkC rfl 31 _ rfl uE _ en_info2 (by decide) (by decide) y (enV y) rfl rfl rfl ?_; intro g7 w7 b7 f7 s7; have z7 := f7.size)
          | (at_builtin; have q := b7; go_must (refine wpList_appL rfl _ _ 31 rfl _ 16 uE en_info rfl (by decide) (.slice ao o.length co) rfl (o6.fr0 f7) g7 rfl y rfl _ b7 (en_one _) ?hq1 ?hq2 ?hq3 ?_; rotate_left 3; intro u8 w8 o8 f8 p8; have z8 := f8.size))
          | (with_reducible refine at_wpP ?_; refine at_idx 31 _ _ rfl ?_; go_must (refine wpList_idxR rfl 31 _ _ rfl 40 Tryz.underlying31 2 en_size _ _ _ rfl hSj (by decide) _ _ j rfl rfl hlt ?_; rw [Hy.out]; intro ba oa hba hca))
          | (with_reducible refine at_wpP ?_; refine at_ld 40 _ rfl ?_; have q := hca; go_must (refine wpList_ldE rfl _ rfl ba oa rfl y hca ?_))
          | (with_reducible refine at_wpP ?_; refine wpList_allocE rfl rfl ?_; intro gl w5 hgl b5 f5 sl; have l5 := b5.lt; have z5 := f5.size)
          | (with_reducible refine at_wpP ?_; refine at_st 40 _ _ rfl ?_; go_must (refine wpList_stE rfl _ _ rfl gl rfl (0, 0) y b5 rfl ?_; intro w6 B6 f6; have F6 := Fr.ownX f5 sl f6; have z6 := f6.size; obtain ⟨k0, k1⟩ := B6.all; have o6 := ho.fr0 F6)))
        case hq1 => unfold maxLen; omega
        case hq2 => omega
        case hq3 => omega
        go_roundw
        case rel => exact ⟨j + 1, o ++ [y], by omega, by go_num, o8, hn, by rw [List.length_append, List.length_singleton]; omega, ((hf.thenN F6).thenN f7).thenT f8 (fun k hk e => by have := (hnb k e).1; omega)⟩
        case measure => simp [intOf]; omega
    · obtain rfl : j = la.length := by omega
      have hn : o = cutL la key := by have := he.out; rw [List.drop_length] at this; simpa [cutL] using this
      subst hn
      go_wp2
      go_ret2
      exact ⟨_, rfl, ho, hf⟩
end Go.Proofs.YtmkinaijkgkgiaaGreat
