/- Texts VH, VI, TH2, VJ, VL, VO of the proof of PruneBack, one behind the other. -/
import Derived.Test.YtmkinaijkgkgiaaGreatBundlePruneBack1
import Derived.Test.YtmkinaijkgkgiaaGreatBundlePruneBack2
import Derived.Test.YtmkinaijkgkgiaaGreatBundlePruneBack3
import Derived.Test.YtmkinaijkgkgiaaGreatBundlePruneBack4
import Derived.Test.YtmkinaijkgkgiaaGreatBundlePruneBack5
import Derived.Test.YtmkinaijkgkgiaaGreatBundlePruneBack6
import Derived.Test.YtmkinaijkgkgiaaGreatBundlePruneBack7
import Derived.Test.YtmkinaijkgkgiaaGreatBundlePruneBack8
import Derived.Test.YtmkinaijkgkgiaaGreatBundlePruneBack9
import Derived.Test.YtmkinaijkgkgiaaGreatBundlePruneBack10
import Derived.Test.YtmkinaijkgkgiaaGreatBundlePruneBack11
import Derived.Test.YtmkinaijkgkgiaaGreatBundlePruneBack12
import Derived.Test.YtmkinaijkgkgiaaGreatBundlePruneBack13
import Derived.Test.YtmkinaijkgkgiaaGreatBundlePruneBack14
import Derived.Test.YtmkinaijkgkgiaaGreatBundlePruneBack15
import Derived.Test.YtmkinaijkgkgiaaGreatBundlePruneBack16
import Derived.Test.YtmkinaijkgkgiaaGreatBundlePruneBack17
import Derived.Test.YtmkinaijkgkgiaaGreatBundlePruneBack18
import Derived.Test.YtmkinaijkgkgiaaGreatBundlePruneBack19
import Derived.Test.YtmkinaijkgkgiaaGreatBundlePruneBack20
import Derived.Test.YtmkinaijkgkgiaaGreatBundlePruneBack21
import Derived.Test.YtmkinaijkgkgiaaGreatBundlePruneBack22
import Derived.Test.YtmkinaijkgkgiaaGreatBundlePruneBack23
import Derived.Test.YtmkinaijkgkgiaaGreatBundlePruneBack24
import Derived.Test.YtmkinaijkgkgiaaGreatBundlePruneBack25
import Derived.Test.YtmkinaijkgkgiaaGreatBundlePruneBack26
import Derived.Test.YtmkinaijkgkgiaaGreatBundlePruneBack27
import Derived.Test.YtmkinaijkgkgiaaGreatBundlePruneBack28
import Derived.Test.YtmkinaijkgkgiaaGreatBundlePruneBack29
/- Stage 11's laws: pruneAlive, PruneNames; no condition. -/
namespace Go.Proofs.YtmkinaijkgkgiaaGreat
open Go.RowKit Go.Proofs.U
set_option linter.unusedSimpArgs false
set_option linter.unusedVariables false
theorem run_mk2E (w : World) (x y : Int × Int) : (Instr.buildSlice 31 2 #[(0, enV x), (1, enV y)]).run Tryz.prog w = .ok (.slice (some ⟨w.heap.size, 0, none⟩) 2 2) (w.alloc (.cells #[.int .i64 x.1, .int .i64 x.2, .int .i64 y.1, .int .i64 y.2] 40)) := by kernel_rfl
theorem ownE_new2 (w : World) (x y : Int × Int) : EnO (w.alloc (.cells #[.int .i64 x.1, .int .i64 x.2, .int .i64 y.1, .int .i64 y.2] 40)) w.heap.size (.slice (some ⟨w.heap.size, 0, none⟩) 2 2) [x, y] :=
  ⟨by simp [pairC], by simp [pairC], .inr ⟨w.heap.size, 2, _, rfl, Nat.le_refl _, heap_alloc_new w _, Nat.le_refl _, by unfold maxLen; simp, by simp [pairC], by simp [pairC]⟩⟩
section
variable {w : World} {ops : Array Oper} {rest : List Oper} {o : Oper} {a : Act} {Q : Exit → Act → World → Prop}
theorem wpList_mk2E (hgd : Region.wanted o (yielded ops a.tmps) = true) (y z : Operand) (ho : o.op = .buildSlice 31 2 #[(0, y), (1, z)]) (x x' : Int × Int) (hy : a.eval y = enV x) (hz : a.eval z = enV x')
    (h : ∀ g w', EnO w' w.heap.size (.slice (some ⟨g, 0, none⟩) 2 2) [x, x'] → Fr noB w w' → w.heap.size ≤ g → g < w'.heap.size → wpList Tryz.prog ops Q rest (a.put o.dst (.slice (some ⟨g, 0, none⟩) 2 2)) w') : wpList Tryz.prog ops Q (o :: rest) a w := by
  refine wpList_wanted hgd fun K hK => ?_
  have hr := run_mk2E w x x'
  unfold Oper.wp
  simp [execOp, ho, hy, hz, hr, Result.andThen]
  exact hK _ _ (h w.heap.size _ (ownE_new2 w x x') ((Fr.refl _ _).alloc _) (Nat.le_refl _) (by simp))
end
theorem find2a (p q : Int) : findL [(1, p), (2, q)] 1 = p := by simp [findL]
theorem find2b (p q : Int) : findL [(1, p), (2, q)] 3 = -1 := by simp [findL]
theorem cut2 (p q : Int) : cutL [(1, p), (2, q)] 1 = [(2, q)] := by simp [cutL]
theorem put2 (p q : Int) : putL (putL [] (1, p)) (2, q) = [(1, p), (2, q)] := by simp [putL]
set_option maxRecDepth 100000 in
set_option maxHeartbeats 4000000 in
theorem palive_any (w : World) :
    Calls Tryz.prog 6 #[] w fun r w' => r = .returned (.bool true) ∧ Fr noB w w' := by
  have hN : plN (sizeN 30) = 26 := by decide
  have hM := fun W => made_P 30 (by decide) W
  rw [hN] at hM
  go_enter Tryz.func6, Tryz.ntmps6
  go_upto_region 2 with (first
    | (go_at_call 7; go_must (refine (hM _).mono ?_; rintro e w1 ⟨gs, gp, F, X, L, pg, rfl, st1, A1, B1⟩; have z1 := A1.fr.size))
    | (with_reducible refine at_wpP ?_; refine wpList_allocG rfl 28 rfl (.agg #[.pointer none]) [.pointer none] pr_zero rfl ?_; intro g2 w2 hg2 b2 f2 s2; have l2 := b2.lt; have z2 := f2.size)
    | (with_reducible refine at_wpP ?_; refine at_st 28 _ _ rfl ?_; go_must (refine wpList_stP rfl _ _ rfl g2 rfl gs rfl (.pointer none) b2 ?_; intro w3 b3 f3)))
  have F3 := Fr.ownX f2 s2 f3
  have z3 := F3.size
  have hg23 := b3.lt
  have st3 := st1.fr0 F3
  have A3 := A1.fr0 F3
  have c3 := pr_cell b3
  have hgp := st3.ltp
  have hgs := st3.lts
  have hFt := st3.ft
  have hln := B1.ln
  have hpg0 := B1.p0
  obtain ⟨s, s0, sS, sK⟩ := KT.steps (s0 := ⟨X, L, 0, -1⟩) [(1, pg), (2, pg)] B1.kt (m := 1) (by decide) (by simp) (by intro x hx; simp at hx; rcases hx with rfl | rfl <;> simp) st1.up (by simp) (by simp; omega)
  obtain ⟨k2, ln2, up2⟩ := sK 2 (by simp)
  have e2 : (([(1, pg), (2, pg)] : List (Int × Int)).take 2).foldl putL [] = [(1, pg), (2, pg)] := put2 pg pg
  rw [e2] at k2
  have hocc := k2.occ
  obtain ⟨X5, L5, p5, lv5, L6, hCut, KS, hways⟩ := k2.cut (m := 41) up2 (by decide) 1 (by decide) (by rw [find2a]; omega) (by simp) (by simp) (by
    have h1 : [pg].length = 1 := rfl
    have h2 : ([(1, pg), (2, pg)] : List (Int × Int)).length = 2 := rfl
    have h3 : (⟨X, L, 0, -1⟩ : BSt).L.length = L.length := rfl
    omega)
  obtain ⟨T5, I5, r5, q5⟩ := KS.mid
  rw [cut2] at q5
  have hB := fun W v (st : Sto W F gs gp (s 0).X (s 0).L 1) (hS : SlR enC 2 W v [(1, pg), (2, pg)]) (hv : ∀ x, v.ownBlock = some x → ¬ F x ∧ x ≠ gp) => Build_steps s _ (by rw [s0]) (fun k hk => (sS k hk).1) (by decide) (by simp) v W st hS hv
  rw [s0] at hB
  have hN3 := fun F' W (st : Sto W F' gs gp X5 L5 61) => Cut_not I5 (by decide) r5 3 (by decide) (find2b pg pg) W st
  have hL5 := fun F' W (st : Sto W F' gs gp X5 L5 61) => List_ok I5 (by decide) q5 W st
  obtain ⟨rt, Hrt⟩ : ∃ x, Hid ((s 2).root = x) := ⟨_, rfl⟩
  have Hrt1 : (s (List.length [((1 : Int), pg), (2, pg)])).root = rt := Hrt.out
  obtain ⟨S2, HS2⟩ : ∃ x, Hid (((s 2).X, (s 2).L) = x) := ⟨_, rfl⟩
  have HS21 : ((s (List.length [((1 : Int), pg), (2, pg)])).X, (s (List.length [((1 : Int), pg), (2, pg)])).L) = S2 := HS2.out
  have e41 : 1 + 20 * List.length [((1 : Int), pg), (2, pg)] = 41 := rfl
  simp only [Hrt1, HS21, e41] at hB
  simp only [Hrt.out] at hN3 hCut
  have hC := fun F' W (st : Sto W F' gs gp S2.1 S2.2 41) => hCut F' gs gp W (by rw [← HS2.out] at st; exact st)
  have hrr : (rt == rt) = true := by simp
  have hl1 : 0 < [((2 : Int), pg)].length := by simp
  clear sS sK k2 KS r5 q5 I5 hCut hways e2 hocc Hrt1 HS21 e41 s0 ln2 up2
  have hnB : ∀ q, w1.heap.size ≤ q → ¬ F q ∧ q ≠ gp := fun q hq => ⟨fun s => by have := st1.ft _ s; omega, by have := st1.ltp; omega⟩
  go_wp2_with (first
    | (with_reducible refine at_wpP ?_; refine at_ld 26 _ rfl ?_; have q := b3; go_must (first | refine wpList_ldPT rfl _ rfl g2 rfl gs b7 ?_ | refine wpList_ldPT rfl _ rfl g2 rfl gs b3 ?_))
    | (with_reducible refine at_wpP ?_; refine wpList_bldE rfl _ _ rfl _ _ rfl rfl ?_)
    | (with_reducible refine at_wpP ?_; refine wpList_mk2E rfl _ _ rfl (1, pg) (2, pg) rfl rfl ?_; intro g4 w4 o4 f4 s4 t4; have z4 := f4.size; have b4 := b3.fr0 f4)
    | (go_at_call 17; go_must (refine (hB _ _ (st3.fr0 f4) o4.sl (fun q hq => by have := (o4.newB q hq).1; exact hnB q (by omega))).mono ?_; rintro e w5 ⟨F5, rfl, T5⟩; have z5 := T5.fr.size; have b5 := b4.fr T5.fr (fun q => by
        rcases q with q | q
        · exact (hnB _ s2).1 q
        · exact (hnB _ s2).2 q); have c5 := pr_cell b5; have hF5 := T5.ft))
    | (with_reducible refine at_wpP ?_; refine at_ld 28 _ rfl ?_; have q := b5; go_must (first | refine wpList_ldP rfl _ rfl g2 rfl gs b6 ?_ | refine wpList_ldP rfl _ rfl g2 rfl gs b5 ?_))
    | (go_at_call 10; have q := T6; go_must (refine (hN3 _ _ T6.st).mono ?_; rintro e w7 ⟨rfl, f7⟩; have z7 := f7.size; have b7 := b6.fr0 f7; have c7 := pr_cell b7))
    | (go_at_call 10; go_must (refine (hC _ _ T5.st).mono ?_; rintro e w6 ⟨F6, rfl, T6⟩; have z6 := T6.fr.size; have b6 := b5.fr T6.fr (fun q => by
        rcases q with q | q
        · rcases (hF5 _ q).1 with q | q
          · exact (hnB _ s2).1 q
          · omega
        · exact (hnB _ s2).2 q); have c6 := pr_cell b6))
    | (go_at_call 12; go_must (refine (hL5 _ _ (T6.st.fr0 f7)).mono ?_; rintro e w8 ⟨u8, rfl, o8, f8⟩; obtain ⟨a8, c8, hu8⟩ := o8.opn; subst hu8; have z8 := f8.size))
    | (with_reducible refine at_wpP ?_; refine at_idx 31 _ _ rfl ?_; go_must (refine wpList_idxR rfl 31 _ _ rfl 40 Tryz.underlying31 2 en_size _ _ [(2, pg)] rfl o8.sl (by decide) _ _ 0 rfl rfl hl1 ?_; intro ba oa hba hca; have hk0 := show w8.cell? ⟨ba, oa, none⟩ = some (.int .i64 2) from hca 0 _ rfl)))
  go_ret
  exact ⟨rfl, ((((A3.fr0 f4).st T5).st T6).fr0 (f7.thenN f8)).fr⟩
theorem put1 (p : Int) : putL [] (7, p) = [(7, p)] := by simp [putL]
end Go.Proofs.YtmkinaijkgkgiaaGreat
/- What is reached of a tree whatever its root's size, and that just so many pages are used; also behind a mark; plain; no condition. -/
namespace Go.Proofs.YtmkinaijkgkgiaaGreat
open Go.RowKit Go.Proofs.U
set_option linter.unusedSimpArgs false
set_option linter.unusedVariables false
theorem cntL_tidy (L : List Pg) : cntL (plTidy L) = cntL L := by
  funext q
  unfold cntL plTidy
  rw [plAt_map _ _ tidy0]
  unfold tidyP
  split <;> rfl
theorem Inv.tidy {X : DSt} {L : List Pg} {R : List Int} (h : Inv X L R) : Inv X (plTidy L) R := by
  refine ⟨h.nn, ⟨tidy_ok h.di.ok, h.di.ex.tidy, fun i hi => ?_, fun q hq => h.di.rd q (by rwa [cntL_tidy] at hq)⟩, by rw [cntL_tidy]; exact h.fl⟩
  have hm : (plAt (plTidy L) i) = tidyP (plAt L i) := by unfold plTidy; rw [plAt_map _ _ tidy0]
  rw [hm] at hi ⊢
  unfold tidyP at hi ⊢
  split at hi
  · unfold Pg.frsh at hi; simp at hi
  · rename_i h1
    rw [if_neg h1]
    exact h.di.nf i hi
/-- Pages are fresh, or young, or nothing. -/
def PlTd (L : List Pg) : Prop := ∀ i, (plAt L i).s = 1 ∨ (plAt L i).s = 2 ∨ ((plAt L i).s = 0 ∧ (plAt L i).c = 0)
theorem PlM.tidy {k : Nat} {L : List Pg} (hok : plOk L) (h : PlM k L) : PlTd (plTidy L) := by
  intro i
  have hm : (plAt (plTidy L) i) = tidyP (plAt L i) := by unfold plTidy; rw [plAt_map _ _ tidy0]
  rw [hm]
  unfold tidyP
  rcases h.ok i with q | q | q | q
  · rw [if_neg (by omega)]; exact Or.inl q
  · rw [if_neg (by omega)]; exact Or.inr (Or.inl q)
  · rw [if_pos q]
    exact Or.inr (Or.inr ⟨rfl, (hok.2 i).2.2.2 (by omega)⟩)
  · rw [if_neg (by omega)]; exact Or.inr (Or.inr q)
theorem used_liveT {X : DSt} {L : List Pg} {R : List Int} (h : Inv X L R) (y : PlTd L) : plFree L + (U.live L.length (cntL L)).length = L.length := by
  have key : ∀ n, n ≤ L.length → (L.take n).countP Pg.free + ((List.range n).filter fun q => decide (0 < cntL L q)).length = n := by
    intro n
    induction n with
    | zero => intro _; rfl
    | succ n ih =>
      intro hn
      have := ih (by omega)
      rw [List.take_succ_eq_append_getElem (by omega), List.countP_append, List.range_succ, List.filter_append, List.length_append]
      have hx : [L[n]].countP Pg.free + ([n].filter fun q => decide (0 < cntL L q)).length = 1 := by
        have hp : plAt L n = L[n] := plAt_get L n (by omega)
        have hy12 : ((plAt L n).s = 1 ∨ (plAt L n).s = 2) ∨ ((plAt L n).s = 0 ∧ (plAt L n).c = 0) := by
          rcases y n with q | q | q
          · exact Or.inl (Or.inl q)
          · exact Or.inl (Or.inr q)
          · exact Or.inr q
        rcases hy12 with hy | ⟨hs, hc⟩
        · have hf : (plAt L n).frsh = true := by unfold Pg.frsh; rcases hy with hy | hy <;> rw [hy] <;> rfl
          have hc := h.di.nf n hf
          have h1 : 0 < cntL L n := (cnt_pos n).2 hc
          have h2 : L[n].free = false := by rw [← hp]; unfold Pg.free; rcases hy with hy | hy <;> rw [hy] <;> simp
          simp [List.filter, List.countP_cons, h1, h2]
        · have h1 : L[n].free = true := by rw [← hp]; unfold Pg.free; rw [hs, hc]; rfl
          have h2 : ¬ 0 < cntL L n := fun q => by have := (cnt_pos n).1 q; omega
          simp [List.filter, List.countP_cons, h1, h2]
      omega
  have := key L.length (Nat.le_refl _)
  rwa [List.take_length] at this
/-- A pool whose blocks and tree are all that it holds. -/
structure KE (X : DSt) (L : List Pg) (B : List Int) (lv : Nat) (root : Int) : Prop where
  iv : Inv X L (rtsB B root)
  fam : FamK X (rtsB B root) B (oneTs [] lv root)
  bl : ∀ b ∈ B, 0 ≤ b ∧ (rdN X b).1.k = 1 ∧ (rdN X b).1.es = []
  rt : root = -1 ∨ (0 ≤ root ∧ okT X lv root 0 64)
  yt : PlTd L
theorem KT.tidied {X : DSt} {L : List Pg} {B : List Int} {lv : Nat} {root : Int} {l : List (Int × Int)} {d k : Nat} (o : KT X L B lv root l d k) : KE X (plTidy L) B lv root :=
  ⟨o.iv.tidy, o.fam, o.bl, o.rt.imp (fun q => q.1) (fun q => ⟨q.1, q.2.2.1⟩), o.pm.tidy o.iv.di.ok⟩
theorem KE.reach {X : DSt} {L : List Pg} {B : List Int} {lv : Nat} {root : Int} (o : KE X L B lv root) : ∃ S, reachF (getF X L) [root] = (S, 0) ∧ (∀ x, S x = true → 0 ≤ x ∧ 0 < cntL L x.toNat) ∧ (¬ root = -1 → ∀ q ∈ occT X lv root, S q = true) := by
  rcases o.rt with hr | ⟨r0, t⟩
  · subst hr
    exact ⟨fun _ => false, rfl, fun x hx => (by cases hx), fun h => absurd rfl h⟩
  · have hr : ¬ root = -1 := by omega
    have hp := (o.iv.toT.root (r := root) (by unfold rtsB; rw [if_neg hr]; simp)).2
    rw [cntT_nil] at hp
    have hf : ∀ S p, nS S < 241 → 0 ≤ p → 0 < cntL L p.toNat → (rootF (getF X L) S p).2 = 0 ∧ PostS X L S (rootF (getF X L) S p).1 ∧ (rootF (getF X L) S p).1 p = true := by
      intro S p hn h0 hc
      have e : rootF (getF X L) S p = seeF (getF X L) 241 S p := by unfold rootF; rw [if_neg (by omega)]
      rw [e]
      exact see_good o.iv.di 241 S p hn h0 hc
    obtain ⟨k1, k2, k3⟩ := each_see hf [root] (fun _ => false) (nS_lt _) (fun p h => by obtain rfl := List.mem_singleton.1 h; exact ⟨r0, hp⟩)
    refine ⟨(reachF (getF X L) [root]).1, by unfold reachF; rw [← k1], fun x hx => ?_, fun _ => ?_⟩
    · rcases k2.2 x hx with q | q
      · cases q
      · exact ⟨q.1, q.2.1⟩
    · refine occ_seen (fun x hx => ?_) t (k3 root (by simp))
      rcases k2.2 x hx with q | q
      · cases q
      · exact q.2.2
theorem KE.exactL {X : DSt} {L : List Pg} {B : List Int} {lv : Nat} {root : Int} (o : KE X L B lv root) (hn : B.Nodup) {S : Int → Bool} (h1 : ∀ x, S x = true → 0 ≤ x ∧ 0 < cntL L x.toNat) (h2 : ¬ root = -1 → ∀ q ∈ occT X lv root, S q = true) {l' : List Int} (hl : SeenL S l') :
    plFree L + ((inL X l').length + B.length) = L.length := by
  have hu := used_liveT o.iv o.yt
  have hf := o.fam
  have hin : ∀ x ∈ inL X l', 0 ≤ x ∧ 0 < cntL L x.toNat ∧ ¬ (rdN X x).1.k = 1 := fun x hx => by
    obtain ⟨a, b⟩ := List.mem_filter.1 hx
    have := h1 x ((hl.mem x).1 a)
    exact ⟨this.1, this.2, by simpa using b⟩
  have hroot : ∀ b ∈ B, 0 ≤ b ∧ 0 < cntL L b.toNat := fun b hb => by
    have := o.iv.toT.root (rtsB_B (root := root) hb)
    rwa [cntT_nil] at this
  have hlt : ∀ q : Nat, 0 < cntL L q → q < L.length := fun q hq => (o.iv.toT.live (by rwa [cntT_nil])).2.1
  have hle : (U.live L.length (cntL L)).length ≤ (B ++ inL X l').length := by
    have := len_sub (W := (B ++ inL X l').map Int.toNat) (live_nodup L.length (cntL L)) fun r hr => by
      have hc := (mem_live.1 hr).2
      have hm := hf.live o.iv hc
      refine List.mem_map.2 ⟨(r : Int), ?_, by simp⟩
      unfold famP at hm
      rcases List.mem_append.1 hm with q | q
      · exact List.mem_append_left _ q
      · obtain ⟨t, ht, hq⟩ := List.mem_flatMap.1 q
        rcases oneTs_mem ht with h | ⟨hne, rfl⟩
        · cases h
        · rcases o.rt with e | ⟨_, t⟩
          · exact absurd e hne
          refine List.mem_append_right _ (List.mem_filter.2 ⟨(hl.mem _).2 (h2 hne _ hq), ?_⟩)
          have := occ_kd t _ hq
          simpa using this
    rwa [List.length_map] at this
  have hge : (B ++ inL X l').length ≤ (U.live L.length (cntL L)).length := by
    have hnd : ((B ++ inL X l').map Int.toNat).Nodup := by
      have h3 : (B ++ inL X l').Nodup := List.nodup_append.2 ⟨hn, hl.nd.filter _, fun a ha c hc e => by
        subst e
        exact (hin a hc).2.2 (o.bl a ha).2.1⟩
      refine List.pairwise_map.2 (List.Pairwise.imp_of_mem (fun {a b} ha hb hab => ?_) h3)
      have pa : 0 ≤ a := by
        rcases List.mem_append.1 ha with q | q
        · exact (hroot a q).1
        · exact (hin a q).1
      have pb : 0 ≤ b := by
        rcases List.mem_append.1 hb with q | q
        · exact (hroot b q).1
        · exact (hin b q).1
      omega
    have := len_sub (W := U.live L.length (cntL L)) hnd fun r hr => by
      obtain ⟨x, hx, rfl⟩ := List.mem_map.1 hr
      have hc : 0 < cntL L x.toNat := by
        rcases List.mem_append.1 hx with q | q
        · exact (hroot x q).2
        · exact (hin x q).2.1
      exact mem_live.2 ⟨hlt _ hc, hc⟩
    rwa [List.length_map] at this
  rw [List.length_append] at hle hge
  omega
end Go.Proofs.YtmkinaijkgkgiaaGreat
/- Pages of blocks, and whether just so many pages are used as are reached; no condition. (Written by th2_gen.py.) -/
namespace Go.Proofs.YtmkinaijkgkgiaaGreat
open Go.RowKit Go.Proofs.U
set_option linter.unusedSimpArgs false
set_option linter.unusedVariables false
theorem one_int {w : World} {g : Nat} {x : Int} (b : BxV w g 3 (en64 x)) (hx : (Lit.int .i64 x).wf = true) : SlI .i64 w (.slice (some ⟨g, 0, none⟩) 1 1) [x] := by
  refine ⟨⟨_, _, rfl, Nat.le_refl _, rfl, (fun h => by cases h), fun z hz => ?_⟩, fun y hy => by rw [List.mem_singleton.1 hy]; exact hx⟩
  cases hz
  intro j u hj
  rw [Addr.plain, Nat.zero_add]
  exact (b.cell j u hj).1
theorem inL_snoc {X : DSt} (l : List Int) (x : Int) : inL X (l ++ [x]) = inL X l ++ (if (rdN X x).1.k = 1 then [] else [x]) := by
  unfold inL
  rw [List.filter_append]
  by_cases h : (rdN X x).1.k = 1
  · rw [if_pos h]; simp [h]
  · rw [if_neg h]; simp [h]
end Go.Proofs.YtmkinaijkgkgiaaGreat
/- Whether just so many pages are used as are reached: law 11's; no condition. (Written by vj_gen.py.) -/
namespace Go.Proofs.YtmkinaijkgkgiaaGreat
open Go.RowKit Go.Proofs.U
set_option linter.unusedSimpArgs false
set_option linter.unusedVariables false
set_option maxRecDepth 100000 in
set_option maxHeartbeats 16000000 in
theorem exact_P {F : Nat → Prop} {gs gp : Nat} {X : DSt} {L0 : List Pg} {pg : Int} {m lv : Nat} {root : Int} {l : List (Int × Int)} {d k : Nat} (o0 : KT X L0 [pg] lv root l d k) (hm : m ≤ 100000) (w : World) (h : Sto w F gs gp X L0 m) :
    Calls Tryz.prog 16 #[trV gs, .int .i64 root] w fun r w' => r = .returned (.bool true) ∧ Fr (onB1 gp) w w' := by
  have hgp := h.ltp
  have hgs := h.lts
  have hFt := h.ft
  have o := o0.tidied
  have hti := ptidy_any h.ok gp
  have hok2 := tidy_ok h.ok
  have hlen2 := tidy_len L0
  have hL0 := h.ok.1
  obtain ⟨L, HL⟩ : ∃ L, Hid (plTidy L0 = L) := ⟨_, rfl⟩
  rw [HL.out] at o hti hok2 hlen2
  obtain ⟨S, hS, hS1, hS2⟩ := o.reach
  have hEx := fun l' (hl : SeenL S l') => show Hid (plFree L + ((inL X l').length + 1) = L.length) from o.exactL (by simp) hS1 hS2 hl
  have hdi := o.iv.di
  have hrw : (Lit.int .i64 root).wf = true := by
    by_cases hr : root = -1
    · rw [hr]; rfl
    · have hq := o0.live hr
      have := o0.iv.toT.low hq.2
      exact wfSm (by omega) (by omega)
  have hL240 := hok2.1
  obtain ⟨NN, HNN⟩ : ∃ NN : Nat, Hid (L.length = NN) := ⟨_, rfl⟩
  have hre := fun W v (s : Sto W F gs gp X L m) (hv : SlI .i64 W v [root]) => reach_any hm v [root] (by simp) W s hv
  rw [hS] at hre
  clear hS
  go_enter Tryz.func16, Tryz.ntmps16
  go_upto_region 5 with (first
    | (with_reducible refine at_wpP ?_; refine wpList_boxG rfl 28 _ rfl (trV gs) [ptr gs] rfl rfl ?_; intro g3 w1 hg3 b1 f1 s1; have l1 := b1.lt; have z1 := f1.size; have k1 := (b1.cell 0 _ rfl).1; have st1 := h.fr0 f1)
    | (go_at_call 19; go_must (refine (npool_any _ st1).mono ?_; rintro e w1 ⟨rfl, rfl⟩))
    | (go_at_call 38; go_must (refine (hti _ st1.pl).mono ?_; rintro e w2 ⟨rfl, p2, f2⟩; have z2 := f2.size; have b2 := b1.ne f2 (by omega); have k2 := (b2.cell 0 _ rfl).1; have st2 := st1.pool f2 p2 hok2 hlen2))
    | (with_reducible refine at_wpP ?_; have q := st2; refine wpList_mkC (ec := en64) (sz := 1) rfl 52 _ rfl Tryz.underlying52 _ info_int2 (by decide) (by decide) root (.int .i64 root) rfl rfl rfl ?_; intro g4 w3 b4 f3 s4; have z3 := f3.size)
    | (go_at_call 39; go_must (refine (hre _ _ (st2.fr0 f3) (one_int b4 hrw)).mono ?_; rintro e w4 ⟨u, l', rfl, hse, hSl, hnew, f4⟩; have z4 := f4.size)))
  have hl' := hse (by first | trivial | rfl)
  obtain ⟨au, cu, rfl, hcu⟩ := hSl.opn
  have hlen := hl'.len
  have st4 := (st2.fr0 f3).fr0 f4
  have D4 : Fr (onB1 gp) w w4 := ((((f1.mono (fun _ _ q => q.elim)).trans f2).thenN f3).thenN f4)
  have b4' := (b2.fr0 f3).fr0 f4
  have e4 := hEx l' hl'
  go_wp2
  go_loopw [30, 7] (fun i c wr => ∃ (k : Nat), k ≤ l'.length ∧ i = .int .i64 (k : Int) ∧ c = .int .i64 ((inL X (l'.take k)).length : Int) ∧ Fr noB w4 wr) (fun i _ _ => l'.length - (intOf i).toNat)
  case atStart => exact ⟨0, Nat.zero_le _, rfl, rfl, Fr.refl _ _⟩
  case round =>
    obtain ⟨j, hj, rfl, rfl, hf⟩ := hrel
    have zf := hf.size
    have str := st4.fr0 hf
    have br := b4'.fr0 hf
    have kr := (br.cell 0 _ rfl).1
    by_cases hlt : j < l'.length
    · have hv1 := (hSl.fr0 hf).1
      obtain ⟨x, Hx⟩ : ∃ x, Hid (l'[j] = x) := ⟨l'[j], (rfl : l'[j] = l'[j])⟩
      have hlt' : (j : Int) < (l'.length : Int) := by omega
      have hx1 := hS1 x ((hl'.mem x).1 (by rw [← Hx.out]; simp))
      obtain ⟨hg1, hg2⟩ := getF_live hdi hx1.1 hx1.2
      have hts : inL X (l'.take (j + 1)) = inL X (l'.take j) ++ (if (rdN X x).1.k = 1 then [] else [x]) := by rw [List.take_succ_eq_append_getElem hlt, Hx.out, inL_snoc]
      have hil : (inL X (l'.take j)).length ≤ j := by
        have h1 : (inL X (l'.take j)).length ≤ (l'.take j).length := List.length_filter_le _ _
        rw [List.length_take] at h1
        omega
      generalize hR : rdN X x = R at *
      obtain ⟨n, e0⟩ := R
      simp only at hg2 hts
      subst hg2
      have hget := fun W (s : Sto W F gs gp X L m) => get_F x s hm hg1
      clear hg1 hR hx1
      by_cases hk1 : n.k = 1
      · have d1 : (n.k == 1) = true := by simpa using hk1
        rw [if_pos hk1, List.append_nil] at hts
        have hts := show Hid _ from hts
        clear hk1
        go_wp2_with (first
          | (with_reducible refine at_wpP ?_; refine at_idx 52 _ _ rfl ?_; go_must (refine wpList_idx1 rfl 52 _ _ rfl 3 Tryz.underlying52 int_size1 (.slice au l'.length cu) _ _ rfl hv1 .i64 (j : Int) j rfl rfl hlt ?_; intro pp u hu hcu; obtain rfl := getX hu hlt Hx.out))
          | (go_at_call 40; go_must (refine (hget _ str).mono ?_; rintro e w5 ⟨vk, rfl, nk, hvk, f5⟩; have z5 := f5.size; have hbl := nk.bl))
          | (with_reducible refine at_wpP ?_; have q := nk; refine wpList_allocN rfl rfl ?_; intro gn w6 hgn b6 f6 sn; have z6 := f6.size; have l6 := b6.lt)
          | (with_reducible refine at_wpP ?_; refine at_st 72 _ _ rfl ?_; have q := b6; go_must (refine wpList_stN rfl _ _ rfl gn rfl n.k n.b vk rfl hbl.out nk.sl 0 (zerB 16) nilS b6 (zerB_len 16) ?_; intro w7 b7 f7; have z7 := f7.size; have F7 := Fr.ownX f6 sn f7; have q7 := NdB.kind b7)))
        go_roundw
        case rel => exact ⟨j + 1, by omega, by go_num, by rw [hts.out], (hf.thenN f5).thenN F7⟩
        case measure => simp [intOf]; omega
      · have d1 : (n.k == 1) = false := by simpa using hk1
        rw [if_neg hk1] at hts
        have hts : Hid (((inL X (l'.take (j + 1))).length : Int) = ((inL X (l'.take j)).length : Int) + 1) := by show _ = _; rw [hts]; simp
        clear hk1
        generalize (inL X (l'.take j)).length = c at *
        go_wp2_with (first
          | (with_reducible refine at_wpP ?_; refine at_idx 52 _ _ rfl ?_; go_must (refine wpList_idx1 rfl 52 _ _ rfl 3 Tryz.underlying52 int_size1 (.slice au l'.length cu) _ _ rfl hv1 .i64 (j : Int) j rfl rfl hlt ?_; intro pp u hu hcu; obtain rfl := getX hu hlt Hx.out))
          | (go_at_call 40; go_must (refine (hget _ str).mono ?_; rintro e w5 ⟨vk, rfl, nk, hvk, f5⟩; have z5 := f5.size; have hbl := nk.bl))
          | (with_reducible refine at_wpP ?_; have q := nk; refine wpList_allocN rfl rfl ?_; intro gn w6 hgn b6 f6 sn; have z6 := f6.size; have l6 := b6.lt)
          | (with_reducible refine at_wpP ?_; refine at_st 72 _ _ rfl ?_; have q := b6; go_must (refine wpList_stN rfl _ _ rfl gn rfl n.k n.b vk rfl hbl.out nk.sl 0 (zerB 16) nilS b6 (zerB_len 16) ?_; intro w7 b7 f7; have z7 := f7.size; have F7 := Fr.ownX f6 sn f7; have q7 := NdB.kind b7)))
        go_roundw
        case rel => exact ⟨j + 1, by omega, by go_num, by rw [hts.out], (hf.thenN f5).thenN F7⟩
        case measure => simp [intOf]; omega
    · obtain rfl : j = l'.length := by omega
      rw [List.take_length]
      have he := show Hid _ from (by have := e4.out; omega : (L0.length : Int) - (plFree L : Int) = ((inL X l').length : Int) + 1)
      have hb1 : (inL X l').length ≤ 240 := by
        have h1 : (inL X l').length ≤ l'.length := List.length_filter_le _ _
        omega
      have hfl := plFree_le L
      generalize (inL X l').length = c at *
      have hsd := fun n => str.fr0 ((Fr.refl noB wr).drewN n)
      go_wp2_with fail
      go_quiet ((first
        | (go_at_call 19; exact Calls.quiet_of_same ((npool_any _ (hsd _)).mono (fun _ _ h => ⟨h.1, h.2.symm⟩)))
        | (go_at_call 41; exact Calls.quiet_of_same ((psize_any _ _ (hsd _).pl).mono (fun _ _ h => ⟨h.1, h.2.symm⟩)))
        | (go_at_call 20; exact Calls.quiet_of_same ((free_F (hsd _) rfl).mono (fun _ _ h => ⟨h.1, h.2.symm⟩)))))
      go_wp2
      go_ret
      exact ⟨by rw [he.out]; simp, (D4.thenN hf).drewN nq⟩
end Go.Proofs.YtmkinaijkgkgiaaGreat
/- PruneCuts. (Written by vl_gen.py.) -/
namespace Go.Proofs.YtmkinaijkgkgiaaGreat
open Go.RowKit Go.Proofs.U Go.ChangeShapes Go.WideShapes Go.ChangeAt
set_option linter.unusedSimpArgs false
set_option linter.unusedVariables false
section
variable {w : World} {ops : Array Oper} {rest : List Oper} {o : Oper} {a : Act} {Q : Exit → Act → World → Prop}
end
theorem findL_key {l : List (Int × Int)} {k : Int} (h : ¬ findL l k = -1) : ∃ z ∈ l, z.1 = k := by
  by_cases q : ∃ z ∈ l, z.1 = k
  · exact q
  · exact absurd (findL_none fun z hz e => q ⟨z, hz, e⟩) h
theorem findL_nokey {l : List (Int × Int)} {k : Int} (hp : ∀ z ∈ l, ¬ z.2 = -1) (h : findL l k = -1) : ∀ z ∈ l, ¬ z.1 = k := by
  intro z hz e
  unfold findL at h
  split at h
  · rename_i y hy
    exact hp y (List.mem_of_find?_eq_some hy) h
  · rename_i hy
    have := List.find?_eq_none.1 hy z hz
    simp at this
    exact this e
end Go.Proofs.YtmkinaijkgkgiaaGreat
/- PruneBack. (Written by vo_gen.py.) -/
namespace Go.Proofs.YtmkinaijkgkgiaaGreat
open Go.RowKit Go.Proofs.U
set_option linter.unusedSimpArgs false
set_option linter.unusedVariables false
theorem StT.off {wa wb : World} {Fa Fb : Nat → Prop} {gs gp g : Nat} {S : DSt × List Pg} {m : Nat} (T : StT wa wb Fa Fb gs gp S m) (hg : ¬ stB Fa gp g) (hl : g < wa.heap.size) : ¬ stB Fb gp g := fun q => by
  rcases q with q | q
  · rcases (T.ft _ q).1 with r | r
    · exact hg (Or.inl r)
    · omega
  · exact hg (Or.inr q)
theorem StT.offR {wa wb : World} {Fa Fb : Nat → Prop} {gs gp : Nat} {S : DSt × List Pg} {m : Nat} {v : Value} (T : StT wa wb Fa Fb gs gp S m) (hg : ∀ k, v.ownBlock = some k → ¬ stB Fa gp k ∧ k < wa.heap.size) : ∀ k, v.ownBlock = some k → ¬ stB Fb gp k ∧ k < wb.heap.size := fun k hk => ⟨T.off (hg k hk).1 (hg k hk).2, Nat.lt_of_lt_of_le (hg k hk).2 T.fr.size⟩
set_option maxRecDepth 100000 in
set_option maxHeartbeats 40000000 in
theorem pback_walk (v : Value) (ks : List Int) (key : Int) (w : World) (hv : SlI .i64 w v ks) (hkw : (Lit.int .i64 key).wf = true) :
    Calls Tryz.prog 5 #[v, .int .i64 key] w fun r w' => r = .returned (.bool true) ∧ Below w.heap.size w w' := by
  obtain ⟨a0, c0, hv0⟩ : ∃ a c, v = .slice a ks.length c := ⟨_, _, hv.1.choose_spec.choose_spec.1⟩
  subst hv0
  by_cases cc0 : (64 : Int) < (ks.length : Int)
  · have d0 : decide ((64 : Int) < (ks.length : Int)) = true := decide_eq_true cc0
    go_enter Tryz.func5, Tryz.ntmps5
    go_wp2_with (first
      | (go_at_call 6; go_must (refine (palive_any _).mono ?_; rintro e w0 ⟨rfl, f0⟩; have z0 := f0.size)))
    go_ret
    exact ⟨rfl, f0.below⟩
  · have d0 : decide ((64 : Int) < (ks.length : Int)) = false := decide_eq_false cc0
    by_cases cc1 : key < 0
    · have d1 : decide (key < (0 : Int)) = true := decide_eq_true cc1
      go_enter Tryz.func5, Tryz.ntmps5
      go_wp2_with (first
        | (go_at_call 6; go_must (refine (palive_any _).mono ?_; rintro e w0 ⟨rfl, f0⟩; have z0 := f0.size)))
      go_ret
      exact ⟨rfl, f0.below⟩
    · have d1 : decide (key < (0 : Int)) = false := decide_eq_false cc1
      by_cases cc2 : 63 < key
      · have d2 : decide ((63 : Int) < key) = true := decide_eq_true cc2
        go_enter Tryz.func5, Tryz.ntmps5
        go_wp2_with (first
          | (go_at_call 6; go_must (refine (palive_any _).mono ?_; rintro e w0 ⟨rfl, f0⟩; have z0 := f0.size)))
        go_ret
        exact ⟨rfl, f0.below⟩
      · have d2 : decide ((63 : Int) < key) = false := decide_eq_false cc2
        have hN : plN (sizeN 244) = 240 := by decide
        have hM := fun W => made_P 244 (by decide) W
        rw [hN] at hM
        clear hN
        go_enter Tryz.func5, Tryz.ntmps5
        go_wp2_with (first
          | (go_at_call 6; go_must (refine (palive_any _).mono ?_; rintro e w0 ⟨rfl, f0⟩; have z0 := f0.size))
          | (go_at_call 7; go_must (refine (hM _).mono ?_; rintro e w1 ⟨gs, gp, F, X, L, pg, rfl, st1, A1, B1⟩; have z1 := A1.fr.size))
          | (with_reducible refine at_wpP ?_; refine wpList_allocG rfl 28 rfl (.agg #[.pointer none]) [.pointer none] pr_zero rfl ?_; intro g2 w2 hg2 b2 f2 s2; have l2 := b2.lt; have z2 := f2.size)
          | (with_reducible refine at_wpP ?_; refine at_st 28 _ _ rfl ?_; go_must (refine wpList_stP rfl _ _ rfl g2 rfl gs rfl (.pointer none) b2 ?_; intro w3 b3 f3; have F3 := Fr.ownX f2 s2 f3; have z3 := f3.size; have l3 := b3.lt))
          | (with_reducible refine at_wpP ?_; refine wpList_mk0 enC 2 rfl 31 rfl 40 Tryz.underlying31 en_size ?_; intro g6 w6 o6 f6 s6 t6; have z6 := f6.size))
        have hgp := st1.ltp
        have hgs := st1.lts
        have hFt := st1.ft
        have A6 := (A1.fr0 F3)
        have st6 := (st1.fr0 F3)
        have b6 := b3
        have hv6 := (((hv.fr0 f0).fr0 A1.fr).fr0 F3)
        have hpgw : (Lit.int .i64 pg).wf = true := by
          have h1 := B1.iv.toT.root (r := pg) (by simp)
          have h2 := B1.iv.toT.low h1.2
          exact wfSm (by omega) (by omega)
        have hpg0 := B1.p0
        have hln0 := show Hid _ from B1.ln
        have k0 := B1.kt
        clear B1
        go_loopw [46, 8] (fun i v wr => ∃ (k : Nat) (o : List (Int × Int)), k ≤ ks.length ∧ i = .int .i64 (k : Int) ∧ OwnR enC 2 40 wr w3.heap.size v o ∧ Hid (o = ownE pg (ks.take k)) ∧ o.length ≤ k ∧ Fr noB w3 wr) (fun i _ _ => ks.length - (intOf i).toNat)
        case atStart => exact ⟨0, [], Nat.zero_le _, rfl, o6, rfl, by simp, f6⟩
        case round =>
          obtain ⟨j, o, hj, rfl, ho, he, hol, hf⟩ := hrel
          have zf := hf.size
          have hnb := ho.newB
          obtain ⟨ao, co, rfl⟩ := ho.opn
          have hvj := (hv6.fr0 hf).1
          by_cases hlt : j < ks.length
          · obtain ⟨y, Hx⟩ : ∃ y, Hid (ks[j] = y) := ⟨ks[j], (rfl : ks[j] = ks[j])⟩
            have hlt' : (j : Int) < (ks.length : Int) := by omega
            have hsn : ownE pg (ks.take (j + 1)) = o ++ (if 0 ≤ y ∧ y < 64 then [(y, pg)] else []) := by rw [List.take_succ_eq_append_getElem hlt, Hx.out, ownE_snoc, ← he.out]
            by_cases hy : 0 ≤ y ∧ y < 64
            · have dy0 : decide ((0 : Int) ≤ y) = true := decide_eq_true hy.1
              have dy1 : decide (y < (64 : Int)) = true := decide_eq_true hy.2
              rw [if_pos hy] at hsn
              have hsn := show Hid _ from hsn.symm
              clear he hy
              go_wp2_with (first
                | (with_reducible refine at_wpP ?_; refine at_idx 52 _ _ rfl ?_; go_must (refine wpList_idx1 rfl 52 _ _ rfl 3 Tryz.underlying52 int_size1 (.slice a0 ks.length c0) _ _ rfl hvj .i64 (j : Int) j rfl rfl hlt ?_; intro pp u hu hcu; obtain rfl := getX hu hlt Hx.out))
                | (with_reducible refine at_wpP ?_; refine wpList_bldE rfl _ _ rfl _ _ rfl rfl ?_)
                | (with_reducible refine at_wpP ?_; refine wpList_mkC rfl 31 _ rfl uE _ en_info2 (by decide) (by decide) (y, pg) (enV (y, pg)) rfl rfl rfl ?_; intro g7 w7 b7 f7 s7; have z7 := f7.size)
                | (at_builtin; have q := b7; go_must (refine wpList_appL rfl _ _ 31 rfl _ 16 uE en_info rfl (by decide) (.slice ao o.length co) rfl (ho.fr0 f7) g7 rfl (y, pg) rfl _ b7 (en_one _) ?hq1 ?hq2 ?hq3 ?_; rotate_left 3; intro u8 w8 o8 f8 p8; have z8 := f8.size)))
              case hq1 => unfold maxLen; omega
              case hq2 => omega
              case hq3 => omega
              go_roundw
              case rel => exact ⟨j + 1, o ++ [(y, pg)], by omega, by go_num, o8, hsn, by rw [List.length_append, List.length_singleton]; omega, (hf.thenN f7).thenT f8 (fun k hk e => by have := (hnb k e).1; omega)⟩
              case measure => simp [intOf]; omega
            · rw [if_neg hy, List.append_nil] at hsn
              have hsn := show Hid _ from hsn.symm
              clear he
              by_cases hy0 : 0 ≤ y
              · have dy0 : decide ((0 : Int) ≤ y) = true := decide_eq_true hy0
                have dy1 : decide (y < (64 : Int)) = false := decide_eq_false (by omega)
                clear hy hy0
                go_wp2_with (first
                  | (with_reducible refine at_wpP ?_; refine at_idx 52 _ _ rfl ?_; go_must (refine wpList_idx1 rfl 52 _ _ rfl 3 Tryz.underlying52 int_size1 (.slice a0 ks.length c0) _ _ rfl hvj .i64 (j : Int) j rfl rfl hlt ?_; intro pp u hu hcu; obtain rfl := getX hu hlt Hx.out)))
                go_roundw
                case rel => exact ⟨j + 1, o, by omega, by go_num, ho, hsn, by omega, hf⟩
                case measure => simp [intOf]; omega
              · have dy0 : decide ((0 : Int) ≤ y) = false := decide_eq_false hy0
                clear hy hy0
                go_wp2_with (first
                  | (with_reducible refine at_wpP ?_; refine at_idx 52 _ _ rfl ?_; go_must (refine wpList_idx1 rfl 52 _ _ rfl 3 Tryz.underlying52 int_size1 (.slice a0 ks.length c0) _ _ rfl hvj .i64 (j : Int) j rfl rfl hlt ?_; intro pp u hu hcu; obtain rfl := getX hu hlt Hx.out)))
                go_roundw
                case rel => exact ⟨j + 1, o, by omega, by go_num, ho, hsn, by omega, hf⟩
                case measure => simp [intOf]; omega
          · obtain rfl : j = ks.length := by omega
            have he1 := he.out
            rw [List.take_length] at he1
            have hmm : ∀ x ∈ o, (0 ≤ x.1 ∧ x.1 ≤ 63) ∧ x.2 ∈ [pg] := fun x hx => ownE_mem (by rw [← he1]; exact hx)
            clear he he1
            have Ar := A6.fr0 hf
            have str := st6.fr0 hf
            have br := b6.fr0 hf
            have lr := br.lt
            have hol64 : o.length ≤ 64 := by omega
            obtain ⟨s, s0, sS, sK⟩ := KT.steps (s0 := ⟨X, L, 0, -1⟩) o k0 (m := 1) (by decide) (by omega) hmm st1.up (by simp) (by have := hln0.out; show 17 + 1 + (o.length + 1) / 2 ≤ L.length; omega)
            obtain ⟨o4, ln4, up4⟩ := sK o.length (Nat.le_refl _)
            rw [List.take_length] at o4
            have hB := fun W (st : Sto W F gs gp (s 0).X (s 0).L 1) (hS : SlR enC 2 W (.slice ao o.length co) o) (hvv : ∀ x, Value.ownBlock (.slice ao o.length co) = some x → ¬ F x ∧ x ≠ gp) => Build_steps s o (by rw [s0]) (fun k hk => (sS k hk).1) (by decide) (by omega) _ W st hS hvv
            rw [s0] at hB
            generalize s o.length = S4 at hB o4 ln4 up4
            obtain ⟨X4, L4, lv4, rt⟩ := S4
            clear sS sK s0 s
            have hL4 : Hid (L4.length = 240) := show _ from ln4.trans hln0.out
            simp only at hB o4 up4
            clear ln4 hln0 k0
            generalize o.foldl putL [] = l at *
            obtain ⟨m4, Hm4⟩ : ∃ m4, 1 + 20 * o.length = m4 := ⟨_, rfl⟩
            rw [Hm4] at hB up4
            have hm4 : m4 ≤ 1281 := by omega
            clear Hm4
            have hup := o4.up
            have hocc := o4.occ
            have hwf : ∀ z ∈ l, (Lit.int .i64 z.1).wf = true ∧ (Lit.int .i64 z.2).wf = true := fun z hz => by
              have h1 := hup.2.1 z hz
              have h2 := o4.pg z hz
              simp at h2
              exact ⟨wfSm (by omega) (by omega), by rw [h2]; exact hpgw⟩
            have hpgn : ∀ z ∈ l, ¬ z.2 = -1 := fun z hz => by
              have h2 := o4.pg z hz
              simp at h2
              omega
            have hl64 := hup.2.2
            have hLL : Hid ((l == l) = true) := by show _ = _; simp
            have hL1 := fun (F' : Nat → Prop) W (s : Sto W F' gs gp X4 L4 m4) => List_ok o4.iv.toT (by omega) o4.rk W s
            have hFi := fun (F' : Nat → Prop) W (s : Sto W F' gs gp X4 L4 m4) => Find_ok o4.iv.toT (by omega) o4.rk key W s
            have hnBr : ∀ q, w1.heap.size ≤ q → ¬ stB F gp q := fun q hq s => by
              rcases s with s | s
              · have := hFt _ s; omega
              · omega
            have hvvr : ∀ x, Value.ownBlock (.slice ao o.length co) = some x → ¬ F x ∧ x ≠ gp := fun q hq => by
              have := (hnb q hq).1
              exact ⟨fun s => by have := hFt _ s; omega, by omega⟩
            have hB1l : [pg].length = 1 := rfl
            have hgr := hnBr _ s2
            obtain ⟨fa, Hfa⟩ : ∃ f, Hid (findL l key = f) := ⟨_, rfl⟩
            have hfa := Hfa.out
            rw [hfa] at hFi
            by_cases hfn : fa = -1
            · subst hfn
              have hocx : 16 + ([pg].length + occK X4 lv4 rt) ≤ L4.length := by have := hL4.out; omega
              obtain ⟨X9, L9, p', lv', L10, hP, hp0, _, KS, _⟩ := o4.put up4 (by omega) (key, pg) ⟨by show 0 ≤ key; omega, by show key ≤ 63; omega⟩ (by simp) (by simp) (by omega) hocx
              have hPut := fun (F' : Nat → Prop) W (h : Sto W F' gs gp X4 L4 m4) => hP F' gs gp W h
              have hSw := KS.sw
              have o5 := KS.kt
              have hln5 : L10.length = 240 := KS.ln.trans hL4.out
              have hup5 := o5.up
              have hocc5 := o5.occ
              have hpl := putL_le l (key, pg)
              have hpgn5 : ∀ z ∈ putL l (key, pg), ¬ z.2 = -1 := fun z hz => by
                have h2 := o5.pg z hz
                simp at h2
                omega
              have hocx5 : 8 + (0 + ([pg].length + occK X9 lv' p')) ≤ L10.length := by omega
              obtain ⟨X11, L11, p2, lv2, L12, hC2, KS2, _⟩ := o5.cut KS.up (by omega) key ⟨by omega, by omega⟩ (find_put hup.1 hpgn5) (by simp) (by omega) hocx5
              have oz2 := KS2.kt
              have hSw2 := KS2.sw
              have hcp : cutL (putL l (key, pg)) key = l := cut_put hup.1 oz2.up.1 (findL_nokey hpgn hfa)
              rw [hcp] at oz2
              have hTr := fun (F' : Nat → Prop) v W (h : Sto W F' gs gp X9 L10 (m4 + 20)) (hv : SlI .i64 W v [key]) (hvF : ∀ x, v.ownBlock = some x → ¬ F' x ∧ x ≠ gp) => Trim_one hC2 hSw2 (by omega) v W h hv hvF
              have hLz := fun (F' : Nat → Prop) W (s : Sto W F' gs gp X11 L12 (m4 + 20 + 20)) => List_ok oz2.iv.toT (by omega) oz2.rk W s
              clear KS KS2 o5 hup5 hpl hpgn5 hocx hocx5 hocc5 hln5 hcp hP hC2 hSw2
              go_upto_region 16 with (first
                | (with_reducible refine at_wpP ?_; refine at_ld 26 _ rfl ?_; have q := br; go_must (refine wpList_ldPT rfl _ rfl g2 rfl gs br ?_))
                | (go_at_call 17; go_must (refine (hB _ str ho.sl hvvr).mono ?_; rintro e w5 ⟨F5, rfl, T5⟩; have z5 := T5.fr.size)))
              have b5 := br.fr T5.fr hgr
              have g5 := T5.off hgr lr
              have A5 := Ar.st T5
              have l5 := b5.lt
              have hF5 := T5.st.ft
              have hgp5 := T5.st.ltp
              go_upto_region 17 with (first
                | (with_reducible refine at_wpP ?_; refine at_ld 26 _ rfl ?_; have q := b5; go_must (refine wpList_ldPT rfl _ rfl g2 rfl gs b5 ?_))
                | (go_at_call 12; go_must (refine (hL1 _ _ T5.st).mono ?_; rintro e w6' ⟨uo, rfl, ou, f6'⟩; have z6' := f6'.size)))
              obtain ⟨au, cu, huu⟩ := ou.opn
              subst huu
              have b66 := b5.fr0 f6'
              have offu : ∀ k, Value.ownBlock (.slice au l.length cu) = some k → ¬ stB F5 gp k ∧ k < w6'.heap.size := fun k hk => by
                have h1 := ou.newB k hk
                refine ⟨fun q => ?_, h1.2⟩
                rcases q with q | q
                · have := hF5 _ q; omega
                · omega
              go_upto_region 22 with (first
                | (go_at_call 24; go_must (refine (hFi _ _ (T5.st.fr0 f6')).mono ?_; rintro e w7 ⟨rfl, f7⟩; have z7 := f7.size; have b7 := b66.fr0 f7; have q7 := b7))
                | (with_reducible refine at_wpP ?_; refine at_ld 26 _ rfl ?_; have q := b7; go_must (refine wpList_ldPT rfl _ rfl g2 rfl gs b7 ?_))
                | (go_at_call 8; go_must (refine (hPut _ _ ((T5.st.fr0 f6').fr0 f7)).mono ?_; rintro e w8 ⟨F8, rfl, T8⟩; have z8 := T8.fr.size))
                | (with_reducible refine at_wpP ?_; refine at_ld 26 _ rfl ?_; have q := b66; go_must (refine wpList_ldPT rfl _ rfl g2 rfl gs b66 ?_)))
              have b8 := b7.fr T8.fr g5
              have l7 := b7.lt
              have g8 := T8.off g5 l7
              have A8 := (((A5.fr0 f6').fr0 f7).st T8)
              have ou8 := (ou.fr0 f7).fr T8.fr (fun k hk => (offu k hk).1)
              have offu8 := T8.offR (fun k hk => ⟨(offu k hk).1, Nat.lt_of_lt_of_le (offu k hk).2 z7⟩)
              have c8 := pr_cell b8
              go_upto_region 24 with (first
                | (with_reducible refine at_wpP ?_; refine at_ld 26 _ rfl ?_; have q := b8; go_must (refine wpList_ldPT rfl _ rfl g2 rfl gs b8 ?_))
                | (go_at_call 14; go_must (refine (hSw _ _ _ _ _ (by omega) T8.st).mono ?_; rintro e w9 ⟨rfl, s9, f9⟩; have z9 := f9.size)))
              have b9 := b8.ne f9 (fun q => g8 (Or.inr q))
              have ou9 := ou8.fr f9 (fun k hk q => (offu8 k hk).1 (Or.inr q))
              have l9 := b9.lt
              have hF9 := s9.ft
              have hgp9 := s9.ltp
              go_upto_region 32 with (first
                | (with_reducible refine at_wpP ?_; refine at_ld 28 _ rfl ?_; have q := b9; go_must (refine wpList_ldP rfl _ rfl g2 rfl gs b9 ?_))
                | (with_reducible refine at_wpP ?_; refine wpList_mkC (ec := en64) (sz := 1) rfl 52 _ rfl Tryz.underlying52 _ info_int2 (by decide) (by decide) key (.int .i64 key) rfl rfl rfl ?_; intro g10 w10 b10 f10 s10; have z10 := f10.size)
                | (go_at_call 21; go_must (refine (hTr _ _ _ (s9.fr0 f10) (one_int b10 hkw) (fun q hq => by
                    have e : g10 = q := by simpa [Value.ownBlock] using hq
                    subst e
                    exact ⟨fun r => by have := hF9 _ r; omega, by omega⟩)).mono ?_; rintro e w11 ⟨F11, rfl, T11⟩; have z11 := T11.fr.size)))
              have b11 := (b9.fr0 f10).fr T11.fr g8
              have ou11 := (ou9.fr0 f10).fr T11.fr (fun k hk => (offu8 k hk).1)
              have A11 := (((A8.pool f9).fr0 f10).st T11)
              go_upto_region 33 with (first
                | (with_reducible refine at_wpP ?_; refine at_ld 26 _ rfl ?_; have q := b11; go_must (refine wpList_ldPT rfl _ rfl g2 rfl gs b11 ?_))
                | (go_at_call 12; go_must (refine (hLz _ _ T11.st).mono ?_; rintro e w20 ⟨uz, rfl, oz, f20⟩; have z20 := f20.size)))
              obtain ⟨az, cz, huz⟩ := oz.opn
              subst huz
              have b20 := (b11).fr0 f20
              have hwz := EnO.slp oz hwf
              have hwu := EnO.slp (ou11.fr0 f20) hwf
              go_wp2_with (first
                | (go_at_call 13; go_must (refine (same10_any _ _ _ _ _ hwu hwz (by omega)).mono ?_; rw [hLL.out]; rintro e w21 ⟨rfl, f21⟩; have z21 := f21.size; have b21 := b20.fr0 f21))
                | (with_reducible refine at_wpP ?_; refine at_ld 28 _ rfl ?_; have q := b21; go_must (refine wpList_ldP rfl _ rfl g2 rfl gs b21 ?_))
                | (go_at_call 16; go_must (refine (exact_P oz2 (by omega) _ ((T11.st.fr0 f20).fr0 f21)).mono ?_; rintro e w22 ⟨rfl, f22⟩)))
              go_ret
              exact ⟨rfl, (f0.thenN ((((A11).fr0 f20).fr0 f21).pool f22).fr).below⟩
            · have hfa1 : (fa == -1) = false := by simpa using hfn
              have hocx : 8 + (0 + ([pg].length + occK X4 lv4 rt)) ≤ L4.length := by have := hL4.out; omega
              have hfn' : ¬ findL l key = -1 := by rw [hfa]; exact hfn
              obtain ⟨z0', hz0m, hz0k⟩ := findL_key hfn'
              have hin : (key, pg) ∈ l := by
                have h2 := o4.pg z0' hz0m
                simp at h2
                have : z0' = (key, pg) := Prod.ext hz0k h2
                rw [← this]; exact hz0m
              have huq : ∀ z ∈ l, z.1 = (key, pg).1 → z = (key, pg) := fun z hz e => by
                have h2 := o4.pg z hz
                simp at h2
                exact Prod.ext e h2
              obtain ⟨X9, L9, p', lv', L10, hC2, KS, _⟩ := o4.cut up4 (by omega) key ⟨by omega, by omega⟩ hfn' (by simp) (by omega) hocx
              have hSw2 := KS.sw
              have o5 := KS.kt
              have hln5 : L10.length = 240 := KS.ln.trans hL4.out
              have hup5 := o5.up
              have hocc5 := o5.occ
              have hcl := cutL_le l key
              have hocx5 : 16 + ([pg].length + occK X9 lv' p') ≤ L10.length := by omega
              obtain ⟨X11, L11, p2, lv2, L12, hP, hp0, _, KS2, _⟩ := o5.put KS.up (by omega) (key, pg) ⟨by show 0 ≤ key; omega, by show key ≤ 63; omega⟩ (by simp) (by simp) (by omega) hocx5
              have oz2 := KS2.kt
              have hSw := KS2.sw
              have hcp : putL (cutL l key) (key, pg) = l := put_cut hup.1 hup5.1 oz2.up.1 hin huq
              rw [hcp] at oz2
              have hTr := fun (F' : Nat → Prop) v W (h : Sto W F' gs gp X4 L4 m4) (hv : SlI .i64 W v [key]) (hvF : ∀ x, v.ownBlock = some x → ¬ F' x ∧ x ≠ gp) => Trim_one hC2 hSw2 (by omega) v W h hv hvF
              have hPut := fun (F' : Nat → Prop) W (h : Sto W F' gs gp X9 L10 (m4 + 20)) => hP F' gs gp W h
              have hLz := fun (F' : Nat → Prop) W (s : Sto W F' gs gp X11 L12 (m4 + 20 + 20)) => List_ok oz2.iv.toT (by omega) oz2.rk W s
              clear KS KS2 o5 hup5 hcl hocx hocx5 hocc5 hln5 hcp hP hC2 hSw2 hin huq hz0m hz0k hfn'
              go_upto_region 16 with (first
                | (with_reducible refine at_wpP ?_; refine at_ld 26 _ rfl ?_; have q := br; go_must (refine wpList_ldPT rfl _ rfl g2 rfl gs br ?_))
                | (go_at_call 17; go_must (refine (hB _ str ho.sl hvvr).mono ?_; rintro e w5 ⟨F5, rfl, T5⟩; have z5 := T5.fr.size)))
              have b5 := br.fr T5.fr hgr
              have g5 := T5.off hgr lr
              have A5 := Ar.st T5
              have l5 := b5.lt
              have hF5 := T5.st.ft
              have hgp5 := T5.st.ltp
              go_upto_region 17 with (first
                | (with_reducible refine at_wpP ?_; refine at_ld 26 _ rfl ?_; have q := b5; go_must (refine wpList_ldPT rfl _ rfl g2 rfl gs b5 ?_))
                | (go_at_call 12; go_must (refine (hL1 _ _ T5.st).mono ?_; rintro e w6' ⟨uo, rfl, ou, f6'⟩; have z6' := f6'.size)))
              obtain ⟨au, cu, huu⟩ := ou.opn
              subst huu
              have b66 := b5.fr0 f6'
              have offu : ∀ k, Value.ownBlock (.slice au l.length cu) = some k → ¬ stB F5 gp k ∧ k < w6'.heap.size := fun k hk => by
                have h1 := ou.newB k hk
                refine ⟨fun q => ?_, h1.2⟩
                rcases q with q | q
                · have := hF5 _ q; omega
                · omega
              go_upto_region 26 with (first
                | (with_reducible refine at_wpP ?_; refine at_ld 26 _ rfl ?_; have q := b66; go_must (refine wpList_ldPT rfl _ rfl g2 rfl gs b66 ?_))
                | (go_at_call 24; go_must (refine (hFi _ _ (T5.st.fr0 f6')).mono ?_; rintro e w7 ⟨rfl, f7⟩; have z7 := f7.size; have b7 := b66.fr0 f7)))
              have l7 := b7.lt
              go_upto_region 29 with (first
                | (with_reducible refine at_wpP ?_; refine at_ld 28 _ rfl ?_; have q := b7; go_must (refine wpList_ldP rfl _ rfl g2 rfl gs b7 ?_))
                | (with_reducible refine at_wpP ?_; refine wpList_mkC (ec := en64) (sz := 1) rfl 52 _ rfl Tryz.underlying52 _ info_int2 (by decide) (by decide) key (.int .i64 key) rfl rfl rfl ?_; intro g10 w10 b10 f10 s10; have z10 := f10.size)
                | (go_at_call 21; go_must (refine (hTr _ _ _ (((T5.st.fr0 f6').fr0 f7).fr0 f10) (one_int b10 hkw) (fun q hq => by
                    have e : g10 = q := by simpa [Value.ownBlock] using hq
                    subst e
                    exact ⟨fun r => by have := hF5 _ r; omega, by omega⟩)).mono ?_; rintro e w8 ⟨F8, rfl, T8⟩; have z8 := T8.fr.size)))
              have b8 := (b7.fr0 f10).fr T8.fr g5
              have g8 := T8.off g5 (by omega)
              have A8 := ((((A5.fr0 f6').fr0 f7).fr0 f10).st T8)
              have ou8 := ((ou.fr0 f7).fr0 f10).fr T8.fr (fun k hk => (offu k hk).1)
              have offu8 := T8.offR (fun k hk => ⟨(offu k hk).1, by have := (offu k hk).2; omega⟩)
              have l8 := b8.lt
              go_upto_region 30 with (first
                | (with_reducible refine at_wpP ?_; refine at_ld 26 _ rfl ?_; have q := b8; go_must (refine wpList_ldPT rfl _ rfl g2 rfl gs b8 ?_))
                | (go_at_call 8; go_must (refine (hPut _ _ T8.st).mono ?_; rintro e w9 ⟨F9, rfl, T9⟩; have z9 := T9.fr.size)))
              have b9 := b8.fr T9.fr g8
              have g9 := T9.off g8 l8
              have ou9 := ou8.fr T9.fr (fun k hk => (offu8 k hk).1)
              have offu9 := T9.offR offu8
              go_upto_region 32 with (first
                | (with_reducible refine at_wpP ?_; refine at_ld 26 _ rfl ?_; have q := b9; go_must (refine wpList_ldPT rfl _ rfl g2 rfl gs b9 ?_))
                | (go_at_call 14; go_must (refine (hSw _ _ _ _ _ (by omega) T9.st).mono ?_; rintro e w11 ⟨rfl, s11, f11⟩; have z11 := f11.size)))
              have b11 := b9.ne f11 (fun q => g9 (Or.inr q))
              have ou11 := ou9.fr f11 (fun k hk q => (offu9 k hk).1 (Or.inr q))
              have A11 := (A8.st T9).pool f11
              go_upto_region 33 with (first
                | (with_reducible refine at_wpP ?_; refine at_ld 26 _ rfl ?_; have q := b11; go_must (refine wpList_ldPT rfl _ rfl g2 rfl gs b11 ?_))
                | (go_at_call 12; go_must (refine (hLz _ _ s11).mono ?_; rintro e w20 ⟨uz, rfl, oz, f20⟩; have z20 := f20.size)))
              obtain ⟨az, cz, huz⟩ := oz.opn
              subst huz
              have b20 := (b11).fr0 f20
              have hwz := EnO.slp oz hwf
              have hwu := EnO.slp (ou11.fr0 f20) hwf
              go_wp2_with (first
                | (go_at_call 13; go_must (refine (same10_any _ _ _ _ _ hwu hwz (by omega)).mono ?_; rw [hLL.out]; rintro e w21 ⟨rfl, f21⟩; have z21 := f21.size; have b21 := b20.fr0 f21))
                | (with_reducible refine at_wpP ?_; refine at_ld 28 _ rfl ?_; have q := b21; go_must (refine wpList_ldP rfl _ rfl g2 rfl gs b21 ?_))
                | (go_at_call 16; go_must (refine (exact_P oz2 (by omega) _ ((s11.fr0 f20).fr0 f21)).mono ?_; rintro e w22 ⟨rfl, f22⟩)))
              go_ret
              exact ⟨rfl, (f0.thenN ((((A11).fr0 f20).fr0 f21).pool f22).fr).below⟩
end Go.Proofs.YtmkinaijkgkgiaaGreat
