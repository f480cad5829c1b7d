/- Texts H8, H9, H10, H13, V6, V7, V11, V12, B5a, D5, E3, X13, X8, X14, OpenH, H14 of the proof of PruneTrims, one behind the other. -/
import Derived.Lib.SlBytesConst
import Derived.Test.YtmkinaijkgkgiaaGreatRows
import Derived.Deep.MidRow
import Derived.Deep.RegionHeld3
import Derived.Deep.Matrix
import Derived.Deep.Strs
import Derived.Test.YtmkinaijkgkgiaaGreatBundlePruneTrims1
import Derived.Test.YtmkinaijkgkgiaaGreatBundlePruneTrims2
import Derived.Test.YtmkinaijkgkgiaaGreatBundlePruneTrims3
import Derived.Test.YtmkinaijkgkgiaaGreatBundlePruneTrims4
import Derived.Test.YtmkinaijkgkgiaaGreatBundlePruneTrims5
import Derived.Test.YtmkinaijkgkgiaaGreatBundlePruneTrims6
import Derived.Test.YtmkinaijkgkgiaaGreatBundlePruneTrims7
import Derived.Test.YtmkinaijkgkgiaaGreatBundlePruneTrims8
import Derived.Test.YtmkinaijkgkgiaaGreatBundlePruneTrims9
import Derived.Test.YtmkinaijkgkgiaaGreatBundlePruneTrims10
import Derived.Test.YtmkinaijkgkgiaaGreatBundlePruneTrims11
import Derived.Test.YtmkinaijkgkgiaaGreatBundlePruneTrims12
import Derived.Test.YtmkinaijkgkgiaaGreatBundlePruneTrims13
/- A store: see, Reach. -/
namespace Go.Proofs.YtmkinaijkgkgiaaGreat
open Go.RowKit Go.Proofs.U Go.Shelf Go.Maps
set_option linter.unusedSimpArgs false
set_option linter.unusedVariables false
section
variable {w : World} {ops : Array Oper} {rest : List Oper} {o : Oper} {a : Act} {Q : Exit → Act → World → Prop}
theorem wpList_lookI (hgd : Region.wanted o (yielded ops a.tmps) = true) (x y : Operand) (ho : o.op = .lookup 91 x y true) (m : Nat) (hx : a.eval x = .map (some m)) (i : Int) (hi : -9223372036854775808 ≤ i ∧ i ≤ 9223372036854775807) (hy : a.eval y = .int .i64 i) (S : Int → Bool) (hM : MapI w m S)
    (h : wpList Tryz.prog ops Q rest (a.put o.dst (.tuple #[.agg #[], .bool (S i)])) w) : wpList Tryz.prog ops Q (o :: rest) a w := by
  refine wpList_wanted hgd fun K hK => ?_
  have hr := hM.look i hi
  unfold Oper.wp execOp
  simp only [ho, hx, hy, Sem.run_bind, hr, Result.andThen_ok]
  exact hK _ _ h
theorem wpList_stU (hgd : Region.wanted o (yielded ops a.tmps) = true) (x y : Operand) (ho : o.op = .store 119 x y) (p : Addr) (hx : a.eval x = .pointer (some p)) (hy : a.eval y = .agg #[])
    (h : wpList Tryz.prog ops Q rest (a.put o.dst undef) w) : wpList Tryz.prog ops Q (o :: rest) a w := by
  refine wpList_wanted hgd fun K hK => ?_
  have hr := run_stU w p
  unfold Oper.wp execOp
  simp only [ho, hx, hy, Sem.run_bind, hr, Result.andThen_ok]
  exact hK _ _ h
theorem unit_zero2 : (Tryz.prog.info? 119).map (·.zero) = some (some (.agg #[])) := by kernel_rfl
theorem at_look (t : TypeId) (x y : Operand) (b : Bool) (_ho : o.op = .lookup t x y b) (h : wpList Tryz.prog ops Q (o :: rest) a w) : wpList Tryz.prog ops Q (o :: rest) a w := h
theorem at_upd (t : TypeId) (x y z : Operand) (_ho : o.op = .mapUpdate t x y z) (h : wpList Tryz.prog ops Q (o :: rest) a w) : wpList Tryz.prog ops Q (o :: rest) a w := h
theorem wpList_updI (hgd : o.guard = none) (x y z : Operand) (ho : o.op = .mapUpdate 91 x y z) (m : Nat) (hx : a.eval x = .map (some m)) (i : Int) (hi : -9223372036854775808 ≤ i ∧ i ≤ 9223372036854775807) (hy : a.eval y = .int .i64 i) (hz : a.eval z = .agg #[]) (S : Int → Bool) (hS : ∀ x, S x = true → 0 ≤ x ∧ x < ((240 : Nat) : Int)) (hM : MapI w m S)
    (h : ∀ w', MapI w' m (fun x => if x == i then true else S x) → Fr (onB1 m) w w' → wpList Tryz.prog ops Q rest (a.put o.dst undef) w') : wpList Tryz.prog ops Q (o :: rest) a w := by
  obtain ⟨D, ho', hh⟩ := hM.tight hS
  refine wpList_mapUpdate_in _ hgd _ _ _ 91 ho 3 119 keyI Tryz.underlying91 _ m _ D hx ho' (by unfold maxLen; omega) _ _ _ hy hz (keyOf_int_mk Tryz.underlying3 (WalkArith.wf_i64 hi)) _ [] unitElem_mk ?_
  intro w' ho1 ht
  refine h w' ⟨_, _, ho1, fun kl => ?_⟩ ((Fr.refl _ _).grown ht.grown (fun k hk _ => (Option.some.inj hk).symm))
  by_cases hk : kl = .int .i64 i
  · subst hk
    rw [has_put_same ho'.isMap (by trivial) _]; simp [badK]
  · rw [has_put_other hk _, hh, badK_put _ _ _ _ hk]
theorem wpList_mkMap (hgd : Region.wanted o (yielded ops a.tmps) = true) (ho : o.op = .makeMap 91 none)
    (h : ∀ g w', MapI w' g (fun _ => false) → Fr noB w w' → w.heap.size ≤ g → wpList Tryz.prog ops Q rest (a.put o.dst (.map (some g))) w') : wpList Tryz.prog ops Q (o :: rest) a w := by
  refine wpList_wanted hgd fun K hK => ?_
  have hrun : (execOp a.eval o).run Tryz.prog w = .ok (.value (.map (some w.heap.size))) (w.alloc (.map #[] 0)) := by
    simp [execOp, ho, go_sem, run_makeMap]
  unfold Oper.wp
  rw [hrun]
  exact hK _ _ (h w.heap.size _ ⟨0, .map [], World.ownsMap_made w Tryz.prog 3 unitElem, fun kl => by cases kl with | int k x => cases k <;> rfl | _ => rfl⟩ ((Fr.refl _ _).alloc _) (Nat.le_refl _))
end
/-- How many pages were not seen yet. -/
def nS (S : Int → Bool) : Nat := (List.range 240).countP fun (i : Nat) => !S (i : Int)
theorem countP_lt {l : List Nat} {p q : Nat → Bool} (h : ∀ x ∈ l, q x = true → p x = true) {y : Nat} (hy : y ∈ l) (hp : p y = true) (hq : q y = false) : l.countP q < l.countP p := by
  induction l with
  | nil => cases hy
  | cons a l ih =>
    rw [List.countP_cons, List.countP_cons]
    have hle : l.countP q ≤ l.countP p := List.countP_mono_left (fun x hx => h x (List.mem_cons_of_mem _ hx))
    rcases List.mem_cons.1 hy with rfl | hy
    · rw [hp, hq]; simp; omega
    · have := ih (fun x hx => h x (List.mem_cons_of_mem _ hx)) hy
      by_cases ha : q a = true
      · have := h a List.mem_cons_self ha
        rw [ha, this]; simp; omega
      · simp [ha]; split <;> omega
theorem nS_put {S : Int → Bool} {p : Int} (h0 : 0 ≤ p) (h1 : p < 240) (hp : S p = false) : nS (fun x => if x == p then true else S x) < nS S := by
  unfold nS
  obtain ⟨k, rfl⟩ : ∃ k : Nat, p = (k : Int) := ⟨p.toNat, by omega⟩
  refine countP_lt (fun x _ hx => ?_) (y := k) (List.mem_range.2 (by omega)) (by rw [hp]; rfl) (by simp)
  simp at hx ⊢
  exact hx.2
theorem nS_mono {S T : Int → Bool} (h : ∀ x, S x = true → T x = true) : nS T ≤ nS S := by
  unfold nS
  refine List.countP_mono_left (fun x _ hx => ?_)
  simp at hx ⊢
  cases hs : S (x : Int) with
  | false => rfl
  | true => rw [h _ hs] at hx; cases hx
theorem seeF_inv {get : Int → Nd × Int} {I : (Int → Bool) → Prop} (hI : ∀ S p, I S → (get p).2 = 0 → I (fun x => if x == p then true else S x)) : ∀ (n : Nat) (S : Int → Bool) (p : Int), I S → I (seeF get n S p).1
  | 0, S, p, h => h
  | n + 1, S, p, h => by
    unfold seeF
    split
    · exact h
    · split
      · rename_i h0
        exact eachF_inv (seeF_inv hI n) _ _ (hI S p h h0)
      · exact h
theorem seeF_mono {get : Int → Nd × Int} (n : Nat) (S : Int → Bool) (p : Int) : ∀ x, S x = true → (seeF get n S p).1 x = true :=
  seeF_inv (I := fun T => ∀ x, S x = true → T x = true) (fun T p h _ x hx => by simp only; split; rfl; exact h x hx) n S p (fun x h => h)
theorem getF_rng {X : DSt} {L : List Pg} (hL : plOk L) {p : Int} (h : (getF X L p).2 = 0) : 0 ≤ p ∧ p < ((240 : Nat) : Int) := by
  unfold getF at h
  split at h
  · rename_i hh
    have := plHeld_rng hh
    have := hL.1
    omega
  · simp at h
abbrev Low (S : Int → Bool) : Prop := ∀ x, S x = true → 0 ≤ x ∧ x < ((240 : Nat) : Int)
theorem Low.put {S : Int → Bool} (h : Low S) {p : Int} (hp : 0 ≤ p ∧ p < ((240 : Nat) : Int)) : Low (fun x => if x == p then true else S x) := by
  intro x hx
  by_cases e : x = p
  · subst e; exact hp
  · have : (x == p) = false := by simpa using e
    simp only [this, Bool.false_eq_true, if_false] at hx
    exact h x hx
theorem seeF_low {X : DSt} {L : List Pg} (hL : plOk L) (n : Nat) {S : Int → Bool} (p : Int) (h : Low S) : Low (seeF (getF X L) n S p).1 := seeF_inv (I := Low) (fun T p h h0 => h.put (getF_rng hL h0)) n S p h
theorem eg_see1 : ∀ args w, (callFunc 84 args).run Tryz.prog w = .ok (.enter 84 args) w := enters_of Tryz.func84 (by kernel_rfl) rfl
theorem wf_rng {x : Int} (h : (Lit.int .i64 x).wf = true) : -9223372036854775808 ≤ x ∧ x ≤ 9223372036854775807 := by
  simp [Lit.wf, IntKind.min, IntKind.max, IntKind.bits, IntKind.signed] at h; omega
set_option maxRecDepth 100000 in
set_option maxHeartbeats 1000000 in
theorem see1_any {gs gq : Nat} (g1 g2 : Nat) (p : Int) (w : World) (b1 : BxV w g1 24 [ptr gs]) (b2 : BxV w g2 91 [.map (some gq)]) {v : Value} {Z : World → Prop}
    (hc : Calls Tryz.prog 62 #[ptr gs, .int .i64 p, .map (some gq)] w fun r w' => r = .returned v ∧ Z w') :
    Calls Tryz.prog 84 #[.int .i64 p, ptr g1, ptr g2] w fun r w' => r = .returned v ∧ Z w' := by
  have k1 := (b1.cell 0 _ rfl).1
  have k2 := (b2.cell 0 _ rfl).1
  go_enter Tryz.func84, Tryz.ntmps84
  go_wp2_with (first
    | (go_at_call 62; go_must (refine hc.mono ?_; rintro e w1 ⟨rfl, q1⟩)))
  go_ret
  exact ⟨rfl, q1⟩
theorem seeF_succ (get : Int → Nd × Int) (n : Nat) (S : Int → Bool) (p : Int) : seeF get (n + 1) S p = if S p then (S, 0) else if (get p).2 = 0 then eachF (seeF get n) (fun x => if x == p then true else S x) (kids (get p).1) else (S, (get p).2) := rfl
set_option maxRecDepth 100000 in
set_option maxHeartbeats 1000000 in
theorem see_any {F : Nat → Prop} {gs gp gq : Nat} {X : DSt} {L : List Pg} {m : Nat} (hm : m ≤ 100000) (hqF : ¬ F gq) (hqp : gq ≠ gp) (hqs : gq ≠ gs) : ∀ (n : Nat) (S : Int → Bool) (p : Int) (w : World), nS S < n → Low S → (Lit.int .i64 p).wf = true → Sto w F gs gp X L m → MapI w gq S →
    Calls Tryz.prog 62 #[ptr gs, .int .i64 p, .map (some gq)] w fun r w' => r = .returned (.int .i64 (seeF (getF X L) n S p).2) ∧ MapI w' gq (seeF (getF X L) n S p).1 ∧ Fr (onB1 gq) w w' := by
  intro n
  induction n with
  | zero => intro S p w h; omega
  | succ n ih =>
    intro S p w hn hS hp h hM
    have hpr := wf_rng hp
    have lq := hM.lt
    have hG := fun W (f : Fr noB w W) => nget_any p W (h.fr0 f) hm
    rw [seeF_succ]
    cases hSp : S p with
    | true =>
      simp only [if_true]
      go_enter Tryz.func62, Tryz.ntmps62
      go_wp2_with (first
        | (with_reducible refine at_wpP ?_; refine wpList_boxG rfl 24 _ rfl (ptr gs) [ptr gs] rfl rfl ?_; intro g1 w1 hg1 b1 f1 s1)
        | (with_reducible refine at_wpP ?_; refine wpList_boxG rfl 91 _ rfl (.map (some gq)) [.map (some gq)] rfl rfl ?_; intro g2 w2 hg2 b2 f2 s2; have k2 := (b2.cell 0 _ rfl).1; have M2 := (hM.fr f1 (fun q => q)).fr f2 (fun q => q))
        | (with_reducible refine at_wpP ?_; refine at_look 91 _ _ _ rfl ?_; go_must (refine wpList_lookI rfl _ _ rfl gq rfl p hpr rfl S M2 ?_; rw [hSp]))
        | (with_reducible refine at_wpP ?_; refine wpList_allocG rfl 119 rfl (.agg #[]) [] unit_zero2 rfl ?_; intro g3 w3 hg3 b3 f3 s3)
        | (with_reducible refine at_wpP ?_; refine at_st 119 _ _ rfl ?_; go_must (refine wpList_stU rfl _ _ rfl ⟨g3, 0, none⟩ rfl rfl ?_)))
      go_ret
      have F3 := (f1.thenN f2).thenN f3
      exact ⟨rfl, hM.fr F3 (fun q => q), F3.mono (fun _ _ q => q.elim)⟩
    | false =>
      simp only [Bool.false_eq_true, if_false]
      have hlow := fun (h0 : (getF X L p).2 = 0) => getF_rng h.ok h0
      obtain ⟨R, HR⟩ : ∃ R, Hid (getF X L p = R) := ⟨_, rfl⟩
      rw [HR.out] at hG hlow ⊢
      by_cases hr0 : R.2 = 0
      · rw [if_pos hr0]
        have hpl := hlow hr0
        have hn1 := nS_put hpl.1 hpl.2 hSp
        have hS1 := hS.put hpl
        obtain ⟨S1, HS1⟩ : ∃ S1, Hid ((fun x => if x == p then true else S x) = S1) := ⟨_, rfl⟩
        rw [HS1.out] at hn1 hS1 ⊢
        obtain ⟨N, e0⟩ := R
        simp only at hr0
        subst hr0
        simp only at hG ⊢
        clear hlow
        have hC := fun v W (hn : NdS W v N) => children_any N v W hn
        have hE := fun (u : Value) (g1 g2 : Nat) (W : World) (hK : (kids N).length ≤ 1000) (s : Sto W F gs gp X L m) (hMM : MapI W gq S1) (b1 : BxV W g1 24 [ptr gs]) (b2 : BxV W g2 91 [.map (some gq)]) (h1 : g1 ≠ gq) (h2 : g2 ≠ gq) (hu : SlI .i64 W u (kids N)) (hg : ∀ k, u.ownBlock = some k → k ≠ gq) =>
          each_any (seeF (getF X L) n) (fun T V => MapI V gq T ∧ Low T ∧ nS T < n ∧ SlI .i64 V u (kids N) ∧ Fr (onB1 gq) W V) 84 #[] #[ptr g1, ptr g2] eg_see1 u (kids N) (by omega) (fun _ _ h => h.2.2.2.1) (fun T V x hx hI => by
            refine see1_any g1 g2 x V (b1.fr hI.2.2.2.2 (fun q => h1 q)) (b2.fr hI.2.2.2.2 (fun q => h2 q)) ?_
            refine (ih T x V hI.2.2.1 hI.2.1 (hI.2.2.2.1.2 x hx) (s.fr hI.2.2.2.2 (fun k hk q e => by unfold onB1 at e; subst e; rcases q with q | q | q; exact hqF q; exact hqp q; exact hqs q)) hI.1).mono ?_
            rintro e w1 ⟨rfl, s1, f1⟩
            exact ⟨rfl, s1, seeF_low h.ok n x hI.2.1, Nat.lt_of_le_of_lt (nS_mono (seeF_mono n T x)) hI.2.2.1, hI.2.2.2.1.fr f1 (fun k hk q => hg k hk q), hI.2.2.2.2.trans f1⟩) S1 W ⟨hMM, hS1, by omega, hu, Fr.refl _ _⟩
        clear ih
        obtain ⟨K, HK⟩ : ∃ K, Hid (kids N = K) := ⟨_, rfl⟩
        have hkl := fun v W (hn : NdS W v N) => kids_len hn
        rw [HK.out] at hC hE hkl ⊢
        obtain ⟨V, HV⟩ : ∃ V, Hid (eachF (seeF (getF X L) n) S1 K = V) := ⟨_, rfl⟩
        rw [HV.out] at hE ⊢
        have lps := h.lts
        go_enter Tryz.func62, Tryz.ntmps62
        go_wp2_with (first
          | (with_reducible refine at_wpP ?_; refine wpList_boxG rfl 24 _ rfl (ptr gs) [ptr gs] rfl rfl ?_; intro g1 w1 hg1 b1 f1 s1; have l1 := b1.lt; have z1 := f1.size)
          | (with_reducible refine at_wpP ?_; refine wpList_boxG rfl 91 _ rfl (.map (some gq)) [.map (some gq)] rfl rfl ?_; intro g2 w2 hg2 b2 f2 s2; have l2 := b2.lt; have z2 := f2.size; have k2 := (b2.cell 0 _ rfl).1; have G2 := f1.thenN f2; have M2 := hM.fr G2 (fun q => q))
          | (with_reducible refine at_wpP ?_; refine at_look 91 _ _ _ rfl ?_; go_must (refine wpList_lookI rfl _ _ rfl gq rfl p hpr rfl S M2 ?_; rw [hSp]))
          | (with_reducible refine at_wpP ?_; refine wpList_allocG rfl 119 rfl (.agg #[]) [] unit_zero2 rfl ?_; intro g3 w3 hg3 b3 f3 s3; have z3 := f3.size; have G3 := G2.thenN f3; have B1 := (b1.fr0 f2).fr0 f3; have k1 := (B1.cell 0 _ rfl).1)
          | (with_reducible refine at_wpP ?_; refine at_st 119 _ _ rfl ?_; go_must (refine wpList_stU rfl _ _ rfl ⟨g3, 0, none⟩ rfl rfl ?_))
          | (go_at_call 40; go_must (refine (hG _ G3).mono ?_; rintro e w4 ⟨v, rfl, n4, o4, f4⟩; have z4 := f4.size; have hv := NdS.sl n4; have hbl := NdS.bl n4; have G4 := G3.thenN f4; have hk := hkl _ _ n4))
          | (with_reducible refine at_wpP ?_; refine wpList_allocN rfl rfl ?_; intro g5 w5 hg5 b5 f5 s5; have l5 := b5.lt; have z5 := f5.size)
          | (with_reducible refine at_wpP ?_; refine at_st 72 _ _ rfl ?_; have q := n4; go_must (refine wpList_stN rfl _ _ rfl g5 rfl N.k N.b v rfl hbl.out hv 0 (zerB 16) nilS b5 (zerB_len 16) ?_; intro w6 b6 f6; have z6 := f6.size; have F6 : Fr noB w4 w6 := Fr.ownX f5 s5 f6; have n6 := n4.fr0 F6; have G6 := G4.thenN F6; have B2 := (((b2.fr0 f3).fr0 f4).fr0 F6); have B1 := ((B1.fr0 f4).fr0 F6); have k2 := (B2.cell 0 _ rfl).1; have M6 := hM.fr G6 (fun q => q)))
          | (with_reducible refine at_wpP ?_; refine at_upd 91 _ _ _ rfl ?_; go_must (refine wpList_updI rfl _ _ _ rfl gq rfl p hpr rfl rfl S hS M6 ?_; rw [HS1.out]; intro w7 M7 f7; have z7 := f7.size; have b7 := BxV.ne b6 f7 (by omega); have n7 := NdS.frS n6 f7 (fun k hk q => by have := o4 k hk; unfold onB1 at q; omega); have C1 := BxV.ne B1 f7 (by omega); have C2 := BxV.ne B2 f7 (by omega)))
          | (with_reducible refine at_wpP ?_; refine at_ld 72 _ rfl ?_; go_must (refine wpList_ldN rfl _ rfl g5 rfl N.k N.b v b7 hbl.out ?_))
          | (go_at_call 46; go_must (refine (hC _ _ n7).mono ?_; rintro e w8 ⟨u, rfl, o8, u8, f8⟩; have z8 := f8.size; have nb8 := o8.newB; have M8 := M7.fr f8 (fun q => q); have D1 := C1.fr0 f8; have D2 := C2.fr0 f8))
          | (go_at_call 50; go_must (refine (hE u g1 g2 _ hk ?hs8 M8 D1 D2 (by omega) (by omega) u8 ?hg8).mono ?_; rotate_left 2; rintro e w9 ⟨rfl, s9, _, _, _, f9⟩)))
        case hs8 =>
          exact ((h.fr0 G6).fr f7 (fun k hk q e => by unfold onB1 at e; subst e; rcases q with q | q | q; exact hqF q; exact hqp q; exact hqs q)).fr0 f8
        case hg8 =>
          intro k hk e
          have := nb8 k hk
          omega
        go_ret
        exact ⟨rfl, s9, (((G6.mono (fun _ _ q => q.elim)).trans f7).thenN f8).trans f9⟩
      · rw [if_neg hr0]
        go_enter Tryz.func62, Tryz.ntmps62
        go_wp2_with (first
          | (with_reducible refine at_wpP ?_; refine wpList_boxG rfl 24 _ rfl (ptr gs) [ptr gs] rfl rfl ?_; intro g1 w1 hg1 b1 f1 s1; have l1 := b1.lt; have z1 := f1.size)
          | (with_reducible refine at_wpP ?_; refine wpList_boxG rfl 91 _ rfl (.map (some gq)) [.map (some gq)] rfl rfl ?_; intro g2 w2 hg2 b2 f2 s2; have l2 := b2.lt; have z2 := f2.size; have k2 := (b2.cell 0 _ rfl).1; have G2 := f1.thenN f2; have M2 := hM.fr G2 (fun q => q))
          | (with_reducible refine at_wpP ?_; refine at_look 91 _ _ _ rfl ?_; go_must (refine wpList_lookI rfl _ _ rfl gq rfl p hpr rfl S M2 ?_; rw [hSp]))
          | (with_reducible refine at_wpP ?_; refine wpList_allocG rfl 119 rfl (.agg #[]) [] unit_zero2 rfl ?_; intro g3 w3 hg3 b3 f3 s3; have z3 := f3.size; have G3 := G2.thenN f3; have B1 := (b1.fr0 f2).fr0 f3; have k1 := (B1.cell 0 _ rfl).1)
          | (with_reducible refine at_wpP ?_; refine at_st 119 _ _ rfl ?_; go_must (refine wpList_stU rfl _ _ rfl ⟨g3, 0, none⟩ rfl rfl ?_))
          | (go_at_call 40; go_must (refine (hG _ G3).mono ?_; rintro e w4 ⟨v, rfl, n4, o4, f4⟩; have z4 := f4.size; have hv := NdS.sl n4; have hbl := NdS.bl n4; have G4 := G3.thenN f4))
          | (with_reducible refine at_wpP ?_; refine wpList_allocN rfl rfl ?_; intro g5 w5 hg5 b5 f5 s5; have l5 := b5.lt; have z5 := f5.size)
          | (with_reducible refine at_wpP ?_; refine at_st 72 _ _ rfl ?_; have q := n4; go_must (refine wpList_stN rfl _ _ rfl g5 rfl R.1.k R.1.b v rfl hbl.out hv 0 (zerB 16) nilS b5 (zerB_len 16) ?_; intro w6 b6 f6; have z6 := f6.size; have F6 : Fr noB w4 w6 := Fr.ownX f5 s5 f6; have G6 := G4.thenN F6)))
        go_ret
        exact ⟨rfl, hM.fr G6 (fun q => q), G6.mono (fun _ _ q => q.elim)⟩
end Go.Proofs.YtmkinaijkgkgiaaGreat
/- A store: Reach. -/
namespace Go.Proofs.YtmkinaijkgkgiaaGreat
open Go.RowKit Go.Proofs.U Go.Shelf Go.Maps
set_option linter.unusedSimpArgs false
set_option linter.unusedVariables false
/-- A root is passed over, if it is none. -/
def rootF (get : Int → Nd × Int) (S : Int → Bool) (p : Int) : (Int → Bool) × Int := if p = -1 then (S, 0) else seeF get 241 S p
/-- Reach: what was seen, or the first error. -/
def reachF (get : Int → Nd × Int) (roots : List Int) : (Int → Bool) × Int := eachF (rootF get) (fun _ => false) roots
theorem nS_lt (S : Int → Bool) : nS S < 241 := by
  unfold nS
  have := List.countP_le_length (p := fun (i : Nat) => !S (i : Int)) (l := List.range 240)
  simp only [List.length_range] at this
  omega
def ReachIs (w w' : World) (R : (Int → Bool) × Int) (r : Ending) : Prop := ∃ u l, r = .returned (.tuple #[u, .int .i64 R.2]) ∧ (R.2 = 0 → SeenL R.1 l) ∧ SlI .i64 w' u l ∧ (∀ k, u.ownBlock = some k → w.heap.size ≤ k) ∧ Fr noB w w'
set_option maxRecDepth 100000 in
set_option maxHeartbeats 1000000 in
theorem reach_any {F : Nat → Prop} {gs gp : Nat} {X : DSt} {L : List Pg} {m : Nat} (hm : m ≤ 100000) (v : Value) (l : List Int) (hl : l.length ≤ 1000000) (w : World) (h : Sto w F gs gp X L m) (hv : SlI .i64 w v l) :
    Calls Tryz.prog 39 #[ptr gs, v] w fun r w' => ReachIs w w' (reachF (getF X L) l) r := by
  obtain ⟨a0, c0, rfl, hc0⟩ := hv.opn
  have hsee := fun gq (hq : w.heap.size ≤ gq) => see_any (F := F) (gs := gs) (gp := gp) (gq := gq) (X := X) (L := L) (m := m) hm (fun q => by have := h.ft gq q; omega) (by have := h.ltp; omega) (by have := h.lts; omega) 241
  have hlow := fun (S : Int → Bool) (p : Int) => seeF_low (X := X) (L := L) h.ok 241 (S := S) p
  unfold reachF
  obtain ⟨R, HR⟩ : ∃ R, Hid (eachF (rootF (getF X L)) (fun _ => false) l = R) := ⟨_, rfl⟩
  rw [HR.out]
  have ltp := h.ltp
  have lts := h.lts
  have hft := h.ft
  go_enter Tryz.func39, Tryz.ntmps39
  go_wp2_with (first
    | (with_reducible refine at_wpP ?_; refine wpList_mkMap rfl rfl ?_; intro gq w1 M1 f1 s1; have l1 := M1.lt))
  go_loopw [13] (fun i wr => ∃ (j : Nat) (t : Int → Bool), j ≤ l.length ∧ i = .int .i64 (j : Int) ∧ MapI wr gq t ∧ Low t ∧ Hid (eachF (rootF (getF X L)) t (l.drop j) = R) ∧ Fr noB w wr) (fun i _ => l.length - (intOf i).toNat)
  case atStart => exact ⟨0, _, Nat.zero_le _, rfl, M1, (fun x hx => by cases hx), HR, f1⟩
  case round =>
    obtain ⟨j, t, hj, rfl, hM, hLow, hA, hf⟩ := hrel
    by_cases hlt : j < l.length
    · obtain ⟨x, Hx⟩ : ∃ x, Hid (l[j] = x) := ⟨l[j], (rfl : l[j] = l[j])⟩
      have hxw : (Lit.int .i64 x).wf = true := hv.2 x (by rw [← Hx.out]; simp)
      have hv1 := (hv.fr0 hf).1
      have hlt' : (j : Int) < (l.length : Int) := by omega
      have hd : l.drop j = x :: l.drop (j + 1) := by rw [← Hx.out]; exact List.drop_eq_getElem_cons hlt
      rw [hd] at hA
      by_cases hx1 : x = -1
      · replace hA : Hid (eachF (rootF (getF X L)) t (l.drop (j + 1)) = R) := by
          show _ = _
          have e : rootF (getF X L) t x = (t, 0) := by unfold rootF; rw [if_pos hx1]
          rw [← hA.out, eachF_cons0 (by rw [e]), e]
        subst hx1
        go_wp2_with (first
          | (with_reducible refine at_wpP ?_; refine at_idx 52 _ _ rfl ?_; go_must (refine wpList_idx1 rfl 52 _ _ rfl 3 Tryz.underlying52 int_size1 (.slice a0 l.length c0) _ _ rfl hv1 .i64 (j : Int) j rfl rfl hlt ?_; intro pp u hu hcu; obtain rfl := getX hu hlt Hx.out)))
        go_roundw
        case rel => exact ⟨j + 1, t, by omega, by go_num, hM, hLow, hA, hf⟩
        case measure => simp [intOf]; omega
      · have hxb : (x == -1) = false := by simpa using hx1
        have hcx := hsee gq s1 t x wr (nS_lt t) hLow hxw (h.fr0 hf) hM
        have hlw := hlow t x hLow
        have e : rootF (getF X L) t x = seeF (getF X L) 241 t x := by unfold rootF; rw [if_neg hx1]
        obtain ⟨y, Hy⟩ : ∃ y, Hid (seeF (getF X L) 241 t x = y) := ⟨_, rfl⟩
        rw [Hy.out] at hcx hlw e
        replace e := show Hid _ from e
        by_cases h0 : y.2 = 0
        · replace hA : Hid (eachF (rootF (getF X L)) y.1 (l.drop (j + 1)) = R) := by show _ = _; rw [← hA.out, eachF_cons0 (by rw [e.out]; exact h0), e.out]
          obtain ⟨y1, y2⟩ := y
          simp only at h0 hA hcx hlw
          subst h0
          go_wp2_with (first
            | (with_reducible refine at_wpP ?_; refine at_idx 52 _ _ rfl ?_; go_must (refine wpList_idx1 rfl 52 _ _ rfl 3 Tryz.underlying52 int_size1 (.slice a0 l.length c0) _ _ rfl hv1 .i64 (j : Int) j rfl rfl hlt ?_; intro pp u hu hcu; obtain rfl := getX hu hlt Hx.out))
            | (go_at_call 62; go_must (refine hcx.mono ?_; rintro e w2 ⟨rfl, M2, f2⟩)))
          go_roundw
          case rel => exact ⟨j + 1, y1, by omega, by go_num, M2, hlw, hA, hf.thenT f2 (fun i hi q => by unfold onB1 at q; omega)⟩
          case measure => simp [intOf]; omega
        · replace hA : Hid (y = R) := by show _ = _; rw [← hA.out, eachF_cons1 (by rw [e.out]; exact h0), e.out]
          go_wp2_with (first
            | (with_reducible refine at_wpP ?_; refine at_idx 52 _ _ rfl ?_; go_must (refine wpList_idx1 rfl 52 _ _ rfl 3 Tryz.underlying52 int_size1 (.slice a0 l.length c0) _ _ rfl hv1 .i64 (j : Int) j rfl rfl hlt ?_; intro pp u hu hcu; obtain rfl := getX hu hlt Hx.out))
            | (go_at_call 62; go_must (refine hcx.mono ?_; rintro e w2 ⟨rfl, M2, f2⟩)))
          go_ret2
          rw [← hA.out]
          exact ⟨_, [], rfl, fun q => absurd q h0, SlI.nil _ _, (fun k hk => by cases hk), hf.thenT f2 (fun i hi q => by unfold onB1 at q; omega)⟩
    · obtain rfl : j = l.length := by omega
      replace hA : Hid ((t, (0 : Int)) = R) := by have := hA.out; rw [List.drop_length] at this; exact this
      have hlt' : ¬ (l.length : Int) < (l.length : Int) := by omega
      go_wp2_with (first
        | (go_at_call 64; go_must (refine (mkeys_any gq _).mono ?_; rintro e w2 ⟨g2, rfl, s2, b2, f2⟩; have M2 := hM.fr f2 (fun q => q); have z2 := f2.size))
        | (go_at_call 63; go_must (refine (sorted_any g2 gq t hLow _ b2 M2).mono ?_; rintro e w3 ⟨u, k, rfl, hS3, u3, o3, f3⟩)))
      go_ret2
      have zf := hf.size
      rw [← hA.out]
      exact ⟨_, k, rfl, fun _ => hS3, u3, (fun q hq => by have := o3 q hq; omega), (hf.thenN f2).thenN f3⟩
end Go.Proofs.YtmkinaijkgkgiaaGreat
/- nodesAlive, NodesNames. -/
namespace Go.Proofs.YtmkinaijkgkgiaaGreat
open Go.RowKit Go.Proofs.U Go.Shelf Go.Maps
set_option linter.unusedSimpArgs false
set_option linter.unusedVariables false
section
variable {w : World} {ops : Array Oper} {rest : List Oper} {o : Oper} {a : Act} {Q : Exit → Act → World → Prop}
theorem wpList_blkC {n : Int} (hgd : Region.wanted o (yielded ops a.tmps) = true) (ho : o.op = .build 70 #[(0, .const (.int .u8 n))]) (C : List Int) (hb : Tryz.prog.built 70 [(0, .int .u8 n)] = some (pgv C).toArray)
    (h : wpList Tryz.prog ops Q rest (a.put o.dst (pgV C)) w) : wpList Tryz.prog ops Q (o :: rest) a w := by
  refine wpList_wanted hgd fun K hK => ?_
  have hrun := run_build (P := Tryz.prog) w 70 #[(0, .int .u8 n)] _ hb
  unfold Oper.wp
  have hc : a.eval (.const (.int .u8 n)) = .int .u8 n := rfl
  simp [execOp, ho, hc, hrun, Result.andThen]
  exact hK _ _ h
end
theorem built_ndB (k : Int) (b : List Int) (hb : b.length = 16) : Tryz.prog.built 72 [(0, .int .i64 k), (1, pgV b)] = some (ndL k b nilS).toArray := by
  rw [built_struct _ _ nd_struct _ nd_zero _ nd_places]
  rw [fill_put _ _ 0 0 1 (.int .i64 k) [.int .i64 k] rfl rfl rfl (by decide)]
  rw [fill_put _ _ 1 1 16 (pgV b) (pgv b) rfl rfl (by rw [pgv_len, hb]) (by simp [putAt, ndL, pgv, zerB])]
  unfold Instr.fill
  congr 2
  unfold putAt ndL
  simp [pgv_len, hb, pgv, zerB]
end Go.Proofs.YtmkinaijkgkgiaaGreat
/- What NodesBack may read of a store, plain. -/
namespace Go.Proofs.YtmkinaijkgkgiaaGreat
open Go.RowKit Go.Proofs.U
set_option linter.unusedSimpArgs false
set_option linter.unusedVariables false
theorem rdN_write {X : DSt} {N m : Nat} (h : Up X N m) {p : Int} (h0 : 0 ≤ p) (h1 : p < (N : Int)) {n : Nd} (hr : n.right = true) (ho : n.ok) {r : Int} (r0 : 0 ≤ r) (r1 : r < (N : Int)) :
    rdN (X.write (p + 4) n.page) r = if r = p then (n, 0) else rdN X r := by
  unfold rdN
  rw [(h.write h0 h1 (page_len hr ho.1) (page_byt hr ho)).2.2 r r0 r1]
  split
  · exact opN_own hr ho
  · rfl
theorem hold_cases (L : List Pg) (p : Int) : (plHeld L p = false ∧ plHold L p = (L, 73)) ∨ (plHeld L p = true ∧ (plAt L p.toNat).c = 255 ∧ plHold L p = (L, 72)) ∨
    (plHeld L p = true ∧ ¬ (plAt L p.toNat).c = 255 ∧ plHold L p = (L.set p.toNat ⟨(plAt L p.toNat).c + 1, (plAt L p.toNat).s⟩, 0)) := by
  unfold plHeld plHold
  cases h : (plIn L p && (plAt L p.toNat).held) with
  | false => exact Or.inl ⟨rfl, by rw [if_neg (by simp)]⟩
  | true =>
    by_cases hc : (plAt L p.toNat).c = 255
    · exact Or.inr (Or.inl ⟨rfl, hc, by rw [if_pos rfl, if_pos hc]⟩)
    · exact Or.inr (Or.inr ⟨rfl, hc, by rw [if_pos rfl, if_neg hc]⟩)
theorem hold_keeps {L : List Pg} (hL : plOk L) (q p : Int) : plHeld (plHold L q).1 p = plHeld L p := by
  rcases hold_cases L q with ⟨_, e⟩ | ⟨_, _, e⟩ | ⟨hh, hc, e⟩
  · rw [e]
  · rw [e]
  · rw [e]
    obtain ⟨j, rfl, hj⟩ := plHeld_in hh
    simp only [Int.toNat_natCast] at *
    unfold plHeld plIn
    rw [List.length_set]
    congr 1
    rw [plAt_set _ _ _ _ hj]
    by_cases hp : p.toNat = j
    · rw [if_pos hp, hp]
      have h0 := (hL.2 j).1
      have h2 : plHeld L (j : Int) = true := hh
      unfold plHeld at h2
      simp only [Bool.and_eq_true, Int.toNat_natCast] at h2
      rw [h2.2]
      unfold Pg.held
      simp
      omega
    · rw [if_neg hp]
theorem eachHold_keeps (l : List Int) {L : List Pg} (hL : plOk L) (p : Int) : plHeld (eachF plHold L l).1 p = plHeld L p :=
  (eachF_inv (I := fun M => plOk M ∧ plHeld M p = plHeld L p) (fun M q h => ⟨hold_ok h.1 q, by rw [hold_keeps h.1]; exact h.2⟩) l L ⟨hL, rfl⟩).2
theorem eachHold_err : ∀ (l : List Int) {L : List Pg}, plOk L → (∀ q ∈ l, plHeld L q = true) → (eachF plHold L l).2 = 0 ∨ (eachF plHold L l).2 = 72
  | [], L, _, _ => Or.inl rfl
  | q :: l, L, hL, h => by
    by_cases h0 : (plHold L q).2 = 0
    · rw [eachF_cons0 h0]
      exact eachHold_err l (hold_ok hL q) (fun x hx => by rw [hold_keeps hL]; exact h x (by simp [hx]))
    · rw [eachF_cons1 h0]
      have hq := h q (by simp)
      rcases hold_cases L q with ⟨e, _⟩ | ⟨_, _, e⟩ | ⟨_, _, e⟩
      · rw [e] at hq; cases hq
      · rw [e]; exact Or.inr rfl
      · rw [e] at h0; exact absurd rfl h0
theorem held_set {L : List Pg} {k : Nat} (hk : k < L.length) (x : Pg) (p : Int) : plHeld (L.set k x) p = if p = (k : Int) then x.held else plHeld L p := by
  unfold plHeld plIn
  rw [List.length_set, plAt_set _ _ _ _ hk]
  by_cases hp : p = (k : Int)
  · subst hp
    simp [hk]
  · rw [if_neg hp]
    by_cases h0 : 0 ≤ p
    · rw [if_neg (by omega)]
    · have : decide (0 ≤ p) = false := by simpa using h0
      rw [this]; rfl
theorem free_not_held {L : List Pg} {k : Nat} (h : (plAt L k).free = true) : plHeld L (k : Int) = false := by
  unfold plHeld
  unfold Pg.free at h
  simp only [Bool.and_eq_true, beq_iff_eq] at h
  have : (plAt L k).held = false := by unfold Pg.held; simp [h.1, h.2]
  rw [Int.toNat_natCast, this]
  simp
theorem free_none {L : List Pg} (h : plFree L = 0) : plTake L = (L, 0, 71) := by
  rcases plTake_cases L with ⟨k, hk, hf, _, _⟩ | ⟨_, e⟩
  · unfold plFree at h
    rw [List.countP_eq_zero] at h
    exact absurd (by rw [← plAt_get L k hk]; exact hf) (h L[k] (by simp))
  · exact e
theorem free_some {L : List Pg} (h : ¬ plFree L = 0) : ∃ k, k < L.length ∧ (plAt L k).free = true ∧ plTake L = (L.set k ⟨0, 1⟩, (k : Int), 0) := by
  rcases plTake_cases L with ⟨k, hk, hf, _, e⟩ | ⟨hn, _⟩
  · exact ⟨k, hk, hf, e⟩
  · refine absurd ?_ h
    unfold plFree
    rw [List.countP_eq_zero]
    intro x hx
    obtain ⟨j, hj, rfl⟩ := List.mem_iff_getElem.1 hx
    have := hn j hj
    rw [plAt_get L j hj] at this
    simp [this]
theorem makeB_full (X : DSt) {L : List Pg} {n : Nd} (h : n.right = true) (ha : (kids n).any (fun p => !plHeld L p) = false) (hf : plFree L = 0) : makeF X L n = ((X, L), -1, 71) := by
  unfold makeF
  rw [h, ha, free_none hf]
  rfl
end Go.Proofs.YtmkinaijkgkgiaaGreat
/- Both slots' pages as one value; newestOf and topOf of package root. -/
namespace Go.Proofs.YtmkinaijkgkgiaaGreat
open Go.RowKit Go.Proofs.U
set_option linter.unusedSimpArgs false
set_option linter.unusedVariables false
def pp (p q : List Int) : List Value := pgv p ++ pgv q
section
variable {w : World} {ops : Array Oper} {rest : List Oper} {o : Oper} {a : Act} {Q : Exit → Act → World → Prop}
end

end Go.Proofs.YtmkinaijkgkgiaaGreat
/- slots of package root. -/
namespace Go.Proofs.YtmkinaijkgkgiaaGreat
open Go.RowKit Go.Proofs.U
set_option linter.unusedSimpArgs false
set_option linter.unusedVariables false
/-- All pages, and all that is pending, are bytes. -/
def DSt.byt (X : DSt) : Prop := (∀ p ∈ X.pages, Byt p) ∧ ∀ x ∈ X.pend, Byt x.2
section
variable {w : World} {ops : Array Oper} {rest : List Oper} {o : Oper} {a : Act} {Q : Exit → Act → World → Prop}
end
section
variable {w : World} {ops : Array Oper} {rest : List Oper} {o : Oper} {a : Act} {Q : Exit → Act → World → Prop}
end
end Go.Proofs.YtmkinaijkgkgiaaGreat
/- Roots, plain: what is written is read; what is torn is no root; the greatest generation. -/
namespace Go.Proofs.YtmkinaijkgkgiaaGreat
open Go.RowKit Go.Proofs.U
set_option linter.unusedSimpArgs false
set_option linter.unusedVariables false

/-- What newest tells. -/
theorem newest_cases (p q : List Int) :
    ((rootOf q).1 % 2 = 1 ∧ newest p q = rootOf q ∧ (0 ≤ (rootOf p).1 → 0 < (rootOf q).1)) ∨ ((rootOf p).1 % 2 = 0 ∧ 0 < (rootOf p).1 ∧ newest p q = rootOf p) ∨ newest p q = (0, []) := by
  unfold newest
  generalize rootOf p = a
  generalize rootOf q = b
  by_cases c1 : a.1 % 2 = 0 ∧ 0 < a.1
  · by_cases c2 : b.1 % 2 = 1 ∧ a.1 < b.1
    · simp only [c1, c2, and_self, if_true, true_and]
      exact Or.inl (fun h => by omega)
    · simp only [c1, and_self, if_true, if_neg c2, true_and]
      exact Or.inr (Or.inl trivial)
  · by_cases c2 : b.1 % 2 = 1 ∧ (0 : Int) < b.1
    · simp only [if_neg c1, c2, and_self, if_true, true_and]
      exact Or.inl (fun _ => trivial)
    · simp only [if_neg c1, if_neg c2]
      exact Or.inr (Or.inr trivial)
theorem newest_zero {p q : List Int} (h : (newest p q).1 = 0) (hb : Byt p) (hc : Byt q) : newest p q = (0, []) := by
  have h1 := rootOf_bd hb
  rcases newest_cases p q with ⟨_, h2, h3⟩ | ⟨_, h2, h3⟩ | h2
  · rw [h2] at h
    have := h3 h1.1
    omega
  · rw [h3] at h; omega
  · exact h2
end Go.Proofs.YtmkinaijkgkgiaaGreat
/- A disk of two pages, plain: what a Write makes of it, cut off or not; what is read behind a crash. -/
namespace Go.Proofs.YtmkinaijkgkgiaaGreat
open Go.RowKit Go.Proofs.U
set_option linter.unusedSimpArgs false
set_option linter.unusedVariables false

/-- Both slots, nothing pending, nothing bad. -/
structure Two (X : DSt) (p q : List Int) : Prop where
  pages : X.pages = [p, q]
  pend : X.pend = []
  bad : ∀ i, X.bad i = false
  lp : p.length = 256
  lq : q.length = 256
  bp : Byt p
  bq : Byt q
section
variable {X : DSt} {p q : List Int}
theorem Two.read0 (h : Two X p q) : readP X 0 = (p, 0) := by
  unfold readP
  rw [h.pages, h.pend, h.bad]
  rfl
theorem Two.read1 (h : Two X p q) : readP X 1 = (q, 0) := by
  unfold readP
  rw [h.pages, h.pend, h.bad]
  rfl
theorem Two.re (h : Two X p q) : rdE X = 0 := by unfold rdE; rw [h.read0, h.read1]; rfl
theorem Two.nw (h : Two X p q) : nwst X = newest p q := by unfold nwst; rw [h.read0, h.read1]
theorem Two.byt (h : Two X p q) : X.byt := by
  refine ⟨?_, by rw [h.pend]; simp⟩
  rw [h.pages]
  intro r hr
  simp at hr
  rcases hr with rfl | rfl
  · exact h.bp
  · exact h.bq
theorem Two.rd (h : Two X p q) : rRead X = ((newest p q).2, (newest p q).1, if (newest p q).1 = 0 then 51 else 0) := by
  unfold rRead
  rw [h.re, h.nw, if_pos rfl]
  by_cases h0 : (newest p q).1 = 0
  · have := newest_zero h0 h.bp h.bq
    rw [this]; rfl
  · rw [if_neg h0, if_neg h0]
end

section
variable {X : DSt} {p q : List Int}
end
end Go.Proofs.YtmkinaijkgkgiaaGreat
/- Rows of the call's own making: one element read, one stored; no condition. -/
namespace Go.Proofs.U
open Go.RowKit

theorem OwnI.some {k : IntKind} {e : TypeId} {w : World} {base : Nat} {v : Value} {l : List Int} (h : OwnI k e w base v l) (hl : 0 < l.length) :
    ∃ g cap cur, v = .slice (Option.some ⟨g, 0, none⟩) l.length cap ∧ base ≤ g ∧ w.heap[g]? = Option.some (.cells cur e (0, 0)) ∧ l.length ≤ cap ∧ cap ≤ maxLen ∧ cur.size = cap ∧ cur.toList.take l.length = l.map (Value.int k) := by
  rcases h.2 with ⟨_, hn⟩ | ⟨g, cap, cur, hv, h1, h2, h3, h4, h5, h6⟩
  · omega
  · exact ⟨g, cap, cur, hv, h1, h2, h3, h4, by simpa using h5, by simpa using h6⟩

end Go.Proofs.U
/- The walk of CrcJoin: it answers true for any three byte lists. -/
namespace Go.Proofs.YtmkinaijkgkgiaaGreat
open Go.RowKit Go.Proofs.U
set_option linter.unusedSimpArgs false
set_option linter.unusedVariables false

/-- the parts so far, zeros behind them. -/
def part (M : List Int) (k : Nat) : List Int := M.take k ++ List.replicate (M.length - k) 0
end Go.Proofs.YtmkinaijkgkgiaaGreat
/- Contract of the document's own sum. -/
namespace Go.Proofs.YtmkinaijkgkgiaaGreat
open Go.RowKit Go.Proofs.U
set_option linter.unusedSimpArgs false
set_option linter.unusedVariables false

def ones (k : Nat) : List Bool := List.replicate k true ++ List.replicate (32 - k) false
end Go.Proofs.YtmkinaijkgkgiaaGreat
/- The document's Open. (Written by x13_gen.py.) -/
namespace Go.Proofs.YtmkinaijkgkgiaaGreat
open Go.RowKit Go.Proofs.U
set_option linter.unusedSimpArgs false
set_option linter.unusedVariables false
section
variable {w : World} {ops : Array Oper} {rest : List Oper} {o : Oper} {a : Act} {Q : Exit → Act → World → Prop}
end
/-- Where things lie, while the document's entries are read. -/
structure RS8 (w : World) (g1 g2 g4 B : Nat) : Prop where
  a0 : w.heap.size ≤ g1
  a1 : w.heap.size ≤ g2
  a2 : g1 < g4
  a3 : g2 < g4
  a4 : g4 < B
section
variable {w : World} {g1 g2 g4 B : Nat} {p : List Int} {K : Int} {W W' : World} {u v : Value} {L : List (Int × Int)}
end

end Go.Proofs.YtmkinaijkgkgiaaGreat
/- At of package leaf: slices.Backward over entries. -/
namespace Go.Proofs.YtmkinaijkgkgiaaGreat
open Go.RowKit Go.Shelf Go.Proofs.U
attribute [local go_sem] Oper.semAt_some
set_option linter.unusedSimpArgs false
set_option linter.unusedVariables false

abbrev Ix := Int × (Int × Int)
def bkE (zs : List (Int × Int)) (j : Nat) : Ix := (((zs.length : Int) - 1 - j), zs[zs.length - 1 - j]?.getD (0, 0))
abbrev encY (x : Ix) : Array Value := #[.int .i64 x.1, enV x.2]

set_option maxRecDepth 100000 in
set_option maxHeartbeats 2000000 in
theorem bke1_in (F : Fence) (n : Nat) (h7 : F.fn 94) (hro : F.round = none) (hn : 1 ≤ n) (l Bs n₀ b off cap : Nat) (zs : List (Int × Int)) (hreach : zs.length ≤ 1000) (hb : b < n₀) (hBs : Bs < n₀) (J Jx : List Ix → World → Prop)
    (hY : ∀ pre x W, J pre W → pre.length < zs.length → YieldAt F (n - 1) Tryz.prog l (encY x) W fun e W' =>
      (e = .returned (.bool true) ∧ J (pre ++ [x]) W' ∧ Below n₀ W W') ∨ (e = .returned (.bool false) ∧ Jx (pre ++ [x]) W'))
    (W : World) (hc0 : W.cell? ⟨Bs, 0, none⟩ = some (.slice (some ⟨b, off, none⟩) zs.length cap)) (hc : ∀ j (hj : j < zs.length) q u, (enC zs[j])[q]? = some u → W.cell? ⟨b, off + j * 2 + q, none⟩ = some u) (h0 : J [] W) :
    CallsIn F n Tryz.prog 94 #[.func (.yield l) #[] #[], .pointer (some ⟨Bs, 0, none⟩)] W fun e W' => (∃ v, e = .returned v) ∧
      ((∃ ys, ys = uptoL (bkE zs) zs.length ∧ J ys W') ∨ (∃ pre, (∃ k, k ≤ zs.length ∧ pre = uptoL (bkE zs) k) ∧ Jx pre W')) := by
  refine callsIn_of_wp Tryz.func94 rfl h7 ?_ hro
  simp only [Tryz.ntmps94, List.size_toArray, List.length_cons, List.length_nil, Nat.reduceAdd, Nat.reduceSub, Array.replicate_succ, Array.replicate_zero, List.push_toArray, List.append_toArray, List.nil_append, List.cons_append]
  gi_wp2
  gi_loopw [3] (fun i wr => ∃ k : Nat, k ≤ zs.length ∧ i = .int .i64 ((zs.length : Int) - 1 - k) ∧ J (uptoL (bkE zs) k) wr ∧ Below n₀ W wr)
    (fun i _ => (intOf i + 1).toNat)
  case atStart => exact ⟨0, Nat.zero_le _, by simp, h0, Below.refl _ _⟩
  case round =>
    obtain ⟨k, hk, rfl, hJs, hnx⟩ := hrel
    have hc0' := (hnx.cell (p := ⟨Bs, 0, none⟩) hBs).trans hc0
    by_cases hlt : k < zs.length
    · obtain ⟨fn, tmps, assign, body, hy, hR⟩ := hY _ (bkE zs k) wr hJs (by rw [uptoL_length]; exact hlt)
      dsimp only [bkE, encY] at hy
      obtain ⟨j, Hj⟩ : ∃ j, Hid (zs.length - 1 - k = j) := ⟨_, rfl⟩
      have hjl : j < zs.length := by rw [← Hj.out]; omega
      have hji : (zs.length : Int) - 1 - k = (j : Int) := by rw [← Hj.out]; omega
      rw [Hj.out, hji] at hy
      rw [hji]
      have hgz : zs[j]?.getD (0, 0) = zs[j] := by simp [hjl]
      rw [hgz] at hy
      obtain ⟨x, Hx⟩ : ∃ x, Hid (zs[j] = x) := ⟨_, (rfl : zs[j] = zs[j])⟩
      have hrg : ∀ q u, (enC x)[q]? = some u → wr.cell? ⟨b, off + j * 2 + q, none⟩ = some u := by
        intro q v hq
        rw [← Hx.out] at hq
        exact (hnx.cell (p := ⟨b, off + j * 2 + q, none⟩) hb).trans (hc j hjl q v hq)
      rw [Hx.out] at hy
      have hri : ∀ W, (Instr.indexAt 31 (.slice (some ⟨b, off, none⟩) zs.length cap) (.int .i64 (j : Int))).run Tryz.prog W = .ok (.pointer (some ⟨b, off + j * 2, none⟩)) W := fun W => run_idxS _ 40 Tryz.underlying31 en_size b off zs.length cap .i64 j hjl
      have hrl : (Instr.loadAt 40 (.pointer (some ⟨b, off + j * 2, none⟩))).run Tryz.prog wr = .ok (enV x) wr := run_ldE wr b (off + j * 2) x hrg
      have hi1 : (0 : Int) ≤ (j : Int) := by omega
      gi_wp2_with (first | (refine at_ldI 40 _ rfl ?_; go_must (refine wpListIn_ld rfl 40 _ rfl _ _ rfl hrl ?_)))
      refine hR.mono ?_
      rintro e W3 (⟨rfl, hJ3, hk3⟩ | ⟨rfl, hJx3⟩)
      · gi_wp2
        go_roundw
        case rel => exact ⟨k + 1, by omega, by go_num, by rw [uptoL_succ]; exact hJ3, hnx.trans hk3⟩
        case measure => simp [intOf]
      · gi_wp2
        refine bodyPost_ret (results_none rfl _ _ _) rfl ?_
        exact ⟨⟨_, rfl⟩, .inr ⟨_, ⟨k + 1, by omega, (uptoL_succ _ _).symm⟩, hJx3⟩⟩
    · obtain rfl : k = zs.length := by omega
      gi_wp2
      go_end0
      exact ⟨⟨_, rfl⟩, .inl ⟨_, rfl, hJs⟩⟩

set_option maxRecDepth 100000 in
set_option maxHeartbeats 1000000 in
theorem bke1_nil_in (F : Fence) (n : Nat) (h7 : F.fn 94) (hro : F.round = none) (l Bs : Nat) (a : Option Addr) (cap : Nat) (J : List Ix → World → Prop) (W : World) (hBs : W.cell? ⟨Bs, 0, none⟩ = some (.slice a 0 cap)) (h0 : J [] W) :
    CallsIn F n Tryz.prog 94 #[.func (.yield l) #[] #[], .pointer (some ⟨Bs, 0, none⟩)] W fun e W' => (∃ v, e = .returned v) ∧ J [] W' := by
  refine callsIn_of_wp Tryz.func94 rfl h7 ?_ hro
  simp only [Tryz.ntmps94, List.size_toArray, List.length_cons, List.length_nil, Nat.reduceAdd, Nat.reduceSub, Array.replicate_succ, Array.replicate_zero, List.push_toArray, List.append_toArray, List.nil_append, List.cons_append]
  gi_wp2
  gi_loopw [3] (fun i wr => i = .int .i64 (-1) ∧ J [] wr) (fun _ _ => 0)
  case atStart => exact ⟨rfl, h0⟩
  case round =>
    obtain ⟨rfl, hJs⟩ := hrel
    gi_wp2
    go_end0
    exact ⟨⟨_, rfl⟩, hJs⟩

theorem bke_any (a : Option Addr) (len cap : Nat) (w : World) :
    Calls Tryz.prog 75 #[.slice a len cap] w fun e w' => e = .returned (.func (.func 94) #[] #[.pointer (some ⟨w.heap.size, 0, none⟩)]) ∧ w' = w.alloc (.cells #[.slice a len cap] 31) := by
  go_enter Tryz.func75, Tryz.ntmps75
  go_wp2
  go_ret
  exact ⟨rfl, rfl⟩

/-- slices.Backward over entries that lie below n₀: for every body that keeps all there. -/
theorem bke_stops (F : Fence) (n : Nat) (h7 : F.fn 94) (hro : F.round = none) (hn : 1 ≤ n) (Bs : Nat) (sv : Value) (zs : List (Int × Int)) (hreach : zs.length ≤ 1000) (w : World) (hBs : Bs < w.heap.size)
    (hc : w.cell? ⟨Bs, 0, none⟩ = some sv) (hI : SlP .i64 .i64 w sv zs) :
    SeqStopsK F n Tryz.prog 94 #[.pointer (some ⟨Bs, 0, none⟩)] encY (Below w.heap.size) (fun ys => ys = uptoL (bkE zs) zs.length)
      (fun pre => ∃ k, k ≤ zs.length ∧ pre = uptoL (bkE zs) k) zs.length w := fun l J Jx W hW _ _ hY h0 => by
  have hc' := (hW.cell (p := ⟨Bs, 0, none⟩) hBs).trans hc
  have hI' := hI.1.fr0 (Fr.of_below hW)
  by_cases hz : zs.length = 0
  · obtain ⟨a0, c0, rfl, _⟩ := hI.1.opn
    rw [hz] at hc'
    refine (bke1_nil_in F n h7 hro l Bs a0 c0 J W hc' h0).mono fun e W' ⟨he, hj⟩ => ⟨he, .inl ⟨[], ?_, hj⟩⟩
    simp [uptoL, hz]
  · obtain ⟨b, off, cap', rfl, hcells⟩ := SlR.addr hI.1 (by decide) (by omega)
    have hbw : b < w.heap.size := World.block_lt_of_cell? w _ (hcells 0 (by omega) 0 _ rfl)
    refine bke1_in F n h7 hro hn l Bs w.heap.size b off cap' zs hreach hbw hBs J Jx hY W hc' (fun j hj q u hq => ?_) h0
    exact (hW.cell (p := ⟨b, off + j * 2 + q, none⟩) hbw).trans (hcells j hj q u hq)

/-- The place of the last entry whose key isn't above. -/
def AtIs (l : List (Int × Int)) (key at' : Int) : Prop := -1 ≤ at' ∧ at' < l.length ∧ ∀ (j : Nat) (hj : j < l.length), (at' < (j : Int) → key < l[j].1) ∧ ((j : Int) = at' → l[j].1 ≤ key)
/-- Between two rounds of At. -/
def AI (key : Int) (W0 : World) (pre : List Ix) (W : World) : Prop := (∀ x ∈ pre, key < x.2.1) ∧ Fr noB W0 W
def AX (key : Int) (g4 : Nat) (W0 : World) (c : Code) (pre : List Ix) (W : World) : Prop :=
  c = .ret ∧ ∃ pre' x, pre = pre' ++ [x] ∧ (∀ y ∈ pre', key < y.2.1) ∧ x.2.1 ≤ key ∧ BxV W g4 3 [.int .i64 x.1] ∧ Fr (onB1 g4) W0 W
theorem AI_own (key : Int) (W0 : World) : OwnFrom W0.heap.size (AI key W0) := fun s W W' row hs hg hr => ⟨hs.1, ownFrom_frN (β := Unit) (Nat.le_refl _) () W W' row hs.2 hg hr⟩
theorem AX_own {key : Int} {g4 : Nat} {W0 : World} (c : Code) (h4 : g4 < W0.heap.size) : OwnFrom W0.heap.size (AX key g4 W0 c) := by
  rintro s W W' row ⟨hc, pre', x, h1, h2, h3, h4', h6⟩ hg hr
  refine ⟨hc, pre', x, h1, h2, h3, ?_, ownFrom_frN (β := Unit) (Nat.le_refl _) () W W' row h6 hg hr⟩
  exact (hg.block g4 h4'.lt (fun q => by have := (hr g4 q.symm).1; omega)).trans h4'
theorem at_hit (zs : List (Int × Int)) (key : Int) {pre pre' : List Ix} {x : Ix} (hSp : ∃ k, k ≤ zs.length ∧ pre = uptoL (bkE zs) k) (hpre : pre = pre' ++ [x]) (hno : ∀ y ∈ pre', key < y.2.1) (hhit : x.2.1 ≤ key) : AtIs zs key x.1 := by
  obtain ⟨k, hk, rfl⟩ := hSp
  have hlen : k = pre'.length + 1 := by have := congrArg List.length hpre; rw [uptoL_length] at this; simpa using this
  subst hlen
  rw [uptoL_succ] at hpre
  obtain ⟨hp1, hp2⟩ := List.append_inj hpre (by rw [uptoL_length])
  have hx : bkE zs pre'.length = x := by simpa using hp2
  obtain ⟨j, Hj⟩ : ∃ j, zs.length - 1 - pre'.length = j := ⟨_, rfl⟩
  have hj : j < zs.length := by omega
  have hxz : x.2 = zs[j] := by rw [← hx]; unfold bkE; simp only; rw [Hj]; simp [hj]
  have hx1 : x.1 = (j : Int) := by rw [← hx]; unfold bkE; simp only; omega
  refine ⟨by omega, by omega, fun q hq => ⟨fun h => ?_, fun h => ?_⟩⟩
  · have hmem : bkE zs (zs.length - 1 - q) ∈ pre' := by
      rw [← hp1]; unfold uptoL
      exact List.mem_map.2 ⟨zs.length - 1 - q, by simp; omega, rfl⟩
    have := hno _ hmem
    unfold bkE at this
    rw [show zs.length - 1 - (zs.length - 1 - q) = q by omega] at this
    simp [hq] at this
    omega
  · have : q = j := by omega
    subst this
    rw [← hxz]; exact hhit
theorem at_miss (zs : List (Int × Int)) (key : Int) (hno : ∀ y ∈ uptoL (bkE zs) zs.length, key < y.2.1) : AtIs zs key (-1) := by
  refine ⟨by omega, by omega, fun q hq => ⟨fun h => ?_, fun h => by omega⟩⟩
  have hmem : bkE zs (zs.length - 1 - q) ∈ uptoL (bkE zs) zs.length := by
    unfold uptoL
    exact List.mem_map.2 ⟨zs.length - 1 - q, by simp; omega, rfl⟩
  have := hno _ hmem
  unfold bkE at this
  rw [show zs.length - 1 - (zs.length - 1 - q) = q by omega] at this
  simp [hq] at this
  omega
theorem int_zero : (Tryz.prog.info? 3).map (·.zero) = some (some (.int .i64 0)) := by kernel_rfl
theorem int_size : (Tryz.prog.info? 3).map (·.size) = some 1 := by kernel_rfl
theorem results_int {fn : Func} {q : Tmp} (h : fn.results = #[.cell q 3]) (tmps : Array Value) (w : World) (g : Nat) (x : Int) (hq : tmps.getD q undef = .pointer (some ⟨g, 0, none⟩)) (hB : w.cell? ⟨g, 0, none⟩ = some (.int .i64 x)) :
    (results fn tmps).run Tryz.prog w = .ok (.int .i64 x) w := by
  have hr2 : (loadVar 3 ⟨g, 0, none⟩).run Tryz.prog w = .ok (.int .i64 x) w := by simp [go_sem, hB]
  simp only [results, h]
  simp [Sem.run_bind, Result.andThen]
  have hq' : tmps[q]?.getD undef = .pointer (some ⟨g, 0, none⟩) := by simpa using hq
  simp [hq', asAddr, hr2]

set_option maxRecDepth 100000 in
set_option maxHeartbeats 2000000 in
theorem at_any (v : Value) (l : List (Int × Int)) (key : Int) (w : World) (hs : SlP .i64 .i64 w v l) (hm : l.length ≤ 1000) :
    Calls Tryz.prog 54 #[v, .int .i64 key] w fun r w' => ∃ at', r = .returned (.int .i64 at') ∧ AtIs l key at' ∧ Fr noB w w' := by
  have hS := hs
  obtain ⟨a0, c0, rfl, hc0⟩ := hs.1.opn
  refine (callsIn_wide (n := 5)).1 ?_
  refine callsIn_of_wp_marks Tryz.func54 rfl trivial ?_ rfl
  simp only [Tryz.ntmps54, List.size_toArray, List.length_cons, List.length_nil, Nat.reduceAdd, Nat.reduceSub, Array.replicate_succ, Array.replicate_zero, List.push_toArray, List.append_toArray, List.nil_append, List.cons_append]
  refine wpIn_wide.2 ?_
  go_wp2_with (first
    | (with_reducible refine at_wpP ?_; refine wpList_boxG rfl 3 _ rfl (.int .i64 key) [.int .i64 key] rfl rfl ?_; intro g3 w3 hg3 b3 f3 s3; have l3 := b3.lt; have z3 := f3.size)
    | (with_reducible refine at_wpP ?_; refine wpList_allocG rfl 3 rfl (.int .i64 0) [.int .i64 0] int_zero rfl ?_; intro g4 w4 hg4 b4 f4 s4; have l4 := b4.lt; have z4 := f4.size)
    | (go_at_call 75; go_must (refine (bke_any _ _ _ _).mono ?_; rintro e w7 ⟨rfl, rfl⟩)))
  obtain ⟨W0, hW0⟩ : ∃ W0, w4.alloc (.cells #[.slice a0 l.length c0] 31) = W0 := ⟨_, rfl⟩
  have hsz0 : W0.heap.size = w4.heap.size + 1 := by rw [← hW0]; simp
  have f70 : Fr noB w4 W0 := by rw [← hW0]; exact (Fr.refl _ _).alloc _
  have hbx0 : W0.cell? ⟨w4.heap.size, 0, none⟩ = some (.slice a0 l.length c0) := by rw [← hW0]; simp
  have F7 : Fr noB w W0 := (f3.thenN f4).thenN f70
  have hsl0 : SlP .i64 .i64 W0 (.slice a0 l.length c0) l := ⟨hS.1.fr0 F7, hS.2⟩
  have d3 := (b3.fr0 f4).fr0 f70
  have d4 := b4.fr0 f70
  have hg4W : g4 < W0.heap.size := d4.lt
  have hg3W : g3 < W0.heap.size := d3.lt
  have q3' : W0.cell? ⟨g3, 0, none⟩ = some (.int .i64 key) := (d3.cell 0 _ rfl).1
  have z7 := F7.size
  rw [hW0]
  refine (wpIn_wide (n := 5)).1 ?_
  refine wpIn_rangeFunc_ownH (F := Fence.wide) rfl (by omega) (gf := 94) (lb := #[.pointer (some ⟨w4.heap.size, 0, none⟩)]) rfl trivial (enters_of Tryz.func94 (by kernel_rfl) rfl)
    (bke_stops Fence.wide (5 - 1) trivial rfl (by omega) w4.heap.size _ l hm W0 (by omega) hbx0 hsl0) (fun h k => h.trans k) (fun W l o o' hl ho h1 h2 => belowK_b (w := W0) (Nat.le_refl _) W l o o' hl ho h1 h2) (Below.refl _ _) (fun _ => rfl)
    (AI key W0) (AX key g4 W0) (AI_own key W0) (fun c => AX_own c hg4W) ⟨by simp, Fr.refl _ _⟩
    (fun x a' W => ∃ gx, BxV W gx 40 (enC x.2) ∧ W0.heap.size ≤ gx ∧ a' = { tmps := #[.slice a0 l.length c0, .int .i64 key, undef, .pointer (some ⟨g3, 0, none⟩), .pointer (some ⟨g4, 0, none⟩), .int .i64 x.1, .pointer (some ⟨gx, 0, none⟩), .slice a0 l.length c0, .func (.func 94) #[] #[.pointer (some ⟨w4.heap.size, 0, none⟩)], .int .i64 x.1, enV x.2, undef, undef, undef, undef, undef], defers := [] })
    ?hAx ?assign ?body ?done ?stop
  case hAx =>
    intro x a' _ W W1 row hs hg hr
    obtain ⟨gx, hb, hgx, e⟩ := hs
    refine ⟨gx, ?_, hgx, e⟩
    have hb' : W.heap[gx]? = _ := hb
    refine (hg.block gx hb.lt (fun q => ?_)).trans hb
    obtain ⟨_, o, ho, hc⟩ := hr gx q.symm
    rw [hb'] at ho; cases ho; cases hc
  case assign =>
    intro l' pre x W K hI hK
    obtain ⟨hI1, hI2⟩ := hI
    have zI := hI2.size
    simp only [encY, zip2, List.setIfInBounds_toArray, List.set_cons_zero, List.set_cons_succ]
    gi_wp2_with (first
      | (refine at_alI 40 rfl ?_; go_must (refine wpListIn_allocV rfl 40 rfl _ en_zero ?_; intro gx w8 hgx hw8 b8 f8))
      | (refine at_stI 40 _ _ rfl ?_; go_must (refine wpListIn_storeV rfl 40 _ _ rfl gx 0 rfl (enC x.2) rfl _ _ b8 en_size (Nat.le_refl _) (en_one _) ?_; intro w9 b9 f9; rw [putAt_all (enC (0, 0)) (enC x.2) rfl] at b9)))
    have F9 : Fr noB W w9 := f8.thenT f9 (fun k hk q => by unfold onB1 at q; omega)
    exact hK _ _ (keepsFrom_of_fr F9 (fun _ _ q => q.elim)) (below_of_fr F9 zI) ⟨hI1, hI2.thenN F9⟩ ⟨gx, b9, by omega, by rw [hgx]; rfl⟩
  case body =>
    rintro l' pre x a' W hl ⟨r, hr⟩ ⟨hno, hfr⟩ ⟨gx, hbx, hgx, rfl⟩ hlt
    obtain ⟨p1, _⟩ := hbx.cell 0 _ rfl
    have q3w := hfr.cell q3' (fun q => q)
    have zI := hfr.size
    by_cases hcmp : x.2.1 ≤ key
    · have e4 := d4.fr0 hfr
      gi_wp2_with (first
        | (refine at_stI 3 _ _ rfl ?_; go_must (refine wpListIn_store1 rfl 3 _ _ rfl g4 0 rfl (.int .i64 x.1) rfl rfl _ _ e4 int_size (by simp) ?_; intro w10 b10 f10; have b10 : BxV w10 g4 3 [.int .i64 x.1] := (by simpa using b10))))
      refine ⟨keepsFrom_of_fr f10 (fun k o q hk => ?_), rfl, pre, x, rfl, hno, hcmp, b10, (hfr.mono (fun _ _ q => q.elim)).trans f10⟩
      cases q
      have e4' : W.heap[g4]? = _ := e4
      rw [e4'] at hk; cases hk; rfl
    · gi_wp2
      refine ⟨KeepsFrom.refl _ _, Below.refl _ _, ?_, hfr⟩
      intro y hy
      rcases List.mem_append.1 hy with hy | hy
      · exact hno y hy
      · simp at hy; subst hy; exact hcmp
  case done =>
    rintro D ys W hD rfl ⟨hno, hfr⟩ hK
    have hmiss := at_miss l key hno
    have h4 := d4.fr0 hfr
    go_wp2_with (first
      | (with_reducible refine at_wpP ?_; refine at_st 3 _ _ rfl ?_; go_must (refine wpList_store1 rfl 3 _ _ rfl g4 0 rfl (.int .i64 (-1)) rfl rfl _ _ h4 int_size (by simp) ?_; intro w9 b9 f9)))
    have hFX := (F7.thenN hfr).thenT (S := noB) f9 (fun k hk q => by unfold onB1 at q; omega)
    have hKf : w9.heap[D]? = some (.deferred (some [])) := by
      have hDl : D < W.heap.size := (Array.getElem?_eq_some_iff.1 hK).1
      exact (f9.block D hDl (fun q => by unfold onB1 at q; omega)).trans hK
    refine ⟨by simp, .inl ⟨_, _, rfl, run_takeDeferred hKf, ?_⟩⟩
    have hDg : Fr (fun k => k = D) w9 (w9.putObj D (.deferred none)) := (Fr.refl _ _).grown (grownBy_putObj' w9 D _) (fun k e _ => by cases e; rfl)
    have b4g := b9.fr hDg (fun q => by omega)
    exact ⟨_, results_int Tryz.results54 _ _ g4 (-1) rfl (b4g.cell 0 _ rfl).1, -1, rfl, hmiss, hFX.thenT hDg (fun k hk q => by omega)⟩
  case stop =>
    rintro D c pre W hD hSp hX hK
    obtain ⟨rfl, pre', x, hpre, hno, hhit, b4f, hfX⟩ := hX
    gi_wp2
    have hl := at_hit l key hSp hpre hno hhit
    have hFX := F7.thenT (S := noB) hfX (fun k hk q => by unfold onB1 at q; omega)
    refine ⟨by simp, .inl ⟨_, _, rfl, run_takeDeferred hK, ?_⟩⟩
    have hDg : Fr (fun k => k = D) W (W.putObj D (.deferred none)) := (Fr.refl _ _).grown (grownBy_putObj' W D _) (fun k e _ => by cases e; rfl)
    have b4g := b4f.fr hDg (fun q => by omega)
    exact ⟨_, results_int Tryz.results54 _ _ g4 x.1 rfl (b4g.cell 0 _ rfl).1, x.1, rfl, hl, hFX.thenT hDg (fun k hk q => by omega)⟩
end Go.Proofs.YtmkinaijkgkgiaaGreat
/- LeafOpens. -/
namespace Go.Proofs.YtmkinaijkgkgiaaGreat
open Go.RowKit Go.Proofs.U
set_option linter.unusedSimpArgs false
set_option linter.unusedVariables false
/-- What Open hands back, its row opened. -/
theorem NOpenIs.parts {w w' : World} {x : Nd × Int} {r : Ending} (h : NOpenIs w w' x r) : ∃ a m c, r = .returned (.tuple #[ndV x.1.k x.1.b (.slice a m c), .int .i64 x.2]) ∧ NdS w' (.slice a m c) x.1 ∧ Hid (x.1.b.length = 16) ∧ Fr noB w w' := by
  obtain ⟨v, rfl, hn, _, f⟩ := h
  obtain ⟨a, m, c, rfl⟩ := hn.sl
  exact ⟨a, m, c, rfl, hn, hn.bl, f⟩

end Go.Proofs.YtmkinaijkgkgiaaGreat
/- How a slice of nodes, and one of acts, that came in are opened. -/
namespace Go.Proofs.YtmkinaijkgkgiaaGreat
open Go.RowKit Go.Proofs.U Go.ChangeShapes Go.WideShapes Go.ChangeAt
set_option linter.unusedSimpArgs false
set_option linter.unusedVariables false
/-- An act as it lies in memory. -/
structure ActH where
  kind : Int
  at' : Int
  kv : Value
  keys : List Int
  blk : List Int
end Go.Proofs.YtmkinaijkgkgiaaGreat
/- NodesBack. (Written by h14_gen.py.) -/
namespace Go.Proofs.YtmkinaijkgkgiaaGreat
open Go.RowKit Go.Proofs.U Go.Shelf Go.Maps
set_option linter.unusedSimpArgs false
set_option linter.unusedVariables false
theorem make_F {F : Nat → Prop} {gs gp : Nat} {X Y : DSt} {L M : List Pg} {m : Nat} {p e : Int} {w : World} (n : Nd) (vs : Value) (s : Sto w F gs gp X L m) (hm : m ≤ 100000) (hn : NdS w vs n) (he : makeF X L n = ((Y, M), p, e)) :
    Calls Tryz.prog 29 #[ptr gs, ndV n.k n.b vs] w fun r w' => r = .returned (.tuple #[.int .i64 p, .int .i64 e]) ∧ LayIs w w' F gs gp (Y, M) (m + 1) := by
  refine (make_any n vs w s hm hn).mono ?_
  rw [he]
  exact fun r w' h => h
theorem hold_F {F : Nat → Prop} {gs gp : Nat} {X : DSt} {L M : List Pg} {m : Nat} {e : Int} {w : World} (p : Int) (s : Sto w F gs gp X L m) (he : plHold L p = (M, e)) :
    Calls Tryz.prog 30 #[ptr gs, .int .i64 p] w fun r w' => r = .returned (.int .i64 e) ∧ Sto w' F gs gp X M m ∧ Fr (onB1 gp) w w' := by
  refine (nhold_any p w s).mono ?_
  rw [he]
  exact fun r w' h => h
theorem get_F {F : Nat → Prop} {gs gp : Nat} {X : DSt} {L : List Pg} {m : Nat} {R : Nd × Int} {w : World} (p : Int) (s : Sto w F gs gp X L m) (hm : m ≤ 100000) (he : getF X L p = R) :
    Calls Tryz.prog 40 #[ptr gs, .int .i64 p] w fun r w' => NOpenIs w w' R r := by
  rw [← he]
  exact nget_any p w s hm
theorem free_F {F : Nat → Prop} {gs gp : Nat} {X : DSt} {L : List Pg} {m : Nat} {k : Int} {w : World} (s : Sto w F gs gp X L m) (hk : ((plFree L : Nat) : Int) = k) :
    Calls Tryz.prog 20 #[ptr gp] w fun r w' => r = .returned (.int .i64 k) ∧ w = w' := by
  rw [← hk]
  exact pfreeN_any s.ok gp w s.pl
section
variable {w : World} {ops : Array Oper} {rest : List Oper} {o : Oper} {a : Act} {Q : Exit → Act → World → Prop}
end
end Go.Proofs.YtmkinaijkgkgiaaGreat
