/- Texts H8, H9, H10, H11, H13 of the proof of NodesExact, one behind the other. -/
import Derived.Test.YtamfnjliikiifaaBundleNodesExact1
import Derived.Test.YtamfnjliikiifaaBundleNodesExact2
import Derived.Test.YtamfnjliikiifaaBundleNodesExact3
import Derived.Test.YtamfnjliikiifaaBundleNodesExact4
import Derived.Test.YtamfnjliikiifaaBundleNodesExact5
import Derived.Test.YtamfnjliikiifaaBundleNodesExact6
import Derived.Test.YtamfnjliikiifaaBundleNodesExact7
import Derived.Test.YtamfnjliikiifaaBundleNodesExact8
import Derived.Test.YtamfnjliikiifaaBundleNodesExact9
import Derived.Test.YtamfnjliikiifaaBundleNodesExact10
import Derived.Test.YtamfnjliikiifaaBundleNodesExact11
import Derived.Test.YtamfnjliikiifaaBundleNodesExact12
import Derived.Test.YtamfnjliikiifaaBundleNodesExact13
import Derived.Test.YtamfnjliikiifaaBundleNodesExact14
/- A store: see, Reach. -/
namespace Go.Proofs.Ytamfnjliikiifaa
open Go.RowKit Go.Proofs.U Go.Shelf Go.Maps
set_option linter.unusedSimpArgs false
set_option linter.unusedVariables false
section
variable {w : World} {ops : Array Oper} {rest : List Oper} {o : Oper} {a : Act} {Q : Exit → Act → World → Prop}
theorem wpList_lookI (hgd : Region.wanted o (yielded ops a.tmps) = true) (x y : Operand) (ho : o.op = .lookup 86 x y true) (m : Nat) (hx : a.eval x = .map (some m)) (i : Int) (hi : -9223372036854775808 ≤ i ∧ i ≤ 9223372036854775807) (hy : a.eval y = .int .i64 i) (S : Int → Bool) (hM : MapI w m S)
    (h : wpList Try.prog ops Q rest (a.put o.dst (.tuple #[.agg #[], .bool (S i)])) w) : wpList Try.prog ops Q (o :: rest) a w := by
  refine wpList_wanted hgd fun K hK => ?_
  have hr := hM.look i hi
  unfold Oper.wp execOp
  simp only [ho, hx, hy, Sem.run_bind, hr, Result.andThen_ok]
  exact hK _ _ h
theorem wpList_stU (hgd : Region.wanted o (yielded ops a.tmps) = true) (x y : Operand) (ho : o.op = .store 104 x y) (p : Addr) (hx : a.eval x = .pointer (some p)) (hy : a.eval y = .agg #[])
    (h : wpList Try.prog ops Q rest (a.put o.dst undef) w) : wpList Try.prog ops Q (o :: rest) a w := by
  refine wpList_wanted hgd fun K hK => ?_
  have hr := run_stU w p
  unfold Oper.wp execOp
  simp only [ho, hx, hy, Sem.run_bind, hr, Result.andThen_ok]
  exact hK _ _ h
theorem unit_zero2 : (Try.prog.info? 104).map (·.zero) = some (some (.agg #[])) := by kernel_rfl
theorem at_look (t : TypeId) (x y : Operand) (b : Bool) (_ho : o.op = .lookup t x y b) (h : wpList Try.prog ops Q (o :: rest) a w) : wpList Try.prog ops Q (o :: rest) a w := h
theorem at_upd (t : TypeId) (x y z : Operand) (_ho : o.op = .mapUpdate t x y z) (h : wpList Try.prog ops Q (o :: rest) a w) : wpList Try.prog ops Q (o :: rest) a w := h
theorem wpList_updI (hgd : o.guard = none) (x y z : Operand) (ho : o.op = .mapUpdate 86 x y z) (m : Nat) (hx : a.eval x = .map (some m)) (i : Int) (hi : -9223372036854775808 ≤ i ∧ i ≤ 9223372036854775807) (hy : a.eval y = .int .i64 i) (hz : a.eval z = .agg #[]) (S : Int → Bool) (hS : ∀ x, S x = true → 0 ≤ x ∧ x < ((240 : Nat) : Int)) (hM : MapI w m S)
    (h : ∀ w', MapI w' m (fun x => if x == i then true else S x) → Fr (onB1 m) w w' → wpList Try.prog ops Q rest (a.put o.dst undef) w') : wpList Try.prog ops Q (o :: rest) a w := by
  obtain ⟨D, ho', hh⟩ := hM.tight hS
  refine wpList_mapUpdate_in _ hgd _ _ _ 86 ho 3 104 keyI Try.underlying86 _ m _ D hx ho' (by unfold maxLen; omega) _ _ _ hy hz (keyOf_int_mk Try.underlying3 (WalkArith.wf_i64 hi)) _ [] unitElem_mk ?_
  intro w' ho1 ht
  refine h w' ⟨_, _, ho1, fun kl => ?_⟩ ((Fr.refl _ _).grown ht.grown (fun k hk _ => (Option.some.inj hk).symm))
  by_cases hk : kl = .int .i64 i
  · subst hk
    rw [has_put_same ho'.isMap (by trivial) _]; simp [badK]
  · rw [has_put_other hk _, hh, badK_put _ _ _ _ hk]
theorem wpList_mkMap (hgd : Region.wanted o (yielded ops a.tmps) = true) (ho : o.op = .makeMap 86 none)
    (h : ∀ g w', MapI w' g (fun _ => false) → Fr noB w w' → w.heap.size ≤ g → wpList Try.prog ops Q rest (a.put o.dst (.map (some g))) w') : wpList Try.prog ops Q (o :: rest) a w := by
  refine wpList_wanted hgd fun K hK => ?_
  have hrun : (execOp a.eval o).run Try.prog w = .ok (.value (.map (some w.heap.size))) (w.alloc (.map #[] 0)) := by
    simp [execOp, ho, go_sem, run_makeMap]
  unfold Oper.wp
  rw [hrun]
  exact hK _ _ (h w.heap.size _ ⟨0, .map [], World.ownsMap_made w Try.prog 3 unitElem, fun kl => by cases kl with | int k x => cases k <;> rfl | _ => rfl⟩ ((Fr.refl _ _).alloc _) (Nat.le_refl _))
end
/-- How many pages were not seen yet. -/
def nS (S : Int → Bool) : Nat := (List.range 240).countP fun (i : Nat) => !S (i : Int)
theorem countP_lt {l : List Nat} {p q : Nat → Bool} (h : ∀ x ∈ l, q x = true → p x = true) {y : Nat} (hy : y ∈ l) (hp : p y = true) (hq : q y = false) : l.countP q < l.countP p := by
  induction l with
  | nil => cases hy
  | cons a l ih =>
    rw [List.countP_cons, List.countP_cons]
    have hle : l.countP q ≤ l.countP p := List.countP_mono_left (fun x hx => h x (List.mem_cons_of_mem _ hx))
    rcases List.mem_cons.1 hy with rfl | hy
    · rw [hp, hq]; simp; omega
    · have := ih (fun x hx => h x (List.mem_cons_of_mem _ hx)) hy
      by_cases ha : q a = true
      · have := h a List.mem_cons_self ha
        rw [ha, this]; simp; omega
      · simp [ha]; split <;> omega
theorem nS_put {S : Int → Bool} {p : Int} (h0 : 0 ≤ p) (h1 : p < 240) (hp : S p = false) : nS (fun x => if x == p then true else S x) < nS S := by
  unfold nS
  obtain ⟨k, rfl⟩ : ∃ k : Nat, p = (k : Int) := ⟨p.toNat, by omega⟩
  refine countP_lt (fun x _ hx => ?_) (y := k) (List.mem_range.2 (by omega)) (by rw [hp]; rfl) (by simp)
  simp at hx ⊢
  exact hx.2
theorem nS_mono {S T : Int → Bool} (h : ∀ x, S x = true → T x = true) : nS T ≤ nS S := by
  unfold nS
  refine List.countP_mono_left (fun x _ hx => ?_)
  simp at hx ⊢
  cases hs : S (x : Int) with
  | false => rfl
  | true => rw [h _ hs] at hx; cases hx
theorem seeF_inv {get : Int → Nd × Int} {I : (Int → Bool) → Prop} (hI : ∀ S p, I S → (get p).2 = 0 → I (fun x => if x == p then true else S x)) : ∀ (n : Nat) (S : Int → Bool) (p : Int), I S → I (seeF get n S p).1
  | 0, S, p, h => h
  | n + 1, S, p, h => by
    unfold seeF
    split
    · exact h
    · split
      · rename_i h0
        exact eachF_inv (seeF_inv hI n) _ _ (hI S p h h0)
      · exact h
theorem seeF_mono {get : Int → Nd × Int} (n : Nat) (S : Int → Bool) (p : Int) : ∀ x, S x = true → (seeF get n S p).1 x = true :=
  seeF_inv (I := fun T => ∀ x, S x = true → T x = true) (fun T p h _ x hx => by simp only; split; rfl; exact h x hx) n S p (fun x h => h)
theorem getF_rng {X : DSt} {L : List Pg} (hL : plOk L) {p : Int} (h : (getF X L p).2 = 0) : 0 ≤ p ∧ p < ((240 : Nat) : Int) := by
  unfold getF at h
  split at h
  · rename_i hh
    have := plHeld_rng hh
    have := hL.1
    omega
  · simp at h
abbrev Low (S : Int → Bool) : Prop := ∀ x, S x = true → 0 ≤ x ∧ x < ((240 : Nat) : Int)
theorem Low.put {S : Int → Bool} (h : Low S) {p : Int} (hp : 0 ≤ p ∧ p < ((240 : Nat) : Int)) : Low (fun x => if x == p then true else S x) := by
  intro x hx
  by_cases e : x = p
  · subst e; exact hp
  · have : (x == p) = false := by simpa using e
    simp only [this, Bool.false_eq_true, if_false] at hx
    exact h x hx
theorem seeF_low {X : DSt} {L : List Pg} (hL : plOk L) (n : Nat) {S : Int → Bool} (p : Int) (h : Low S) : Low (seeF (getF X L) n S p).1 := seeF_inv (I := Low) (fun T p h h0 => h.put (getF_rng hL h0)) n S p h
theorem eg_see1 : ∀ args w, (callFunc 65 args).run Try.prog w = .ok (.enter 65 args) w := enters_of Try.func65 (by kernel_rfl) rfl
theorem wf_rng {x : Int} (h : (Lit.int .i64 x).wf = true) : -9223372036854775808 ≤ x ∧ x ≤ 9223372036854775807 := by
  simp [Lit.wf, IntKind.min, IntKind.max, IntKind.bits, IntKind.signed] at h; omega
set_option maxRecDepth 100000 in
set_option maxHeartbeats 1000000 in
theorem see1_any {gs gq : Nat} (g1 g2 : Nat) (p : Int) (w : World) (b1 : BxV w g1 22 [ptr gs]) (b2 : BxV w g2 86 [.map (some gq)]) {v : Value} {Z : World → Prop}
    (hc : Calls Try.prog 53 #[ptr gs, .int .i64 p, .map (some gq)] w fun r w' => r = .returned v ∧ Z w') :
    Calls Try.prog 65 #[.int .i64 p, ptr g1, ptr g2] w fun r w' => r = .returned v ∧ Z w' := by
  have k1 := (b1.cell 0 _ rfl).1
  have k2 := (b2.cell 0 _ rfl).1
  go_enter Try.func65, Try.ntmps65
  go_wp2_with (first
    | (go_at_call 53; go_must (refine hc.mono ?_; rintro e w1 ⟨rfl, q1⟩)))
  go_ret
  exact ⟨rfl, q1⟩
theorem seeF_succ (get : Int → Nd × Int) (n : Nat) (S : Int → Bool) (p : Int) : seeF get (n + 1) S p = if S p then (S, 0) else if (get p).2 = 0 then eachF (seeF get n) (fun x => if x == p then true else S x) (kids (get p).1) else (S, (get p).2) := rfl
set_option maxRecDepth 100000 in
set_option maxHeartbeats 1000000 in
theorem see_any {F : Nat → Prop} {gs gp gq : Nat} {X : DSt} {L : List Pg} {m : Nat} (hm : m ≤ 100000) (hqF : ¬ F gq) (hqp : gq ≠ gp) (hqs : gq ≠ gs) : ∀ (n : Nat) (S : Int → Bool) (p : Int) (w : World), nS S < n → Low S → (Lit.int .i64 p).wf = true → Sto w F gs gp X L m → MapI w gq S →
    Calls Try.prog 53 #[ptr gs, .int .i64 p, .map (some gq)] w fun r w' => r = .returned (.int .i64 (seeF (getF X L) n S p).2) ∧ MapI w' gq (seeF (getF X L) n S p).1 ∧ Fr (onB1 gq) w w' := by
  intro n
  induction n with
  | zero => intro S p w h; omega
  | succ n ih =>
    intro S p w hn hS hp h hM
    have hpr := wf_rng hp
    have lq := hM.lt
    have hG := fun W (f : Fr noB w W) => nget_any p W (h.fr0 f) hm
    rw [seeF_succ]
    cases hSp : S p with
    | true =>
      simp only [if_true]
      go_enter Try.func53, Try.ntmps53
      go_wp2_with (first
        | (with_reducible refine at_wpP ?_; refine wpList_boxG rfl 22 _ rfl (ptr gs) [ptr gs] rfl rfl ?_; intro g1 w1 hg1 b1 f1 s1)
        | (with_reducible refine at_wpP ?_; refine wpList_boxG rfl 86 _ rfl (.map (some gq)) [.map (some gq)] rfl rfl ?_; intro g2 w2 hg2 b2 f2 s2; have k2 := (b2.cell 0 _ rfl).1; have M2 := (hM.fr f1 (fun q => q)).fr f2 (fun q => q))
        | (with_reducible refine at_wpP ?_; refine at_look 86 _ _ _ rfl ?_; go_must (refine wpList_lookI rfl _ _ rfl gq rfl p hpr rfl S M2 ?_; rw [hSp]))
        | (with_reducible refine at_wpP ?_; refine wpList_allocG rfl 104 rfl (.agg #[]) [] unit_zero2 rfl ?_; intro g3 w3 hg3 b3 f3 s3)
        | (with_reducible refine at_wpP ?_; refine at_st 104 _ _ rfl ?_; go_must (refine wpList_stU rfl _ _ rfl ⟨g3, 0, none⟩ rfl rfl ?_)))
      go_ret
      have F3 := (f1.thenN f2).thenN f3
      exact ⟨rfl, hM.fr F3 (fun q => q), F3.mono (fun _ _ q => q.elim)⟩
    | false =>
      simp only [Bool.false_eq_true, if_false]
      have hlow := fun (h0 : (getF X L p).2 = 0) => getF_rng h.ok h0
      obtain ⟨R, HR⟩ : ∃ R, Hid (getF X L p = R) := ⟨_, rfl⟩
      rw [HR.out] at hG hlow ⊢
      by_cases hr0 : R.2 = 0
      · rw [if_pos hr0]
        have hpl := hlow hr0
        have hn1 := nS_put hpl.1 hpl.2 hSp
        have hS1 := hS.put hpl
        obtain ⟨S1, HS1⟩ : ∃ S1, Hid ((fun x => if x == p then true else S x) = S1) := ⟨_, rfl⟩
        rw [HS1.out] at hn1 hS1 ⊢
        obtain ⟨N, e0⟩ := R
        simp only at hr0
        subst hr0
        simp only at hG ⊢
        clear hlow
        have hC := fun v W (hn : NdS W v N) => children_any N v W hn
        have hE := fun (u : Value) (g1 g2 : Nat) (W : World) (hK : (kids N).length ≤ 1000) (s : Sto W F gs gp X L m) (hMM : MapI W gq S1) (b1 : BxV W g1 22 [ptr gs]) (b2 : BxV W g2 86 [.map (some gq)]) (h1 : g1 ≠ gq) (h2 : g2 ≠ gq) (hu : SlI .i64 W u (kids N)) (hg : ∀ k, u.ownBlock = some k → k ≠ gq) =>
          each_any (seeF (getF X L) n) (fun T V => MapI V gq T ∧ Low T ∧ nS T < n ∧ SlI .i64 V u (kids N) ∧ Fr (onB1 gq) W V) 65 #[] #[ptr g1, ptr g2] eg_see1 u (kids N) (by omega) (fun _ _ h => h.2.2.2.1) (fun T V x hx hI => by
            refine see1_any g1 g2 x V (b1.fr hI.2.2.2.2 (fun q => h1 q)) (b2.fr hI.2.2.2.2 (fun q => h2 q)) ?_
            refine (ih T x V hI.2.2.1 hI.2.1 (hI.2.2.2.1.2 x hx) (s.fr hI.2.2.2.2 (fun k hk q e => by unfold onB1 at e; subst e; rcases q with q | q | q; exact hqF q; exact hqp q; exact hqs q)) hI.1).mono ?_
            rintro e w1 ⟨rfl, s1, f1⟩
            exact ⟨rfl, s1, seeF_low h.ok n x hI.2.1, Nat.lt_of_le_of_lt (nS_mono (seeF_mono n T x)) hI.2.2.1, hI.2.2.2.1.fr f1 (fun k hk q => hg k hk q), hI.2.2.2.2.trans f1⟩) S1 W ⟨hMM, hS1, by omega, hu, Fr.refl _ _⟩
        clear ih
        obtain ⟨K, HK⟩ : ∃ K, Hid (kids N = K) := ⟨_, rfl⟩
        have hkl := fun v W (hn : NdS W v N) => kids_len hn
        rw [HK.out] at hC hE hkl ⊢
        obtain ⟨V, HV⟩ : ∃ V, Hid (eachF (seeF (getF X L) n) S1 K = V) := ⟨_, rfl⟩
        rw [HV.out] at hE ⊢
        have lps := h.lts
        go_enter Try.func53, Try.ntmps53
        go_wp2_with (first
          | (with_reducible refine at_wpP ?_; refine wpList_boxG rfl 22 _ rfl (ptr gs) [ptr gs] rfl rfl ?_; intro g1 w1 hg1 b1 f1 s1; have l1 := b1.lt; have z1 := f1.size)
          | (with_reducible refine at_wpP ?_; refine wpList_boxG rfl 86 _ rfl (.map (some gq)) [.map (some gq)] rfl rfl ?_; intro g2 w2 hg2 b2 f2 s2; have l2 := b2.lt; have z2 := f2.size; have k2 := (b2.cell 0 _ rfl).1; have G2 := f1.thenN f2; have M2 := hM.fr G2 (fun q => q))
          | (with_reducible refine at_wpP ?_; refine at_look 86 _ _ _ rfl ?_; go_must (refine wpList_lookI rfl _ _ rfl gq rfl p hpr rfl S M2 ?_; rw [hSp]))
          | (with_reducible refine at_wpP ?_; refine wpList_allocG rfl 104 rfl (.agg #[]) [] unit_zero2 rfl ?_; intro g3 w3 hg3 b3 f3 s3; have z3 := f3.size; have G3 := G2.thenN f3; have B1 := (b1.fr0 f2).fr0 f3; have k1 := (B1.cell 0 _ rfl).1)
          | (with_reducible refine at_wpP ?_; refine at_st 104 _ _ rfl ?_; go_must (refine wpList_stU rfl _ _ rfl ⟨g3, 0, none⟩ rfl rfl ?_))
          | (go_at_call 8; go_must (refine (hG _ G3).mono ?_; rintro e w4 ⟨v, rfl, n4, o4, f4⟩; have z4 := f4.size; have hv := NdS.sl n4; have hbl := NdS.bl n4; have G4 := G3.thenN f4; have hk := hkl _ _ n4))
          | (with_reducible refine at_wpP ?_; refine wpList_allocN rfl rfl ?_; intro g5 w5 hg5 b5 f5 s5; have l5 := b5.lt; have z5 := f5.size)
          | (with_reducible refine at_wpP ?_; refine at_st 28 _ _ rfl ?_; have q := n4; go_must (refine wpList_stN rfl _ _ rfl g5 rfl N.k N.b v rfl hbl.out hv 0 (zerB 16) nilS b5 (zerB_len 16) ?_; intro w6 b6 f6; have z6 := f6.size; have F6 : Fr noB w4 w6 := Fr.ownX f5 s5 f6; have n6 := n4.fr0 F6; have G6 := G4.thenN F6; have B2 := (((b2.fr0 f3).fr0 f4).fr0 F6); have B1 := ((B1.fr0 f4).fr0 F6); have k2 := (B2.cell 0 _ rfl).1; have M6 := hM.fr G6 (fun q => q)))
          | (with_reducible refine at_wpP ?_; refine at_upd 86 _ _ _ rfl ?_; go_must (refine wpList_updI rfl _ _ _ rfl gq rfl p hpr rfl rfl S hS M6 ?_; rw [HS1.out]; intro w7 M7 f7; have z7 := f7.size; have b7 := BxV.ne b6 f7 (by omega); have n7 := NdS.frS n6 f7 (fun k hk q => by have := o4 k hk; unfold onB1 at q; omega); have C1 := BxV.ne B1 f7 (by omega); have C2 := BxV.ne B2 f7 (by omega)))
          | (with_reducible refine at_wpP ?_; refine at_ld 28 _ rfl ?_; go_must (refine wpList_ldN rfl _ rfl g5 rfl N.k N.b v b7 hbl.out ?_))
          | (go_at_call 31; go_must (refine (hC _ _ n7).mono ?_; rintro e w8 ⟨u, rfl, o8, u8, f8⟩; have z8 := f8.size; have nb8 := o8.newB; have M8 := M7.fr f8 (fun q => q); have D1 := C1.fr0 f8; have D2 := C2.fr0 f8))
          | (go_at_call 34; go_must (refine (hE u g1 g2 _ hk ?hs8 M8 D1 D2 (by omega) (by omega) u8 ?hg8).mono ?_; rotate_left 2; rintro e w9 ⟨rfl, s9, _, _, _, f9⟩)))
        case hs8 =>
          exact ((h.fr0 G6).fr f7 (fun k hk q e => by unfold onB1 at e; subst e; rcases q with q | q | q; exact hqF q; exact hqp q; exact hqs q)).fr0 f8
        case hg8 =>
          intro k hk e
          have := nb8 k hk
          omega
        go_ret
        exact ⟨rfl, s9, (((G6.mono (fun _ _ q => q.elim)).trans f7).thenN f8).trans f9⟩
      · rw [if_neg hr0]
        go_enter Try.func53, Try.ntmps53
        go_wp2_with (first
          | (with_reducible refine at_wpP ?_; refine wpList_boxG rfl 22 _ rfl (ptr gs) [ptr gs] rfl rfl ?_; intro g1 w1 hg1 b1 f1 s1; have l1 := b1.lt; have z1 := f1.size)
          | (with_reducible refine at_wpP ?_; refine wpList_boxG rfl 86 _ rfl (.map (some gq)) [.map (some gq)] rfl rfl ?_; intro g2 w2 hg2 b2 f2 s2; have l2 := b2.lt; have z2 := f2.size; have k2 := (b2.cell 0 _ rfl).1; have G2 := f1.thenN f2; have M2 := hM.fr G2 (fun q => q))
          | (with_reducible refine at_wpP ?_; refine at_look 86 _ _ _ rfl ?_; go_must (refine wpList_lookI rfl _ _ rfl gq rfl p hpr rfl S M2 ?_; rw [hSp]))
          | (with_reducible refine at_wpP ?_; refine wpList_allocG rfl 104 rfl (.agg #[]) [] unit_zero2 rfl ?_; intro g3 w3 hg3 b3 f3 s3; have z3 := f3.size; have G3 := G2.thenN f3; have B1 := (b1.fr0 f2).fr0 f3; have k1 := (B1.cell 0 _ rfl).1)
          | (with_reducible refine at_wpP ?_; refine at_st 104 _ _ rfl ?_; go_must (refine wpList_stU rfl _ _ rfl ⟨g3, 0, none⟩ rfl rfl ?_))
          | (go_at_call 8; go_must (refine (hG _ G3).mono ?_; rintro e w4 ⟨v, rfl, n4, o4, f4⟩; have z4 := f4.size; have hv := NdS.sl n4; have hbl := NdS.bl n4; have G4 := G3.thenN f4))
          | (with_reducible refine at_wpP ?_; refine wpList_allocN rfl rfl ?_; intro g5 w5 hg5 b5 f5 s5; have l5 := b5.lt; have z5 := f5.size)
          | (with_reducible refine at_wpP ?_; refine at_st 28 _ _ rfl ?_; have q := n4; go_must (refine wpList_stN rfl _ _ rfl g5 rfl R.1.k R.1.b v rfl hbl.out hv 0 (zerB 16) nilS b5 (zerB_len 16) ?_; intro w6 b6 f6; have z6 := f6.size; have F6 : Fr noB w4 w6 := Fr.ownX f5 s5 f6; have G6 := G4.thenN F6)))
        go_ret
        exact ⟨rfl, hM.fr G6 (fun q => q), G6.mono (fun _ _ q => q.elim)⟩
end Go.Proofs.Ytamfnjliikiifaa
/- A store: Reach. -/
namespace Go.Proofs.Ytamfnjliikiifaa
open Go.RowKit Go.Proofs.U Go.Shelf Go.Maps
set_option linter.unusedSimpArgs false
set_option linter.unusedVariables false
/-- A root is passed over, if it is none. -/
def rootF (get : Int → Nd × Int) (S : Int → Bool) (p : Int) : (Int → Bool) × Int := if p = -1 then (S, 0) else seeF get 241 S p
/-- Reach: what was seen, or the first error. -/
def reachF (get : Int → Nd × Int) (roots : List Int) : (Int → Bool) × Int := eachF (rootF get) (fun _ => false) roots
theorem nS_lt (S : Int → Bool) : nS S < 241 := by
  unfold nS
  have := List.countP_le_length (p := fun (i : Nat) => !S (i : Int)) (l := List.range 240)
  simp only [List.length_range] at this
  omega
def ReachIs (w w' : World) (R : (Int → Bool) × Int) (r : Ending) : Prop := ∃ u l, r = .returned (.tuple #[u, .int .i64 R.2]) ∧ (R.2 = 0 → SeenL R.1 l) ∧ SlI .i64 w' u l ∧ (∀ k, u.ownBlock = some k → w.heap.size ≤ k) ∧ Fr noB w w'
set_option maxRecDepth 100000 in
set_option maxHeartbeats 1000000 in
theorem reach_any {F : Nat → Prop} {gs gp : Nat} {X : DSt} {L : List Pg} {m : Nat} (hm : m ≤ 100000) (v : Value) (l : List Int) (hl : l.length ≤ 1000000) (w : World) (h : Sto w F gs gp X L m) (hv : SlI .i64 w v l) :
    Calls Try.prog 37 #[ptr gs, v] w fun r w' => ReachIs w w' (reachF (getF X L) l) r := by
  obtain ⟨a0, c0, rfl, hc0⟩ := hv.opn
  have hsee := fun gq (hq : w.heap.size ≤ gq) => see_any (F := F) (gs := gs) (gp := gp) (gq := gq) (X := X) (L := L) (m := m) hm (fun q => by have := h.ft gq q; omega) (by have := h.ltp; omega) (by have := h.lts; omega) 241
  have hlow := fun (S : Int → Bool) (p : Int) => seeF_low (X := X) (L := L) h.ok 241 (S := S) p
  unfold reachF
  obtain ⟨R, HR⟩ : ∃ R, Hid (eachF (rootF (getF X L)) (fun _ => false) l = R) := ⟨_, rfl⟩
  rw [HR.out]
  have ltp := h.ltp
  have lts := h.lts
  have hft := h.ft
  go_enter Try.func37, Try.ntmps37
  go_wp2_with (first
    | (with_reducible refine at_wpP ?_; refine wpList_mkMap rfl rfl ?_; intro gq w1 M1 f1 s1; have l1 := M1.lt))
  go_loopw [13] (fun i wr => ∃ (j : Nat) (t : Int → Bool), j ≤ l.length ∧ i = .int .i64 (j : Int) ∧ MapI wr gq t ∧ Low t ∧ Hid (eachF (rootF (getF X L)) t (l.drop j) = R) ∧ Fr noB w wr) (fun i _ => l.length - (intOf i).toNat)
  case atStart => exact ⟨0, _, Nat.zero_le _, rfl, M1, (fun x hx => by cases hx), HR, f1⟩
  case round =>
    obtain ⟨j, t, hj, rfl, hM, hLow, hA, hf⟩ := hrel
    by_cases hlt : j < l.length
    · obtain ⟨x, Hx⟩ : ∃ x, Hid (l[j] = x) := ⟨l[j], (rfl : l[j] = l[j])⟩
      have hxw : (Lit.int .i64 x).wf = true := hv.2 x (by rw [← Hx.out]; simp)
      have hv1 := (hv.fr0 hf).1
      have hlt' : (j : Int) < (l.length : Int) := by omega
      have hd : l.drop j = x :: l.drop (j + 1) := by rw [← Hx.out]; exact List.drop_eq_getElem_cons hlt
      rw [hd] at hA
      by_cases hx1 : x = -1
      · replace hA : Hid (eachF (rootF (getF X L)) t (l.drop (j + 1)) = R) := by
          show _ = _
          have e : rootF (getF X L) t x = (t, 0) := by unfold rootF; rw [if_pos hx1]
          rw [← hA.out, eachF_cons0 (by rw [e]), e]
        subst hx1
        go_wp2_with (first
          | (with_reducible refine at_wpP ?_; refine at_idx 39 _ _ rfl ?_; go_must (refine wpList_idx1 rfl 39 _ _ rfl 3 Try.underlying39 int_size1 (.slice a0 l.length c0) _ _ rfl hv1 .i64 (j : Int) j rfl rfl hlt ?_; intro pp u hu hcu; obtain rfl := getX hu hlt Hx.out)))
        go_roundw
        case rel => exact ⟨j + 1, t, by omega, by go_num, hM, hLow, hA, hf⟩
        case measure => simp [intOf]; omega
      · have hxb : (x == -1) = false := by simpa using hx1
        have hcx := hsee gq s1 t x wr (nS_lt t) hLow hxw (h.fr0 hf) hM
        have hlw := hlow t x hLow
        have e : rootF (getF X L) t x = seeF (getF X L) 241 t x := by unfold rootF; rw [if_neg hx1]
        obtain ⟨y, Hy⟩ : ∃ y, Hid (seeF (getF X L) 241 t x = y) := ⟨_, rfl⟩
        rw [Hy.out] at hcx hlw e
        replace e := show Hid _ from e
        by_cases h0 : y.2 = 0
        · replace hA : Hid (eachF (rootF (getF X L)) y.1 (l.drop (j + 1)) = R) := by show _ = _; rw [← hA.out, eachF_cons0 (by rw [e.out]; exact h0), e.out]
          obtain ⟨y1, y2⟩ := y
          simp only at h0 hA hcx hlw
          subst h0
          go_wp2_with (first
            | (with_reducible refine at_wpP ?_; refine at_idx 39 _ _ rfl ?_; go_must (refine wpList_idx1 rfl 39 _ _ rfl 3 Try.underlying39 int_size1 (.slice a0 l.length c0) _ _ rfl hv1 .i64 (j : Int) j rfl rfl hlt ?_; intro pp u hu hcu; obtain rfl := getX hu hlt Hx.out))
            | (go_at_call 53; go_must (refine hcx.mono ?_; rintro e w2 ⟨rfl, M2, f2⟩)))
          go_roundw
          case rel => exact ⟨j + 1, y1, by omega, by go_num, M2, hlw, hA, hf.thenT f2 (fun i hi q => by unfold onB1 at q; omega)⟩
          case measure => simp [intOf]; omega
        · replace hA : Hid (y = R) := by show _ = _; rw [← hA.out, eachF_cons1 (by rw [e.out]; exact h0), e.out]
          go_wp2_with (first
            | (with_reducible refine at_wpP ?_; refine at_idx 39 _ _ rfl ?_; go_must (refine wpList_idx1 rfl 39 _ _ rfl 3 Try.underlying39 int_size1 (.slice a0 l.length c0) _ _ rfl hv1 .i64 (j : Int) j rfl rfl hlt ?_; intro pp u hu hcu; obtain rfl := getX hu hlt Hx.out))
            | (go_at_call 53; go_must (refine hcx.mono ?_; rintro e w2 ⟨rfl, M2, f2⟩)))
          go_ret2
          rw [← hA.out]
          exact ⟨_, [], rfl, fun q => absurd q h0, SlI.nil _ _, (fun k hk => by cases hk), hf.thenT f2 (fun i hi q => by unfold onB1 at q; omega)⟩
    · obtain rfl : j = l.length := by omega
      replace hA : Hid ((t, (0 : Int)) = R) := by have := hA.out; rw [List.drop_length] at this; exact this
      have hlt' : ¬ (l.length : Int) < (l.length : Int) := by omega
      go_wp2_with (first
        | (go_at_call 55; go_must (refine (mkeys_any gq _).mono ?_; rintro e w2 ⟨g2, rfl, s2, b2, f2⟩; have M2 := hM.fr f2 (fun q => q); have z2 := f2.size))
        | (go_at_call 54; go_must (refine (sorted_any g2 gq t hLow _ b2 M2).mono ?_; rintro e w3 ⟨u, k, rfl, hS3, u3, o3, f3⟩)))
      go_ret2
      have zf := hf.size
      rw [← hA.out]
      exact ⟨_, k, rfl, fun _ => hS3, u3, (fun q hq => by have := o3 q hq; omega), (hf.thenN f2).thenN f3⟩
end Go.Proofs.Ytamfnjliikiifaa
/- nodesAlive, NodesNames. -/
namespace Go.Proofs.Ytamfnjliikiifaa
open Go.RowKit Go.Proofs.U Go.Shelf Go.Maps
set_option linter.unusedSimpArgs false
set_option linter.unusedVariables false
theorem ownE_new (w : World) (x : Int × Int) : OwnR enC 2 51 (w.alloc (.cells (enC x).toArray 51)) w.heap.size (.slice (some ⟨w.heap.size, 0, none⟩) 1 1) [x] :=
  ⟨by simp [pairC], by simp [pairC], .inr ⟨w.heap.size, 1, _, rfl, Nat.le_refl _, heap_alloc_new w _, Nat.le_refl _, by unfold maxLen; simp, by simp [pairC], by simp [pairC]⟩⟩
section
variable {w : World} {ops : Array Oper} {rest : List Oper} {o : Oper} {a : Act} {Q : Exit → Act → World → Prop}
theorem wpList_mkE (hgd : Region.wanted o (yielded ops a.tmps) = true) (y : Operand) (ho : o.op = .buildSlice 26 1 #[(0, y)]) (x : Int × Int) (hy : a.eval y = enV x)
    (h : ∀ g w', OwnR enC 2 51 w' w.heap.size (.slice (some ⟨g, 0, none⟩) 1 1) [x] → Fr noB w w' → w.heap.size ≤ g → g < w'.heap.size → wpList Try.prog ops Q rest (a.put o.dst (.slice (some ⟨g, 0, none⟩) 1 1)) w') : wpList Try.prog ops Q (o :: rest) a w := by
  refine wpList_wanted hgd fun K hK => ?_
  have hr := run_mk1 (P := Try.prog) (ec := enC) 26 Try.underlying26 _ en_info2 (by decide) (by decide) x (enV x) rfl rfl w
  unfold Oper.wp
  simp [execOp, ho, hy, hr, Result.andThen]
  exact hK _ _ (h w.heap.size _ (ownE_new w x) ((Fr.refl _ _).alloc _) (Nat.le_refl _) (by simp))
theorem wpList_blkC {n : Int} (hgd : Region.wanted o (yielded ops a.tmps) = true) (ho : o.op = .build 25 #[(0, .const (.int .u8 n))]) (C : List Int) (hb : Try.prog.built 25 [(0, .int .u8 n)] = some (pgv C).toArray)
    (h : wpList Try.prog ops Q rest (a.put o.dst (pgV C)) w) : wpList Try.prog ops Q (o :: rest) a w := by
  refine wpList_wanted hgd fun K hK => ?_
  have hrun := run_build (P := Try.prog) w 25 #[(0, .int .u8 n)] _ hb
  unfold Oper.wp
  have hc : a.eval (.const (.int .u8 n)) = .int .u8 n := rfl
  simp [execOp, ho, hc, hrun, Result.andThen]
  exact hK _ _ h
end
theorem built_ndB (k : Int) (b : List Int) (hb : b.length = 16) : Try.prog.built 28 [(0, .int .i64 k), (1, pgV b)] = some (ndL k b nilS).toArray := by
  rw [built_struct _ _ nd_struct _ nd_zero _ nd_places]
  rw [fill_put _ _ 0 0 1 (.int .i64 k) [.int .i64 k] rfl rfl rfl (by decide)]
  rw [fill_put _ _ 1 1 16 (pgV b) (pgv b) rfl rfl (by rw [pgv_len, hb]) (by simp [putAt, ndL, pgv, zerB])]
  unfold Instr.fill
  congr 2
  unfold putAt ndL
  simp [pgv_len, hb, pgv, zerB]
def na7 : List Int := 7 :: zerB 15
theorem na7_len : na7.length = 16 := rfl
theorem na7_byt : Byt na7 := by
  intro x hx
  rcases List.mem_cons.1 hx with rfl | hx
  · decide
  · exact zerB_byt 15 x hx
theorem built_na7 : Try.prog.built 25 [(0, .int .u8 7)] = some (pgv na7).toArray := by kernel_rfl
def naA : Nd := ⟨1, na7, []⟩
def naB : Nd := ⟨2, zerB 16, [(3, 0)]⟩
theorem naA_right : naA.right = true := by rfl
theorem naB_right : naB.right = true := by decide
theorem naA_ok : naA.ok := ⟨na7_len, na7_byt⟩
theorem naB_ok : naB.ok := ⟨zerB_len 16, zerB_byt 16⟩
def la0 : List Pg := [⟨0, 0⟩, ⟨0, 0⟩, ⟨0, 0⟩, ⟨0, 0⟩, ⟨0, 0⟩, ⟨0, 0⟩]
def la1 : List Pg := [⟨0, 1⟩, ⟨0, 0⟩, ⟨0, 0⟩, ⟨0, 0⟩, ⟨0, 0⟩, ⟨0, 0⟩]
def la2 : List Pg := [⟨1, 1⟩, ⟨0, 1⟩, ⟨0, 0⟩, ⟨0, 0⟩, ⟨0, 0⟩, ⟨0, 0⟩]
def la3 : List Pg := [⟨1, 1⟩, ⟨1, 1⟩, ⟨0, 0⟩, ⟨0, 0⟩, ⟨0, 0⟩, ⟨0, 0⟩]
def la4 : List Pg := [⟨1, 1⟩, ⟨0, 0⟩, ⟨0, 0⟩, ⟨0, 0⟩, ⟨0, 0⟩, ⟨0, 0⟩]
theorem la_new : plNew (sizeN 10) = la0 := by rfl
theorem la_mA (X : DSt) : makeF X la0 naA = ((X.write (0 + 4) naA.page, la1), 0, 0) := by rfl
theorem la_mB (X : DSt) : makeF X la1 naB = ((X.write (1 + 4) naB.page, la2), 1, 0) := by rfl
theorem la_h : plHold la2 1 = (la3, 0) := by rfl
theorem la_d1 : plDrop la3 1 = (la4, true, 0) := by rfl
theorem la_d0 : plDrop la4 0 = (la0, true, 0) := by rfl
theorem la_mu : muL la3 < 10 := by decide
theorem la_free : plFree la0 = 6 := by decide
theorem la_held0 : plHeld la3 0 = true := by rfl
theorem la_held1 : plHeld la3 1 = true := by rfl
/-- What stands on the disk behind both Makes. -/
theorem la_rd {X : DSt} {m : Nat} (h : Up X 6 m) : rdN ((X.write (0 + 4) naA.page).write (1 + 4) naB.page) 0 = (naA, 0) ∧ rdN ((X.write (0 + 4) naA.page).write (1 + 4) naB.page) 1 = (naB, 0) := by
  obtain ⟨_, h1, c1⟩ := h.write (p := 0) (by decide) (by decide) (page_len naA_right na7_len) (page_byt naA_right naA_ok)
  obtain ⟨_, h2, c2⟩ := h1.write (p := 1) (by decide) (by decide) (page_len naB_right (zerB_len 16)) (page_byt naB_right naB_ok)
  unfold rdN
  rw [c2 0 (by decide) (by decide), c2 1 (by decide) (by decide), if_neg (by decide), if_pos rfl, c1 0 (by decide) (by decide), if_pos rfl]
  exact ⟨opN_own naA_right naA_ok, opN_own naB_right naB_ok⟩
theorem la_reach {X : DSt} (h : rdN X 0 = (naA, 0) ∧ rdN X 1 = (naB, 0)) : ∃ S, reachF (getF X la3) [1] = (S, 0) ∧ ∀ x, S x = true ↔ x = 0 ∨ x = 1 := by
  have g0 : getF X la3 0 = (naA, 0) := by unfold getF; rw [la_held0]; exact h.1
  have g1 : getF X la3 1 = (naB, 0) := by unfold getF; rw [la_held1]; exact h.2
  have e0 : seeF (getF X la3) 240 (fun x => if x == 1 then true else false) 0 = ((fun x => if x == 0 then true else if x == 1 then true else false), 0) := by
    rw [seeF_succ, g0]; rfl
  have e1 : seeF (getF X la3) 241 (fun _ => false) 1 = ((fun x => if x == 0 then true else if x == 1 then true else false), 0) := by
    rw [seeF_succ, g1]
    show eachF (seeF (getF X la3) 240) _ [0] = _
    rw [eachF_cons0 (by rw [e0]), e0]; rfl
  have e2 : rootF (getF X la3) (fun _ => false) 1 = ((fun x => if x == 0 then true else if x == 1 then true else false), 0) := by
    unfold rootF; rw [if_neg (by decide)]; exact e1
  refine ⟨_, by unfold reachF; rw [eachF_cons0 (by rw [e2]), e2]; rfl, fun x => ?_⟩
  by_cases h0 : x = 0
  · simp [h0]
  · by_cases h1 : x = 1 <;> simp [h0, h1]
theorem la_len {S : Int → Bool} {l : List Int} (h : SeenL S l) (hS : ∀ x, S x = true ↔ x = 0 ∨ x = 1) : l.length = 2 := by
  have : l.Perm [0, 1] := (List.perm_ext_iff_of_nodup h.nd (by decide)).2 (fun x => by rw [h.mem x, hS x]; simp)
  rw [this.length_eq]; rfl
theorem la_drop {X : DSt} (h : rdN X 0 = (naA, 0) ∧ rdN X 1 = (naB, 0)) : dropF X 10 la3 1 = (la0, 0) := by
  have e0 : dropF X 9 la4 0 = (la0, 0) := by
    rw [dropF_succ la_d0, h.1]; rfl
  rw [dropF_succ la_d1, h.2]
  show eachF (dropF X 9) la4 [0] = _
  rw [eachF_cons0 (by rw [e0]), e0]; rfl
end Go.Proofs.Ytamfnjliikiifaa
/- nodesAlive walked. -/
namespace Go.Proofs.Ytamfnjliikiifaa
open Go.RowKit Go.Proofs.U Go.Shelf Go.Maps
set_option linter.unusedSimpArgs false
set_option linter.unusedVariables false
/-- A store that was made since w0. -/
def StN (w0 w : World) (gs gp : Nat) (X : DSt) (L : List Pg) (m : Nat) : Prop := ∃ F, Sto w F gs gp X L m ∧ (∀ k, F k → w0.heap.size ≤ k) ∧ w0.heap.size ≤ gs ∧ w0.heap.size ≤ gp ∧ Fr noB w0 w
theorem StN.fr0 {w0 w w' : World} {gs gp : Nat} {X : DSt} {L : List Pg} {m : Nat} (h : StN w0 w gs gp X L m) (f : Fr noB w w') : StN w0 w' gs gp X L m := by
  obtain ⟨F, s, a, b, c, d⟩ := h
  exact ⟨F, s.fr0 f, a, b, c, d.thenN f⟩
theorem StN.fr {w0 w : World} {gs gp : Nat} {X : DSt} {L : List Pg} {m : Nat} (h : StN w0 w gs gp X L m) : Fr noB w0 w := h.elim fun _ q => q.2.2.2.2
theorem StN.own {w0 w w' : World} {gs gp g : Nat} {X : DSt} {L : List Pg} {m : Nat} (h : StN w0 w gs gp X L m) {w1 : World} (f1 : Fr noB w w1) (hg : w.heap.size ≤ g) (f : Fr (onB1 g) w1 w') : StN w0 w' gs gp X L m := h.fr0 (Fr.ownX f1 hg f)
theorem made_N (n : Int) (hn : 4 ≤ n ∧ n ≤ 1000) (w : World) :
    Calls Try.prog 7 #[.int .i64 n] w fun r w' => ∃ gs gp, r = .returned (ptr gs) ∧ StN w w' gs gp (newD n) (plNew (sizeN n)) 0 := by
  refine (made_any n hn w).mono ?_
  rintro e w' ⟨gs, gp, F, rfl, a, b, c, s, f⟩
  exact ⟨gs, gp, rfl, F, s, fun k hk => (c k hk).1, a, b, f⟩
theorem make_N {w0 w : World} {gs gp : Nat} {X Y : DSt} {L M : List Pg} {m : Nat} {p e : Int} (n : Nd) (vs : Value) (h : StN w0 w gs gp X L m) (hm : m ≤ 100000) (hn : NdS w vs n) (he : makeF X L n = ((Y, M), p, e)) :
    Calls Try.prog 9 #[ptr gs, ndV n.k n.b vs] w fun r w' => r = .returned (.tuple #[.int .i64 p, .int .i64 e]) ∧ StN w0 w' gs gp Y M (m + 1) := by
  obtain ⟨F, s, a, b, c, d⟩ := h
  have z := d.size
  refine (make_any n vs w s hm hn).mono ?_
  rw [he]
  rintro e w' ⟨rfl, F', s', g', f'⟩
  refine ⟨rfl, F', s', fun k hk => ?_, b, c, d.thenT f' (fun i hi q => ?_)⟩
  · rcases (g' k hk).1 with q | q
    · exact a k q
    · omega
  · unfold stB at q
    rcases q with q | q
    · have := a i q; omega
    · omega
theorem hold_N {w0 w : World} {gs gp : Nat} {X : DSt} {L M : List Pg} {m : Nat} {e : Int} (p : Int) (h : StN w0 w gs gp X L m) (he : plHold L p = (M, e)) :
    Calls Try.prog 10 #[ptr gs, .int .i64 p] w fun r w' => r = .returned (.int .i64 e) ∧ StN w0 w' gs gp X M m := by
  obtain ⟨F, s, a, b, c, d⟩ := h
  refine (nhold_any p w s).mono ?_
  rw [he]
  rintro e w' ⟨rfl, s', f'⟩
  exact ⟨rfl, F, s', a, b, c, d.thenT f' (fun i hi q => by unfold onB1 at q; omega)⟩
theorem drop_N {w0 w : World} {gs gp : Nat} {X : DSt} {L M : List Pg} {m : Nat} {e : Int} (n : Nat) (p : Int) (h : StN w0 w gs gp X L m) (hm : m ≤ 100000) (hn : muL L < n) (he : dropF X n L p = (M, e)) :
    Calls Try.prog 11 #[ptr gs, .int .i64 p] w fun r w' => r = .returned (.int .i64 e) ∧ StN w0 w' gs gp X M m ∧ Fr (onB1 gp) w w' := by
  obtain ⟨F, s, a, b, c, d⟩ := h
  refine (ndrop_any hm n L p w hn s).mono ?_
  rw [he]
  rintro e w' ⟨rfl, s', f'⟩
  exact ⟨rfl, ⟨F, s', a, b, c, d.thenT f' (fun i hi q => by unfold onB1 at q; omega)⟩, f'⟩
theorem get_N {w0 w : World} {gs gp : Nat} {X : DSt} {L : List Pg} {m : Nat} {R : Nd × Int} (p : Int) (h : StN w0 w gs gp X L m) (hm : m ≤ 100000) (he : getF X L p = R) :
    Calls Try.prog 8 #[ptr gs, .int .i64 p] w fun r w' => NOpenIs w w' R r := by
  obtain ⟨F, s, a, b, c, d⟩ := h
  rw [← he]
  exact nget_any p w s hm
theorem reach_N {w0 w : World} {gs gp : Nat} {X : DSt} {L : List Pg} {m : Nat} {R : (Int → Bool) × Int} (v : Value) (l : List Int) (hl : l.length ≤ 1000000) (h : StN w0 w gs gp X L m) (hm : m ≤ 100000) (hv : SlI .i64 w v l) (he : reachF (getF X L) l = R) :
    Calls Try.prog 37 #[ptr gs, v] w fun r w' => ReachIs w w' R r := by
  obtain ⟨F, s, a, b, c, d⟩ := h
  rw [← he]
  exact reach_any hm v l hl w s hv
theorem pool_N {w0 w : World} {gs gp : Nat} {X : DSt} {L : List Pg} {m : Nat} (h : StN w0 w gs gp X L m) :
    Calls Try.prog 15 #[ptr gs] w fun r w' => r = .returned (ptr gp) ∧ w = w' := by
  obtain ⟨F, s, a, b, c, d⟩ := h
  exact npool_any w s
theorem free_N {w0 w : World} {gs gp : Nat} {X : DSt} {L : List Pg} {m : Nat} {k : Int} (h : StN w0 w gs gp X L m) (hk : ((plFree L : Nat) : Int) = k) :
    Calls Try.prog 18 #[ptr gp] w fun r w' => r = .returned (.int .i64 k) ∧ w = w' := by
  obtain ⟨F, s, a, b, c, d⟩ := h
  rw [← hk]
  exact pfreeN_any s.ok gp w s.pl
theorem StN.ltp {w0 w : World} {gs gp : Nat} {X : DSt} {L : List Pg} {m : Nat} (h : StN w0 w gs gp X L m) : gp < w.heap.size := h.elim fun _ q => q.1.ltp
theorem naB_s {w : World} {base : Nat} {g : Nat} (h : OwnR enC 2 51 w base (.slice (some ⟨g, 0, none⟩) 1 1) [(3, 0)]) : NdS w (.slice (some ⟨g, 0, none⟩) 1 1) naB :=
  ⟨⟨h.sl, by intro x hx; obtain rfl : x = (3, 0) := List.mem_singleton.1 hx; exact ⟨by decide, by decide⟩⟩, naB_ok, by decide, rfl⟩
theorem naA_s (w : World) : NdS w nilS naA := ⟨⟨⟨by simp [naA], Sl.nil w 2⟩, by simp [naA]⟩, naA_ok, by decide, rfl⟩
theorem run_mk1_i64 (x : Int) (w : World) : (Instr.buildSlice 39 1 #[(0, .int .i64 x)]).run Try.prog w = .ok (.slice (some ⟨w.heap.size, 0, none⟩) 1 1) (w.alloc (.cells #[.int .i64 x] 3)) := by simp [go_sem]
set_option maxRecDepth 100000 in
set_option maxHeartbeats 2000000 in
theorem nalive_any (w : World) :
    Calls Try.prog 12 #[] w fun r w' => r = .returned (.bool true) ∧ Fr noB w w' := by
  have hmade := fun W => made_N 10 (by omega) W
  have hU : Up (newD 10) 6 0 := Up.new (n := 10) (by decide)
  have hrd := la_rd hU
  rw [la_new] at hmade
  have hA := fun W gs gp (s : StN w W gs gp (newD 10) la0 0) => make_N naA nilS s (by decide) (naA_s W) (la_mA _)
  obtain ⟨X0, H0⟩ : ∃ X0, Hid (newD 10 = X0) := ⟨_, rfl⟩
  rw [H0.out] at hmade hA hrd
  obtain ⟨X1, H1⟩ : ∃ X1, Hid (X0.write (0 + 4) naA.page = X1) := ⟨_, rfl⟩
  rw [H1.out] at hA hrd
  have hB := fun W gs gp g (s : StN w W gs gp X1 la1 1) h => (show Calls Try.prog _ #[ptr gs, ndV 2 (zerB 16) (.slice (some ⟨g, 0, none⟩) 1 1)] W _ from make_N naB (.slice (some ⟨g, 0, none⟩) 1 1) s (by decide) h (la_mB _))
  obtain ⟨X2, H2⟩ : ∃ X2, Hid (X1.write (1 + 4) naB.page = X2) := ⟨_, rfl⟩
  rw [H2.out] at hB hrd
  obtain ⟨S, hS, hS2⟩ := la_reach hrd
  have hR := fun W gs gp v (s : StN w W gs gp X2 la3 2) (u : SlI .i64 W v [1]) => reach_N v [1] (by decide) s (by decide) u hS
  have g0 : getF X2 la3 0 = (naA, 0) := by unfold getF; rw [la_held0]; exact hrd.1
  have hG := fun W gs gp (s : StN w W gs gp X2 la3 2) => get_N 0 s (by decide) g0
  have hD := fun W gs gp (s : StN w W gs gp X2 la3 2) => drop_N 10 1 s (by decide) la_mu (la_drop hrd)
  have hFr := fun W gs gp (s : StN w W gs gp X2 la0 2) => free_N s (show ((plFree la0 : Nat) : Int) = 6 by rw [la_free]; rfl)
  have hHo := fun W gs gp (s : StN w W gs gp X2 la2 2) => hold_N 1 s la_h
  clear hU g0 hrd
  have hS2' := show Hid _ from hS2
  have hS' := show Hid _ from hS
  clear hS2 hS
  obtain ⟨B7, HB7⟩ : ∃ B7, Hid (na7 = B7) := ⟨_, rfl⟩
  have hb7 := show Hid _ from built_na7
  have hl7 := show Hid _ from na7_len
  rw [HB7.out] at hb7 hl7
  have hbn := show Hid _ from built_ndB 1 B7 hl7.out
  have hAv : Hid (ndV naA.k naA.b nilS = ndV 1 B7 nilS) := by show _ = _; rw [← HB7.out]; rfl
  rw [hAv.out] at hA
  have hb0 : (B7 == B7) = true := by simp
  obtain ⟨Z, HZ⟩ : ∃ Z, Hid (zerB 16 = Z) := ⟨_, rfl⟩
  have hZl : Hid (Z.length = 16) := by show _ = _; rw [← HZ.out]; exact zerB_len 16
  have hbe := fun v h => built_ndE 2 v h
  rw [HZ.out] at hbe hB
  have hone : ∀ n ∈ [(1 : Int)], (Lit.int .i64 n).wf = true := by intro n hn; simp at hn; subst hn; decide
  go_enter Try.func12, Try.ntmps12
  go_wp2_with (first
    | (go_at_call 7; go_must (refine (hmade _).mono ?_; rintro e w1 ⟨gs, gp, rfl, s1⟩))
    | (go_at_call 15; have q := s12; go_must (refine (pool_N s12).mono ?_; rintro e w14 ⟨rfl, rfl⟩))
    | (go_at_call 15; go_must (refine (pool_N s1).mono ?_; rintro e w2 ⟨rfl, rfl⟩))
    | (with_reducible refine at_wpP ?_; refine wpList_blkC rfl rfl B7 hb7.out ?_)
    | (with_reducible refine at_wpP ?_; refine wpList_bldN rfl _ rfl 1 B7 nilS [(0, .int .i64 1), (1, pgV B7)] rfl hbn.out ?_)
    | (go_at_call 9; have q := f5; go_must (refine (hB _ gs gp g5 s5 (naB_s o5)).mono ?_; rintro e w6 ⟨rfl, s6⟩))
    | (go_at_call 9; go_must (refine (hA _ gs gp s1).mono ?_; rintro e w4 ⟨rfl, s4⟩))
    | (with_reducible refine at_wpP ?_; refine wpList_bldE rfl _ _ rfl 3 0 rfl rfl ?_)
    | (with_reducible refine at_wpP ?_; refine wpList_mkE rfl _ rfl (3, 0) rfl ?_; intro g5 w5 o5 f5 r5 t5; have s5 := s4.fr0 f5)
    | (with_reducible refine at_wpP ?_; have q := f5; refine wpList_bldN rfl _ rfl 2 Z (.slice (some ⟨g5, 0, none⟩) 1 1) [(0, .int .i64 2), (2, .slice (some ⟨g5, 0, none⟩) 1 1)] rfl (hbe _ ⟨_, _, _, rfl⟩) ?_)
    | (go_at_call 10; go_must (refine (hHo _ gs gp s6).mono ?_; rintro e w7 ⟨rfl, s7⟩))
    | (with_reducible refine at_wpP ?_; have q := s7; refine wpList_mk1I rfl 39 _ rfl 3 .i64 1 rfl (run_mk1_i64 1) ?_; intro g8 w8 o8 f8 r8 t8; have s8 := s7.fr0 f8; have u8 := OwnI.sl o8 hone)
    | (go_at_call 37; go_must (refine (hR _ gs gp _ s8 u8).mono ?_; rintro e w9 ⟨u, l, rfl, hl9, u9, o9, f9⟩; have s9 := s8.fr0 f9; have hl9 := la_len (hl9 rfl) hS2'.out; obtain ⟨a9, c9, rfl, hc9⟩ := u9.opn; rw [hl9]))
    | (go_at_call 8; go_must (refine (hG _ gs gp s9).mono ?_; rintro e w10 ⟨v, rfl, n10, o10, f10⟩; have hv := NdS.sl n10; have s10 := s9.fr0 f10; rw [show naA.k = 1 from rfl, show naA.b = B7 from HB7.out]))
    | (with_reducible refine at_wpP ?_; have q := n10; refine wpList_allocN rfl rfl ?_; rw [HZ.out]; intro g11 w11 hg11 b11 f11 r11; have l11 := b11.lt; have lp := s10.ltp)
    | (with_reducible refine at_wpP ?_; refine at_st 28 _ _ rfl ?_; go_must (refine wpList_stN rfl _ _ rfl g11 rfl 1 B7 v rfl hl7.out hv 0 Z nilS b11 hZl.out ?_; intro w12 b12 f12; have s11 := s10.own f11 r11 f12))
    | (go_at_call 11; go_must (refine (hD _ gs gp s11).mono ?_; rintro e w13 ⟨rfl, s12, f13⟩; have b13 := BxV.ne b12 f13 (by omega)))
    | (with_reducible refine at_wpP ?_; refine at_ld 25 _ rfl ?_; go_must (refine wpList_ldBlk rfl _ rfl g11 rfl 1 B7 v b13 hl7.out ?_))
    | (with_reducible refine at_wpP ?_; refine wpList_eqlA arr_block rfl _ _ _ rfl B7 B7 rfl rfl hl7.out hl7.out ?_; rw [hb0])
    | (go_at_call 18; go_must (refine (hFr _ gs gp s12).mono ?_; rintro e w15 ⟨rfl, rfl⟩)))
  go_ret
  exact ⟨rfl, s12.fr⟩
end Go.Proofs.Ytamfnjliikiifaa
/- What NodesBack may read of a store, plain. -/
namespace Go.Proofs.Ytamfnjliikiifaa
open Go.RowKit Go.Proofs.U
set_option linter.unusedSimpArgs false
set_option linter.unusedVariables false
theorem held_mark (L : List Pg) (p : Int) : plHeld (plMark L) p = plHeld L p := by
  unfold plHeld plIn
  rw [mark_len]
  congr 1
  unfold plMark
  rw [plAt_map _ _ mark0]
  unfold markP Pg.held
  split
  · rename_i h; simp [h]
  · rfl
/-- What is held can be read. -/
def GoodB (X : DSt) (L : List Pg) : Prop := ∀ p, plHeld L p = true → (rdN X p).2 = 0
theorem GoodB.congr {X : DSt} {L M : List Pg} (h : GoodB X L) (hM : ∀ p, plHeld M p = plHeld L p) : GoodB X M := fun p hp => h p (by rw [← hM]; exact hp)
theorem GoodB.mark {X : DSt} {L : List Pg} (h : GoodB X L) : GoodB X (plMark L) := h.congr (held_mark L)
theorem GoodB.new (X : DSt) (n : Int) : GoodB X (plNew n) := by
  intro p hp
  unfold plHeld plNew plAt Pg.held at hp
  simp only [Bool.and_eq_true] at hp
  have h2 := hp.2
  simp only [List.getD, List.getElem?_replicate] at h2
  split at h2 <;> simp [Pg0] at h2
theorem rdN_write {X : DSt} {N m : Nat} (h : Up X N m) {p : Int} (h0 : 0 ≤ p) (h1 : p < (N : Int)) {n : Nd} (hr : n.right = true) (ho : n.ok) {r : Int} (r0 : 0 ≤ r) (r1 : r < (N : Int)) :
    rdN (X.write (p + 4) n.page) r = if r = p then (n, 0) else rdN X r := by
  unfold rdN
  rw [(h.write h0 h1 (page_len hr ho.1) (page_byt hr ho)).2.2 r r0 r1]
  split
  · exact opN_own hr ho
  · rfl
theorem hold_cases (L : List Pg) (p : Int) : (plHeld L p = false ∧ plHold L p = (L, 73)) ∨ (plHeld L p = true ∧ (plAt L p.toNat).c = 255 ∧ plHold L p = (L, 72)) ∨
    (plHeld L p = true ∧ ¬ (plAt L p.toNat).c = 255 ∧ plHold L p = (L.set p.toNat ⟨(plAt L p.toNat).c + 1, (plAt L p.toNat).s⟩, 0)) := by
  unfold plHeld plHold
  cases h : (plIn L p && (plAt L p.toNat).held) with
  | false => exact Or.inl ⟨rfl, by rw [if_neg (by simp)]⟩
  | true =>
    by_cases hc : (plAt L p.toNat).c = 255
    · exact Or.inr (Or.inl ⟨rfl, hc, by rw [if_pos rfl, if_pos hc]⟩)
    · exact Or.inr (Or.inr ⟨rfl, hc, by rw [if_pos rfl, if_neg hc]⟩)
theorem hold_keeps {L : List Pg} (hL : plOk L) (q p : Int) : plHeld (plHold L q).1 p = plHeld L p := by
  rcases hold_cases L q with ⟨_, e⟩ | ⟨_, _, e⟩ | ⟨hh, hc, e⟩
  · rw [e]
  · rw [e]
  · rw [e]
    obtain ⟨j, rfl, hj⟩ := plHeld_in hh
    simp only [Int.toNat_natCast] at *
    unfold plHeld plIn
    rw [List.length_set]
    congr 1
    rw [plAt_set _ _ _ _ hj]
    by_cases hp : p.toNat = j
    · rw [if_pos hp, hp]
      have h0 := (hL.2 j).1
      have h2 : plHeld L (j : Int) = true := hh
      unfold plHeld at h2
      simp only [Bool.and_eq_true, Int.toNat_natCast] at h2
      rw [h2.2]
      unfold Pg.held
      simp
      omega
    · rw [if_neg hp]
theorem hold_other {L : List Pg} {q : Int} {k : Nat} (h : q ≠ (k : Int)) : plAt (plHold L q).1 k = plAt L k := by
  rcases hold_cases L q with ⟨_, e⟩ | ⟨_, _, e⟩ | ⟨hh, hc, e⟩
  · rw [e]
  · rw [e]
  · rw [e]
    obtain ⟨j, rfl, hj⟩ := plHeld_in hh
    simp only [Int.toNat_natCast] at *
    rw [plAt_set _ _ _ _ hj, if_neg (by intro e2; exact h (by rw [e2]))]
theorem eachHold_keeps (l : List Int) {L : List Pg} (hL : plOk L) (p : Int) : plHeld (eachF plHold L l).1 p = plHeld L p :=
  (eachF_inv (I := fun M => plOk M ∧ plHeld M p = plHeld L p) (fun M q h => ⟨hold_ok h.1 q, by rw [hold_keeps h.1]; exact h.2⟩) l L ⟨hL, rfl⟩).2
theorem eachHold_other {k : Nat} : ∀ (l : List Int) {L : List Pg}, (∀ q ∈ l, q ≠ (k : Int)) → plAt (eachF plHold L l).1 k = plAt L k
  | [], L, _ => rfl
  | q :: l, L, h => by
    by_cases h0 : (plHold L q).2 = 0
    · rw [eachF_cons0 h0, eachHold_other l (fun x hx => h x (by simp [hx])), hold_other (h q (by simp))]
    · rw [eachF_cons1 h0, hold_other (h q (by simp))]
theorem eachHold_err : ∀ (l : List Int) {L : List Pg}, plOk L → (∀ q ∈ l, plHeld L q = true) → (eachF plHold L l).2 = 0 ∨ (eachF plHold L l).2 = 72
  | [], L, _, _ => Or.inl rfl
  | q :: l, L, hL, h => by
    by_cases h0 : (plHold L q).2 = 0
    · rw [eachF_cons0 h0]
      exact eachHold_err l (hold_ok hL q) (fun x hx => by rw [hold_keeps hL]; exact h x (by simp [hx]))
    · rw [eachF_cons1 h0]
      have hq := h q (by simp)
      rcases hold_cases L q with ⟨e, _⟩ | ⟨_, _, e⟩ | ⟨_, _, e⟩
      · rw [e] at hq; cases hq
      · rw [e]; exact Or.inr rfl
      · rw [e] at h0; exact absurd rfl h0
theorem held_set {L : List Pg} {k : Nat} (hk : k < L.length) (x : Pg) (p : Int) : plHeld (L.set k x) p = if p = (k : Int) then x.held else plHeld L p := by
  unfold plHeld plIn
  rw [List.length_set, plAt_set _ _ _ _ hk]
  by_cases hp : p = (k : Int)
  · subst hp
    simp [hk]
  · rw [if_neg hp]
    by_cases h0 : 0 ≤ p
    · rw [if_neg (by omega)]
    · have : decide (0 ≤ p) = false := by simpa using h0
      rw [this]; rfl
theorem free_not_held {L : List Pg} {k : Nat} (h : (plAt L k).free = true) : plHeld L (k : Int) = false := by
  unfold plHeld
  unfold Pg.free at h
  simp only [Bool.and_eq_true, beq_iff_eq] at h
  have : (plAt L k).held = false := by unfold Pg.held; simp [h.1, h.2]
  rw [Int.toNat_natCast, this]
  simp
theorem free_none {L : List Pg} (h : plFree L = 0) : plTake L = (L, 0, 71) := by
  rcases plTake_cases L with ⟨k, hk, hf, _, _⟩ | ⟨_, e⟩
  · unfold plFree at h
    rw [List.countP_eq_zero] at h
    exact absurd (by rw [← plAt_get L k hk]; exact hf) (h L[k] (by simp))
  · exact e
theorem free_some {L : List Pg} (h : ¬ plFree L = 0) : ∃ k, k < L.length ∧ (plAt L k).free = true ∧ plTake L = (L.set k ⟨0, 1⟩, (k : Int), 0) := by
  rcases plTake_cases L with ⟨k, hk, hf, _, e⟩ | ⟨hn, _⟩
  · exact ⟨k, hk, hf, e⟩
  · refine absurd ?_ h
    unfold plFree
    rw [List.countP_eq_zero]
    intro x hx
    obtain ⟨j, hj, rfl⟩ := List.mem_iff_getElem.1 hx
    have := hn j hj
    rw [plAt_get L j hj] at this
    simp [this]
theorem makeB_no (X : DSt) (L : List Pg) {n : Nd} (h : n.right = false) : makeF X L n = ((X, L), -1, 81) := by unfold makeF; rw [h]; rfl
theorem makeB_lack (X : DSt) (L : List Pg) {n : Nd} (h : n.right = true) (ha : (kids n).any (fun p => !plHeld L p) = true) : makeF X L n = ((X, L), -1, 73) := by unfold makeF; rw [h, ha]; rfl
theorem makeB_full (X : DSt) {L : List Pg} {n : Nd} (h : n.right = true) (ha : (kids n).any (fun p => !plHeld L p) = false) (hf : plFree L = 0) : makeF X L n = ((X, L), -1, 71) := by
  unfold makeF
  rw [h, ha, free_none hf]
  rfl
/-- A node that is made: it is there, or some child is held as often as can be. -/
theorem makeB {X : DSt} {L : List Pg} {m : Nat} {n : Nd} (hU : Up X L.length m) (hL : plOk L) (hG : GoodB X L) (hr : n.right = true) (ho : n.ok) (hk : (kids n).any (fun p => !plHeld L p) = false) (hf : ¬ plFree L = 0) :
    ∃ X' L' p e, makeF X L n = ((X', L'), p, e) ∧ GoodB X' L ∧ L'.length = L.length ∧ plOk L' ∧ ((e = 72) ∨
      (e = 0 ∧ getF X' L' p = (n, 0) ∧ (plHold L' p).2 = 0 ∧ GoodB X' (plHold L' p).1)) := by
  obtain ⟨k, hkl, hfr, hT⟩ := free_some hf
  have hnk := free_not_held hfr
  have hki : ∀ q ∈ kids n, plHeld L q = true := by
    intro q hq
    rw [List.any_eq_false] at hk
    have := hk q hq
    simpa using this
  have hok1 : plOk (L.set k ⟨0, 1⟩) := by have := take_ok hL; rw [hT] at this; exact this
  have hki1 : ∀ q ∈ kids n, plHeld (L.set k ⟨0, 1⟩) q = true := by
    intro q hq
    rw [held_set hkl]
    split
    · rfl
    · exact hki q hq
  have hne : ∀ q ∈ kids n, q ≠ (k : Int) := by
    intro q hq e
    have := hki q hq
    rw [e, hnk] at this
    cases this
  have hE := eachHold_err (kids n) hok1 hki1
  have hkeep := eachHold_keeps (kids n) hok1
  have hat := eachHold_other (L := L.set k ⟨0, 1⟩) (kids n) hne
  rw [plAt_set _ _ _ _ hkl, if_pos rfl] at hat
  have hokE : plOk (eachF plHold (L.set k ⟨0, 1⟩) (kids n)).1 := eachF_inv (I := plOk) (fun M p h => hold_ok h p) _ _ hok1
  have hlE : (eachF plHold (L.set k ⟨0, 1⟩) (kids n)).1.length = L.length := (eachF_inv (I := fun M => M.length = L.length) (fun M p h => by rw [hold_len]; exact h) (kids n) (L.set k ⟨0, 1⟩) (by simp))
  have k0 : (0 : Int) ≤ (k : Int) := by omega
  have k1 : (k : Int) < (L.length : Int) := by omega
  have hGX : GoodB (X.write ((k : Int) + 4) n.page) L := by
    intro p hp
    have hrg := plHeld_rng hp
    rw [rdN_write hU k0 k1 hr ho hrg.1 hrg.2]
    split
    · rfl
    · exact hG p hp
  unfold makeF
  rw [hr, hk, hT]
  simp only [if_true, Bool.false_eq_true, if_false]
  rcases hE with hE | hE
  · rw [if_pos hE]
    refine ⟨_, _, _, _, rfl, hGX, hlE, hokE, Or.inr ⟨rfl, ?_, ?_, ?_⟩⟩
    · unfold getF
      rw [hkeep, held_set hkl, if_pos rfl, if_pos (show (Pg.mk 0 1).held = true from rfl), rdN_write hU k0 k1 hr ho k0 k1, if_pos rfl]
    · have hh : plHeld (eachF plHold (L.set k ⟨0, 1⟩) (kids n)).1 (k : Int) = true := by rw [hkeep, held_set hkl, if_pos rfl]; rfl
      rcases hold_cases (eachF plHold (L.set k ⟨0, 1⟩) (kids n)).1 (k : Int) with ⟨e, _⟩ | ⟨_, e, _⟩ | ⟨_, _, e⟩
      · rw [hh] at e; cases e
      · rw [Int.toNat_natCast, hat] at e; exact absurd e (by decide)
      · rw [e]
    · intro p hp
      rw [hold_keeps hokE, hkeep, held_set hkl] at hp
      by_cases e : p = (k : Int)
      · rw [e, rdN_write hU k0 k1 hr ho k0 k1, if_pos rfl]
      · rw [if_neg e] at hp
        exact hGX p hp
  · have h0 : ¬ (eachF plHold (L.set k ⟨0, 1⟩) (kids n)).2 = 0 := by rw [hE]; decide
    rw [if_neg h0]
    exact ⟨_, _, _, _, rfl, hGX, hlE, hokE, Or.inl hE⟩
/-- Whether the children of the first entries can be gotten. -/
def thereB (X : DSt) (L : List Pg) (l : List (Int × Int)) : Bool := l.all fun x => (getF X L x.2).2 == 0
theorem thereB_succ (X : DSt) (L : List Pg) (l : List (Int × Int)) (j : Nat) (h : j < l.length) : thereB X L (l.take (j + 1)) = (thereB X L (l.take j) && ((getF X L l[j].2).2 == 0)) := by
  unfold thereB
  rw [List.take_succ_eq_append_getElem h, List.all_append]
  simp
theorem thereB_kids {X : DSt} {L : List Pg} (hG : GoodB X L) (n : Nd) : thereB X L n.es = !(kids n).any (fun p => !plHeld L p) := by
  unfold thereB kids
  rw [List.any_map, List.not_any_eq_all_not]
  refine congrArg (fun f => List.all n.es f) (funext fun x => ?_)
  simp only [Function.comp, Bool.not_not]
  unfold getF
  cases hh : plHeld L x.2 with
  | false => rfl
  | true => simp [hG x.2 hh]
theorem getF_mark (X : DSt) (L : List Pg) (p : Int) : getF X (plMark L) p = getF X L p := by unfold getF; rw [held_mark]
end Go.Proofs.Ytamfnjliikiifaa
