/- Texts JK, JL of the proof of PruneTrims, one behind the other. -/
import Derived.Test.YtmkinaijkgkgiaaGreatBundlePruneTrims1
import Derived.Test.YtmkinaijkgkgiaaGreatBundlePruneTrims2
import Derived.Test.YtmkinaijkgkgiaaGreatBundlePruneTrims3
import Derived.Test.YtmkinaijkgkgiaaGreatBundlePruneTrims4
import Derived.Test.YtmkinaijkgkgiaaGreatBundlePruneTrims5
import Derived.Test.YtmkinaijkgkgiaaGreatBundlePruneTrims6
import Derived.Test.YtmkinaijkgkgiaaGreatBundlePruneTrims7
import Derived.Test.YtmkinaijkgkgiaaGreatBundlePruneTrims8
import Derived.Test.YtmkinaijkgkgiaaGreatBundlePruneTrims9
import Derived.Test.YtmkinaijkgkgiaaGreatBundlePruneTrims10
import Derived.Test.YtmkinaijkgkgiaaGreatBundlePruneTrims11
import Derived.Test.YtmkinaijkgkgiaaGreatBundlePruneTrims12
import Derived.Test.YtmkinaijkgkgiaaGreatBundlePruneTrims13
import Derived.Test.YtmkinaijkgkgiaaGreatBundlePruneTrims14
import Derived.Test.YtmkinaijkgkgiaaGreatBundlePruneTrims15
import Derived.Test.YtmkinaijkgkgiaaGreatBundlePruneTrims16
import Derived.Test.YtmkinaijkgkgiaaGreatBundlePruneTrims17
import Derived.Test.YtmkinaijkgkgiaaGreatBundlePruneTrims18
import Derived.Test.YtmkinaijkgkgiaaGreatBundlePruneTrims19
/- Trees in memory: put; no condition. -/
namespace Go.Proofs.YtmkinaijkgkgiaaGreat
open Go.RowKit Go.Proofs.U
set_option linter.unusedSimpArgs false
set_option linter.unusedVariables false
theorem SplitIs.pre {w0 w w' : World} {F : Nat → Prop} {gs gp : Nat} {S : (DSt × List Pg) × List (Int × Int) × Int} {m m' : Nat} {r : Ending} (f : Fr noB w0 w) (h : SplitIs w w' F gs gp S m r) (hm : m ≤ m') : SplitIs w0 w' F gs gp S m' r := by
  obtain ⟨F', u, er, s, o, a⟩ := h
  exact ⟨F', u, er, (s.pre f).mono hm, o.rebase f.size, a⟩
theorem wfSm {x : Int} (h0 : -1 ≤ x) (h1 : x ≤ 300) : (Lit.int .i64 x).wf = true := by
  simp [Lit.wf, IntKind.min, IntKind.max, IntKind.signed, IntKind.bits]; omega
theorem mem_withL {l : List (Int × Int)} {x : Int × Int} {i : Int} : ∀ z ∈ withL l x i, z = x ∨ z ∈ l := by
  intro z hz
  unfold withL at hz
  split at hz
  · rcases List.mem_or_eq_of_mem_set hz with h | h
    · exact Or.inr h
    · exact Or.inl h
  · rcases List.mem_append.1 hz with h | h
    · exact Or.inr (List.mem_of_mem_take h)
    · rcases List.mem_cons.1 h with h | h
      · exact Or.inl h
      · exact Or.inr (List.mem_of_mem_drop h)
theorem withL_len (l : List (Int × Int)) (x : Int × Int) (i : Int) : (withL l x i).length ≤ l.length + 1 := by
  unfold withL
  split
  · rw [List.length_set]; omega
  · rw [List.length_append, List.length_cons, List.length_take, List.length_drop]; omega
theorem cellsE {w : World} {g : Nat} {x : Int × Int} (h : EnB w g x) : ∀ q u, (enC x)[q]? = some u → w.cell? ⟨g, 0 + q, none⟩ = some u := fun q u hq => by rw [Nat.zero_add]; exact (h.cell q u hq).1
theorem OwnR.slx {α : Type} {ec : α → List Value} {sz : Nat} {e : TypeId} {w : World} {base : Nat} {v : Value} {l : List α} (h : OwnR ec sz e w base v l) : ∃ a n c, v = .slice a n c := by
  obtain ⟨a, c, hv⟩ := h.opn
  exact ⟨a, _, c, hv⟩
/-- A node's entries are put. -/
theorem NdB.setE {w : World} {g : Nat} {k : Int} {b : List Int} {v : Value} (h : NdB w g k b v) (hb : b.length = 16) (v' : Value) : NdB (w.setCell ⟨g, 17, none⟩ v') g k b v' := by
  have h1 := h.set 17 v'
  have e : (ndL k b v).set 17 v' = ndL k b v' := by
    unfold ndL
    rw [List.set_cons_succ, List.set_append_right _ _ (by rw [pgv_len, hb]; omega), pgv_len, hb]
    rfl
  rw [e] at h1
  exact h1
theorem wpList_stEnt {w : World} {ops : Array Oper} {rest : List Oper} {o : Oper} {a : Act} {Q : Exit → Act → World → Prop} (hgd : Region.wanted o (yielded ops a.tmps) = true) (y z : Operand) (ho : o.op = .store 31 y z) (g : Nat) (hy : a.eval y = .pointer (some ⟨g, 17, none⟩)) (v' : Value) (hz : a.eval z = v') (hv : ∃ a n c, v' = .slice a n c) (k : Int) (b : List Int) (v : Value) (hB : NdB w g k b v) (hb : b.length = 16)
    (h : ∀ w', NdB w' g k b v' → Fr (onB1 g) w w' → wpList Tryz.prog ops Q rest (a.put o.dst undef) w') : wpList Tryz.prog ops Q (o :: rest) a w := by
  refine wpList_wanted hgd fun K hK => ?_
  have hr := run_st1 (P := Tryz.prog) 31 sE_size v' (sl_one hv) 72 (ndL k b v) hB (off := 17) (by rw [ndL_len k b v hb]; decide)
  have hrun : (execOp a.eval o).run Tryz.prog w = .ok .skip (w.setCell ⟨g, 17, none⟩ v') := by
    simp only [execOp, ho]
    simp [hy, hz, hr, Result.andThen]
  unfold Oper.wp
  rw [hrun]
  refine hK _ _ (h _ (hB.setE hb v') ?_)
  exact (Fr.refl _ w).setCell ⟨g, 17, none⟩ v' (fun _ => rfl)
set_option maxRecDepth 100000 in
set_option maxHeartbeats 2000000 in
theorem put_at0 {F : Nat → Prop} {gs gp : Nat} {X : DSt} {L : List Pg} {R : List Int} {T : List Nat} {m : Nat} (hI : InvT X L R T) (hm : m ≤ 90000) {p lo hi : Int} (k : okT X 0 p lo hi) (h0 : 0 ≤ p) (hp : 0 < cntT L T p.toNat) (x : Int × Int) (d : Int) (hd : d < 8) (w : World) (h : Sto w F gs gp X L m)
    (hz : 0 ≤ x.1 ∧ x.1 ≤ 63 ∧ lo ≤ x.1 ∧ x.1 < hi) (hz2 : 0 ≤ x.2 ∧ 0 < cntT L T x.2.toNat) :
    Calls Tryz.prog 31 #[trV gs, .int .i64 p, enV x, .int .i64 d] w fun r w' => SplitIs w w' F gs gp (putF X L 0 p x) (m + 2) r := by
  have hO := fun W (f : Fr noB w W) => open_tree hI (by omega) k h0 hp d hd (h.fr0 f)
  have hk2 : (rdN X p).1.k = 2 := k.kd
  have hlow := hI.low hz2.2
  have hwx : (Lit.int .i64 x.1).wf = true ∧ (Lit.int .i64 x.2).wf = true := ⟨wfSm (by omega) (by omega), wfSm (by omega) (by omega)⟩
  have hpl : ∀ i, AtIs (esX X p) x.1 i → splF (X, L) 2 (withL (esX X p) x i) = putF X L 0 p x := fun i hi' => by rw [with_put k.es.1 hi']; rfl
  obtain ⟨S, HS⟩ : ∃ S, Hid (putF X L 0 p x = S) := ⟨_, rfl⟩
  rw [HS.out] at hpl ⊢
  obtain ⟨N, HN⟩ : ∃ N, Hid ((rdN X p).1 = N) := ⟨_, rfl⟩
  have hes : esX X p = N.es := by rw [← HN.out]; rfl
  rw [HN.out] at hO hk2
  have hl6 : N.es.length ≤ 6 := by rw [← hes]; exact k.es.2.2.1
  rw [hes] at hpl
  clear hes HN
  obtain ⟨nk, nb, nes⟩ := N
  simp only at hk2 hl6 hpl
  subst hk2
  have hFt := h.ft
  have hgs := h.lts
  have hgp := h.ltp
  go_enter Tryz.func31, Tryz.ntmps31
  go_upto_region 6 with (first
    | (with_reducible refine at_wpP ?_; refine wpList_boxG rfl 26 _ rfl (trV gs) [ptr gs] rfl rfl ?_; intro g4 w4 hg4 b4 f4 s4; have l4 := b4.lt; have z4 := f4.size)
    | (go_at_call 52; go_must (refine (hO _ (f4.thenN f2)).mono ?_; rintro e w5 ⟨v, rfl, n5, o5, f5, q5⟩; have z5 := f5.size; have hv := NdS.sl n5; have hbl := NdS.bl n5; have B4 := (b4.fr0 f2).fr0 f5; have B6 := c6.fr0 f5))
    | (with_reducible refine at_wpP ?_; have q := n5; refine wpList_allocN rfl rfl ?_; intro g10 w6 hg10 b10 f6 s6; have l6 := b10.lt; have z6 := f6.size)
    | (with_reducible refine at_wpP ?_; refine at_st 72 _ _ rfl ?_; have q := b10; go_must (refine wpList_stN rfl _ _ rfl g10 rfl 2 nb v rfl hbl.out hv 0 (zerB 16) nilS b10 (zerB_len 16) ?_; intro w7 b7 f7; have z7 := f7.size; have q7 := NdB.kind b7; have e7 := NdB.ents b7 hbl.out; have F7 := Fr.ownX f6 s6 f7; have N7 := n5.fr0 F7; have D4 := B4.fr0 F7; have D6 := B6.fr0 F7; have r6 := EnB.all D6; have C6 := cellsE D6))
    | (with_reducible refine at_wpP ?_; refine at_ld 26 _ rfl ?_; have q := E4; go_must (refine wpList_ldT rfl _ rfl g4 rfl gs E4 ?_))
    | (with_reducible refine at_wpP ?_; refine at_ld 26 _ rfl ?_; have q := D4; go_must (refine wpList_ldT rfl _ rfl g4 rfl gs D4 ?_))
    | (with_reducible refine at_wpP ?_; refine at_ld 26 _ rfl ?_; go_must (refine wpList_ldT rfl _ rfl g4 rfl gs (b4.fr0 f2) ?_))
    | (with_reducible refine at_wpP ?_; refine wpList_boxG rfl 40 _ rfl (enV x) (enC x) rfl rfl ?_; intro g6 w2 hg6 c6 f2 s2; have l66 := c6.lt; have z2 := f2.size)
    | (with_reducible refine at_wpP ?_; refine at_ld 40 _ rfl ?_; have q := C6; go_must (refine wpList_ldE rfl _ rfl g6 0 rfl x C6 ?_))
    | (go_at_call 53; go_must (refine (with_any (base := w2.heap.size) (l := nes) (v := v) x (by omega) (q5.fr0 F7) N7.1.2 (by omega)).mono ?_; rintro e w8 ⟨i, hi8, v8, rfl, o8, f8, p8⟩; have z8 := f8.size; have B10 := b7.fr f8 (fun q => by have := o5 _ q; have := (q5.newB _ q).2; omega); have hv8 := OwnR.slx o8))
    | (with_reducible refine at_wpP ?_; refine at_st 31 _ _ rfl ?_; go_must (refine wpList_stEnt rfl _ _ rfl g10 rfl v8 rfl hv8 2 nb v B10 hbl.out ?_; intro w9 b9 f9; have z9 := f9.size)))
  have hvb : ∀ q, v.ownBlock = some q → w2.heap.size ≤ q ∧ q < w5.heap.size := fun q hq => ⟨o5 q hq, (q5.newB q hq).2⟩
  have F25 : Fr noB w w7 := ((f4.thenN f2).thenN f5).thenN F7
  have F8 : Fr noB w w8 := F25.thenT f8 (fun i hi q => by have := hvb i q; omega)
  have F9 : Fr noB w w9 := F8.thenT f9 (fun i hi q => by unfold onB1 at q; omega)
  have E4 := (D4.fr f8 (fun q => by have := hvb _ q; omega)).fr f9 (fun q => by unfold onB1 at q; omega)
  have o8b : ∀ q, v8.ownBlock = some q → (w2.heap.size ≤ q ∧ q < w5.heap.size) ∨ w7.heap.size ≤ q := fun q hq => (p8 q hq).imp (hvb q) id
  have o9 : EnO w9 w2.heap.size v8 (withL nes x i) := o8.fr f9 (fun q hq hq' => by
    unfold onB1 at hq'
    subst hq'
    rcases o8b _ hq with h | h <;> omega)
  have H9 := h.fr0 F9
  have hmem := mem_withL (l := nes) (x := x) (i := i)
  have n9 : NdS w9 v8 ⟨2, nb, withL nes x i⟩ := ⟨⟨o9.sl, fun z hz => (hmem z hz).elim (fun e => by rw [e]; exact hwx) (fun e => N7.1.2 z e)⟩, n5.2.1, by have := withL_len nes x i; show (withL nes x i).length ≤ 1000; omega, rfl⟩
  have hS := hpl i hi8
  have hSp := split_any 2 nb (withL nes x i) v8 w9 H9 (by omega) n9 (fun q hq => by
    have h1 := (o9.newB q hq)
    exact ⟨fun q' => by have := hFt q q'; omega, by omega, h1.2⟩)
  rw [hS] at hSp
  clear hpl hS
  go_wp2_with (first
    | (with_reducible refine at_wpP ?_; refine at_ld 26 _ rfl ?_; go_must (refine wpList_ldT rfl _ rfl g4 rfl gs E4 ?_))
    | (with_reducible refine at_wpP ?_; refine at_ld 72 _ rfl ?_; go_must (refine wpList_ldN rfl _ rfl g10 rfl 2 nb v8 b9 hbl.out ?_))
    | (go_at_call 32; go_must (refine hSp.mono ?_; intro e w10 hq; obtain ⟨F', u, he, s10, o10, a10⟩ := hq; subst he)))
  go_ret2
  exact SplitIs.pre F9 ⟨F', u, rfl, s10, o10, a10⟩ (Nat.le_refl _)
/-- While the child is put into. -/
def JPt (w0 : World) (F : Nat → Prop) (gp : Nat) (Q : Value → World → Prop) (e : Int) : List Value → World → Prop
  | [], W => W = w0
  | [v], W => ∃ u, v = .tuple #[u, .int .i64 e] ∧ Q u W ∧ Fr (stB F gp) w0 W
  | [_, v], W => ∃ u, v = .tuple #[u, .int .i64 e] ∧ Q u W ∧ Fr (stB F gp) w0 W
  | [_, v, u], W => v = .tuple #[u, .int .i64 e] ∧ Q u W ∧ Fr (stB F gp) w0 W
  | [_, v, _, u], W => v = .tuple #[u, .int .i64 e] ∧ Q u W ∧ Fr (stB F gp) w0 W
  | _, _ => False
theorem JPt.fr {w0 : World} {F : Nat → Prop} {gp : Nat} {Q : Value → World → Prop} {e : Int} : ∀ {hv : List Value} {W : World}, JPt w0 F gp Q e hv W → Fr (stB F gp) w0 W
  | [], _, h => by cases h; exact Fr.refl _ _
  | [_], _, h => by obtain ⟨_, _, _, f⟩ := h; exact f
  | [_, _], _, h => by obtain ⟨_, _, _, f⟩ := h; exact f
  | [_, _, _], _, h => by obtain ⟨_, _, f⟩ := h; exact f
  | [_, _, _, _], _, h => by obtain ⟨_, _, f⟩ := h; exact f
  | _ :: _ :: _ :: _ :: _ :: _, _, h => h.elim
theorem JPt.two {w0 : World} {F : Nat → Prop} {gp : Nat} {Q : Value → World → Prop} {e : Int} {x : Value} : ∀ {hv : List Value} {W : World}, JPt w0 F gp Q e hv W → hv[1]? = some x → ∃ u, x = .tuple #[u, .int .i64 e]
  | [], _, _, hx => by cases hx
  | [_], _, _, hx => by cases hx
  | [_, _], _, h, hx => by cases hx; obtain ⟨u, e, _⟩ := h; exact ⟨u, e⟩
  | [_, _, u], _, h, hx => by cases hx; obtain ⟨e, _⟩ := h; exact ⟨u, e⟩
  | [_, _, _, u], _, h, hx => by cases hx; obtain ⟨e, _⟩ := h; exact ⟨u, e⟩
  | _ :: _ :: _ :: _ :: _ :: _, _, h, _ => h.elim
/-- What the put below hands on. -/
def QPt (w0 : World) (F : Nat → Prop) (gs gp : Nat) (S : DSt × List Pg) (m : Nat) (below : List (Int × Int)) (u : Value) (W : World) : Prop := ∃ F', StT w0 W F F' gs gp S m ∧ EnO W w0.heap.size u below ∧ ∀ k, u.ownBlock = some k → ¬ F' k
set_option maxRecDepth 100000 in
set_option maxHeartbeats 4000000 in
theorem put_atS {F : Nat → Prop} {gs gp : Nat} {X : DSt} {L : List Pg} {R : List Int} {T : List Nat} {m lv : Nat} (hI : InvT X L R T) (hm : m ≤ 80000) (hlv : lv ≤ 10) {p lo hi : Int} (k : okT X (lv + 1) p lo hi) (h0 : 0 ≤ p) (hp : 0 < cntT L T p.toNat) (x : Int × Int) (d : Int) (hd0 : 0 ≤ d) (hd : d < 8) (w : World) (h : Sto w F gs gp X L m)
    (hz : 0 ≤ x.1 ∧ x.1 ≤ 63 ∧ lo ≤ x.1 ∧ x.1 < hi) (hz2 : 0 ≤ x.2 ∧ 0 < cntT L T x.2.toNat) (hlo : 0 ≤ lo) (hhi : hi ≤ 64)
    (hrec : ∀ (W : World), Sto W F gs gp X L m → Calls Tryz.prog 31 #[trV gs, .int .i64 ((esX X p).getD (pickX (esX X p) x.1) (0, 0)).2, enV x, .int .i64 (d + 1)] W fun r w' => SplitIs W w' F gs gp (putF X L lv ((esX X p).getD (pickX (esX X p) x.1) (0, 0)).2 x) (m + 2 * (lv + 1)) r) :
    Calls Tryz.prog 31 #[trV gs, .int .i64 p, enV x, .int .i64 d] w fun r w' => SplitIs w w' F gs gp (putF X L (lv + 1) p x) (m + 2 * (lv + 2)) r := by
  have hO := fun W (f : Fr noB w W) => open_tree hI (by omega) k h0 hp d hd (h.fr0 f)
  have hk2 : (rdN X p).1.k = 3 := k.kd
  have hE := (putF_E hI ⟨hz.1, hz.2.1⟩ hz2 (lv + 1) h.up k h0 hp hlo hhi hz.2.2.1 hz.2.2.2).2
  have hri := k.rises
  obtain ⟨hj, _⟩ := pick_is (key := x.1) hri k.es.2.1
  have hatm : ∀ i, AtIs (esX X p) x.1 i → max i 0 = ((pickX (esX X p) x.1 : Nat) : Int) := fun i hi' => by rw [at_eq hri hi']; unfold pickX; omega
  have hwf : ∀ y ∈ esX X p, (Lit.int .i64 y.1).wf = true ∧ (Lit.int .i64 y.2).wf = true := fun y hy => by
    have := k.es.2.2.2 y hy
    exact ⟨wfSm (by omega) (by omega), wfSm (by omega) (by omega)⟩
  have hl6 := k.es.2.2.1
  have hbel := putF_len hI ⟨hz.1, hz.2.1⟩ hz2 lv h.up k h0 hp hlo hhi hz.2.2.1 hz.2.2.2
  unfold putF
  obtain ⟨N, HN⟩ : ∃ N, Hid ((rdN X p).1 = N) := ⟨_, rfl⟩
  have hes : esX X p = N.es := by rw [← HN.out]; rfl
  rw [HN.out] at hO hk2
  rw [hes] at hrec hj hatm hwf hl6 hbel ⊢
  clear hes HN hri hE
  obtain ⟨nk, nb, nes⟩ := N
  simp only at hk2 hrec hj hatm hwf hl6 hbel ⊢
  subst hk2
  obtain ⟨j, HJ⟩ : ∃ j, Hid (pickX nes x.1 = j) := ⟨_, rfl⟩
  rw [HJ.out] at hrec hj hatm hbel ⊢
  obtain ⟨c, Hc⟩ : ∃ c : Int × Int, Hid (nes.getD j (0, 0) = c) := ⟨_, rfl⟩
  rw [Hc.out] at hrec hbel ⊢
  have Hcj : Hid (nes[j] = c) := by show _ = _; rw [← Hc.out]; simp [List.getD, hj]
  obtain ⟨S, HS⟩ : ∃ S, Hid (putF X L lv c.2 x = S) := ⟨_, rfl⟩
  rw [HS.out] at hrec hbel ⊢
  obtain ⟨⟨X1, L1⟩, below, e⟩ := S
  simp only at hrec hbel ⊢
  have hFt := h.ft
  have hgs := h.lts
  have hgp := h.ltp
  have hw1 : IntKind.i64.wrap (d + 1) = d + 1 := wrap_sm (by omega)
  obtain ⟨Z, HZ⟩ : ∃ Z, Hid ((if e = 0 then splF (X1, L1) 3 (nes.take j ++ (below ++ nes.drop (j + 1))) else ((X1, L1), [], e)) = Z) := ⟨_, rfl⟩
  rw [HZ.out]
  go_enter Tryz.func31, Tryz.ntmps31
  go_upto_region 8 with (first
    | (with_reducible refine at_wpP ?_; refine wpList_boxG rfl 26 _ rfl (trV gs) [ptr gs] rfl rfl ?_; intro g4 w4 hg4 b4 f4 s4; have l4 := b4.lt; have z4 := f4.size)
    | (go_at_call 52; go_must (refine (hO _ (f4.thenN f2)).mono ?_; rintro e w5 ⟨v, rfl, n5, o5, f5, q5⟩; have z5 := f5.size; have hv := NdS.sl n5; have hbl := NdS.bl n5; have B4 := (b4.fr0 f2).fr0 f5; have B6 := c6.fr0 f5))
    | (with_reducible refine at_wpP ?_; have q := n5; refine wpList_allocN rfl rfl ?_; intro g10 w6 hg10 b10 f6 s6; have l6 := b10.lt; have z6 := f6.size)
    | (with_reducible refine at_wpP ?_; refine at_st 72 _ _ rfl ?_; have q := b10; go_must (refine wpList_stN rfl _ _ rfl g10 rfl 3 nb v rfl hbl.out hv 0 (zerB 16) nilS b10 (zerB_len 16) ?_; intro w7 b7 f7; have z7 := f7.size; have q7 := NdB.kind b7; have e7 := NdB.ents b7 hbl.out; have F7 := Fr.ownX f6 s6 f7; have N7 := n5.fr0 F7; have D4 := B4.fr0 F7; have D6 := B6.fr0 F7; have r6 := EnB.all D6; have C6 := cellsE D6))
    | (with_reducible refine at_wpP ?_; refine at_ld 26 _ rfl ?_; have q := E4; go_must (refine wpList_ldT rfl _ rfl g4 rfl gs E4 ?_))
    | (with_reducible refine at_wpP ?_; refine at_ld 26 _ rfl ?_; have q := D4; go_must (refine wpList_ldT rfl _ rfl g4 rfl gs D4 ?_))
    | (with_reducible refine at_wpP ?_; refine at_ld 26 _ rfl ?_; go_must (refine wpList_ldT rfl _ rfl g4 rfl gs (b4.fr0 f2) ?_))
    | (with_reducible refine at_wpP ?_; refine wpList_boxG rfl 40 _ rfl (enV x) (enC x) rfl rfl ?_; intro g6 w2 hg6 c6 f2 s2; have l66 := c6.lt; have z2 := f2.size)
    | (go_at_call 54; go_must (refine (at_any v nes x.1 _ N7.1 (by omega)).mono ?_; rintro e8 w8 ⟨i, rfl, hi8, f8⟩; have z8 := f8.size; have hmax := hatm i hi8)))
  have F8 : Fr noB w w8 := (((f4.thenN f2).thenN f5).thenN F7).thenN f8
  have F58 : Fr noB w5 w8 := F7.thenN f8
  have O8 := q5.fr0 F58
  rcases EnO.parts O8 with ⟨_, hnil⟩ | ⟨gv, cv, cur, hvv, hbv, hBv, hnc, hcm, hcl, hct⟩
  · have hnil : nes = [] := hnil
    rw [hnil] at hj; simp at hj
  try simp only at hvv hnc hct
  subst hvv
  have lgv := hBv.lt
  have gv5 := (q5.newB gv rfl).2
  clear hatm hv
  obtain ⟨w0, HW⟩ : ∃ w0, Hid (w8.drew = w0) := ⟨_, rfl⟩
  have f0 : Fr noB w8 w0 := by rw [← HW.out]; exact (Fr.refl _ _).drew
  have z0 := f0.size
  have H0 := h.fr0 (F8.thenN f0)
  have E4 := (D4.fr0 f8).fr0 f0
  have E6 := (D6.fr0 f8).fr0 f0
  have E10 := (b7.fr0 f8).fr0 f0
  have x10 := NdB.ents E10 hbl.out
  have hc2 : w0.cell? ⟨gv, j * 2 + 1, none⟩ = some (.int .i64 c.2) := by
    have hr := (O8.fr0 f0).rangeK j hj
    rw [Hcj.out] at hr
    exact hr 1 _ rfl
  have hnew : ∀ q, w.heap.size ≤ q → ¬ stB F gp q := fun q hq s => by
    rcases s with s | s
    · have := hFt q s; omega
    · omega
  have n4 := hnew g4 (by omega)
  have n6 := hnew g6 (by omega)
  have n10 := hnew g10 (by omega)
  have nv := hnew gv (by omega)
  refine wp_region_chain_layT (by kernel_rfl) [10, 11, 12, 14] [none, none, none, none, none, none, none, none, none, none, some 0, some 1, some 2, none, some 3, none]
    [fun v => v = trV gs, fun v => v = .pointer (some ⟨g10, 17, none⟩), fun v => v = .slice (some ⟨gv, 0, none⟩) nes.length cv, fun v => v = .int .i64 (j : Int), fun v => v = .pointer (some ⟨gv, j * 2, none⟩), fun v => v = .pointer (some ⟨gv, j * 2 + 1, none⟩), fun v => v = .int .i64 c.2, fun v => v = enV x, fun v => v = .int .i64 d, fun v => v = .int .i64 (d + 1), fun _ => True, fun _ => True, fun _ => True, fun v => v = .int .i64 e, fun _ => True, fun v => v = .int .i64 e]
    (JPt w0 F gp (QPt w0 F gs gp (X1, L1) (m + 2 * (lv + 1)) below) e) (HW.out) (by kernel_rfl) (by kernel_rfl) (by decide) ⟨?o0, ?o1, ?o2, ?o3, ?o4, ?o5, ?o6, ?o7, ?o8, ?o9, ?o10, ?o11, ?o12, ?o13, ?o14, ?o15, trivial⟩ ?oe
  case o0 =>
    intro A W hv hlen hJ hbase hdL hdH
    have e4 : A.eval (.tmp 4) = .pointer (some ⟨g4, 0, none⟩) := hbase 4 (by kernel_rfl)
    have f4 : A.tmps[4]?.getD undef = .pointer (some ⟨g4, 0, none⟩) := by simpa [Act.eval] using e4
    have hr := run_ldT (E4.fr (JPt.fr hJ) n4)
    exact light_val rfl (v := trV gs) (by simp [execOp, e4, hr, Result.andThen]) hJ rfl
  case o1 =>
    intro A W hv hlen hJ hbase hdL hdH
    have e10 : A.eval (.tmp 10) = .pointer (some ⟨g10, 0, none⟩) := hbase 10 (by kernel_rfl)
    have f10 : A.tmps[10]?.getD undef = .pointer (some ⟨g10, 0, none⟩) := by simpa [Act.eval] using e10
    exact light_val rfl (v := .pointer (some ⟨g10, 17, none⟩)) (by simp [execOp, go_sem, e10, f10]) hJ rfl
  case o2 =>
    intro A W hv hlen hJ hbase hdL hdH
    have e45 : A.eval (.tmp 45) = .pointer (some ⟨g10, 17, none⟩) := hdL 1 45 (by kernel_rfl) (by kernel_rfl) (by kernel_rfl)
    have f45 : A.tmps[45]?.getD undef = .pointer (some ⟨g10, 17, none⟩) := by simpa [Act.eval] using e45
    have hc := (JPt.fr hJ).cell x10 (n10)
    exact light_val rfl (v := .slice (some ⟨gv, 0, none⟩) nes.length cv) (by simp [execOp, go_sem, e45, f45, hc]) hJ rfl
  case o3 =>
    intro A W hv hlen hJ hbase hdL hdH
    have e12 : A.eval (.tmp 12) = .int .i64 (j : Int) := hbase 12 (by kernel_rfl)
    have f12 : A.tmps[12]?.getD undef = .int .i64 (j : Int) := by simpa [Act.eval] using e12
    exact light_val rfl (v := .int .i64 (j : Int)) (by simp [execOp, e12, f12]) hJ rfl
  case o4 =>
    intro A W hv hlen hJ hbase hdL hdH
    have e46 : A.eval (.tmp 46) = .slice (some ⟨gv, 0, none⟩) nes.length cv := hdL 2 46 (by kernel_rfl) (by kernel_rfl) (by kernel_rfl)
    have f46 : A.tmps[46]?.getD undef = .slice (some ⟨gv, 0, none⟩) nes.length cv := by simpa [Act.eval] using e46
    have e47 : A.eval (.tmp 47) = .int .i64 (j : Int) := hdL 3 47 (by kernel_rfl) (by kernel_rfl) (by kernel_rfl)
    have f47 : A.tmps[47]?.getD undef = .int .i64 (j : Int) := by simpa [Act.eval] using e47
    have hr := run_idxO (P := Tryz.prog) (w := W) (sz := 2) 31 40 uE en_size gv nes.length cv .i64 j hj
    exact light_val rfl (v := .pointer (some ⟨gv, j * 2, none⟩)) (by simp [execOp, e46, e47, hr, Result.andThen]) hJ rfl
  case o5 =>
    intro A W hv hlen hJ hbase hdL hdH
    have e48 : A.eval (.tmp 48) = .pointer (some ⟨gv, j * 2, none⟩) := hdL 4 48 (by kernel_rfl) (by kernel_rfl) (by kernel_rfl)
    have f48 : A.tmps[48]?.getD undef = .pointer (some ⟨gv, j * 2, none⟩) := by simpa [Act.eval] using e48
    exact light_val rfl (v := .pointer (some ⟨gv, j * 2 + 1, none⟩)) (by simp [execOp, go_sem, e48, f48]) hJ rfl
  case o6 =>
    intro A W hv hlen hJ hbase hdL hdH
    have e49 : A.eval (.tmp 49) = .pointer (some ⟨gv, j * 2 + 1, none⟩) := hdL 5 49 (by kernel_rfl) (by kernel_rfl) (by kernel_rfl)
    have f49 : A.tmps[49]?.getD undef = .pointer (some ⟨gv, j * 2 + 1, none⟩) := by simpa [Act.eval] using e49
    have hc := (JPt.fr hJ).cell hc2 (nv)
    exact light_val rfl (v := .int .i64 c.2) (by simp [execOp, go_sem, e49, f49, hc]) hJ rfl
  case o7 =>
    intro A W hv hlen hJ hbase hdL hdH
    have e6 : A.eval (.tmp 6) = .pointer (some ⟨g6, 0, none⟩) := hbase 6 (by kernel_rfl)
    have f6 : A.tmps[6]?.getD undef = .pointer (some ⟨g6, 0, none⟩) := by simpa [Act.eval] using e6
    have hr := run_ldE W g6 0 x (cellsE (E6.fr (JPt.fr hJ) n6))
    exact light_val rfl (v := enV x) (by simp [execOp, e6, hr, Result.andThen]) hJ rfl
  case o8 =>
    intro A W hv hlen hJ hbase hdL hdH
    have e3 : A.eval (.tmp 3) = .int .i64 d := hbase 3 (by kernel_rfl)
    have f3 : A.tmps[3]?.getD undef = .int .i64 d := by simpa [Act.eval] using e3
    exact light_val rfl (v := .int .i64 d) (by simp [execOp, e3, f3]) hJ rfl
  case o9 =>
    intro A W hv hlen hJ hbase hdL hdH
    have e52 : A.eval (.tmp 52) = .int .i64 d := hdL 8 52 (by kernel_rfl) (by kernel_rfl) (by kernel_rfl)
    have f52 : A.tmps[52]?.getD undef = .int .i64 d := by simpa [Act.eval] using e52
    exact light_val rfl (v := .int .i64 (d + 1)) (by simp [execOp, go_sem, e52, f52, hw1]) hJ rfl
  case o10 =>
    intro A W hv hlen hJ hbase hdL hdH
    have e44 : A.eval (.tmp 44) = trV gs := hdL 0 44 (by kernel_rfl) (by kernel_rfl) (by kernel_rfl)
    have f44 : A.tmps[44]?.getD undef = trV gs := by simpa [Act.eval] using e44
    have e50 : A.eval (.tmp 50) = .int .i64 c.2 := hdL 6 50 (by kernel_rfl) (by kernel_rfl) (by kernel_rfl)
    have f50 : A.tmps[50]?.getD undef = .int .i64 c.2 := by simpa [Act.eval] using e50
    have e51 : A.eval (.tmp 51) = enV x := hdL 7 51 (by kernel_rfl) (by kernel_rfl) (by kernel_rfl)
    have f51 : A.tmps[51]?.getD undef = enV x := by simpa [Act.eval] using e51
    have e53 : A.eval (.tmp 53) = .int .i64 (d + 1) := hdL 9 53 (by kernel_rfl) (by kernel_rfl) (by kernel_rfl)
    have f53 : A.tmps[53]?.getD undef = .int .i64 (d + 1) := by simpa [Act.eval] using e53
    obtain rfl : hv = [] := List.eq_nil_of_length_eq_zero hlen
    obtain rfl := (show W = _ from hJ)
    refine heavy_call rfl (args := #[trV gs, .int .i64 c.2, enV x, .int .i64 (d + 1)]) (f := 31) (by simp [execOp, resolve, invoke, go_sem, e44, f44, e50, f50, e51, f51, e53, f53]) ?_
    refine (hrec _ H0).mono ?_
    rintro e1 w' ⟨F', u, he, s, o, a⟩
    subst he
    exact ⟨_, rfl, u, rfl, ⟨F', s, o, a⟩, s.fr⟩
  case o11 =>
    intro A W hv hlen hJ hbase hdL hdH
    obtain ⟨v54, rfl⟩ := List.length_eq_one_iff.1 hlen
    obtain ⟨u, rfl, hQ, f'⟩ := hJ
    have e54 : A.eval (.tmp 54) = .tuple #[u, .int .i64 e] := by have := hdH 10 54 0 (by kernel_rfl) rfl (by kernel_rfl); simpa using this.symm
    have f54 : A.tmps[54]?.getD undef = .tuple #[u, .int .i64 e] := by simpa [Act.eval] using e54
    exact heavy_val rfl (v := .tuple #[u, .int .i64 e]) (by simp [execOp, go_sem, e54, f54]) ⟨u, rfl, hQ, f'⟩
  case o12 =>
    intro A W hv hlen hJ hbase hdL hdH
    match hv, hlen with
    | [v54, v43], _ =>
      obtain ⟨u, rfl, hQ, f'⟩ := hJ
      have e43 : A.eval (.tmp 43) = .tuple #[u, .int .i64 e] := by have := hdH 11 43 1 (by kernel_rfl) rfl (by kernel_rfl); simpa using this.symm
      have f43 : A.tmps[43]?.getD undef = .tuple #[u, .int .i64 e] := by simpa [Act.eval] using e43
      exact heavy_val rfl (v := u) (by simp [execOp, go_sem, e43, f43]) ⟨rfl, hQ, f'⟩
  case o13 =>
    intro A W hv hlen hJ hbase hdL hdH
    obtain ⟨u, e43⟩ := hJ.two (hdH 11 43 1 (by kernel_rfl) rfl (by kernel_rfl))
    have f43 : A.tmps[43]?.getD undef = .tuple #[u, .int .i64 e] := by simpa [Act.eval] using e43
    exact light_val rfl (v := .int .i64 e) (by simp [execOp, go_sem, e43, f43]) hJ rfl
  case o14 =>
    intro A W hv hlen hJ hbase hdL hdH
    match hv, hlen with
    | [v54, v43, u], _ =>
      obtain ⟨rfl, hQ, f'⟩ := hJ
      have e55 : A.eval (.tmp 55) = u := by have := hdH 12 55 2 (by kernel_rfl) rfl (by kernel_rfl); simpa using this.symm
      have f55 : A.tmps[55]?.getD undef = u := by simpa [Act.eval] using e55
      exact heavy_val rfl (v := u) (by simp [execOp, go_sem, e55, f55]) ⟨rfl, hQ, f'⟩
  case o15 =>
    intro A W hv hlen hJ hbase hdL hdH
    have e56 : A.eval (.tmp 56) = .int .i64 e := hdL 13 56 (by kernel_rfl) (by kernel_rfl) (by kernel_rfl)
    have f56 : A.tmps[56]?.getD undef = .int .i64 e := by simpa [Act.eval] using e56
    exact light_val rfl (v := .int .i64 e) (by simp [execOp, e56, f56]) hJ rfl
  case oe =>
    intro vs W' hv hlen hJ hL hH
    match hv, hlen with
    | [v54, v43, v55, u], _ =>
      obtain ⟨e43, ⟨F1, s9, o9, a9⟩, fR⟩ := hJ
      have x3 : vs 14 = u := by have := hH 3 14 rfl (by kernel_rfl); simpa using this.symm
      have x4 : vs 15 = .int .i64 e := hL 15 (by kernel_rfl) (by kernel_rfl)
      simp only [layL, Nat.reduceAdd, Act.put, List.setIfInBounds_toArray, List.set_cons_zero, List.set_cons_succ, x3, x4]
      clear hL hH x3 x4 e43
      generalize vs 0 = y100 at *
      generalize vs 1 = y101 at *
      generalize vs 2 = y102 at *
      generalize vs 3 = y103 at *
      generalize vs 4 = y104 at *
      generalize vs 5 = y105 at *
      generalize vs 6 = y106 at *
      generalize vs 7 = y107 at *
      generalize vs 8 = y108 at *
      generalize vs 9 = y109 at *
      generalize vs 10 = y110 at *
      generalize vs 11 = y111 at *
      generalize vs 12 = y112 at *
      generalize vs 13 = y113 at *
      have F80 := F8.thenN f0
      have E4' := E4.fr fR n4
      have E10' := E10.fr fR n10
      have zW := fR.size
      have OV : EnO W' w2.heap.size (.slice (some ⟨gv, 0, none⟩) nes.length cv) nes := (O8.fr0 f0).fr fR (fun q hq => by
        have : q = gv := by simp [Value.ownBlock] at hq; exact hq.symm
        subst this; exact nv)
      have hF0 : ∀ q, F q → q < w0.heap.size := fun q hq => by have := hFt q hq; omega
      by_cases he : e = 0
      · subst he
        have hZ : splF (X1, L1) 3 (nes.take j ++ (below ++ nes.drop (j + 1))) = Z := by rw [← HZ.out, if_pos rfl]
        have hb1 := hbel.2.1 rfl
        have hb2 := hbel.1
        have hbw := hbel.2.2
        have hubn : ∀ q, u.ownBlock = some q → w0.heap.size ≤ q ∧ q < W'.heap.size := fun q hq => o9.newB q hq
        have hRep := repE_any (i := j) (base := w2.heap.size) (by omega) OV o9 (fun q hq hq' => by
          have h1 := (hubn q hq').1
          have : q = gv := by simp [Value.ownBlock] at hq; exact hq.symm
          omega) hb1 (by omega) hj
        obtain ⟨es', HE⟩ : ∃ es', Hid (nes.take j ++ (below ++ nes.drop (j + 1)) = es') := ⟨_, rfl⟩
        have hle : es'.length ≤ 8 := by rw [← HE.out, List.length_append, List.length_append, List.length_take, List.length_drop]; omega
        have hwf' : ∀ y ∈ es', (Lit.int .i64 y.1).wf = true ∧ (Lit.int .i64 y.2).wf = true := by
          intro y hy
          rw [← HE.out] at hy
          rcases List.mem_append.1 hy with hy | hy
          · exact hwf y (List.mem_of_mem_take hy)
          · rcases List.mem_append.1 hy with hy | hy
            · have := hbw y hy
              exact ⟨wfSm (by omega) (by omega), wfSm (by omega) (by omega)⟩
            · exact hwf y (List.mem_of_mem_drop hy)
        rw [HE.out] at hRep hZ
        have hwj : IntKind.i64.wrap ((j : Int) + 1) = (j : Int) + 1 := wrap_sm (by omega)
        have x10' := NdB.ents E10' hbl.out
        go_upto_region 12 with (first
          | (go_at_call 55; go_must (refine hRep.mono ?_; rintro e1 w11 ⟨v11, rfl, o11, f11, p11⟩; have z11 := f11.size; have E11 := E10'.fr f11 (fun q => by have : g10 = gv := (by simpa [Value.ownBlock] using q.symm); omega); have hv11 := OwnR.slx o11))
          | (with_reducible refine at_wpP ?_; refine at_st 31 _ _ rfl ?_; go_must (refine wpList_stEnt rfl _ _ rfl g10 rfl v11 rfl hv11 3 nb (.slice (some ⟨gv, 0, none⟩) nes.length cv) E11 hbl.out ?_; intro w12 b12 f12; have z12 := f12.size)))
        have hgv : ∀ q, (Value.slice (some ⟨gv, 0, none⟩) nes.length cv).ownBlock = some q → q = gv := fun q hq => by simp [Value.ownBlock] at hq; exact hq.symm
        have E12 : BxV w12 g4 26 [ptr gs] := (E4'.fr f11 (fun q => by have := hgv _ q; omega)).fr f12 (fun q => by unfold onB1 at q; omega)
        have p11' : ∀ q, v11.ownBlock = some q → q = gv ∨ W'.heap.size ≤ q := fun q hq => (p11 q hq).imp (hgv q) id
        have o12 : EnO w12 w2.heap.size v11 es' := o11.fr f12 (fun q hq hq' => by
          unfold onB1 at hq'
          subst hq'
          rcases p11' _ hq with h | h <;> omega)
        have hF1 : ∀ q, F1 q → ¬ q = gv ∧ ¬ q = g10 ∧ q < W'.heap.size := fun q hq => by
          have h1 := s9.ft q hq
          refine ⟨fun e => ?_, fun e => ?_, h1.2⟩
          · rcases h1.1 with h | h
            · have := hFt q h; omega
            · omega
          · rcases h1.1 with h | h
            · have := hFt q h; omega
            · omega
        have S9 := StT.pre F80 s9
        have S11 := S9.own f11 (fun q hq => by
          have hqq := hgv q hq
          exact ⟨fun h => (hF1 _ h).1 hqq, by omega, by omega, by omega⟩)
        have S12 := S11.own f12 (fun q hq => by
          unfold onB1 at hq
          exact ⟨fun h => (hF1 _ h).2.1 hq, by omega, by omega, by omega⟩)
        have n12 : NdS w12 v11 ⟨3, nb, es'⟩ := ⟨⟨o12.sl, hwf'⟩, n5.2.1, by show es'.length ≤ 1000; omega, rfl⟩
        have hSp := split_any 3 nb es' v11 w12 S12.st (by omega) n12 (fun q hq => by
          have h1 := (o12.newB q hq)
          refine ⟨fun h => ?_, by omega, h1.2⟩
          have h2 := hF1 q h
          rcases p11' q hq with h3 | h3 <;> omega)
        simp only at hSp
        rw [hZ] at hSp
        clear hZ hRep
        go_wp2_with (first
          | (with_reducible refine at_wpP ?_; refine at_ld 26 _ rfl ?_; go_must (refine wpList_ldT rfl _ rfl g4 rfl gs E12 ?_))
          | (with_reducible refine at_wpP ?_; refine at_ld 72 _ rfl ?_; go_must (refine wpList_ldN rfl _ rfl g10 rfl 3 nb v11 b12 hbl.out ?_))
          | (go_at_call 32; go_must (refine hSp.mono ?_; intro e1 w13 hq; obtain ⟨F2, u13, he13, s13, o13, a13⟩ := hq; subst he13)))
        go_ret2
        have SF := StT.trans hFt S12 s13
        exact ⟨F2, u13, rfl, SF.mono (by omega), o13.rebase (by have := F80.size; omega), a13⟩
      · have hZ : ((X1, L1), [], e) = Z := by rw [← HZ.out, if_neg he]
        subst hZ
        go_wp2
        go_ret2
        exact ⟨F1, nilS, rfl, (StT.pre F80 s9).mono (by omega), OwnR.none _ _, fun q hq => by cases hq⟩
/-- put of a tree. -/
theorem put_lv {F : Nat → Prop} {gs gp : Nat} {X : DSt} {L : List Pg} {R : List Int} {T : List Nat} {m : Nat} (hI : InvT X L R T) (hm : m ≤ 80000) (x : Int × Int) (hx : 0 ≤ x.1 ∧ x.1 ≤ 63) (hz2 : 0 ≤ x.2 ∧ 0 < cntT L T x.2.toNat) : ∀ (lv : Nat) {p lo hi : Int} (d : Int) (w : World), okT X lv p lo hi → 0 ≤ p → 0 < cntT L T p.toNat → 0 ≤ d → d + lv < 8 → 0 ≤ lo → hi ≤ 64 → lo ≤ x.1 → x.1 < hi → Sto w F gs gp X L m →
    Calls Tryz.prog 31 #[trV gs, .int .i64 p, enV x, .int .i64 d] w fun r w' => SplitIs w w' F gs gp (putF X L lv p x) (m + 2 * (lv + 1)) r := by
  intro lv
  induction lv with
  | zero =>
    intro p lo hi d w k h0 hp hd0 hd hlo hhi h1 h2 h
    exact put_at0 hI (by omega) k h0 hp x d (by omega) w h ⟨hx.1, hx.2, h1, h2⟩ hz2
  | succ lv ih =>
    intro p lo hi d w k h0 hp hd0 hd hlo hhi h1 h2 h
    refine put_atS hI hm (by omega) k h0 hp x d hd0 (by omega) w h ⟨hx.1, hx.2, h1, h2⟩ hz2 hlo hhi fun W hW => ?_
    obtain ⟨hj, hsp, hca, hcb⟩ := pick_is (key := x.1) k.rises k.es.2.1
    generalize pickX (esX X p) x.1 = j at *
    have hgd : (esX X p).getD j (0, 0) = (esX X p)[j] := by simp [List.getD, hj]
    rw [hgd]
    have hmem : (esX X p)[j] ∈ esX X p := by simp
    have hkd := hI.kid h0 hp (esX X p)[j].2 (by unfold kids; exact List.mem_map_of_mem hmem)
    have hrng := k.2.2.1 _ hmem
    have hC := k.2.2.2
    rw [hsp] at hC
    have hf := (row_parts (f := okT X lv) (g := lsT X lv) (fun p a b k => lsT_rng k) (by rw [← hsp]; exact k.es.1) (by rw [← hsp]; exact fun y hy => (k.2.2.1 y hy).2) hC).2.2.2
    have hnx : nxt ((esX X p).drop (j + 1)) hi ≤ 64 ∧ x.1 < nxt ((esX X p).drop (j + 1)) hi := by
      cases hd : (esX X p).drop (j + 1) with
      | nil => exact ⟨hhi, h2⟩
      | cons y r =>
        have hy : y ∈ esX X p := List.mem_of_mem_drop (i := j + 1) (by rw [hd]; simp)
        have := k.2.2.1 y hy
        have := hcb y (by rw [hd]; simp)
        exact ⟨by simp only [nxt]; omega, by simp only [nxt]; omega⟩
    have hclo : (if (esX X p).take j = [] then lo else (esX X p)[j].1) ≤ (esX X p)[j].1 ∧ 0 ≤ (if (esX X p).take j = [] then lo else (esX X p)[j].1) ∧ (if (esX X p).take j = [] then lo else (esX X p)[j].1) ≤ x.1 := by
      split
      · omega
      · rename_i hne
        have := hca hne
        omega
    exact ih (d + 1) W (okT_mono hf hclo.1 (Int.le_refl _)) hkd.1 hkd.2.2 (by omega) (by omega) hclo.2.1 hnx.1 hclo.2.2 hnx.2 hW
end Go.Proofs.YtmkinaijkgkgiaaGreat
/- Trees in memory: Put, Swap; no condition. -/
namespace Go.Proofs.YtmkinaijkgkgiaaGreat
open Go.RowKit Go.Proofs.U
set_option linter.unusedSimpArgs false
set_option linter.unusedVariables false
set_option maxRecDepth 100000 in
set_option maxHeartbeats 2000000 in
theorem put_n1 {F : Nat → Prop} {gs gp : Nat} {X : DSt} {L : List Pg} {m : Nat} (hm : m ≤ 90000) (x : Int × Int) (hwx : (Lit.int .i64 x.1).wf = true ∧ (Lit.int .i64 x.2).wf = true) (d : Int) (w : World) (h : Sto w F gs gp X L m) :
    Calls Tryz.prog 31 #[trV gs, .int .i64 (-1), enV x, .int .i64 d] w fun r w' => SplitIs w w' F gs gp (splF (X, L) 2 [x]) (m + 2) r := by
  have hO := fun W (f : Fr noB w W) => open_none gs d W
  have hpl : ∀ i, AtIs ([] : List (Int × Int)) x.1 i → splF (X, L) 2 (withL [] x i) = splF (X, L) 2 [x] := fun i hi' => by
    have : i = -1 := by have h0 := hi'.1; have h1 := hi'.2.1; simp at h1; omega
    rw [this]; rfl
  obtain ⟨S, HS⟩ : ∃ S, Hid (splF (X, L) 2 [x] = S) := ⟨_, rfl⟩
  rw [HS.out] at hpl ⊢
  unfold leaf0 at hO
  obtain ⟨nb, HB⟩ : ∃ nb, Hid (zerB 16 = nb) := ⟨_, rfl⟩
  obtain ⟨nes, HE⟩ : ∃ nes : List (Int × Int), Hid (([] : List (Int × Int)) = nes) := ⟨_, rfl⟩
  rw [HB.out, HE.out] at hO
  rw [HE.out] at hpl
  have hl6 : nes.length ≤ 6 := by rw [← HE.out]; simp
  have hFt := h.ft
  have hgs := h.lts
  have hgp := h.ltp
  go_enter Tryz.func31, Tryz.ntmps31
  go_upto_region 6 with (first
    | (with_reducible refine at_wpP ?_; refine wpList_boxG rfl 26 _ rfl (trV gs) [ptr gs] rfl rfl ?_; intro g4 w4 hg4 b4 f4 s4; have l4 := b4.lt; have z4 := f4.size)
    | (go_at_call 52; go_must (refine (hO _ (f4.thenN f2)).mono ?_; rintro e w5 ⟨v, rfl, n5, o5, f5, q5⟩; have z5 := f5.size; have hv := NdS.sl n5; have hbl := NdS.bl n5; have B4 := (b4.fr0 f2).fr0 f5; have B6 := c6.fr0 f5))
    | (with_reducible refine at_wpP ?_; have q := n5; refine wpList_allocN rfl rfl ?_; intro g10 w6 hg10 b10 f6 s6; have l6 := b10.lt; have z6 := f6.size)
    | (with_reducible refine at_wpP ?_; refine at_st 72 _ _ rfl ?_; have q := b10; go_must (refine wpList_stN rfl _ _ rfl g10 rfl 2 nb v rfl hbl.out hv 0 (zerB 16) nilS b10 (zerB_len 16) ?_; intro w7 b7 f7; have z7 := f7.size; have q7 := NdB.kind b7; have e7 := NdB.ents b7 hbl.out; have F7 := Fr.ownX f6 s6 f7; have N7 := n5.fr0 F7; have D4 := B4.fr0 F7; have D6 := B6.fr0 F7; have r6 := EnB.all D6; have C6 := cellsE D6))
    | (with_reducible refine at_wpP ?_; refine at_ld 26 _ rfl ?_; have q := E4; go_must (refine wpList_ldT rfl _ rfl g4 rfl gs E4 ?_))
    | (with_reducible refine at_wpP ?_; refine at_ld 26 _ rfl ?_; have q := D4; go_must (refine wpList_ldT rfl _ rfl g4 rfl gs D4 ?_))
    | (with_reducible refine at_wpP ?_; refine at_ld 26 _ rfl ?_; go_must (refine wpList_ldT rfl _ rfl g4 rfl gs (b4.fr0 f2) ?_))
    | (with_reducible refine at_wpP ?_; refine wpList_boxG rfl 40 _ rfl (enV x) (enC x) rfl rfl ?_; intro g6 w2 hg6 c6 f2 s2; have l66 := c6.lt; have z2 := f2.size)
    | (with_reducible refine at_wpP ?_; refine at_ld 40 _ rfl ?_; have q := C6; go_must (refine wpList_ldE rfl _ rfl g6 0 rfl x C6 ?_))
    | (go_at_call 53; go_must (refine (with_any (base := w2.heap.size) (l := nes) (v := v) x (by omega) (q5.fr0 F7) N7.1.2 (by omega)).mono ?_; rintro e w8 ⟨i, hi8, v8, rfl, o8, f8, p8⟩; have z8 := f8.size; have B10 := b7.fr f8 (fun q => by have := o5 _ q; have := (q5.newB _ q).2; omega); have hv8 := OwnR.slx o8))
    | (with_reducible refine at_wpP ?_; refine at_st 31 _ _ rfl ?_; go_must (refine wpList_stEnt rfl _ _ rfl g10 rfl v8 rfl hv8 2 nb v B10 hbl.out ?_; intro w9 b9 f9; have z9 := f9.size)))
  have hvb : ∀ q, v.ownBlock = some q → w2.heap.size ≤ q ∧ q < w5.heap.size := fun q hq => ⟨o5 q hq, (q5.newB q hq).2⟩
  have F25 : Fr noB w w7 := ((f4.thenN f2).thenN f5).thenN F7
  have F8 : Fr noB w w8 := F25.thenT f8 (fun i hi q => by have := hvb i q; omega)
  have F9 : Fr noB w w9 := F8.thenT f9 (fun i hi q => by unfold onB1 at q; omega)
  have E4 := (D4.fr f8 (fun q => by have := hvb _ q; omega)).fr f9 (fun q => by unfold onB1 at q; omega)
  have o8b : ∀ q, v8.ownBlock = some q → (w2.heap.size ≤ q ∧ q < w5.heap.size) ∨ w7.heap.size ≤ q := fun q hq => (p8 q hq).imp (hvb q) id
  have o9 : EnO w9 w2.heap.size v8 (withL nes x i) := o8.fr f9 (fun q hq hq' => by
    unfold onB1 at hq'
    subst hq'
    rcases o8b _ hq with h | h <;> omega)
  have H9 := h.fr0 F9
  have hmem := mem_withL (l := nes) (x := x) (i := i)
  have n9 : NdS w9 v8 ⟨2, nb, withL nes x i⟩ := ⟨⟨o9.sl, fun z hz => (hmem z hz).elim (fun e => by rw [e]; exact hwx) (fun e => N7.1.2 z e)⟩, n5.2.1, by have := withL_len nes x i; show (withL nes x i).length ≤ 1000; omega, rfl⟩
  have hS := hpl i hi8
  have hSp := split_any 2 nb (withL nes x i) v8 w9 H9 (by omega) n9 (fun q hq => by
    have h1 := (o9.newB q hq)
    exact ⟨fun q' => by have := hFt q q'; omega, by omega, h1.2⟩)
  rw [hS] at hSp
  clear hpl hS
  go_wp2_with (first
    | (with_reducible refine at_wpP ?_; refine at_ld 26 _ rfl ?_; go_must (refine wpList_ldT rfl _ rfl g4 rfl gs E4 ?_))
    | (with_reducible refine at_wpP ?_; refine at_ld 72 _ rfl ?_; go_must (refine wpList_ldN rfl _ rfl g10 rfl 2 nb v8 b9 hbl.out ?_))
    | (go_at_call 32; go_must (refine hSp.mono ?_; intro e w10 hq; obtain ⟨F', u, he, s10, o10, a10⟩ := hq; subst he)))
  go_ret2
  exact SplitIs.pre F9 ⟨F', u, rfl, s10, o10, a10⟩ (Nat.le_refl _)
theorem nst {w : World} {F : Nat → Prop} {gp : Nat} (hF : ∀ k, F k → k < w.heap.size) (hg : gp < w.heap.size) (q : Nat) (hq : w.heap.size ≤ q) : ¬ stB F gp q := fun s => by
  rcases s with s | s
  · have := hF q s; omega
  · omega
/-- What Put and Build hand back. -/
def TopIs (w w' : World) (F : Nat → Prop) (gs gp : Nat) (S : DSt × List Pg) (p e : Int) (m : Nat) (r : Ending) : Prop := ∃ F', r = .returned (.tuple #[.int .i64 p, .int .i64 e]) ∧ StT w w' F F' gs gp S m
set_option maxRecDepth 100000 in
set_option maxHeartbeats 2000000 in
theorem Put_one {F : Nat → Prop} {gs gp : Nat} {X : DSt} {L : List Pg} {m m1 : Nat} (root key page : Int) (hk : 0 ≤ key ∧ key ≤ 63) (w : World) (h : Sto w F gs gp X L m) (S : (DSt × List Pg) × List (Int × Int) × Int) (hl : S.2.1.length ≤ 1) (h1 : S.2.2 = 0 → S.2.1.length = 1)
    (hP : ∀ W, Sto W F gs gp X L m → Calls Tryz.prog 31 #[trV gs, .int .i64 root, enV (key, page), .int .i64 0] W fun r w' => SplitIs W w' F gs gp S m1 r) :
    Calls Tryz.prog 8 #[trV gs, .int .i64 root, .int .i64 key, .int .i64 page] w fun r w' => TopIs w w' F gs gp S.1 (if S.2.2 = 0 then (S.2.1.getD 0 (0, 0)).2 else -1) S.2.2 m1 r := by
  obtain ⟨S1, tops, e⟩ := S
  simp only at hl h1 hP ⊢
  have h0' : decide (key < (0 : Int)) = false := by simp; omega
  have h1' : decide ((64 : Int) ≤ key) = false := by simp; omega
  have hl' : decide ((1 : Int) < (tops.length : Int)) = false := by simp; omega
  by_cases he : e = 0
  · subst he
    have hlen := h1 rfl
    rw [if_pos rfl]
    obtain ⟨t0, ht0⟩ : ∃ t0, tops = [t0] := List.length_eq_one_iff.1 hlen
    subst ht0
    simp only [List.getD_cons_zero]
    clear h1 hl hlen
    go_enter Tryz.func8, Tryz.ntmps8
    go_wp2_with (first
      | (with_reducible refine at_wpP ?_; refine wpList_boxG rfl 26 _ rfl (trV gs) [ptr gs] rfl rfl ?_; intro g4 w4 hg4 b4 f4 s4; have l4 := b4.lt; have z4 := f4.size)
      | (with_reducible refine at_wpP ?_; refine at_ld 26 _ rfl ?_; go_must (refine wpList_ldT rfl _ rfl g4 rfl gs b4 ?_))
      | (with_reducible refine at_wpP ?_; refine wpList_bldE rfl _ _ rfl key page rfl rfl ?_)
      | (go_at_call 31; go_must (refine (hP _ (h.fr0 f4)).mono ?_; rintro e1 w5 ⟨F1, u, he1, s5, o5, a5⟩; subst he1; obtain ⟨ua, uc, hu⟩ := o5.opn; subst hu; have q5 : SlR enC 2 w5 (.slice ua 1 uc) [t0] := OwnR.sl o5))
      | (with_reducible refine at_wpP ?_; refine at_idx 31 _ _ rfl ?_; have q := q5; go_must (refine wpList_idxR rfl 31 _ _ rfl 40 uE 2 en_size enC (.slice ua 1 uc) [t0] rfl q5 (by decide) .i64 0 0 rfl rfl (by simp) ?_; intro eb eo heb hec; have hec1 := hec 1 _ rfl)))
    go_ret2
    exact ⟨F1, rfl, StT.pre f4 s5⟩
  · rw [if_neg he]
    go_enter Tryz.func8, Tryz.ntmps8
    go_wp2_with (first
      | (with_reducible refine at_wpP ?_; refine wpList_boxG rfl 26 _ rfl (trV gs) [ptr gs] rfl rfl ?_; intro g4 w4 hg4 b4 f4 s4; have l4 := b4.lt; have z4 := f4.size)
      | (with_reducible refine at_wpP ?_; refine at_ld 26 _ rfl ?_; go_must (refine wpList_ldT rfl _ rfl g4 rfl gs b4 ?_))
      | (with_reducible refine at_wpP ?_; refine wpList_bldE rfl _ _ rfl key page rfl rfl ?_)
      | (go_at_call 31; go_must (refine (hP _ (h.fr0 f4)).mono ?_; rintro e1 w5 ⟨F1, u, he1, s5, o5, a5⟩; subst he1; obtain ⟨ua, uc, hu⟩ := o5.opn; subst hu)))
    go_ret2
    exact ⟨F1, rfl, StT.pre f4 s5⟩
set_option maxRecDepth 100000 in
set_option maxHeartbeats 2000000 in
theorem Put_two {F : Nat → Prop} {gs gp : Nat} {X : DSt} {L : List Pg} {m m1 : Nat} (root key page : Int) (hk : 0 ≤ key ∧ key ≤ 63) (w : World) (h : Sto w F gs gp X L m) (S : (DSt × List Pg) × List (Int × Int) × Int) (hl : 1 < S.2.1.length) (hl2 : S.2.1.length ≤ 2) (hwf : ∀ y ∈ S.2.1, (Lit.int .i64 y.1).wf = true ∧ (Lit.int .i64 y.2).wf = true)
    (hP : ∀ W, Sto W F gs gp X L m → Calls Tryz.prog 31 #[trV gs, .int .i64 root, enV (key, page), .int .i64 0] W fun r w' => SplitIs W w' F gs gp S m1 r) (hm1 : m1 ≤ 90000)
    (S2 : (DSt × List Pg) × List (Int × Int) × Int) (hS2 : splF S.1 3 S.2.1 = S2) (h1 : S2.2.2 = 0 → S2.2.1.length = 1) :
    Calls Tryz.prog 8 #[trV gs, .int .i64 root, .int .i64 key, .int .i64 page] w fun r w' => TopIs w w' F gs gp S2.1 (if S2.2.2 = 0 then (S2.2.1.getD 0 (0, 0)).2 else -1) S2.2.2 (m1 + 2) r := by
  obtain ⟨S1, tops, e0⟩ := S
  simp only at hl hl2 hwf hP hS2
  have h0' : decide (key < (0 : Int)) = false := by simp; omega
  have h1' : decide ((64 : Int) ≤ key) = false := by simp; omega
  have hl' : decide ((1 : Int) < (tops.length : Int)) = true := by simp; omega
  have hFt := h.ft
  have hgp := h.ltp
  have hSp : ∀ (W0 W : World) (F1 : Nat → Prop) (u : Value), w.heap.size ≤ W0.heap.size → StT W0 W F F1 gs gp S1 m1 → EnO W W0.heap.size u tops → (∀ q, u.ownBlock = some q → ¬ F1 q) →
      Calls Tryz.prog 32 #[trV gs, ndV 3 (zerB 16) u] W fun r w' => SplitIs W w' F1 gs gp S2 (m1 + 2) r := by
    intro W0 W F1 u hz s o a
    have n : NdS W u ⟨3, zerB 16, tops⟩ := ⟨⟨o.sl, hwf⟩, ⟨zerB_len 16, zerB_byt 16⟩, by show tops.length ≤ 1000; omega, rfl⟩
    have hq := split_any (X := S1.1) (L := S1.2) 3 (zerB 16) tops u W s.st (by omega) n (fun q hq => ⟨a q hq, by have := (o.newB q hq).1; omega, (o.newB q hq).2⟩)
    rw [← hS2]
    exact hq
  obtain ⟨Z, HZ⟩ : ∃ Z, Hid (zerB 16 = Z) := ⟨_, rfl⟩
  obtain ⟨S3, t2, e2⟩ := S2
  simp only at h1 ⊢
  clear hS2
  by_cases he : e2 = 0
  · subst he
    have hlen := h1 rfl
    rw [if_pos rfl]
    obtain ⟨t0, ht0⟩ : ∃ t0, t2 = [t0] := List.length_eq_one_iff.1 hlen
    subst ht0
    simp only [List.getD_cons_zero]
    clear h1 hlen
    go_enter Tryz.func8, Tryz.ntmps8
    go_wp2_with (first
      | (with_reducible refine at_wpP ?_; refine wpList_boxG rfl 26 _ rfl (trV gs) [ptr gs] rfl rfl ?_; intro g4 w4 hg4 b4 f4 s4; have l4 := b4.lt; have z4 := f4.size)
      | (with_reducible refine at_wpP ?_; refine at_ld 26 _ rfl ?_; have q := E5; go_must (refine wpList_ldT rfl _ rfl g4 rfl gs E5 ?_))
      | (with_reducible refine at_wpP ?_; refine at_ld 26 _ rfl ?_; go_must (refine wpList_ldT rfl _ rfl g4 rfl gs b4 ?_))
      | (with_reducible refine at_wpP ?_; refine wpList_bldE rfl _ _ rfl key page rfl rfl ?_)
      | (go_at_call 31; go_must (refine (hP _ (h.fr0 f4)).mono ?_; rintro e1 w5 ⟨F1, u, he1, s5, o5, a5⟩; subst he1; obtain ⟨ua, uc, hu⟩ := o5.opn; subst hu; have E5 := b4.fr s5.fr (nst hFt hgp g4 s4)))
      | (with_reducible refine at_wpP ?_; refine wpList_bldN rfl _ rfl 3 (zerB 16) (.slice ua tops.length uc) [(0, .int .i64 3), (2, .slice ua tops.length uc)] rfl (built_ndE 3 _ ⟨_, _, _, rfl⟩) ?_)
      | (go_at_call 32; go_must (refine (hSp _ _ F1 _ f4.size s5 o5 a5).mono ?_; rintro e1 w6 ⟨F2, u6, he1, s6, o6, a6⟩; subst he1; obtain ⟨ub, ud, hu⟩ := o6.opn; subst hu; have q5 : SlR enC 2 w6 (.slice ub 1 ud) [t0] := OwnR.sl o6))
      | (with_reducible refine at_wpP ?_; refine at_idx 31 _ _ rfl ?_; have q := q5; go_must (refine wpList_idxR rfl 31 _ _ rfl 40 uE 2 en_size enC (.slice ub 1 ud) [t0] rfl q5 (by decide) .i64 0 0 rfl rfl (by simp) ?_; intro eb eo heb hec; have hec1 := hec 1 _ rfl)))
    go_ret2
    exact ⟨F2, rfl, StT.trans hFt (StT.pre f4 s5) s6⟩
  · rw [if_neg he]
    go_enter Tryz.func8, Tryz.ntmps8
    go_wp2_with (first
      | (with_reducible refine at_wpP ?_; refine wpList_boxG rfl 26 _ rfl (trV gs) [ptr gs] rfl rfl ?_; intro g4 w4 hg4 b4 f4 s4; have l4 := b4.lt; have z4 := f4.size)
      | (with_reducible refine at_wpP ?_; refine at_ld 26 _ rfl ?_; have q := E5; go_must (refine wpList_ldT rfl _ rfl g4 rfl gs E5 ?_))
      | (with_reducible refine at_wpP ?_; refine at_ld 26 _ rfl ?_; go_must (refine wpList_ldT rfl _ rfl g4 rfl gs b4 ?_))
      | (with_reducible refine at_wpP ?_; refine wpList_bldE rfl _ _ rfl key page rfl rfl ?_)
      | (go_at_call 31; go_must (refine (hP _ (h.fr0 f4)).mono ?_; rintro e1 w5 ⟨F1, u, he1, s5, o5, a5⟩; subst he1; obtain ⟨ua, uc, hu⟩ := o5.opn; subst hu; have E5 := b4.fr s5.fr (nst hFt hgp g4 s4)))
      | (with_reducible refine at_wpP ?_; refine wpList_bldN rfl _ rfl 3 (zerB 16) (.slice ua tops.length uc) [(0, .int .i64 3), (2, .slice ua tops.length uc)] rfl (built_ndE 3 _ ⟨_, _, _, rfl⟩) ?_)
      | (go_at_call 32; go_must (refine (hSp _ _ F1 _ f4.size s5 o5 a5).mono ?_; rintro e1 w6 ⟨F2, u6, he1, s6, o6, a6⟩; subst he1; obtain ⟨ub, ud, hu⟩ := o6.opn; subst hu)))
    go_ret2
    exact ⟨F2, rfl, StT.trans hFt (StT.pre f4 s5) s6⟩
/-- Swap. -/
def swF (X : DSt) (L : List Pg) (old next : Int) : List Pg × Int :=
  if (plHold L next).2 = 0 then (if old = -1 then ((plHold L next).1, 0) else dropF X (muL (plHold L next).1 + 1) (plHold L next).1 old) else plHold L next
set_option maxRecDepth 100000 in
set_option maxHeartbeats 2000000 in
theorem Swap_any {F : Nat → Prop} {gs gp : Nat} {X : DSt} {L : List Pg} {m : Nat} (old next : Int) (hn : ¬ next = -1) (hm : m ≤ 90000) (w : World) (h : Sto w F gs gp X L m) :
    Calls Tryz.prog 14 #[trV gs, .int .i64 old, .int .i64 next] w fun r w' => r = .returned (.int .i64 (swF X L old next).2) ∧ Sto w' F gs gp X (swF X L old next).1 m ∧ Fr (onB1 gp) w w' := by
  have hn1 : (next == -1) = false := by simpa using hn
  unfold swF
  have hH := fun W (s : Sto W F gs gp X L m) => nhold_any next W s
  have hgs := h.lts
  have hgp := h.ltp
  obtain ⟨H, HH⟩ : ∃ H, Hid (plHold L next = H) := ⟨_, rfl⟩
  rw [HH.out] at hH ⊢
  obtain ⟨L1, e1⟩ := H
  simp only at hH ⊢
  by_cases he : e1 = 0
  · subst he
    rw [if_pos rfl]
    by_cases ho : old = -1
    · have ho1 : (old == -1) = true := by simpa using ho
      rw [if_pos ho]
      go_enter Tryz.func14, Tryz.ntmps14
      go_wp2_with (first
        | (with_reducible refine at_wpP ?_; refine wpList_boxG rfl 26 _ rfl (trV gs) [ptr gs] rfl rfl ?_; intro g4 w4 hg4 b4 f4 s4; have l4 := b4.lt; have z4 := f4.size; have c4 := tr_cell b4)
        | (go_at_call 30; go_must (refine (hH _ (h.fr0 f4)).mono ?_; rintro e5 w5 ⟨rfl, s5, f5⟩; have z5 := f5.size)))
      go_ret
      exact ⟨rfl, s5, (f4.mono (fun _ _ q => q.elim)).thenT f5 (fun _ _ q => q)⟩
    · have ho1 : (old == -1) = false := by simpa using ho
      rw [if_neg ho]
      have hD := fun W (s : Sto W F gs gp X L1 m) => ndrop_any (by omega) (muL L1 + 1) L1 old W (Nat.lt_succ_self _) s
      obtain ⟨D, HD⟩ : ∃ D, Hid (dropF X (muL L1 + 1) L1 old = D) := ⟨_, rfl⟩
      rw [HD.out] at hD ⊢
      go_enter Tryz.func14, Tryz.ntmps14
      go_wp2_with (first
        | (with_reducible refine at_wpP ?_; refine wpList_boxG rfl 26 _ rfl (trV gs) [ptr gs] rfl rfl ?_; intro g4 w4 hg4 b4 f4 s4; have l4 := b4.lt; have z4 := f4.size; have c4 := tr_cell b4)
        | (go_at_call 30; go_must (refine (hH _ (h.fr0 f4)).mono ?_; rintro e5 w5 ⟨rfl, s5, f5⟩; have z5 := f5.size; have c5 := tr_cell (b4.ne f5 (by omega))))
        | (go_at_call 36; go_must (refine (hD _ s5).mono ?_; rintro e6 w6 ⟨rfl, s6, f6⟩; have z6 := f6.size)))
      go_ret
      exact ⟨rfl, s6, ((f4.mono (fun _ _ q => q.elim)).thenT f5 (fun _ _ q => q)).thenT f6 (fun _ _ q => q)⟩
  · rw [if_neg he]
    go_enter Tryz.func14, Tryz.ntmps14
    go_wp2_with (first
      | (with_reducible refine at_wpP ?_; refine wpList_boxG rfl 26 _ rfl (trV gs) [ptr gs] rfl rfl ?_; intro g4 w4 hg4 b4 f4 s4; have l4 := b4.lt; have z4 := f4.size; have c4 := tr_cell b4)
      | (go_at_call 30; go_must (refine (hH _ (h.fr0 f4)).mono ?_; rintro e5 w5 ⟨rfl, s5, f5⟩; have z5 := f5.size)))
    go_ret
    exact ⟨rfl, s5, (f4.mono (fun _ _ q => q.elim)).thenT f5 (fun _ _ q => q)⟩
end Go.Proofs.YtmkinaijkgkgiaaGreat
