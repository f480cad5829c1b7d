/- Texts UV, UW, UX of the proof of PruneTrims, one behind the other. -/
import Derived.Test.YtmkinaijkgkgiaaGreatBundlePruneTrims1
import Derived.Test.YtmkinaijkgkgiaaGreatBundlePruneTrims2
import Derived.Test.YtmkinaijkgkgiaaGreatBundlePruneTrims3
import Derived.Test.YtmkinaijkgkgiaaGreatBundlePruneTrims4
import Derived.Test.YtmkinaijkgkgiaaGreatBundlePruneTrims5
import Derived.Test.YtmkinaijkgkgiaaGreatBundlePruneTrims6
import Derived.Test.YtmkinaijkgkgiaaGreatBundlePruneTrims7
import Derived.Test.YtmkinaijkgkgiaaGreatBundlePruneTrims8
import Derived.Test.YtmkinaijkgkgiaaGreatBundlePruneTrims9
import Derived.Test.YtmkinaijkgkgiaaGreatBundlePruneTrims10
import Derived.Test.YtmkinaijkgkgiaaGreatBundlePruneTrims11
import Derived.Test.YtmkinaijkgkgiaaGreatBundlePruneTrims12
import Derived.Test.YtmkinaijkgkgiaaGreatBundlePruneTrims13
import Derived.Test.YtmkinaijkgkgiaaGreatBundlePruneTrims14
import Derived.Test.YtmkinaijkgkgiaaGreatBundlePruneTrims15
import Derived.Test.YtmkinaijkgkgiaaGreatBundlePruneTrims16
import Derived.Test.YtmkinaijkgkgiaaGreatBundlePruneTrims17
import Derived.Test.YtmkinaijkgkgiaaGreatBundlePruneTrims18
import Derived.Test.YtmkinaijkgkgiaaGreatBundlePruneTrims19
import Derived.Test.YtmkinaijkgkgiaaGreatBundlePruneTrims20
import Derived.Test.YtmkinaijkgkgiaaGreatBundlePruneTrims21
import Derived.Test.YtmkinaijkgkgiaaGreatBundlePruneTrims22
import Derived.Test.YtmkinaijkgkgiaaGreatBundlePruneTrims23
import Derived.Test.YtmkinaijkgkgiaaGreatBundlePruneTrims24
import Derived.Test.YtmkinaijkgkgiaaGreatBundlePruneTrims25
import Derived.Test.YtmkinaijkgkgiaaGreatBundlePruneTrims26
/- place: a changed child is made, with the neighbour that has room for it; no condition. (Written by uv_gen.py.) -/
namespace Go.Proofs.YtmkinaijkgkgiaaGreat
open Go.RowKit Go.Proofs.U
set_option linter.unusedSimpArgs false
set_option linter.unusedVariables false
theorem wpList_mk2S {w : World} {ops : Array Oper} {rest : List Oper} {o : Oper} {b : Act} {Q : Exit → Act → World → Prop} (hgd : Region.wanted o (yielded ops b.tmps) = true) (y z : Operand) (ho : o.op = .buildSlice 107 2 #[(0, y), (1, z)]) (a a' : Option Addr) (n c n' c' : Nat) (hy : b.eval y = .slice a n c) (hz : b.eval z = .slice a' n' c')
    (h : ∀ g w', BxV w' g 31 [.slice a n c, .slice a' n' c'] → Fr noB w w' → w.heap.size ≤ g → wpList Tryz.prog ops Q rest (b.put o.dst (.slice (some ⟨g, 0, none⟩) 2 2)) w') : wpList Tryz.prog ops Q (o :: rest) b w := by
  refine wpList_wanted hgd fun K hK => ?_
  have hr := run_mk2S a a' n c n' c' w
  unfold Oper.wp
  simp [execOp, ho, hy, hz, hr, Result.andThen]
  exact hK _ _ (h w.heap.size _ (heap_alloc_new w _) ((Fr.refl _ _).alloc _) (Nat.le_refl _))
/-- What place and without do to memory: v is a row that they may turn. -/
structure PlT (w w' : World) (F F' : Nat → Prop) (gs gp : Nat) (v : Value) (S : DSt × List Pg) (m : Nat) : Prop where
  st : Sto w' F' gs gp S.1 S.2 m
  ft : ∀ k, F' k → (F k ∨ w.heap.size ≤ k) ∧ k < w'.heap.size
  fr : Fr (fun k => v.ownBlock = some k ∨ stB F gp k) w w'
/-- What place hands. -/
def PlIs (w w' : World) (F : Nat → Prop) (gs gp base : Nat) (v : Value) (R : (DSt × List Pg) × List (Int × Int) × Int) (m : Nat) (r : Ending) : Prop :=
  ∃ F' v', r = .returned (.tuple #[v', .int .i64 0]) ∧ PlT w w' F F' gs gp v R.1 m ∧ EnO w' base v' R.2.1 ∧ ∀ k, v'.ownBlock = some k → ¬ F' k ∧ (v.ownBlock = some k ∨ w.heap.size ≤ k)
/-- What is asked of place's arguments. -/
structure PlA (w : World) (F : Nat → Prop) (gs gp base : Nat) (X : DSt) (L : List Pg) (m : Nat) (k : Int) (cb : List Int) (l c : List (Int × Int)) (v cv : Value) (i : Nat) : Prop where
  st : Sto w F gs gp X L m
  hm : m ≤ 90000
  hb : base ≤ w.heap.size
  ow : EnO w base v l
  nd : NdS w cv ⟨k, cb, c⟩
  hi : i < l.length
  hl : l.length ≤ 6
  hc : c.length ≤ 6
  hg : ∀ y ∈ l, getF X L y.2 = ((rdN X y.2).1, 0) ∧ (rdN X y.2).1.es.length ≤ 6
  hv : ∀ x, v.ownBlock = some x → ¬ F x ∧ x ≠ gp ∧ x ≠ gs ∧ x < w.heap.size
  hw : ∀ y ∈ l, ∀ x ∈ esX X y.2, (Lit.int .i64 x.1).wf = true ∧ (Lit.int .i64 x.2).wf = true
set_option maxRecDepth 100000 in
set_option maxHeartbeats 4000000 in
theorem place_none {w : World} {F : Nat → Prop} {gs gp base : Nat} {X : DSt} {L : List Pg} {m : Nat} {k : Int} {cb : List Int} {l c : List (Int × Int)} {v cv : Value} {i : Nat} (A : PlA w F gs gp base X L m k cb l c v cv i) (hc0 : c.length = 0) :
    Calls Tryz.prog 80 #[trV gs, v, .int .i64 (i : Int), ndV k cb cv] w fun r w' => PlIs w w' F gs gp base v ((X, L), dropAt l i, 0) (m + 2) r := by
  have hb := NdS.bl A.nd
  obtain ⟨a, cap, hcv, _⟩ := A.nd.slr.opn
  subst hcv
  have hD := fun W (f : Fr noB w W) => delE_any (w := W) (i := i) (by have := A.hb; have := f.size; omega) (A.ow.fr0 f) A.hi (by have := A.hl; omega)
  have hc0' := show Hid _ from hc0
  have hz : (((⟨k, cb, c⟩ : Nd).es.length : Int) == 0) = true := by simp [hc0]
  obtain ⟨n, Hn⟩ : ∃ n, Hid ((⟨k, cb, c⟩ : Nd).es.length = n) := ⟨_, rfl⟩
  rw [Hn.out] at hz ⊢
  have hi20 : (i : Int) < 20 := by have := A.hi; have := A.hl; omega
  have hw1 : IntKind.i64.wrap ((i : Int) + 1) = (i : Int) + 1 := wrap_sm (by omega)
  clear hc0
  go_enter Tryz.func80, Tryz.ntmps80
  go_wp2_with (first
    | (with_reducible refine at_wpP ?_; refine wpList_boxG rfl 28 _ rfl (trV gs) [ptr gs] rfl rfl ?_; intro g4 w4 hg4 b4 f4 s4; have l4 := b4.lt; have z4 := f4.size)
    | (with_reducible refine at_wpP ?_; refine wpList_boxN rfl _ rfl k cb _ rfl ?_; intro g7 w7 hg7 b7 f7 s7; have l7 := b7.lt; have z7 := f7.size; have q7 := NdB.ents b7 hb.out)
    | (go_at_call 79; go_must (refine (hD _ (f4.thenN f7)).mono ?_; rintro e w8 ⟨v8, rfl, o8, f8, p8⟩)))
  go_ret2
  have F7 := f4.thenN f7
  have z8 := f8.size
  have H7 := A.st.fr0 F7
  have H8 : Sto w8 F gs gp X L m := H7.fr f8 (fun q hq hF hv => by
    have h1 := A.hv q hv
    rcases hF with h2 | h2 | h2
    · exact h1.1 h2
    · exact h1.2.1 h2
    · exact h1.2.2.1 h2)
  refine ⟨F, v8, rfl, ⟨H8.mono (by omega), fun q hq => ⟨Or.inl hq, H8.ft q hq⟩, (F7.mono (fun _ _ q => q.elim)).thenT f8 (fun _ _ q => Or.inl q)⟩, o8, fun q hq => ?_⟩
  rcases p8 q hq with h | h
  · exact ⟨(A.hv q h).1, Or.inl h⟩
  · exact ⟨fun hF => by have := A.st.ft q hF; have := F7.size; omega, Or.inr (by have := F7.size; omega)⟩
set_option maxRecDepth 100000 in
set_option maxHeartbeats 8000000 in
theorem place_lt {w : World} {F : Nat → Prop} {gs gp base : Nat} {X X' : DSt} {L L' : List Pg} {m : Nat} {k : Int} {cb : List Int} {l c : List (Int × Int)} {v cv : Value} {i B : Nat} {t : Int × Int} (A : PlA w F gs gp base X L m k cb l c v cv i) (hc0 : 1 ≤ c.length) (hB : besF X l i c.length = B) (hB2 : B + 1 = i) (hBl : B < l.length) (hJ : (othF X l i B ++ c).length ≤ 6)
    (hs : splF (X, L) k (othF X l i B ++ c) = ((X', L'), [t], 0)) :
    Calls Tryz.prog 80 #[trV gs, v, .int .i64 (i : Int), ndV k cb cv] w fun r w' => PlIs w w' F gs gp base v ((X', L'), l.take B ++ ([t] ++ l.drop (B + 2)), 0) (m + 2) r := by
  have hb := NdS.bl A.nd
  have hkw := A.nd.2.2.2
  obtain ⟨a, cap, hcv, _⟩ := A.nd.slr.opn
  have hS0 := A.nd.slr
  have hwc := A.nd.1.2
  subst hcv
  have hes : (⟨k, cb, c⟩ : Nd).es = c := rfl
  rw [hes] at hS0 hwc ⊢
  clear hes
  obtain ⟨O, HO⟩ : ∃ O, Hid (othF X l i B = O) := ⟨_, rfl⟩
  have hbes := fun W (s : Sto W F gs gp X L m) (hS : SlR enC 2 W v l) => bes_any (v := v) (i := i) (n := c.length) W s (by have := A.hm; omega) hS A.hi (by have := A.hl; omega) (by have := A.hc; omega) A.hg
  rw [hB, HO.out] at hbes
  rw [HO.out] at hs hJ
  have hwO : ∀ x ∈ O, (Lit.int .i64 x.1).wf = true ∧ (Lit.int .i64 x.2).wf = true := by
    intro x hx
    rw [← HO.out] at hx
    unfold othF at hx
    by_cases q : B = i
    · rw [if_pos q] at hx; cases hx
    · rw [if_neg q] at hx
      have hm : l.getD B (0, 0) ∈ l := by simp [List.getD, hBl]
      exact A.hw _ hm x hx
  have hwJ : ∀ x ∈ O ++ c, (Lit.int .i64 x.1).wf = true ∧ (Lit.int .i64 x.2).wf = true := fun x hx => by
    rcases List.mem_append.1 hx with q | q
    · exact hwO x q
    · exact hwc x q
  have hb16 := A.nd.2.1
  obtain ⟨J, HJ⟩ : ∃ J, Hid (O ++ c = J) := ⟨_, rfl⟩
  have hJl : Hid (J.length = O.length + c.length) := by rw [← HJ.out]; exact List.length_append
  rw [HJ.out] at hs hJ hwJ
  have hcat := fun W (vt va vb : Value) (h1 : SlR en1 1 W vt [va, vb]) (h2 : SlR enC 2 W va O) (h3 : SlR enC 2 W vb c) => cat_any h1 h2 h3 (by have := hJl.out; omega) (by have := hJl.out; omega)
  rw [HJ.out] at hcat
  have hi := A.hi
  have hl6 := A.hl
  have hc6 := A.hc
  have hm9 := A.hm
  obtain ⟨n, Hn⟩ : ∃ n, Hid (c.length = n) := ⟨_, rfl⟩
  rw [Hn.out] at hS0 hbes hc0 hc6 ⊢
  have hz : ((n : Int) == 0) = false := by simp; omega
  have hw1 : ∀ z : Nat, z ≤ 300 → IntKind.i64.wrap ((z : Int) + 1) = (z : Int) + 1 := fun z hz => wrap_sm (by omega)
  have hlt : decide ((B : Int) < (i : Int)) = true := by simp; omega
  have hmin : min (i : Int) (B : Int) = (B : Int) := by omega
  have hmax : max (i : Int) (B : Int) + 1 = (B : Int) + 2 := by omega
  have hSp := fun W (F1 : Nat → Prop) (s : Sto W F1 gs gp X L m) (u : Value) (o : SlR enC 2 W u J) (hu : ∀ x, u.ownBlock = some x → ¬ F1 x ∧ x ≠ gp ∧ x < W.heap.size) => split_any (X := X) (L := L) k cb J u W s (by omega) ⟨⟨o, hwJ⟩, hb16, by show J.length ≤ 1000; omega, hkw⟩ hu
  rw [hs] at hSp
  have hFt := A.st.ft
  have hgsl := A.st.lts
  have hgpl := A.st.ltp
  have hB3 : B + 1 ≤ i := by omega
  have hB4 : i ≤ B + 1 := by omega
  have hmin := show Hid _ from hmin
  have hmax := show Hid _ from hmax
  clear hB2
  go_enter Tryz.func80, Tryz.ntmps80
  go_upto_region 9 with (first
    | (with_reducible refine at_wpP ?_; refine wpList_boxG rfl 28 _ rfl (trV gs) [ptr gs] rfl rfl ?_; intro g4 w4 hg4 b4 f4 s4; have l4 := b4.lt; have z4 := f4.size)
    | (with_reducible refine at_wpP ?_; refine wpList_boxN rfl _ rfl k cb _ rfl ?_; intro g7 w7 hg7 b7 f7 s7; have l7 := b7.lt; have z7 := f7.size; have q7 := NdB.ents b7 hb.out; have B4 := b4.fr0 f7)
    | (with_reducible refine at_wpP ?_; refine at_ld 28 _ rfl ?_; go_must (refine wpList_ldP rfl _ rfl g4 rfl gs B4 ?_))
    | (go_at_call 96; go_must (refine (hbes _ (A.st.fr0 (f4.thenN f7)) (A.ow.sl.fr0 (f4.thenN f7))).mono ?_; rintro e w8 ⟨u8, rfl, o8, f8⟩; have z8 := f8.size; obtain ⟨a8, c8, hu8⟩ := o8.opn; subst hu8; have b8 := b7.fr0 f8; have q8 := NdB.ents b8 hb.out; have S8 := hS0.fr0 ((f4.thenN f7).thenN f8)))
    | (with_reducible refine at_wpP ?_; refine wpList_mk2S rfl _ _ rfl _ _ _ _ _ _ rfl rfl ?_; intro g9 w9 b9 f9 s9; have z9 := f9.size; have B9 := b8.fr0 f9)
    | (go_at_call 97; go_must (refine (hcat _ _ _ _ (vs_own b9 (by simp)).sl (o8.sl.fr0 f9) (S8.fr0 f9)).mono ?_; rintro e w10 ⟨v10, rfl, o10, f10⟩; have z10 := f10.size; obtain ⟨a10, c10, hv10⟩ := o10.opn; subst hv10; have B10 := B9.fr0 f10; have q10 := NdB.ents B10 hb.out))
    | (with_reducible refine at_wpP ?_; refine at_st 31 _ _ rfl ?_; go_must (refine wpList_stEnt rfl _ _ rfl g7 rfl _ rfl ⟨_, _, _, rfl⟩ k cb _ B10 hb.out ?_; intro w11 b11 f11; have z11 := f11.size)))
  have F10 : Fr noB w w10 := ((((f4.thenN f7).thenN f8).thenN f9).thenN f10)
  have F11 : Fr noB w w11 := F10.thenT f11 (fun x hx q => by unfold onB1 at q; omega)
  have H11 := A.st.fr0 F11
  have b4' : BxV w11 g4 28 [ptr gs] := (((B4.fr0 f8).fr0 f9).fr0 f10).fr f11 (fun q => by unfold onB1 at q; omega)
  have o11 := o10.fr f11 (fun x hx q => by have := (o10.newB x hx).1; unfold onB1 at q; omega)
  have hSq := hSp w11 F H11 _ o11.sl (fun x hx => by
    have h1 := o11.newB x hx
    exact ⟨fun q => by have := hFt x q; omega, by omega, h1.2⟩)
  have F11' := F11
  go_upto_region 12 with (first
    | (with_reducible refine at_wpP ?_; refine at_ld 26 _ rfl ?_; go_must (refine wpList_ldPT rfl _ rfl g4 rfl gs b4' ?_))
    | (with_reducible refine at_wpP ?_; refine at_ld 72 _ rfl ?_; go_must (refine wpList_ldN rfl _ rfl g7 rfl k cb _ b11 hb.out ?_))
    | (go_at_call 32; go_must (refine hSq.mono ?_; rintro e w12 ⟨F2, u12, rfl, T12, o12, a12⟩; have z12 := T12.fr.size)))
  have o0 : EnO w12 base v l := (A.ow.fr0 F11).fr T12.fr (fun x hx q => by
    have := A.hv x hx
    rcases q with q | q
    · exact this.1 q
    · exact this.2.1 q)
  have hRp := fun (i' : Nat) => rep2_any (i := B) (by have := A.hb; omega) o0 o12 (fun q hq hq2 => by have := A.hv q hq; have := (o12.newB q hq2).1; omega) (by omega) (by omega)
  obtain ⟨a12', c12, hu12⟩ := o12.opn
  subst hu12
  have hcl := show Hid _ from hB
  clear hB
  have hmin := hmin.out
  have hmax := hmax.out
  go_wp2_with (first
    | (go_at_call 55; go_must (refine (hRp 0).mono ?_; rintro e w13 ⟨v13, rfl, o13, f13, p13⟩; have z13 := f13.size)))
  go_ret2
  have H13 : Sto w13 F2 gs gp X' L' (m + 2) := T12.st.fr f13 (fun q hq hF hv => by
    have h1 := A.hv q hv
    rcases hF with h2 | h2 | h2
    · rcases (T12.ft q h2).1 with h3 | h3
      · exact h1.1 h3
      · omega
    · exact h1.2.1 h2
    · exact h1.2.2.1 h2)
  refine ⟨F2, v13, rfl, ⟨H13, fun q hq => ⟨?_, H13.ft q hq⟩, ?_⟩, o13, fun q hq => ?_⟩
  · rcases (T12.ft q hq).1 with h | h
    · exact Or.inl h
    · exact Or.inr (by omega)
  · exact ((F11.mono (fun _ _ q => q.elim)).thenT T12.fr (fun _ _ q => Or.inr q)).thenT f13 (fun _ _ q => Or.inl q)
  · rcases p13 q hq with h | h
    · refine ⟨fun hF => ?_, Or.inl h⟩
      have h1 := A.hv q h
      rcases (T12.ft q hF).1 with h3 | h3
      · exact h1.1 h3
      · omega
    · refine ⟨fun hF => by have := (T12.ft q hF).2; omega, Or.inr (by omega)⟩
set_option maxRecDepth 100000 in
set_option maxHeartbeats 8000000 in
theorem place_gt {w : World} {F : Nat → Prop} {gs gp base : Nat} {X X' : DSt} {L L' : List Pg} {m : Nat} {k : Int} {cb : List Int} {l c : List (Int × Int)} {v cv : Value} {i B : Nat} {t : Int × Int} (A : PlA w F gs gp base X L m k cb l c v cv i) (hc0 : 1 ≤ c.length) (hB : besF X l i c.length = B) (hB2 : B = i + 1) (hBl : B < l.length) (hJ : (c ++ othF X l i B).length ≤ 6)
    (hs : splF (X, L) k (c ++ othF X l i B) = ((X', L'), [t], 0)) :
    Calls Tryz.prog 80 #[trV gs, v, .int .i64 (i : Int), ndV k cb cv] w fun r w' => PlIs w w' F gs gp base v ((X', L'), l.take i ++ ([t] ++ l.drop (i + 2)), 0) (m + 2) r := by
  have hb := NdS.bl A.nd
  have hkw := A.nd.2.2.2
  obtain ⟨a, cap, hcv, _⟩ := A.nd.slr.opn
  have hS0 := A.nd.slr
  have hwc := A.nd.1.2
  subst hcv
  have hes : (⟨k, cb, c⟩ : Nd).es = c := rfl
  rw [hes] at hS0 hwc ⊢
  clear hes
  obtain ⟨O, HO⟩ : ∃ O, Hid (othF X l i B = O) := ⟨_, rfl⟩
  have hbes := fun W (s : Sto W F gs gp X L m) (hS : SlR enC 2 W v l) => bes_any (v := v) (i := i) (n := c.length) W s (by have := A.hm; omega) hS A.hi (by have := A.hl; omega) (by have := A.hc; omega) A.hg
  rw [hB, HO.out] at hbes
  rw [HO.out] at hs hJ
  have hwO : ∀ x ∈ O, (Lit.int .i64 x.1).wf = true ∧ (Lit.int .i64 x.2).wf = true := by
    intro x hx
    rw [← HO.out] at hx
    unfold othF at hx
    by_cases q : B = i
    · rw [if_pos q] at hx; cases hx
    · rw [if_neg q] at hx
      have hm : l.getD B (0, 0) ∈ l := by simp [List.getD, hBl]
      exact A.hw _ hm x hx
  have hwJ : ∀ x ∈ c ++ O, (Lit.int .i64 x.1).wf = true ∧ (Lit.int .i64 x.2).wf = true := fun x hx => by
    rcases List.mem_append.1 hx with q | q
    · exact hwc x q
    · exact hwO x q
  have hb16 := A.nd.2.1
  obtain ⟨J, HJ⟩ : ∃ J, Hid (c ++ O = J) := ⟨_, rfl⟩
  have hJl : Hid (J.length = c.length + O.length) := by rw [← HJ.out]; exact List.length_append
  rw [HJ.out] at hs hJ hwJ
  have hcat := fun W (vt va vb : Value) (h1 : SlR en1 1 W vt [va, vb]) (h2 : SlR enC 2 W va c) (h3 : SlR enC 2 W vb O) => cat_any h1 h2 h3 (by have := hJl.out; omega) (by have := hJl.out; omega)
  rw [HJ.out] at hcat
  have hi := A.hi
  have hl6 := A.hl
  have hc6 := A.hc
  have hm9 := A.hm
  obtain ⟨n, Hn⟩ : ∃ n, Hid (c.length = n) := ⟨_, rfl⟩
  rw [Hn.out] at hS0 hbes hc0 hc6 ⊢
  have hz : ((n : Int) == 0) = false := by simp; omega
  have hw1 : ∀ z : Nat, z ≤ 300 → IntKind.i64.wrap ((z : Int) + 1) = (z : Int) + 1 := fun z hz => wrap_sm (by omega)
  have hlt : decide ((B : Int) < (i : Int)) = false := by simp; omega
  have hmin : min (i : Int) (B : Int) = (i : Int) := by omega
  have hmax : max (i : Int) (B : Int) + 1 = (i : Int) + 2 := by omega
  have hSp := fun W (F1 : Nat → Prop) (s : Sto W F1 gs gp X L m) (u : Value) (o : SlR enC 2 W u J) (hu : ∀ x, u.ownBlock = some x → ¬ F1 x ∧ x ≠ gp ∧ x < W.heap.size) => split_any (X := X) (L := L) k cb J u W s (by omega) ⟨⟨o, hwJ⟩, hb16, by show J.length ≤ 1000; omega, hkw⟩ hu
  rw [hs] at hSp
  have hFt := A.st.ft
  have hgsl := A.st.lts
  have hgpl := A.st.ltp
  have hB3 : B ≤ i + 1 := by omega
  have hB4 : i + 1 ≤ B := by omega
  have hmin := show Hid _ from hmin
  have hmax := show Hid _ from hmax
  clear hB2
  go_enter Tryz.func80, Tryz.ntmps80
  go_upto_region 9 with (first
    | (with_reducible refine at_wpP ?_; refine wpList_boxG rfl 28 _ rfl (trV gs) [ptr gs] rfl rfl ?_; intro g4 w4 hg4 b4 f4 s4; have l4 := b4.lt; have z4 := f4.size)
    | (with_reducible refine at_wpP ?_; refine wpList_boxN rfl _ rfl k cb _ rfl ?_; intro g7 w7 hg7 b7 f7 s7; have l7 := b7.lt; have z7 := f7.size; have q7 := NdB.ents b7 hb.out; have B4 := b4.fr0 f7)
    | (with_reducible refine at_wpP ?_; refine at_ld 28 _ rfl ?_; go_must (refine wpList_ldP rfl _ rfl g4 rfl gs B4 ?_))
    | (go_at_call 96; go_must (refine (hbes _ (A.st.fr0 (f4.thenN f7)) (A.ow.sl.fr0 (f4.thenN f7))).mono ?_; rintro e w8 ⟨u8, rfl, o8, f8⟩; have z8 := f8.size; obtain ⟨a8, c8, hu8⟩ := o8.opn; subst hu8; have b8 := b7.fr0 f8; have q8 := NdB.ents b8 hb.out; have S8 := hS0.fr0 ((f4.thenN f7).thenN f8)))
    | (with_reducible refine at_wpP ?_; refine wpList_mk2S rfl _ _ rfl _ _ _ _ _ _ rfl rfl ?_; intro g9 w9 b9 f9 s9; have z9 := f9.size; have B9 := b8.fr0 f9)
    | (go_at_call 97; go_must (refine (hcat _ _ _ _ (vs_own b9 (by simp)).sl (S8.fr0 f9) (o8.sl.fr0 f9)).mono ?_; rintro e w10 ⟨v10, rfl, o10, f10⟩; have z10 := f10.size; obtain ⟨a10, c10, hv10⟩ := o10.opn; subst hv10; have B10 := B9.fr0 f10; have q10 := NdB.ents B10 hb.out))
    | (with_reducible refine at_wpP ?_; refine at_st 31 _ _ rfl ?_; go_must (refine wpList_stEnt rfl _ _ rfl g7 rfl _ rfl ⟨_, _, _, rfl⟩ k cb _ B10 hb.out ?_; intro w11 b11 f11; have z11 := f11.size)))
  have F10 : Fr noB w w10 := ((((f4.thenN f7).thenN f8).thenN f9).thenN f10)
  have F11 : Fr noB w w11 := F10.thenT f11 (fun x hx q => by unfold onB1 at q; omega)
  have H11 := A.st.fr0 F11
  have b4' : BxV w11 g4 28 [ptr gs] := (((B4.fr0 f8).fr0 f9).fr0 f10).fr f11 (fun q => by unfold onB1 at q; omega)
  have o11 := o10.fr f11 (fun x hx q => by have := (o10.newB x hx).1; unfold onB1 at q; omega)
  have hSq := hSp w11 F H11 _ o11.sl (fun x hx => by
    have h1 := o11.newB x hx
    exact ⟨fun q => by have := hFt x q; omega, by omega, h1.2⟩)
  have F11' := F11
  go_upto_region 12 with (first
    | (with_reducible refine at_wpP ?_; refine at_ld 26 _ rfl ?_; go_must (refine wpList_ldPT rfl _ rfl g4 rfl gs b4' ?_))
    | (with_reducible refine at_wpP ?_; refine at_ld 72 _ rfl ?_; go_must (refine wpList_ldN rfl _ rfl g7 rfl k cb _ b11 hb.out ?_))
    | (go_at_call 32; go_must (refine hSq.mono ?_; rintro e w12 ⟨F2, u12, rfl, T12, o12, a12⟩; have z12 := T12.fr.size)))
  have o0 : EnO w12 base v l := (A.ow.fr0 F11).fr T12.fr (fun x hx q => by
    have := A.hv x hx
    rcases q with q | q
    · exact this.1 q
    · exact this.2.1 q)
  have hRp := fun (i' : Nat) => rep2_any (i := i) (by have := A.hb; omega) o0 o12 (fun q hq hq2 => by have := A.hv q hq; have := (o12.newB q hq2).1; omega) (by omega) (by omega)
  obtain ⟨a12', c12, hu12⟩ := o12.opn
  subst hu12
  have hcl := show Hid _ from hB
  clear hB
  have hmin := hmin.out
  have hmax := hmax.out
  go_wp2_with (first
    | (go_at_call 55; go_must (refine (hRp 0).mono ?_; rintro e w13 ⟨v13, rfl, o13, f13, p13⟩; have z13 := f13.size)))
  go_ret2
  have H13 : Sto w13 F2 gs gp X' L' (m + 2) := T12.st.fr f13 (fun q hq hF hv => by
    have h1 := A.hv q hv
    rcases hF with h2 | h2 | h2
    · rcases (T12.ft q h2).1 with h3 | h3
      · exact h1.1 h3
      · omega
    · exact h1.2.1 h2
    · exact h1.2.2.1 h2)
  refine ⟨F2, v13, rfl, ⟨H13, fun q hq => ⟨?_, H13.ft q hq⟩, ?_⟩, o13, fun q hq => ?_⟩
  · rcases (T12.ft q hq).1 with h | h
    · exact Or.inl h
    · exact Or.inr (by omega)
  · exact ((F11.mono (fun _ _ q => q.elim)).thenT T12.fr (fun _ _ q => Or.inr q)).thenT f13 (fun _ _ q => Or.inl q)
  · rcases p13 q hq with h | h
    · refine ⟨fun hF => ?_, Or.inl h⟩
      have h1 := A.hv q h
      rcases (T12.ft q hF).1 with h3 | h3
      · exact h1.1 h3
      · omega
    · refine ⟨fun hF => by have := (T12.ft q hF).2; omega, Or.inr (by omega)⟩
set_option maxRecDepth 100000 in
set_option maxHeartbeats 8000000 in
theorem place_eq {w : World} {F : Nat → Prop} {gs gp base : Nat} {X X' : DSt} {L L' : List Pg} {m : Nat} {k : Int} {cb : List Int} {l c : List (Int × Int)} {v cv : Value} {i B : Nat} {t : Int × Int} (A : PlA w F gs gp base X L m k cb l c v cv i) (hc0 : 1 ≤ c.length) (hB : besF X l i c.length = B) (hB2 : B = i) (hBl : B < l.length) (hJ : (c ++ othF X l i B).length ≤ 6)
    (hs : splF (X, L) k (c ++ othF X l i B) = ((X', L'), [t], 0)) :
    Calls Tryz.prog 80 #[trV gs, v, .int .i64 (i : Int), ndV k cb cv] w fun r w' => PlIs w w' F gs gp base v ((X', L'), l.take i ++ ([t] ++ l.drop (i + 1)), 0) (m + 2) r := by
  have hb := NdS.bl A.nd
  have hkw := A.nd.2.2.2
  obtain ⟨a, cap, hcv, _⟩ := A.nd.slr.opn
  have hS0 := A.nd.slr
  have hwc := A.nd.1.2
  subst hcv
  have hes : (⟨k, cb, c⟩ : Nd).es = c := rfl
  rw [hes] at hS0 hwc ⊢
  clear hes
  obtain ⟨O, HO⟩ : ∃ O, Hid (othF X l i B = O) := ⟨_, rfl⟩
  have hbes := fun W (s : Sto W F gs gp X L m) (hS : SlR enC 2 W v l) => bes_any (v := v) (i := i) (n := c.length) W s (by have := A.hm; omega) hS A.hi (by have := A.hl; omega) (by have := A.hc; omega) A.hg
  rw [hB, HO.out] at hbes
  rw [HO.out] at hs hJ
  have hwO : ∀ x ∈ O, (Lit.int .i64 x.1).wf = true ∧ (Lit.int .i64 x.2).wf = true := by
    intro x hx
    rw [← HO.out] at hx
    unfold othF at hx
    by_cases q : B = i
    · rw [if_pos q] at hx; cases hx
    · rw [if_neg q] at hx
      have hm : l.getD B (0, 0) ∈ l := by simp [List.getD, hBl]
      exact A.hw _ hm x hx
  have hwJ : ∀ x ∈ c ++ O, (Lit.int .i64 x.1).wf = true ∧ (Lit.int .i64 x.2).wf = true := fun x hx => by
    rcases List.mem_append.1 hx with q | q
    · exact hwc x q
    · exact hwO x q
  have hb16 := A.nd.2.1
  obtain ⟨J, HJ⟩ : ∃ J, Hid (c ++ O = J) := ⟨_, rfl⟩
  have hJl : Hid (J.length = c.length + O.length) := by rw [← HJ.out]; exact List.length_append
  rw [HJ.out] at hs hJ hwJ
  have hcat := fun W (vt va vb : Value) (h1 : SlR en1 1 W vt [va, vb]) (h2 : SlR enC 2 W va c) (h3 : SlR enC 2 W vb O) => cat_any h1 h2 h3 (by have := hJl.out; omega) (by have := hJl.out; omega)
  rw [HJ.out] at hcat
  have hi := A.hi
  have hl6 := A.hl
  have hc6 := A.hc
  have hm9 := A.hm
  obtain ⟨n, Hn⟩ : ∃ n, Hid (c.length = n) := ⟨_, rfl⟩
  rw [Hn.out] at hS0 hbes hc0 hc6 ⊢
  have hz : ((n : Int) == 0) = false := by simp; omega
  have hw1 : ∀ z : Nat, z ≤ 300 → IntKind.i64.wrap ((z : Int) + 1) = (z : Int) + 1 := fun z hz => wrap_sm (by omega)
  have hlt : decide ((B : Int) < (i : Int)) = false := by simp; omega
  have hmin : min (i : Int) (B : Int) = (i : Int) := by omega
  have hmax : max (i : Int) (B : Int) + 1 = (i : Int) + 1 := by omega
  have hSp := fun W (F1 : Nat → Prop) (s : Sto W F1 gs gp X L m) (u : Value) (o : SlR enC 2 W u J) (hu : ∀ x, u.ownBlock = some x → ¬ F1 x ∧ x ≠ gp ∧ x < W.heap.size) => split_any (X := X) (L := L) k cb J u W s (by omega) ⟨⟨o, hwJ⟩, hb16, by show J.length ≤ 1000; omega, hkw⟩ hu
  rw [hs] at hSp
  have hFt := A.st.ft
  have hgsl := A.st.lts
  have hgpl := A.st.ltp
  have hB3 : B ≤ i := by omega
  have hB4 : i ≤ B := by omega
  have hmin := show Hid _ from hmin
  have hmax := show Hid _ from hmax
  clear hB2
  go_enter Tryz.func80, Tryz.ntmps80
  go_upto_region 9 with (first
    | (with_reducible refine at_wpP ?_; refine wpList_boxG rfl 28 _ rfl (trV gs) [ptr gs] rfl rfl ?_; intro g4 w4 hg4 b4 f4 s4; have l4 := b4.lt; have z4 := f4.size)
    | (with_reducible refine at_wpP ?_; refine wpList_boxN rfl _ rfl k cb _ rfl ?_; intro g7 w7 hg7 b7 f7 s7; have l7 := b7.lt; have z7 := f7.size; have q7 := NdB.ents b7 hb.out; have B4 := b4.fr0 f7)
    | (with_reducible refine at_wpP ?_; refine at_ld 28 _ rfl ?_; go_must (refine wpList_ldP rfl _ rfl g4 rfl gs B4 ?_))
    | (go_at_call 96; go_must (refine (hbes _ (A.st.fr0 (f4.thenN f7)) (A.ow.sl.fr0 (f4.thenN f7))).mono ?_; rintro e w8 ⟨u8, rfl, o8, f8⟩; have z8 := f8.size; obtain ⟨a8, c8, hu8⟩ := o8.opn; subst hu8; have b8 := b7.fr0 f8; have q8 := NdB.ents b8 hb.out; have S8 := hS0.fr0 ((f4.thenN f7).thenN f8)))
    | (with_reducible refine at_wpP ?_; refine wpList_mk2S rfl _ _ rfl _ _ _ _ _ _ rfl rfl ?_; intro g9 w9 b9 f9 s9; have z9 := f9.size; have B9 := b8.fr0 f9)
    | (go_at_call 97; go_must (refine (hcat _ _ _ _ (vs_own b9 (by simp)).sl (S8.fr0 f9) (o8.sl.fr0 f9)).mono ?_; rintro e w10 ⟨v10, rfl, o10, f10⟩; have z10 := f10.size; obtain ⟨a10, c10, hv10⟩ := o10.opn; subst hv10; have B10 := B9.fr0 f10; have q10 := NdB.ents B10 hb.out))
    | (with_reducible refine at_wpP ?_; refine at_st 31 _ _ rfl ?_; go_must (refine wpList_stEnt rfl _ _ rfl g7 rfl _ rfl ⟨_, _, _, rfl⟩ k cb _ B10 hb.out ?_; intro w11 b11 f11; have z11 := f11.size)))
  have F10 : Fr noB w w10 := ((((f4.thenN f7).thenN f8).thenN f9).thenN f10)
  have F11 : Fr noB w w11 := F10.thenT f11 (fun x hx q => by unfold onB1 at q; omega)
  have H11 := A.st.fr0 F11
  have b4' : BxV w11 g4 28 [ptr gs] := (((B4.fr0 f8).fr0 f9).fr0 f10).fr f11 (fun q => by unfold onB1 at q; omega)
  have o11 := o10.fr f11 (fun x hx q => by have := (o10.newB x hx).1; unfold onB1 at q; omega)
  have hSq := hSp w11 F H11 _ o11.sl (fun x hx => by
    have h1 := o11.newB x hx
    exact ⟨fun q => by have := hFt x q; omega, by omega, h1.2⟩)
  have F11' := F11
  go_upto_region 12 with (first
    | (with_reducible refine at_wpP ?_; refine at_ld 26 _ rfl ?_; go_must (refine wpList_ldPT rfl _ rfl g4 rfl gs b4' ?_))
    | (with_reducible refine at_wpP ?_; refine at_ld 72 _ rfl ?_; go_must (refine wpList_ldN rfl _ rfl g7 rfl k cb _ b11 hb.out ?_))
    | (go_at_call 32; go_must (refine hSq.mono ?_; rintro e w12 ⟨F2, u12, rfl, T12, o12, a12⟩; have z12 := T12.fr.size)))
  have o0 : EnO w12 base v l := (A.ow.fr0 F11).fr T12.fr (fun x hx q => by
    have := A.hv x hx
    rcases q with q | q
    · exact this.1 q
    · exact this.2.1 q)
  have hRp := fun (i' : Nat) => repE_any (i := i) (m := [t]) (by have := A.hb; omega) o0 o12 (fun q hq hq2 => by have := A.hv q hq; have := (o12.newB q hq2).1; omega) (by simp) (by simp; omega) (by omega)
  obtain ⟨a12', c12, hu12⟩ := o12.opn
  subst hu12
  have hcl := show Hid _ from hB
  clear hB
  have hmin := hmin.out
  have hmax := hmax.out
  go_wp2_with (first
    | (go_at_call 55; go_must (refine (hRp 0).mono ?_; rintro e w13 ⟨v13, rfl, o13, f13, p13⟩; have z13 := f13.size)))
  go_ret2
  have H13 : Sto w13 F2 gs gp X' L' (m + 2) := T12.st.fr f13 (fun q hq hF hv => by
    have h1 := A.hv q hv
    rcases hF with h2 | h2 | h2
    · rcases (T12.ft q h2).1 with h3 | h3
      · exact h1.1 h3
      · omega
    · exact h1.2.1 h2
    · exact h1.2.2.1 h2)
  refine ⟨F2, v13, rfl, ⟨H13, fun q hq => ⟨?_, H13.ft q hq⟩, ?_⟩, o13, fun q hq => ?_⟩
  · rcases (T12.ft q hq).1 with h | h
    · exact Or.inl h
    · exact Or.inr (by omega)
  · exact ((F11.mono (fun _ _ q => q.elim)).thenT T12.fr (fun _ _ q => Or.inr q)).thenT f13 (fun _ _ q => Or.inl q)
  · rcases p13 q hq with h | h
    · refine ⟨fun hF => ?_, Or.inl h⟩
      have h1 := A.hv q h
      rcases (T12.ft q hF).1 with h3 | h3
      · exact h1.1 h3
      · omega
    · refine ⟨fun hF => by have := (T12.ft q hF).2; omega, Or.inr (by omega)⟩
end Go.Proofs.YtmkinaijkgkgiaaGreat
/- place, by its function; no condition. -/
namespace Go.Proofs.YtmkinaijkgkgiaaGreat
open Go.RowKit Go.Proofs.U
set_option linter.unusedSimpArgs false
set_option linter.unusedVariables false
theorem splF_one {S S' : DSt × List Pg} {k : Int} {J tops : List (Int × Int)} (h1 : 1 ≤ J.length) (h6 : J.length ≤ 6) (h : splF S k J = (S', tops, 0)) : ∃ t, tops = [t] := by
  unfold splF partsL at h
  rw [if_neg (by omega), if_neg (by omega), if_pos h6] at h
  unfold splA at h
  split at h
  · unfold splA at h
    simp only [List.nil_append, Prod.mk.injEq] at h
    exact ⟨_, h.2.1.symm⟩
  · rename_i he
    simp only [Prod.mk.injEq] at h
    exact absurd h.2.2 he
theorem place_any {w : World} {F : Nat → Prop} {gs gp base : Nat} {X X' : DSt} {L L' : List Pg} {m : Nat} {k : Int} {cb : List Int} {l c es' : List (Int × Int)} {v cv : Value} {i : Nat} (A : PlA w F gs gp base X L m k cb l c v cv i) (hp : placeF (X, L) k l i c = ((X', L'), es', 0)) :
    Calls Tryz.prog 80 #[trV gs, v, .int .i64 (i : Int), ndV k cb cv] w fun r w' => PlIs w w' F gs gp base v ((X', L'), es', 0) (m + 2) r := by
  by_cases hc : c.length = 0
  · unfold placeF at hp
    rw [if_pos hc] at hp
    cases hp
    exact place_none A hc
  · have hc1 : 1 ≤ c.length := by omega
    unfold placeF at hp
    rw [if_neg hc] at hp
    simp only [Prod.mk.injEq] at hp
    obtain ⟨h1, h2, h3⟩ := hp
    have hi := A.hi
    have hc6 := A.hc
    generalize hB : besF X l i c.length = B at *
    have hcs : (B + 1 = i ∧ szX X (l.getD B (0, 0)).2 + c.length ≤ 6) ∨ (B = i + 1 ∧ i + 1 < l.length ∧ szX X (l.getD B (0, 0)).2 + c.length ≤ 6) ∨ B = i := by
      unfold besF at hB
      split at hB
      · rename_i q; subst hB; exact Or.inl ⟨by omega, q.2⟩
      · split at hB
        · rename_i q; subst hB; exact Or.inr (Or.inl ⟨rfl, q.1, q.2⟩)
        · exact Or.inr (Or.inr hB.symm)
    have hol : ¬ B = i → (othF X l i B).length = szX X (l.getD B (0, 0)).2 := fun q => by unfold othF; rw [if_neg q]; rfl
    have ho0 : B = i → (othF X l i B).length = 0 := fun q => by unfold othF; rw [if_pos q]; rfl
    rcases hcs with ⟨q, q6⟩ | ⟨q, ql, q6⟩ | q
    · have hj : joinF X l i B c = othF X l i B ++ c := by unfold joinF; rw [if_pos (by omega)]
      have hJ : (othF X l i B ++ c).length ≤ 6 := by rw [List.length_append, hol (by omega)]; exact q6
      rw [hj] at h1 h2 h3
      generalize hq : splF (X, L) k (othF X l i B ++ c) = R at h1 h2 h3
      obtain ⟨S1, tops, e⟩ := R
      simp only at h1 h2 h3
      subst h1
      subst h3
      obtain ⟨t, rfl⟩ := splF_one (by rw [List.length_append]; omega) hJ hq
      rw [show min i B = B by omega, show max i B + 1 = B + 2 by omega] at h2
      rw [← h2]
      exact place_lt A hc1 hB q (by omega) hJ hq
    · have hj : joinF X l i B c = c ++ othF X l i B := by unfold joinF; rw [if_neg (by omega)]
      have hJ : (c ++ othF X l i B).length ≤ 6 := by rw [List.length_append, hol (by omega)]; omega
      rw [hj] at h1 h2 h3
      generalize hq : splF (X, L) k (c ++ othF X l i B) = R at h1 h2 h3
      obtain ⟨S1, tops, e⟩ := R
      simp only at h1 h2 h3
      subst h1
      subst h3
      obtain ⟨t, rfl⟩ := splF_one (by rw [List.length_append]; omega) hJ hq
      rw [show min i B = i by omega, show max i B + 1 = i + 2 by omega] at h2
      rw [← h2]
      exact place_gt A hc1 hB q (by omega) hJ hq
    · have hj : joinF X l i B c = c ++ othF X l i B := by unfold joinF; rw [if_neg (by omega)]
      have hJ : (c ++ othF X l i B).length ≤ 6 := by rw [List.length_append, ho0 q]; omega
      rw [hj] at h1 h2 h3
      generalize hq : splF (X, L) k (c ++ othF X l i B) = R at h1 h2 h3
      obtain ⟨S1, tops, e⟩ := R
      simp only at h1 h2 h3
      subst h1
      subst h3
      obtain ⟨t, rfl⟩ := splF_one (by rw [List.length_append]; omega) hJ hq
      rw [show min i B = i by omega, show max i B + 1 = i + 1 by omega] at h2
      rw [← h2]
      exact place_eq A hc1 hB q (by omega) hJ hq
end Go.Proofs.YtmkinaijkgkgiaaGreat
/- without: a node's entries without a key that is below it; no condition. (Written by ux_gen.py.) -/
namespace Go.Proofs.YtmkinaijkgkgiaaGreat
open Go.RowKit Go.Proofs.U
set_option linter.unusedSimpArgs false
set_option linter.unusedVariables false
/-- What without hands. -/
def WioC (w w' : World) (F : Nat → Prop) (gs gp base : Nat) (v : Value) (k : Int) (nb : List Int) (R : (DSt × List Pg) × List (Int × Int) × Int) (m : Nat) (r : Ending) : Prop :=
  ∃ F' v', r = .returned (.tuple #[ndV k nb v', .int .i64 0]) ∧ PlT w w' F F' gs gp v R.1 m ∧ EnO w' base v' R.2.1 ∧ ∀ q, v'.ownBlock = some q → ¬ F' q ∧ (v.ownBlock = some q ∨ w.heap.size ≤ q)
/-- What is asked of without's arguments. -/
structure WiA (w : World) (F : Nat → Prop) (gs gp base : Nat) (X : DSt) (L : List Pg) (m lv : Nat) (nb : List Int) (es : List (Int × Int)) (v : Value) : Prop where
  st : Sto w F gs gp X L m
  hb : base ≤ w.heap.size
  ow : EnO w base v es
  nd : NdS w v ⟨kdL lv, nb, es⟩
  hv : ∀ x, v.ownBlock = some x → ¬ F x ∧ x ≠ gp ∧ x ≠ gs ∧ x < w.heap.size
theorem at_hitU {l : List (Int × Int)} {key i : Int} (hu : KeysUp l) (hk : ∃ z ∈ l, z.1 = key) (h : AtIs l key i) : ∃ (j : Nat) (hj : j < l.length), i = (j : Int) ∧ l[j].1 = key := by
  obtain ⟨z, hz, e⟩ := hk
  by_cases hi : i = -1
  · subst hi
    have := h.none z hz
    omega
  · obtain ⟨j, hj, rfl, hl, hle, hgt⟩ := h.some hi
    refine ⟨j, hj, rfl, ?_⟩
    rw [hl] at hu hz
    obtain ⟨_, _, ha, _⟩ := hu.split
    rcases List.mem_append.1 hz with q | q
    · have := ha z q; omega
    · rcases List.mem_cons.1 q with q | q
      · rw [← q]; exact e
      · have := hgt z q; omega
set_option maxRecDepth 100000 in
set_option maxHeartbeats 4000000 in
theorem wio_at0 {w : World} {F : Nat → Prop} {gs gp base : Nat} {X : DSt} {L : List Pg} {m : Nat} {nb : List Int} {es : List (Int × Int)} {v : Value} (A : WiA w F gs gp base X L m 0 nb es v) (key : Int) (hu : KeysUp es) (h6 : es.length ≤ 6) (hk : ∃ z ∈ es, z.1 = key) :
    Calls Tryz.prog 58 #[trV gs, ndV 2 nb v, .int .i64 key] w fun r w' => WioC w w' F gs gp base v 2 nb ((X, L), cutL es key, 0) m r := by
  have hb : Hid (nb.length = 16) := NdS.bl A.nd
  have hAt := fun i (h : AtIs es key i) => at_hitU hu hk h
  have hcut := fun (j : Nat) (hj : j < es.length) (e : es[j].1 = key) => cutL_at hu hj e
  obtain ⟨C, HC⟩ : ∃ C, Hid (cutL es key = C) := ⟨_, rfl⟩
  rw [HC.out] at hcut ⊢
  have hcut := show Hid _ from hcut
  obtain ⟨a, cap, hcv, _⟩ := A.ow.sl.opn
  obtain ⟨M, HM⟩ : ∃ M, Hid (es.length = M) := ⟨_, rfl⟩
  rw [HM.out] at hcv
  subst hcv
  have hD := fun W (f : Fr noB w W) (i : Nat) (hi : i < es.length) => delE_any (w := W) (v := .slice a M cap) (l := es) (i := i) (by have := A.hb; have := f.size; omega) (A.ow.fr0 f) hi (by omega)
  have hsl := A.ow.sl
  have hAtc := fun W (f : Fr noB w W) => at_any (.slice a M cap) es key W (A.nd.fr0 f).1 (by omega)
  clear hu hk
  go_enter Tryz.func58, Tryz.ntmps58
  go_upto_region 3 with (first
    | (with_reducible refine at_wpP ?_; refine wpList_boxG rfl 28 _ rfl (trV gs) [ptr gs] rfl rfl ?_; intro g3 w3 hg3 b3 f3 s3; have l3 := b3.lt; have z3 := f3.size)
    | (with_reducible refine at_wpP ?_; refine wpList_boxN rfl _ rfl 2 nb _ rfl ?_; intro g4 w4 hg4 b4 f4 s4; have l4 := b4.lt; have z4 := f4.size)
    | (with_reducible refine at_wpP ?_; refine wpList_allocN rfl rfl ?_; intro g6 w6 hg6 b6 f6 s6; have l6 := b6.lt; have z6 := f6.size; have B4 := b4.fr0 f6; have e4 := NdB.ents B4 hb.out)
    | (go_at_call 54; go_must (refine (hAtc _ ((f3.thenN f4).thenN f6)).mono ?_; rintro e w8 ⟨i, rfl, hi8, f8⟩; have z8 := f8.size; have C4 := B4.fr0 f8; have k8 := NdB.kind C4; have e8 := NdB.ents C4 hb.out; have b6' := b6.fr0 f8)))
  obtain ⟨j, hj, rfl, hjk⟩ := hAt i hi8
  have hdr := show Hid _ from hcut.out j hj hjk
  have F8 := ((f3.thenN f4).thenN f6).thenN f8
  have hw1 : IntKind.i64.wrap ((j : Int) + 1) = (j : Int) + 1 := wrap_sm (by omega)
  have hjk := show Hid _ from hjk
  clear hi8 hcut hAt
  go_wp2_with (first
    | (go_at_call 79; go_must (refine (hD _ F8 j hj).mono ?_; rintro e w9 ⟨v9, rfl, o9, f9, p9⟩; have z9 := f9.size; obtain ⟨a9, c9, hv9⟩ := o9.opn; replace hv9 := show Hid _ from hv9; have D4 := C4.fr f9 (fun q => by have := (A.hv _ q).2.2.2; omega); have D6 := b6'.fr f9 (fun q => by have := (A.hv _ q).2.2.2; omega)))
    | (with_reducible refine at_wpP ?_; refine at_st 31 _ _ rfl ?_; go_must (refine wpList_stEnt rfl _ _ rfl g4 rfl v9 rfl ⟨_, _, _, hv9.out⟩ 2 nb _ D4 hb.out ?_; intro w10 b10 f10; have z10 := f10.size; have E6 := D6.fr f10 (fun q => by unfold onB1 at q; omega)))
    | (with_reducible refine at_wpP ?_; refine at_ld 72 _ rfl ?_; have q := b10; go_must (refine wpList_ldN rfl _ rfl g4 rfl 2 nb v9 b10 hb.out ?_))
    | (with_reducible refine at_wpP ?_; refine at_st 72 _ _ rfl ?_; have q := b10; go_must (refine wpList_stN rfl _ _ rfl g6 rfl 2 nb v9 rfl hb.out ⟨_, _, _, hv9.out⟩ 0 (zerB 16) nilS E6 (zerB_len 16) ?_; intro w11 b11 f11; have z11 := f11.size)))
  have hnb : ∀ q, v9.ownBlock = some q → (Value.slice a M cap).ownBlock = some q ∨ w8.heap.size ≤ q := p9
  have H9 : Sto w9 F gs gp X L m := (A.st.fr0 F8).fr f9 (fun q hq hF hv => by
    have h1 := A.hv q hv
    rcases hF with h2 | h2 | h2
    · exact h1.1 h2
    · exact h1.2.1 h2
    · exact h1.2.2.1 h2)
  have hgp := A.st.ltp
  have hgs := A.st.lts
  have hFt := A.st.ft
  have hnew : ∀ q, w.heap.size ≤ q → ¬ (F q ∨ q = gp ∨ q = gs) := fun q hq h => by
    rcases h with h | h | h
    · have := hFt q h; omega
    · omega
    · omega
  have H11 : Sto w11 F gs gp X L m := (H9.fr f10 (fun q hq hF hv => by unfold onB1 at hv; subst hv; exact hnew _ (by omega) hF)).fr f11 (fun q hq hF hv => by unfold onB1 at hv; subst hv; exact hnew _ (by omega) hF)
  have hq9 : ∀ q, v9.ownBlock = some q → q ≠ g4 ∧ q ≠ g6 := fun q hq => by
    rcases hnb q hq with h | h
    · have := (A.hv q h).2.2.2; exact ⟨by omega, by omega⟩
    · exact ⟨by omega, by omega⟩
  have o11 := (o9.fr f10 (fun q hq h => (hq9 q hq).1 h)).fr f11 (fun q hq h => (hq9 q hq).2 h)
  refine bodyPost_ret (results_nd2 Tryz.results58 _ w11 g6 2 nb v9 rfl b11 hb.out) rfl ⟨F, v9, rfl, ⟨H11, fun q hq => ⟨Or.inl hq, H11.ft q hq⟩, ?_⟩, ?_, fun q hq => ?_⟩
  · exact (((F8.mono (fun _ _ q => q.elim)).thenT f9 (fun _ _ q => Or.inl q)).thenT f10 (fun x hx q => by unfold onB1 at q; omega)).thenT f11 (fun x hx q => by unfold onB1 at q; omega)
  · rw [hdr.out]; exact o11
  · rcases hnb q hq with h | h
    · exact ⟨(A.hv q h).1, Or.inl h⟩
    · exact ⟨fun hF => by have := hFt q hF; omega, Or.inr (by omega)⟩
set_option maxRecDepth 100000 in
set_option maxHeartbeats 8000000 in
theorem wio_atS {w : World} {F : Nat → Prop} {gs gp base : Nat} {X X1 X' : DSt} {L L1 L' : List Pg} {m m1 lv : Nat} {nb : List Int} {es c' es' : List (Int × Int)} {v : Value} {N : Nd} {j : Nat} {y : Int × Int} (A : WiA w F gs gp base X L m (lv + 1) nb es v) (key : Int) (hm : m ≤ 80000) (hm1 : m1 ≤ 80000) (h6 : es.length ≤ 6)
    (hj : j < es.length) (hy : es[j] = y) (hAt : ∀ i, AtIs es key i → i = (j : Int)) (hg : getF X L y.2 = (N, 0)) (hNk : N.k = kdL lv) (hN6 : N.es.length ≤ 6)
    (hrec : ∀ (W : World) (b : Nat) (u : Value), WiA W F gs gp b X L m lv N.b N.es u → Calls Tryz.prog 58 #[trV gs, ndV (kdL lv) N.b u, .int .i64 key] W fun r w' => WioC W w' F gs gp b u (kdL lv) N.b ((X1, L1), c', 0) m1 r)
    (hcw : ∀ x ∈ c', (Lit.int .i64 x.1).wf = true ∧ (Lit.int .i64 x.2).wf = true) (hc6 : c'.length ≤ 6)
    (hgl : ∀ y ∈ es, getF X1 L1 y.2 = ((rdN X1 y.2).1, 0) ∧ (rdN X1 y.2).1.es.length ≤ 6) (hgw : ∀ y ∈ es, ∀ x ∈ esX X1 y.2, (Lit.int .i64 x.1).wf = true ∧ (Lit.int .i64 x.2).wf = true)
    (hpl : placeF (X1, L1) (kdL lv) es j c' = ((X', L'), es', 0)) :
    Calls Tryz.prog 58 #[trV gs, ndV 3 nb v, .int .i64 key] w fun r w' => WioC w w' F gs gp base v 3 nb ((X', L'), es', 0) (m1 + 2) r := by
  have hb : Hid (nb.length = 16) := NdS.bl A.nd
  obtain ⟨a, cap, hcv, _⟩ := A.ow.sl.opn
  have hsl := A.ow.sl
  have hAtc := fun W (f : Fr noB w W) => at_any v es key W (A.nd.fr0 f).1 (by omega)
  have hG := fun W (f : Fr noB w W) => nget_own y.2 W (A.st.fr0 f) (by omega)
  rw [hg] at hG
  have hyl := show Hid _ from hy
  obtain ⟨M, HM⟩ : ∃ M, Hid (es.length = M) := ⟨_, rfl⟩
  have hjM : j < M := by have := HM.out; omega
  rw [HM.out] at hcv
  subst hcv
  have hAt' := show Hid _ from hAt
  have hFt := A.st.ft
  have hgsl := A.st.lts
  have hgpl := A.st.ltp
  clear hy hAt hg
  go_enter Tryz.func58, Tryz.ntmps58
  go_upto_region 5 with (first
    | (with_reducible refine at_wpP ?_; refine wpList_boxG rfl 28 _ rfl (trV gs) [ptr gs] rfl rfl ?_; intro g3 w3 hg3 b3 f3 s3; have l3 := b3.lt; have z3 := f3.size)
    | (with_reducible refine at_wpP ?_; refine wpList_boxN rfl _ rfl 3 nb _ rfl ?_; intro g4 w4 hg4 b4 f4 s4; have l4 := b4.lt; have z4 := f4.size)
    | (with_reducible refine at_wpP ?_; refine wpList_allocN rfl rfl ?_; intro g6 w6 hg6 b6 f6 s6; have l6 := b6.lt; have z6 := f6.size; have B4 := b4.fr0 f6; have e4 := NdB.ents B4 hb.out)
    | (go_at_call 54; go_must (refine (hAtc _ ((f3.thenN f4).thenN f6)).mono ?_; rintro e w8 ⟨i, rfl, hi8, f8⟩; have z8 := f8.size; obtain rfl := hAt'.out i hi8; have C4 := B4.fr0 f8; have k8 := NdB.kind C4; have e8 := NdB.ents C4 hb.out; have b6' := b6.fr0 f8; have C3 := ((b3.fr0 f4).fr0 f6).fr0 f8)))
  have F8 := ((f3.thenN f4).thenN f6).thenN f8
  obtain ⟨w0q, HWq⟩ : ∃ w0, Hid (w8.drew = w0) := ⟨_, rfl⟩
  have f0q : Fr noB w8 w0q := by rw [← HWq.out]; exact (Fr.refl _ _).drew
  have z0q := f0q.size
  have e80 := f0q.cell e8 (fun q => q)
  have S8 := A.ow.sl.fr0 F8
  obtain ⟨be, oe, hix, hcc⟩ := idx_raw S8 (j := j) (by rw [HM.out]; exact hjM)
  rw [hyl.out] at hcc
  have hc2 := f0q.cell (hcc 1 _ rfl) (fun q => q)
  have pr0 := f0q.cell (pr_cell C3) (fun q => q)
  have hGy0 := fun (W : World) (f : Fr noB w0q W) => hG W (F8.thenN (f0q.thenN f))
  refine wp_region_M_lay (by kernel_rfl) [9, 10, 11, 13, 14] [false, false, false, false, false, false, false, false, false, true, true, true, false, true, true, false]
    [fun v => v = .pointer (some ⟨g3, 0, none⟩), fun v => v = .pointer (some ⟨g3, 0, none⟩), fun v => v = ptr gs, fun v => v = .pointer (some ⟨g4, 17, none⟩), fun v => v = .slice a M cap, fun v => v = .int .i64 (j : Int), fun v => v = .pointer (some ⟨be, oe, none⟩), fun v => v = .pointer (some ⟨be, oe + 1, none⟩), fun v => v = .int .i64 y.2, fun _ => True, fun _ => True, fun _ => True, fun v => v = .int .i64 0, fun _ => True, fun _ => True, fun v => v = .int .i64 0]
    (JGet w0q 9 N) (by rw [HWq.out]; exact JGet.start) (by kernel_rfl) (by kernel_rfl) ⟨?o0, ?o1, ?o2, ?o3, ?o4, ?o5, ?o6, ?o7, ?o8, ?o9, ?o10, ?o11, ?o12, ?o13, ?o14, ?o15, trivial⟩ ?oe
  case o0 =>
    intro A W m hB hA hJ hbase hdL hdH
    have e3 : A.eval (.tmp 3) = .pointer (some ⟨g3, 0, none⟩) := hbase 3 (by kernel_rfl)
    have f3 : A.tmps[3]?.getD undef = .pointer (some ⟨g3, 0, none⟩) := by simpa [Act.eval] using e3
    exact lightM_val rfl (v := .pointer (some ⟨g3, 0, none⟩)) (by simp [execOp, go_sem, e3, f3]) hJ rfl
  case o1 =>
    intro A W m hB hA hJ hbase hdL hdH
    have e27 : A.eval (.tmp 27) = .pointer (some ⟨g3, 0, none⟩) := hdL 0 27 (by kernel_rfl) (by kernel_rfl) (by kernel_rfl)
    have f27 : A.tmps[27]?.getD undef = .pointer (some ⟨g3, 0, none⟩) := by simpa [Act.eval] using e27
    exact lightM_val rfl (v := .pointer (some ⟨g3, 0, none⟩)) (by simp [execOp, go_sem, e27, f27]) hJ rfl
  case o2 =>
    intro A W m hB hA hJ hbase hdL hdH
    have e28 : A.eval (.tmp 28) = .pointer (some ⟨g3, 0, none⟩) := hdL 1 28 (by kernel_rfl) (by kernel_rfl) (by kernel_rfl)
    have f28 : A.tmps[28]?.getD undef = .pointer (some ⟨g3, 0, none⟩) := by simpa [Act.eval] using e28
    have hc := hJ.1.cell pr0 (fun q => q)
    exact lightM_val rfl (v := ptr gs) (by simp [execOp, go_sem, e28, f28, hc]) hJ rfl
  case o3 =>
    intro A W m hB hA hJ hbase hdL hdH
    have e4 : A.eval (.tmp 4) = .pointer (some ⟨g4, 0, none⟩) := hbase 4 (by kernel_rfl)
    have f4 : A.tmps[4]?.getD undef = .pointer (some ⟨g4, 0, none⟩) := by simpa [Act.eval] using e4
    exact lightM_val rfl (v := .pointer (some ⟨g4, 17, none⟩)) (by simp [execOp, go_sem, e4, f4]) hJ rfl
  case o4 =>
    intro A W m hB hA hJ hbase hdL hdH
    have e30 : A.eval (.tmp 30) = .pointer (some ⟨g4, 17, none⟩) := hdL 3 30 (by kernel_rfl) (by kernel_rfl) (by kernel_rfl)
    have f30 : A.tmps[30]?.getD undef = .pointer (some ⟨g4, 17, none⟩) := by simpa [Act.eval] using e30
    have hc := hJ.1.cell e80 (fun q => q)
    exact lightM_val rfl (v := .slice a M cap) (by simp [execOp, go_sem, e30, f30, hc]) hJ rfl
  case o5 =>
    intro A W m hB hA hJ hbase hdL hdH
    have e8 : A.eval (.tmp 8) = .int .i64 (j : Int) := hbase 8 (by kernel_rfl)
    have f8 : A.tmps[8]?.getD undef = .int .i64 (j : Int) := by simpa [Act.eval] using e8
    exact lightM_val rfl (v := .int .i64 (j : Int)) (by simp [execOp, e8, f8]) hJ rfl
  case o6 =>
    intro A W m hB hA hJ hbase hdL hdH
    have e31 : A.eval (.tmp 31) = .slice a M cap := hdL 4 31 (by kernel_rfl) (by kernel_rfl) (by kernel_rfl)
    have f31 : A.tmps[31]?.getD undef = .slice a M cap := by simpa [Act.eval] using e31
    have e32 : A.eval (.tmp 32) = .int .i64 (j : Int) := hdL 5 32 (by kernel_rfl) (by kernel_rfl) (by kernel_rfl)
    have f32 : A.tmps[32]?.getD undef = .int .i64 (j : Int) := by simpa [Act.eval] using e32
    have hr := hix W
    exact lightM_val rfl (v := .pointer (some ⟨be, oe, none⟩)) (by simp [execOp, e31, e32, hr, Result.andThen]) hJ rfl
  case o7 =>
    intro A W m hB hA hJ hbase hdL hdH
    have e33 : A.eval (.tmp 33) = .pointer (some ⟨be, oe, none⟩) := hdL 6 33 (by kernel_rfl) (by kernel_rfl) (by kernel_rfl)
    have f33 : A.tmps[33]?.getD undef = .pointer (some ⟨be, oe, none⟩) := by simpa [Act.eval] using e33
    exact lightM_val rfl (v := .pointer (some ⟨be, oe + 1, none⟩)) (by simp [execOp, go_sem, e33, f33]) hJ rfl
  case o8 =>
    intro A W m hB hA hJ hbase hdL hdH
    have e34 : A.eval (.tmp 34) = .pointer (some ⟨be, oe + 1, none⟩) := hdL 7 34 (by kernel_rfl) (by kernel_rfl) (by kernel_rfl)
    have f34 : A.tmps[34]?.getD undef = .pointer (some ⟨be, oe + 1, none⟩) := by simpa [Act.eval] using e34
    have hc := hJ.1.cell hc2 (fun q => q)
    exact lightM_val rfl (v := .int .i64 y.2) (by simp [execOp, go_sem, e34, f34, hc]) hJ rfl
  case o9 =>
    intro A W m hB hA hmi hJ hbase hdL hdH
    have e29 : A.eval (.tmp 29) = ptr gs := hdL 2 29 (by kernel_rfl) (by kernel_rfl) (by kernel_rfl)
    have f29 : A.tmps[29]?.getD undef = ptr gs := by simpa [Act.eval] using e29
    have e35 : A.eval (.tmp 35) = .int .i64 y.2 := hdL 8 35 (by kernel_rfl) (by kernel_rfl) (by kernel_rfl)
    have f35 : A.tmps[35]?.getD undef = .int .i64 y.2 := by simpa [Act.eval] using e35
    refine heavyM_call rfl (args := #[ptr gs, .int .i64 y.2]) (f := 40) (by simp [execOp, resolve, invoke, go_sem, e29, f29, e35, f35]) ?_
    refine (hGy0 W hJ.1).mono ?_
    rintro e w' ⟨v, rfl, n, o, f, q⟩
    exact ⟨_, rfl, hJ.call (hB 1 10 (by kernel_rfl)) (hB 2 11 (by kernel_rfl)) (hB 4 14 (by kernel_rfl)) f n q⟩
  case o10 =>
    intro A W m hB hA hmi hJ hbase hdL hdH
    have e0 := hdH 9 36 (by kernel_rfl) (by kernel_rfl) (by kernel_rfl)
    exact heavyM_val rfl (v := A.eval (.tmp 36)) (by simp [execOp]) (hJ.move e0)
  case o11 =>
    intro A W m hB hA hmi hJ hbase hdL hdH
    have e1 := hdH 10 26 (by kernel_rfl) (by kernel_rfl) (by kernel_rfl)
    have e0 := hJ.2.2.1 _ e1
    obtain ⟨u, ey, _⟩ := hJ.2.1 _ e0
    rw [ey] at e0
    have fy : A.tmps[26]?.getD undef = .tuple #[ndV N.k N.b u, .int .i64 0] := by simpa [Act.eval] using ey
    exact heavyM_val rfl (v := ndV N.k N.b u) (by simp [execOp, go_sem, ey, fy]) (hJ.extr e0 (hB 2 14 (by kernel_rfl)))
  case o12 =>
    intro A W m hB hA hJ hbase hdL hdH
    have e1 := hdH 10 26 (by kernel_rfl) (by kernel_rfl) (by kernel_rfl)
    have e0 := hJ.2.2.1 _ e1
    obtain ⟨u, ey, _⟩ := hJ.2.1 _ e0
    have fy : A.tmps[26]?.getD undef = .tuple #[ndV N.k N.b u, .int .i64 0] := by simpa [Act.eval] using ey
    exact lightM_val rfl (v := .int .i64 0) (by simp [execOp, go_sem, ey, fy]) hJ rfl
  case o13 =>
    intro A W m hB hA hmi hJ hbase hdL hdH
    refine heavyM_wp rfl ?_
    refine wp_allocN rfl ?_
    intro g w' hb hf hg
    exact ⟨_, rfl, hJ.alloc (hB 1 14 (by kernel_rfl)) hb hf hg⟩
  case o14 =>
    intro A W m hB hA hmi hJ hbase hdL hdH
    have e2 := hdH 11 37 (by kernel_rfl) (by kernel_rfl) (by kernel_rfl)
    have e4 := hdH 13 9 (by kernel_rfl) (by kernel_rfl) (by kernel_rfl)
    obtain ⟨u, g, ey, ex, hb, hn, ho, hg⟩ := hJ.got e2 e4 hmi
    rw [ey] at e2
    rw [ex] at e4
    refine heavyM_wp rfl ?_
    refine wp_stN _ _ rfl g ex N.k N.b u ey hn.2.1.1 (NdS.sl hn) 0 (zerB 16) nilS hb (zerB_len 16) ?_
    intro w' hb' hf'
    exact ⟨_, rfl, hJ.store e2 e4 hmi hb' hf' _⟩
  case o15 =>
    intro A W m hB hA hJ hbase hdL hdH
    have ee : A.eval (.tmp 38) = .int .i64 0 := hdL 12 38 (by kernel_rfl) (by kernel_rfl) (by kernel_rfl)
    exact lightM_val rfl (v := .int .i64 0) (by simp [execOp, ee]) hJ rfl
  case oe =>
    intro vs W'q mm hall hJ hL hH
    obtain ⟨uq, gq, y0, y1, y2, y4, Gq⟩ := hJ.done (hH 9 (by kernel_rfl) (by kernel_rfl)) (hH 10 (by kernel_rfl) (by kernel_rfl)) (hH 11 (by kernel_rfl) (by kernel_rfl)) (hH 13 (by kernel_rfl) (by kernel_rfl)) (hall 14 (by kernel_rfl))
    have x0 : vs 0 = .pointer (some ⟨g3, 0, none⟩) := hL 0 (by kernel_rfl) (by kernel_rfl)
    have x1 : vs 1 = .pointer (some ⟨g3, 0, none⟩) := hL 1 (by kernel_rfl) (by kernel_rfl)
    have x2 : vs 2 = ptr gs := hL 2 (by kernel_rfl) (by kernel_rfl)
    have x3 : vs 3 = .pointer (some ⟨g4, 17, none⟩) := hL 3 (by kernel_rfl) (by kernel_rfl)
    have x4 : vs 4 = .slice a M cap := hL 4 (by kernel_rfl) (by kernel_rfl)
    have x5 : vs 5 = .int .i64 (j : Int) := hL 5 (by kernel_rfl) (by kernel_rfl)
    have x6 : vs 6 = .pointer (some ⟨be, oe, none⟩) := hL 6 (by kernel_rfl) (by kernel_rfl)
    have x7 : vs 7 = .pointer (some ⟨be, oe + 1, none⟩) := hL 7 (by kernel_rfl) (by kernel_rfl)
    have x8 : vs 8 = .int .i64 y.2 := hL 8 (by kernel_rfl) (by kernel_rfl)
    have x12 : vs 12 = .int .i64 0 := hL 12 (by kernel_rfl) (by kernel_rfl)
    have x15 : vs 15 = .int .i64 0 := hL 15 (by kernel_rfl) (by kernel_rfl)
    simp only [layL, Nat.reduceAdd, Act.put, List.setIfInBounds_toArray, List.set_cons_zero, List.set_cons_succ, y0, y1, y2, y4, x0, x1, x2, x3, x4, x5, x6, x7, x8, x12, x15]
    clear hL hH hall hJ
    clear y0 y1 y2 y4 x0 x1 x2 x3 x4 x5 x6 x7 x8 x12 x15
    have Fq : Fr noB w8 W'q := f0q.thenN Gq.fr
    have Zq := Fq.size
    clear HWq
    -- behind the region: the child
    have hbl := NdS.bl Gq.ns
    have FQ : Fr noB w W'q := F8.thenN Fq
    have HQ := A.st.fr0 FQ
    have OQ := A.ow.fr0 FQ
    have C3q := C3.fr0 Fq
    have C4q := C4.fr0 Fq
    have C6q := b6'.fr0 Fq
    have hnew : ∀ q, w.heap.size ≤ q → ¬ (F q ∨ q = gp ∨ q = gs) := fun q hq h => by
      rcases h with h | h | h
      · have := hFt q h; omega
      · omega
      · omega
    have hub : ∀ q, uq.ownBlock = some q → w0q.heap.size ≤ q ∧ q < W'q.heap.size := fun q hq => Gq.ow.newB q hq
    have WA : WiA W'q F gs gp w0q.heap.size X L m lv N.b N.es uq := ⟨HQ, by have := Gq.fr.size; omega, Gq.ow, by
      have := Gq.ns
      obtain ⟨nk, nbb, nes⟩ := N
      simp only at hNk this ⊢
      rw [← hNk]
      exact this, fun q hq => by
      have h1 := hub q hq
      have h2 := hnew q (by omega)
      exact ⟨fun h => h2 (Or.inl h), fun h => h2 (Or.inr (Or.inl h)), fun h => h2 (Or.inr (Or.inr h)), h1.2⟩⟩
    have hRec := hrec W'q _ uq WA
    obtain ⟨kl, Hkl⟩ : ∃ kl, Hid (kdL lv = kl) := ⟨_, rfl⟩
    rw [Hkl.out] at hRec hNk hpl
    have ndq := Gq.nd
    rw [hNk] at ndq
    have hkw : (Lit.int .i64 kl).wf = true := by have := Gq.ns.2.2.2; rw [hNk] at this; exact this
    have hb16 := Gq.ns.2.1
    have hgap := Gq.ap
    have hggl := Gq.gl
    have lq := Gq.nd.lt
    go_upto_region 11 with (first
      | (with_reducible refine at_wpP ?_; refine at_ld 28 _ rfl ?_; go_must (refine wpList_ldP rfl _ rfl g3 rfl gs C3q ?_))
      | (with_reducible refine at_wpP ?_; refine at_ld 72 _ rfl ?_; go_must (refine wpList_ldN rfl _ rfl gq rfl kl N.b uq ndq hbl.out ?_))
      | (go_at_call 58; go_must (refine hRec.mono ?_; rintro e w9 ⟨F1, v9, rfl, T9, o9, p9⟩; have z9 := T9.fr.size; obtain ⟨a9, c9, hv9⟩ := o9.opn; replace hv9 := show Hid _ from hv9; have n9 := ndq.fr T9.fr (fun q => q.elim (fun h => hgap _ h rfl) (fun h => hnew gq (by omega) (h.imp id Or.inl)))))
      | (with_reducible refine at_wpP ?_; refine at_st 72 _ _ rfl ?_; have q := n9; go_must (refine wpList_stN rfl _ _ rfl gq rfl kl N.b v9 rfl hbl.out ⟨_, _, _, hv9.out⟩ kl N.b uq n9 hbl.out ?_; intro w10 b10 f10; have z10 := f10.size)))
    have hold : ∀ q, w.heap.size ≤ q → q < w0q.heap.size → ¬ (uq.ownBlock = some q ∨ stB F gp q) := fun q h1 h2 h => by
      rcases h with h | h
      · have := hub q h; omega
      · exact hnew q h1 (h.imp id Or.inl)
    have g4l : g4 < w0q.heap.size := by have := C4.lt; omega
    have g3l : g3 < w0q.heap.size := by have := C3.lt; omega
    have g6l : g6 < w0q.heap.size := by have := b6'.lt; omega
    have C3r := (C3q.fr T9.fr (hold g3 (by omega) g3l)).fr f10 (fun q => by unfold onB1 at q; omega)
    have C4r := (C4q.fr T9.fr (hold g4 (by omega) g4l)).fr f10 (fun q => by unfold onB1 at q; omega)
    have C6r := (C6q.fr T9.fr (hold g6 (by omega) g6l)).fr f10 (fun q => by unfold onB1 at q; omega)
    have hF1 : ∀ q, F1 q → F q ∨ W'q.heap.size ≤ q := fun q hq => (T9.ft q hq).1
    have H10 : Sto w10 F1 gs gp X1 L1 m1 := T9.st.fr f10 (fun q hq hF hv => by
      unfold onB1 at hv
      subst hv
      rcases hF with h | h | h
      · rcases hF1 _ h with h | h
        · exact hnew _ (by omega) (Or.inl h)
        · omega
      · omega
      · omega)
    have O10 : EnO w10 base (.slice a M cap) es := (OQ.fr T9.fr (fun q hq h => by
      have h1 := A.hv q hq
      rcases h with h | h
      · have := hub q h; omega
      · rcases h with h | h
        · exact h1.1 h
        · exact h1.2.1 h)).fr f10 (fun q hq h => by have := (A.hv q hq).2.2.2; unfold onB1 at h; omega)
    have o10 : EnO w10 w0q.heap.size v9 c' := o9.fr f10 (fun q hq h => by
      unfold onB1 at h
      subst h
      rcases (p9 _ hq).2 with h | h
      · exact hgap _ h rfl
      · omega)
    have PA : PlA w10 F1 gs gp base X1 L1 m1 kl N.b es c' (.slice a M cap) v9 j := ⟨H10, by omega, by have := A.hb; have := FQ.size; omega, O10, ⟨⟨o10.sl, hcw⟩, hb16, by show c'.length ≤ 1000; omega, hkw⟩, hj, h6, hc6, hgl, fun q hq => by
      have h1 := A.hv q hq
      refine ⟨fun h => ?_, h1.2.1, h1.2.2.1, by have := FQ.size; omega⟩
      rcases hF1 _ h with h | h
      · exact h1.1 h
      · have := FQ.size; omega, hgw⟩
    have hPl := place_any PA hpl
    have e4r := NdB.ents C4r hb.out
    have k4r := NdB.kind C4r
    go_upto_region 12 with (first
      | (with_reducible refine at_wpP ?_; refine at_ld 28 _ rfl ?_; go_must (refine wpList_ldP rfl _ rfl g3 rfl gs C3r ?_))
      | (with_reducible refine at_wpP ?_; refine at_ld 72 _ rfl ?_; go_must (refine wpList_ldN rfl _ rfl gq rfl kl N.b v9 b10 hbl.out ?_))
      | (go_at_call 80; go_must (refine hPl.mono ?_; rintro e w11 ⟨F2, v11, rfl, T11, o11, p11⟩; have z11 := T11.fr.size; obtain ⟨a11, c11, hv11⟩ := o11.opn; replace hv11 := show Hid _ from hv11; have n11 := C4r.fr T11.fr (fun q => q.elim (fun h => by have := (A.hv _ h).2.2.2; omega) (fun h => h.elim (fun h => (hF1 _ h).elim (fun h => hnew g4 (by omega) (Or.inl h)) (fun h => by have := FQ.size; have := Fq.size; omega)) (fun h => hnew g4 (by omega) (Or.inr (Or.inl h)))))))
      | (with_reducible refine at_wpP ?_; refine at_st 31 _ _ rfl ?_; go_must (refine wpList_stEnt rfl _ _ rfl g4 rfl v11 rfl ⟨_, _, _, hv11.out⟩ 3 nb _ n11 hb.out ?_; intro w12 b12 f12; have z12 := f12.size)))
    have hS11 : ∀ q, w.heap.size ≤ q → q < w0q.heap.size → ¬ ((Value.slice a M cap).ownBlock = some q ∨ stB F1 gp q) := fun q h1 h2 h => by
      rcases h with h | h | h
      · have := (A.hv _ h).2.2.2; omega
      · rcases hF1 _ h with h | h
        · exact hnew q h1 (Or.inl h)
        · omega
      · exact hnew q h1 (Or.inr (Or.inl h))
    have C6s := (C6r.fr T11.fr (hS11 g6 (by omega) g6l)).fr f12 (fun q => by unfold onB1 at q; omega)
    go_wp2_with (first
      | (with_reducible refine at_wpP ?_; refine at_ld 72 _ rfl ?_; go_must (refine wpList_ldN rfl _ rfl g4 rfl 3 nb v11 b12 hb.out ?_))
      | (with_reducible refine at_wpP ?_; refine at_st 72 _ _ rfl ?_; go_must (refine wpList_stN rfl _ _ rfl g6 rfl 3 nb v11 rfl hb.out ⟨_, _, _, hv11.out⟩ 0 (zerB 16) nilS C6s (zerB_len 16) ?_; intro w13 b13 f13; have z13 := f13.size)))
    have hF2 : ∀ q, F2 q → F q ∨ W'q.heap.size ≤ q := fun q hq => by
      rcases (T11.ft q hq).1 with h | h
      · exact hF1 q h
      · exact Or.inr (by omega)
    have H12 : Sto w12 F2 gs gp X' L' (m1 + 2) := T11.st.fr f12 (fun q hq hF hv => by
      unfold onB1 at hv
      subst hv
      rcases hF with h | h | h
      · rcases hF2 _ h with h | h
        · exact hnew _ (by omega) (Or.inl h)
        · omega
      · omega
      · omega)
    have H13 : Sto w13 F2 gs gp X' L' (m1 + 2) := H12.fr f13 (fun q hq hF hv => by
      unfold onB1 at hv
      subst hv
      rcases hF with h | h | h
      · rcases hF2 _ h with h | h
        · exact hnew _ (by omega) (Or.inl h)
        · omega
      · omega
      · omega)
    have hp11 : ∀ q, v11.ownBlock = some q → (Value.slice a M cap).ownBlock = some q ∨ w10.heap.size ≤ q := fun q hq => (p11 q hq).2
    have o13 := (o11.fr f12 (fun q hq h => by
      unfold onB1 at h
      rcases hp11 q hq with h' | h'
      · have := (A.hv q h').2.2.2; omega
      · omega)).fr f13 (fun q hq h => by
      unfold onB1 at h
      rcases hp11 q hq with h' | h'
      · have := (A.hv q h').2.2.2; omega
      · omega)
    refine bodyPost_ret (results_nd2 Tryz.results58 _ w13 g6 3 nb v11 rfl b13 hb.out) rfl ⟨F2, v11, rfl, ⟨H13, fun q hq => ⟨?_, H13.ft q hq⟩, ?_⟩, o13, fun q hq => ⟨(p11 q hq).1, ?_⟩⟩
    · rcases hF2 q hq with h | h
      · exact Or.inl h
      · exact Or.inr (by have := FQ.size; omega)
    · refine ((((FQ.mono (fun _ _ q => q.elim)).thenT T9.fr (fun x hx q => ?_)).thenT f10 (fun x hx q => by unfold onB1 at q; omega)).thenT T11.fr (fun x hx q => ?_)).thenT f12 (fun x hx q => by unfold onB1 at q; omega) |>.thenT f13 (fun x hx q => by unfold onB1 at q; omega)
      · rcases q with q | q
        · have := hub _ q; omega
        · exact Or.inr q
      · rcases q with q | q | q
        · exact Or.inl q
        · rcases hF1 _ q with h | h
          · exact Or.inr (Or.inl h)
          · have := FQ.size; omega
        · exact Or.inr (Or.inr q)
    · rcases hp11 q hq with h | h
      · exact Or.inl h
      · exact Or.inr (by have := FQ.size; omega)
end Go.Proofs.YtmkinaijkgkgiaaGreat
