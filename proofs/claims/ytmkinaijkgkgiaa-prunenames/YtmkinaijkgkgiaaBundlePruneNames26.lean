/- Texts UO, UV, UW of the proof of PruneNames, one behind the other. -/
import Derived.Test.YtmkinaijkgkgiaaBundlePruneNames1
import Derived.Test.YtmkinaijkgkgiaaBundlePruneNames2
import Derived.Test.YtmkinaijkgkgiaaBundlePruneNames3
import Derived.Test.YtmkinaijkgkgiaaBundlePruneNames4
import Derived.Test.YtmkinaijkgkgiaaBundlePruneNames5
import Derived.Test.YtmkinaijkgkgiaaBundlePruneNames6
import Derived.Test.YtmkinaijkgkgiaaBundlePruneNames7
import Derived.Test.YtmkinaijkgkgiaaBundlePruneNames8
import Derived.Test.YtmkinaijkgkgiaaBundlePruneNames9
import Derived.Test.YtmkinaijkgkgiaaBundlePruneNames10
import Derived.Test.YtmkinaijkgkgiaaBundlePruneNames11
import Derived.Test.YtmkinaijkgkgiaaBundlePruneNames12
import Derived.Test.YtmkinaijkgkgiaaBundlePruneNames13
import Derived.Test.YtmkinaijkgkgiaaBundlePruneNames14
import Derived.Test.YtmkinaijkgkgiaaBundlePruneNames15
import Derived.Test.YtmkinaijkgkgiaaBundlePruneNames16
import Derived.Test.YtmkinaijkgkgiaaBundlePruneNames17
import Derived.Test.YtmkinaijkgkgiaaBundlePruneNames18
import Derived.Test.YtmkinaijkgkgiaaBundlePruneNames19
import Derived.Test.YtmkinaijkgkgiaaBundlePruneNames20
import Derived.Test.YtmkinaijkgkgiaaBundlePruneNames21
import Derived.Test.YtmkinaijkgkgiaaBundlePruneNames22
import Derived.Test.YtmkinaijkgkgiaaBundlePruneNames23
import Derived.Test.YtmkinaijkgkgiaaBundlePruneNames24
import Derived.Test.YtmkinaijkgkgiaaBundlePruneNames25
/- slices.Grow of nil, slices.Concat of two rows of entries; no condition. -/
namespace Go.Proofs.Ytmkinaijkgkgiaa
open Go.RowKit Go.Proofs.U
set_option linter.unusedSimpArgs false
set_option linter.unusedVariables false
set_option maxRecDepth 100000 in
set_option maxHeartbeats 2000000 in
theorem grow_any {w : World} {n : Nat} (h1 : 1 ≤ n) (hl : n ≤ 1000) :
    Calls Try.prog 82 #[.slice none 0 0, .int .i64 (n : Int)] w fun r w' => ∃ v', r = .returned v' ∧ EnO w' w.heap.size v' [] ∧ Fr noB w w' := by
  have hz1 : decide ((n : Int) < (0 : Int)) = false := by simp
  have hz2 : decide ((0 : Int) < (n : Int)) = true := by simp; omega
  have hz3 : decide (0 < n) = true := by simp; omega
  have hw1 : IntKind.i64.wrap (n : Int) = (n : Int) := wrap_sm (by omega)
  go_enter Try.func82, Try.ntmps82
  go_wp2_with (first
    | (at_builtin; go_must (refine wpList_appN0 rfl _ _ 38 3 rfl 36 _ 2 16 uE .i64 Try.underlying3 en_info rfl (by decide) (by simp [Act.eval, Act.put]) .i64 n (by simp [Act.eval, Act.put, hw1]) (by omega) (by unfold maxLen; omega) (by omega) ?_; intro g1 c1 cur1 w1 b1 f1 s1 n1 m1 l1; have z1 := f1.size))
    | (refine at_cut 38 (.tmp 22) none _ _ rfl ?_; go_must (refine wpList_cuth rfl 38 _ _ rfl 36 uE 2 en_size _ n c1 rfl .i64 (0 : Int) 0 rfl rfl (by omega) ?_)))
  go_ret
  exact ⟨_, rfl, EnO.mk s1 b1 rfl (Nat.zero_le _) m1 l1 (by simp), f1⟩
theorem wpList_appE {w : World} {base : Nat} {l : List (Int × Int)} {ops : Array Oper} {rest : List Oper} {o : Oper} {a : Act} {Q : Exit → Act → World → Prop} (hgd : o.guard = none) (s x : Operand) (ho : o.op = .call { callee := .builtin .append, args := #[s, x], argTypes := #[38, 38] })
    (v : Value) (hs : a.eval s = v) (hO : EnO w base v l) (vx : Value) (m : List (Int × Int)) (hx : a.eval x = vx) (hS : SlR enC 2 w vx m) (hl : l.length + m.length ≤ 1000) (hbase : base ≤ w.heap.size)
    (h : ∀ v' w', EnO w' base v' (l ++ m) → Fr (fun k => v.ownBlock = some k) w w' → (∀ k, v'.ownBlock = some k → v.ownBlock = some k ∨ w.heap.size ≤ k) → wpList Try.prog ops Q rest (a.put o.dst v') w') : wpList Try.prog ops Q (o :: rest) a w := by
  by_cases hm : 1 ≤ m.length
  · exact wpList_appM hgd s x 38 ho _ 16 uE en_info rfl (by decide) v hs hO vx m hx hS hm (fun y _ => en_one y) (by unfold maxLen; omega) (by omega) hbase h
  · have hm0 : m = [] := List.eq_nil_of_length_eq_zero (by omega)
    subst hm0
    obtain ⟨a1, c1, hv, hc1⟩ := hO.sl.opn
    subst hv
    obtain ⟨a2, c2, hvx, _⟩ := hS.opn
    subst hvx
    refine wpList_app0 hgd s x 38 ho 36 2 uE en_size a1 l.length c1 hs hc1 a2 c2 hx ?_
    have := h (.slice a1 l.length c1) w (by rw [List.append_nil]; exact hO) (Fr.refl _ _) (fun k hk => Or.inl hk)
    exact this
def szK (la lb k : Nat) : Nat := if k = 0 then 0 else if k = 1 then la else la + lb
def ctK (a b : List (Int × Int)) (k : Nat) : List (Int × Int) := if k = 0 then [] else if k = 1 then a else a ++ b
set_option maxRecDepth 100000 in
set_option maxHeartbeats 4000000 in
theorem cat_any {w : World} {vt va vb : Value} {a b : List (Int × Int)} (hrow : SlR en1 1 w vt [va, vb]) (ha : SlR enC 2 w va a) (hb : SlR enC 2 w vb b) (hn : 1 ≤ a.length + b.length) (hl : a.length + b.length ≤ 100) :
    Calls Try.prog 70 #[vt] w fun r w' => ∃ v', r = .returned v' ∧ EnO w' w.heap.size v' (a ++ b) ∧ Fr noB w w' := by
  obtain ⟨ta, tc, hv, _⟩ := hrow.opn
  subst hv
  obtain ⟨aa, ac, hva, _⟩ := ha.opn
  subst hva
  obtain ⟨ba, bc, hvb, _⟩ := hb.opn
  subst hvb
  have hgr := fun W (n : Nat) (h1 : 1 ≤ n) (h2 : n ≤ 1000) => grow_any (w := W) h1 h2
  obtain ⟨la, Hla⟩ : ∃ n, Hid (a.length = n) := ⟨_, rfl⟩
  obtain ⟨lb, Hlb⟩ : ∃ n, Hid (b.length = n) := ⟨_, rfl⟩
  rw [Hla.out] at hn hl hrow ha
  rw [Hlb.out] at hn hl hrow hb
  have hsz : ∀ k, szK la lb k ≤ 100 := fun k => by
    unfold szK
    by_cases h0 : k = 0
    · rw [if_pos h0]; omega
    · by_cases h1 : k = 1
      · rw [if_neg h0, if_pos h1]; omega
      · rw [if_neg h0, if_neg h1]; omega
  have hrow : SlR en1 1 w (.slice ta 2 tc) [.slice aa la ac, .slice ba lb bc] := hrow
  show Calls Try.prog _ #[.slice ta 2 tc] w _
  go_enter Try.func70, Try.ntmps70
  go_wp2
  go_loop [11, 3] (fun i s => ∃ k : Nat, k ≤ 2 ∧ i = .int .i64 (k : Int) ∧ s = .int .i64 ((szK la lb k : Nat) : Int)) (fun i _ => 2 - (intOf i).toNat)
  case atStart => exact ⟨0, by omega, rfl, rfl⟩
  case round =>
    obtain ⟨k, hk, rfl, rfl⟩ := hrel
    rcases (by omega : k = 0 ∨ k = 1 ∨ k = 2) with rfl | rfl | rfl
    · have hw1 : IntKind.i64.wrap (((szK la lb 0 : Nat) : Int) + (la : Int)) = ((szK la lb 1 : Nat) : Int) := by rw [wrap_sm (by have := hsz 0; omega)]; unfold szK; simp
      have hw2 : decide (((szK la lb 1 : Nat) : Int) < 0) = false := by simp
      go_wp2_with (first
        | (with_reducible refine at_wpP ?_; refine at_idx 100 _ _ rfl ?_; go_must (refine wpList_idxR rfl 100 _ _ rfl 38 Try.underlying100 1 sE_size _ _ _ rfl hrow (by decide) _ _ 0 rfl rfl (by simp) ?_; intro ca oa hca hcc; have hc0 : World.cell? _ ⟨ca, oa, none⟩ = some (.slice aa la ac) := hcc 0 _ rfl)))
      go_roundw
      case rel => exact ⟨1, by omega, rfl, rfl⟩
      case measure => simp [intOf]
    · have hw1 : IntKind.i64.wrap (((szK la lb 1 : Nat) : Int) + (lb : Int)) = ((szK la lb 2 : Nat) : Int) := by rw [wrap_sm (by have := hsz 1; omega)]; unfold szK; simp
      have hw2 : decide (((szK la lb 2 : Nat) : Int) < 0) = false := by simp
      go_wp2_with (first
        | (with_reducible refine at_wpP ?_; refine at_idx 100 _ _ rfl ?_; go_must (refine wpList_idxR rfl 100 _ _ rfl 38 Try.underlying100 1 sE_size _ _ _ rfl hrow (by decide) _ _ 1 rfl rfl (by simp) ?_; intro ca oa hca hcc; have hc0 : World.cell? _ ⟨ca, oa, none⟩ = some (.slice ba lb bc) := hcc 0 _ rfl)))
      go_roundw
      case rel => exact ⟨2, by omega, rfl, rfl⟩
      case measure => simp [intOf]
    · have hs2 : szK la lb 2 = la + lb := rfl
      go_wp2_with (first
        | (go_at_call 82; go_must (refine (hgr _ (szK la lb 2) (by rw [hs2]; exact hn) (by have := hsz 2; omega)).mono ?_; rintro e w1 ⟨v1, rfl, o1, f1⟩; have z1 := f1.size; obtain ⟨a1, c1, hv1⟩ := o1.opn; subst hv1)))
      have hrow1 := hrow.fr0 f1
      have ha1 := ha.fr0 f1
      have hb1 := hb.fr0 f1
      go_loopw [27, 6] (fun i s wr => ∃ (k : Nat) (v : Value), k ≤ 2 ∧ i = .int .i64 (k : Int) ∧ s = v ∧ EnO wr w.heap.size v (ctK a b k) ∧ Fr noB w wr) (fun i _ _ => 2 - (intOf i).toNat)
      case atStart => exact ⟨0, _, by omega, rfl, rfl, o1, f1⟩
      case round =>
        obtain ⟨k, v, hk, rfl, rfl, ok, fk⟩ := hrel
        have hrk := hrow.fr0 fk
        have hak := ha.fr0 fk
        have hbk := hb.fr0 fk
        have zk := fk.size
        obtain ⟨va, vc, hvk⟩ := ok.opn
        subst hvk
        rcases (by omega : k = 0 ∨ k = 1 ∨ k = 2) with rfl | rfl | rfl
        · have hlen : (ctK a b 0).length + a.length ≤ 1000 := by rw [Hla.out]; show 0 + la ≤ 1000; omega
          have hlen := show Hid _ from hlen
          go_wp2_with (first
            | (with_reducible refine at_wpP ?_; refine at_idx 100 _ _ rfl ?_; go_must (refine wpList_idxR rfl 100 _ _ rfl 38 Try.underlying100 1 sE_size _ _ _ rfl hrk (by decide) _ _ 0 rfl rfl (by simp) ?_; intro ca oa hca hcc; have hc0 : World.cell? _ ⟨ca, oa, none⟩ = some (.slice aa la ac) := hcc 0 _ rfl))
            | (at_builtin; go_must (refine wpList_appE rfl _ _ rfl _ rfl ok _ a rfl hak hlen.out (by omega) ?_; intro v2 w2 o2 f2 p2)))
          go_roundw
          case rel =>
            refine ⟨1, v2, by omega, rfl, rfl, ?_, fk.thenT f2 (fun x hx q => by have := (ok.newB x q).1; omega)⟩
            exact o2
          case measure => simp [intOf]
        · have hlen : (ctK a b 1).length + b.length ≤ 1000 := by rw [Hlb.out]; show a.length + lb ≤ 1000; rw [Hla.out]; omega
          have hlen := show Hid _ from hlen
          go_wp2_with (first
            | (with_reducible refine at_wpP ?_; refine at_idx 100 _ _ rfl ?_; go_must (refine wpList_idxR rfl 100 _ _ rfl 38 Try.underlying100 1 sE_size _ _ _ rfl hrk (by decide) _ _ 1 rfl rfl (by simp) ?_; intro ca oa hca hcc; have hc0 : World.cell? _ ⟨ca, oa, none⟩ = some (.slice ba lb bc) := hcc 0 _ rfl))
            | (at_builtin; go_must (refine wpList_appE rfl _ _ rfl _ rfl ok _ b rfl hbk hlen.out (by omega) ?_; intro v2 w2 o2 f2 p2)))
          go_roundw
          case rel =>
            refine ⟨2, v2, by omega, rfl, rfl, ?_, fk.thenT f2 (fun x hx q => by have := (ok.newB x q).1; omega)⟩
            exact o2
          case measure => simp [intOf]
        · go_wp2
          go_ret
          exact ⟨_, rfl, ok, fk⟩
end Go.Proofs.Ytmkinaijkgkgiaa
/- place: a changed child is made, with the neighbour that has room for it; no condition. (Written by uv_gen.py.) -/
namespace Go.Proofs.Ytmkinaijkgkgiaa
open Go.RowKit Go.Proofs.U
set_option linter.unusedSimpArgs false
set_option linter.unusedVariables false
theorem wpList_mk2S {w : World} {ops : Array Oper} {rest : List Oper} {o : Oper} {b : Act} {Q : Exit → Act → World → Prop} (hgd : Region.wanted o (yielded ops b.tmps) = true) (y z : Operand) (ho : o.op = .buildSlice 100 2 #[(0, y), (1, z)]) (a a' : Option Addr) (n c n' c' : Nat) (hy : b.eval y = .slice a n c) (hz : b.eval z = .slice a' n' c')
    (h : ∀ g w', BxV w' g 38 [.slice a n c, .slice a' n' c'] → Fr noB w w' → w.heap.size ≤ g → wpList Try.prog ops Q rest (b.put o.dst (.slice (some ⟨g, 0, none⟩) 2 2)) w') : wpList Try.prog ops Q (o :: rest) b w := by
  refine wpList_wanted hgd fun K hK => ?_
  have hr := run_mk2S a a' n c n' c' w
  unfold Oper.wp
  simp [execOp, ho, hy, hz, hr, Result.andThen]
  exact hK _ _ (h w.heap.size _ (heap_alloc_new w _) ((Fr.refl _ _).alloc _) (Nat.le_refl _))
/-- What place and without do to memory: v is a row that they may turn. -/
structure PlT (w w' : World) (F F' : Nat → Prop) (gs gp : Nat) (v : Value) (S : DSt × List Pg) (m : Nat) : Prop where
  st : Sto w' F' gs gp S.1 S.2 m
  ft : ∀ k, F' k → (F k ∨ w.heap.size ≤ k) ∧ k < w'.heap.size
  fr : Fr (fun k => v.ownBlock = some k ∨ stB F gp k) w w'
/-- What place hands. -/
def PlIs (w w' : World) (F : Nat → Prop) (gs gp base : Nat) (v : Value) (R : (DSt × List Pg) × List (Int × Int) × Int) (m : Nat) (r : Ending) : Prop :=
  ∃ F' v', r = .returned (.tuple #[v', .int .i64 0]) ∧ PlT w w' F F' gs gp v R.1 m ∧ EnO w' base v' R.2.1 ∧ ∀ k, v'.ownBlock = some k → ¬ F' k ∧ (v.ownBlock = some k ∨ w.heap.size ≤ k)
/-- What is asked of place's arguments. -/
structure PlA (w : World) (F : Nat → Prop) (gs gp base : Nat) (X : DSt) (L : List Pg) (m : Nat) (k : Int) (cb : List Int) (l c : List (Int × Int)) (v cv : Value) (i : Nat) : Prop where
  st : Sto w F gs gp X L m
  hm : m ≤ 90000
  hb : base ≤ w.heap.size
  ow : EnO w base v l
  nd : NdS w cv ⟨k, cb, c⟩
  hi : i < l.length
  hl : l.length ≤ 6
  hc : c.length ≤ 6
  hg : ∀ y ∈ l, getF X L y.2 = ((rdN X y.2).1, 0) ∧ (rdN X y.2).1.es.length ≤ 6
  hv : ∀ x, v.ownBlock = some x → ¬ F x ∧ x ≠ gp ∧ x ≠ gs ∧ x < w.heap.size
  hw : ∀ y ∈ l, ∀ x ∈ esX X y.2, (Lit.int .i64 x.1).wf = true ∧ (Lit.int .i64 x.2).wf = true
set_option maxRecDepth 100000 in
set_option maxHeartbeats 4000000 in
theorem place_none {w : World} {F : Nat → Prop} {gs gp base : Nat} {X : DSt} {L : List Pg} {m : Nat} {k : Int} {cb : List Int} {l c : List (Int × Int)} {v cv : Value} {i : Nat} (A : PlA w F gs gp base X L m k cb l c v cv i) (hc0 : c.length = 0) :
    Calls Try.prog 55 #[trV gs, v, .int .i64 (i : Int), ndV k cb cv] w fun r w' => PlIs w w' F gs gp base v ((X, L), dropAt l i, 0) (m + 2) r := by
  have hb := NdS.bl A.nd
  obtain ⟨a, cap, hcv, _⟩ := A.nd.slr.opn
  subst hcv
  have hD := fun W (f : Fr noB w W) => delE_any (w := W) (i := i) (by have := A.hb; have := f.size; omega) (A.ow.fr0 f) A.hi (by have := A.hl; omega)
  have hc0' := show Hid _ from hc0
  have hz : (((⟨k, cb, c⟩ : Nd).es.length : Int) == 0) = true := by simp [hc0]
  obtain ⟨n, Hn⟩ : ∃ n, Hid ((⟨k, cb, c⟩ : Nd).es.length = n) := ⟨_, rfl⟩
  rw [Hn.out] at hz ⊢
  have hi20 : (i : Int) < 20 := by have := A.hi; have := A.hl; omega
  have hw1 : IntKind.i64.wrap ((i : Int) + 1) = (i : Int) + 1 := wrap_sm (by omega)
  clear hc0
  go_enter Try.func55, Try.ntmps55
  go_wp2_with (first
    | (with_reducible refine at_wpP ?_; refine wpList_boxG rfl 26 _ rfl (trV gs) [ptr gs] rfl rfl ?_; intro g4 w4 hg4 b4 f4 s4; have l4 := b4.lt; have z4 := f4.size)
    | (with_reducible refine at_wpP ?_; refine wpList_boxN rfl _ rfl k cb _ rfl ?_; intro g7 w7 hg7 b7 f7 s7; have l7 := b7.lt; have z7 := f7.size; have q7 := NdB.ents b7 hb.out)
    | (go_at_call 54; go_must (refine (hD _ (f4.thenN f7)).mono ?_; rintro e w8 ⟨v8, rfl, o8, f8, p8⟩)))
  go_ret2
  have F7 := f4.thenN f7
  have z8 := f8.size
  have H7 := A.st.fr0 F7
  have H8 : Sto w8 F gs gp X L m := H7.fr f8 (fun q hq hF hv => by
    have h1 := A.hv q hv
    rcases hF with h2 | h2 | h2
    · exact h1.1 h2
    · exact h1.2.1 h2
    · exact h1.2.2.1 h2)
  refine ⟨F, v8, rfl, ⟨H8.mono (by omega), fun q hq => ⟨Or.inl hq, H8.ft q hq⟩, (F7.mono (fun _ _ q => q.elim)).thenT f8 (fun _ _ q => Or.inl q)⟩, o8, fun q hq => ?_⟩
  rcases p8 q hq with h | h
  · exact ⟨(A.hv q h).1, Or.inl h⟩
  · exact ⟨fun hF => by have := A.st.ft q hF; have := F7.size; omega, Or.inr (by have := F7.size; omega)⟩
set_option maxRecDepth 100000 in
set_option maxHeartbeats 8000000 in
theorem place_lt {w : World} {F : Nat → Prop} {gs gp base : Nat} {X X' : DSt} {L L' : List Pg} {m : Nat} {k : Int} {cb : List Int} {l c : List (Int × Int)} {v cv : Value} {i B : Nat} {t : Int × Int} (A : PlA w F gs gp base X L m k cb l c v cv i) (hc0 : 1 ≤ c.length) (hB : besF X l i c.length = B) (hB2 : B + 1 = i) (hBl : B < l.length) (hJ : (othF X l i B ++ c).length ≤ 6)
    (hs : splF (X, L) k (othF X l i B ++ c) = ((X', L'), [t], 0)) :
    Calls Try.prog 55 #[trV gs, v, .int .i64 (i : Int), ndV k cb cv] w fun r w' => PlIs w w' F gs gp base v ((X', L'), l.take B ++ ([t] ++ l.drop (B + 2)), 0) (m + 2) r := by
  have hb := NdS.bl A.nd
  have hkw := A.nd.2.2.2
  obtain ⟨a, cap, hcv, _⟩ := A.nd.slr.opn
  have hS0 := A.nd.slr
  have hwc := A.nd.1.2
  subst hcv
  have hes : (⟨k, cb, c⟩ : Nd).es = c := rfl
  rw [hes] at hS0 hwc ⊢
  clear hes
  obtain ⟨O, HO⟩ : ∃ O, Hid (othF X l i B = O) := ⟨_, rfl⟩
  have hbes := fun W (s : Sto W F gs gp X L m) (hS : SlR enC 2 W v l) => bes_any (v := v) (i := i) (n := c.length) W s (by have := A.hm; omega) hS A.hi (by have := A.hl; omega) (by have := A.hc; omega) A.hg
  rw [hB, HO.out] at hbes
  rw [HO.out] at hs hJ
  have hwO : ∀ x ∈ O, (Lit.int .i64 x.1).wf = true ∧ (Lit.int .i64 x.2).wf = true := by
    intro x hx
    rw [← HO.out] at hx
    unfold othF at hx
    by_cases q : B = i
    · rw [if_pos q] at hx; cases hx
    · rw [if_neg q] at hx
      have hm : l.getD B (0, 0) ∈ l := by simp [List.getD, hBl]
      exact A.hw _ hm x hx
  have hwJ : ∀ x ∈ O ++ c, (Lit.int .i64 x.1).wf = true ∧ (Lit.int .i64 x.2).wf = true := fun x hx => by
    rcases List.mem_append.1 hx with q | q
    · exact hwO x q
    · exact hwc x q
  have hb16 := A.nd.2.1
  obtain ⟨J, HJ⟩ : ∃ J, Hid (O ++ c = J) := ⟨_, rfl⟩
  have hJl : Hid (J.length = O.length + c.length) := by rw [← HJ.out]; exact List.length_append
  rw [HJ.out] at hs hJ hwJ
  have hcat := fun W (vt va vb : Value) (h1 : SlR en1 1 W vt [va, vb]) (h2 : SlR enC 2 W va O) (h3 : SlR enC 2 W vb c) => cat_any h1 h2 h3 (by have := hJl.out; omega) (by have := hJl.out; omega)
  rw [HJ.out] at hcat
  have hi := A.hi
  have hl6 := A.hl
  have hc6 := A.hc
  have hm9 := A.hm
  obtain ⟨n, Hn⟩ : ∃ n, Hid (c.length = n) := ⟨_, rfl⟩
  rw [Hn.out] at hS0 hbes hc0 hc6 ⊢
  have hz : ((n : Int) == 0) = false := by simp; omega
  have hw1 : ∀ z : Nat, z ≤ 300 → IntKind.i64.wrap ((z : Int) + 1) = (z : Int) + 1 := fun z hz => wrap_sm (by omega)
  have hlt : decide ((B : Int) < (i : Int)) = true := by simp; omega
  have hmin : min (i : Int) (B : Int) = (B : Int) := by omega
  have hmax : max (i : Int) (B : Int) + 1 = (B : Int) + 2 := by omega
  have hSp := fun W (F1 : Nat → Prop) (s : Sto W F1 gs gp X L m) (u : Value) (o : SlR enC 2 W u J) (hu : ∀ x, u.ownBlock = some x → ¬ F1 x ∧ x ≠ gp ∧ x < W.heap.size) => split_any (X := X) (L := L) k cb J u W s (by omega) ⟨⟨o, hwJ⟩, hb16, by show J.length ≤ 1000; omega, hkw⟩ hu
  rw [hs] at hSp
  have hFt := A.st.ft
  have hgsl := A.st.lts
  have hgpl := A.st.ltp
  have hB3 : B + 1 ≤ i := by omega
  have hB4 : i ≤ B + 1 := by omega
  have hmin := show Hid _ from hmin
  have hmax := show Hid _ from hmax
  clear hB2
  go_enter Try.func55, Try.ntmps55
  go_upto_region 9 with (first
    | (with_reducible refine at_wpP ?_; refine wpList_boxG rfl 26 _ rfl (trV gs) [ptr gs] rfl rfl ?_; intro g4 w4 hg4 b4 f4 s4; have l4 := b4.lt; have z4 := f4.size)
    | (with_reducible refine at_wpP ?_; refine wpList_boxN rfl _ rfl k cb _ rfl ?_; intro g7 w7 hg7 b7 f7 s7; have l7 := b7.lt; have z7 := f7.size; have q7 := NdB.ents b7 hb.out; have B4 := b4.fr0 f7)
    | (with_reducible refine at_wpP ?_; refine at_ld 26 _ rfl ?_; go_must (refine wpList_ldP rfl _ rfl g4 rfl gs B4 ?_))
    | (go_at_call 69; go_must (refine (hbes _ (A.st.fr0 (f4.thenN f7)) (A.ow.sl.fr0 (f4.thenN f7))).mono ?_; rintro e w8 ⟨u8, rfl, o8, f8⟩; have z8 := f8.size; obtain ⟨a8, c8, hu8⟩ := o8.opn; subst hu8; have b8 := b7.fr0 f8; have q8 := NdB.ents b8 hb.out; have S8 := hS0.fr0 ((f4.thenN f7).thenN f8)))
    | (with_reducible refine at_wpP ?_; refine wpList_mk2S rfl _ _ rfl _ _ _ _ _ _ rfl rfl ?_; intro g9 w9 b9 f9 s9; have z9 := f9.size; have B9 := b8.fr0 f9)
    | (go_at_call 70; go_must (refine (hcat _ _ _ _ (vs_own b9 (by simp)).sl (o8.sl.fr0 f9) (S8.fr0 f9)).mono ?_; rintro e w10 ⟨v10, rfl, o10, f10⟩; have z10 := f10.size; obtain ⟨a10, c10, hv10⟩ := o10.opn; subst hv10; have B10 := B9.fr0 f10; have q10 := NdB.ents B10 hb.out))
    | (with_reducible refine at_wpP ?_; refine at_st 38 _ _ rfl ?_; go_must (refine wpList_stEnt rfl _ _ rfl g7 rfl _ rfl ⟨_, _, _, rfl⟩ k cb _ B10 hb.out ?_; intro w11 b11 f11; have z11 := f11.size)))
  have F10 : Fr noB w w10 := ((((f4.thenN f7).thenN f8).thenN f9).thenN f10)
  have F11 : Fr noB w w11 := F10.thenT f11 (fun x hx q => by unfold onB1 at q; omega)
  have H11 := A.st.fr0 F11
  have b4' : BxV w11 g4 26 [ptr gs] := (((B4.fr0 f8).fr0 f9).fr0 f10).fr f11 (fun q => by unfold onB1 at q; omega)
  have o11 := o10.fr f11 (fun x hx q => by have := (o10.newB x hx).1; unfold onB1 at q; omega)
  have hSq := hSp w11 F H11 _ o11.sl (fun x hx => by
    have h1 := o11.newB x hx
    exact ⟨fun q => by have := hFt x q; omega, by omega, h1.2⟩)
  have F11' := F11
  go_upto_region 12 with (first
    | (with_reducible refine at_wpP ?_; refine at_ld 24 _ rfl ?_; go_must (refine wpList_ldPT rfl _ rfl g4 rfl gs b4' ?_))
    | (with_reducible refine at_wpP ?_; refine at_ld 55 _ rfl ?_; go_must (refine wpList_ldN rfl _ rfl g7 rfl k cb _ b11 hb.out ?_))
    | (go_at_call 39; go_must (refine hSq.mono ?_; rintro e w12 ⟨F2, u12, rfl, T12, o12, a12⟩; have z12 := T12.fr.size)))
  have o0 : EnO w12 base v l := (A.ow.fr0 F11).fr T12.fr (fun x hx q => by
    have := A.hv x hx
    rcases q with q | q
    · exact this.1 q
    · exact this.2.1 q)
  have hRp := fun (i' : Nat) => rep2_any (i := B) (by have := A.hb; omega) o0 o12 (fun q hq hq2 => by have := A.hv q hq; have := (o12.newB q hq2).1; omega) (by omega) (by omega)
  obtain ⟨a12', c12, hu12⟩ := o12.opn
  subst hu12
  have hcl := show Hid _ from hB
  clear hB
  have hmin := hmin.out
  have hmax := hmax.out
  go_wp2_with (first
    | (go_at_call 58; go_must (refine (hRp 0).mono ?_; rintro e w13 ⟨v13, rfl, o13, f13, p13⟩; have z13 := f13.size)))
  go_ret2
  have H13 : Sto w13 F2 gs gp X' L' (m + 2) := T12.st.fr f13 (fun q hq hF hv => by
    have h1 := A.hv q hv
    rcases hF with h2 | h2 | h2
    · rcases (T12.ft q h2).1 with h3 | h3
      · exact h1.1 h3
      · omega
    · exact h1.2.1 h2
    · exact h1.2.2.1 h2)
  refine ⟨F2, v13, rfl, ⟨H13, fun q hq => ⟨?_, H13.ft q hq⟩, ?_⟩, o13, fun q hq => ?_⟩
  · rcases (T12.ft q hq).1 with h | h
    · exact Or.inl h
    · exact Or.inr (by omega)
  · exact ((F11.mono (fun _ _ q => q.elim)).thenT T12.fr (fun _ _ q => Or.inr q)).thenT f13 (fun _ _ q => Or.inl q)
  · rcases p13 q hq with h | h
    · refine ⟨fun hF => ?_, Or.inl h⟩
      have h1 := A.hv q h
      rcases (T12.ft q hF).1 with h3 | h3
      · exact h1.1 h3
      · omega
    · refine ⟨fun hF => by have := (T12.ft q hF).2; omega, Or.inr (by omega)⟩
set_option maxRecDepth 100000 in
set_option maxHeartbeats 8000000 in
theorem place_gt {w : World} {F : Nat → Prop} {gs gp base : Nat} {X X' : DSt} {L L' : List Pg} {m : Nat} {k : Int} {cb : List Int} {l c : List (Int × Int)} {v cv : Value} {i B : Nat} {t : Int × Int} (A : PlA w F gs gp base X L m k cb l c v cv i) (hc0 : 1 ≤ c.length) (hB : besF X l i c.length = B) (hB2 : B = i + 1) (hBl : B < l.length) (hJ : (c ++ othF X l i B).length ≤ 6)
    (hs : splF (X, L) k (c ++ othF X l i B) = ((X', L'), [t], 0)) :
    Calls Try.prog 55 #[trV gs, v, .int .i64 (i : Int), ndV k cb cv] w fun r w' => PlIs w w' F gs gp base v ((X', L'), l.take i ++ ([t] ++ l.drop (i + 2)), 0) (m + 2) r := by
  have hb := NdS.bl A.nd
  have hkw := A.nd.2.2.2
  obtain ⟨a, cap, hcv, _⟩ := A.nd.slr.opn
  have hS0 := A.nd.slr
  have hwc := A.nd.1.2
  subst hcv
  have hes : (⟨k, cb, c⟩ : Nd).es = c := rfl
  rw [hes] at hS0 hwc ⊢
  clear hes
  obtain ⟨O, HO⟩ : ∃ O, Hid (othF X l i B = O) := ⟨_, rfl⟩
  have hbes := fun W (s : Sto W F gs gp X L m) (hS : SlR enC 2 W v l) => bes_any (v := v) (i := i) (n := c.length) W s (by have := A.hm; omega) hS A.hi (by have := A.hl; omega) (by have := A.hc; omega) A.hg
  rw [hB, HO.out] at hbes
  rw [HO.out] at hs hJ
  have hwO : ∀ x ∈ O, (Lit.int .i64 x.1).wf = true ∧ (Lit.int .i64 x.2).wf = true := by
    intro x hx
    rw [← HO.out] at hx
    unfold othF at hx
    by_cases q : B = i
    · rw [if_pos q] at hx; cases hx
    · rw [if_neg q] at hx
      have hm : l.getD B (0, 0) ∈ l := by simp [List.getD, hBl]
      exact A.hw _ hm x hx
  have hwJ : ∀ x ∈ c ++ O, (Lit.int .i64 x.1).wf = true ∧ (Lit.int .i64 x.2).wf = true := fun x hx => by
    rcases List.mem_append.1 hx with q | q
    · exact hwc x q
    · exact hwO x q
  have hb16 := A.nd.2.1
  obtain ⟨J, HJ⟩ : ∃ J, Hid (c ++ O = J) := ⟨_, rfl⟩
  have hJl : Hid (J.length = c.length + O.length) := by rw [← HJ.out]; exact List.length_append
  rw [HJ.out] at hs hJ hwJ
  have hcat := fun W (vt va vb : Value) (h1 : SlR en1 1 W vt [va, vb]) (h2 : SlR enC 2 W va c) (h3 : SlR enC 2 W vb O) => cat_any h1 h2 h3 (by have := hJl.out; omega) (by have := hJl.out; omega)
  rw [HJ.out] at hcat
  have hi := A.hi
  have hl6 := A.hl
  have hc6 := A.hc
  have hm9 := A.hm
  obtain ⟨n, Hn⟩ : ∃ n, Hid (c.length = n) := ⟨_, rfl⟩
  rw [Hn.out] at hS0 hbes hc0 hc6 ⊢
  have hz : ((n : Int) == 0) = false := by simp; omega
  have hw1 : ∀ z : Nat, z ≤ 300 → IntKind.i64.wrap ((z : Int) + 1) = (z : Int) + 1 := fun z hz => wrap_sm (by omega)
  have hlt : decide ((B : Int) < (i : Int)) = false := by simp; omega
  have hmin : min (i : Int) (B : Int) = (i : Int) := by omega
  have hmax : max (i : Int) (B : Int) + 1 = (i : Int) + 2 := by omega
  have hSp := fun W (F1 : Nat → Prop) (s : Sto W F1 gs gp X L m) (u : Value) (o : SlR enC 2 W u J) (hu : ∀ x, u.ownBlock = some x → ¬ F1 x ∧ x ≠ gp ∧ x < W.heap.size) => split_any (X := X) (L := L) k cb J u W s (by omega) ⟨⟨o, hwJ⟩, hb16, by show J.length ≤ 1000; omega, hkw⟩ hu
  rw [hs] at hSp
  have hFt := A.st.ft
  have hgsl := A.st.lts
  have hgpl := A.st.ltp
  have hB3 : B ≤ i + 1 := by omega
  have hB4 : i + 1 ≤ B := by omega
  have hmin := show Hid _ from hmin
  have hmax := show Hid _ from hmax
  clear hB2
  go_enter Try.func55, Try.ntmps55
  go_upto_region 9 with (first
    | (with_reducible refine at_wpP ?_; refine wpList_boxG rfl 26 _ rfl (trV gs) [ptr gs] rfl rfl ?_; intro g4 w4 hg4 b4 f4 s4; have l4 := b4.lt; have z4 := f4.size)
    | (with_reducible refine at_wpP ?_; refine wpList_boxN rfl _ rfl k cb _ rfl ?_; intro g7 w7 hg7 b7 f7 s7; have l7 := b7.lt; have z7 := f7.size; have q7 := NdB.ents b7 hb.out; have B4 := b4.fr0 f7)
    | (with_reducible refine at_wpP ?_; refine at_ld 26 _ rfl ?_; go_must (refine wpList_ldP rfl _ rfl g4 rfl gs B4 ?_))
    | (go_at_call 69; go_must (refine (hbes _ (A.st.fr0 (f4.thenN f7)) (A.ow.sl.fr0 (f4.thenN f7))).mono ?_; rintro e w8 ⟨u8, rfl, o8, f8⟩; have z8 := f8.size; obtain ⟨a8, c8, hu8⟩ := o8.opn; subst hu8; have b8 := b7.fr0 f8; have q8 := NdB.ents b8 hb.out; have S8 := hS0.fr0 ((f4.thenN f7).thenN f8)))
    | (with_reducible refine at_wpP ?_; refine wpList_mk2S rfl _ _ rfl _ _ _ _ _ _ rfl rfl ?_; intro g9 w9 b9 f9 s9; have z9 := f9.size; have B9 := b8.fr0 f9)
    | (go_at_call 70; go_must (refine (hcat _ _ _ _ (vs_own b9 (by simp)).sl (S8.fr0 f9) (o8.sl.fr0 f9)).mono ?_; rintro e w10 ⟨v10, rfl, o10, f10⟩; have z10 := f10.size; obtain ⟨a10, c10, hv10⟩ := o10.opn; subst hv10; have B10 := B9.fr0 f10; have q10 := NdB.ents B10 hb.out))
    | (with_reducible refine at_wpP ?_; refine at_st 38 _ _ rfl ?_; go_must (refine wpList_stEnt rfl _ _ rfl g7 rfl _ rfl ⟨_, _, _, rfl⟩ k cb _ B10 hb.out ?_; intro w11 b11 f11; have z11 := f11.size)))
  have F10 : Fr noB w w10 := ((((f4.thenN f7).thenN f8).thenN f9).thenN f10)
  have F11 : Fr noB w w11 := F10.thenT f11 (fun x hx q => by unfold onB1 at q; omega)
  have H11 := A.st.fr0 F11
  have b4' : BxV w11 g4 26 [ptr gs] := (((B4.fr0 f8).fr0 f9).fr0 f10).fr f11 (fun q => by unfold onB1 at q; omega)
  have o11 := o10.fr f11 (fun x hx q => by have := (o10.newB x hx).1; unfold onB1 at q; omega)
  have hSq := hSp w11 F H11 _ o11.sl (fun x hx => by
    have h1 := o11.newB x hx
    exact ⟨fun q => by have := hFt x q; omega, by omega, h1.2⟩)
  have F11' := F11
  go_upto_region 12 with (first
    | (with_reducible refine at_wpP ?_; refine at_ld 24 _ rfl ?_; go_must (refine wpList_ldPT rfl _ rfl g4 rfl gs b4' ?_))
    | (with_reducible refine at_wpP ?_; refine at_ld 55 _ rfl ?_; go_must (refine wpList_ldN rfl _ rfl g7 rfl k cb _ b11 hb.out ?_))
    | (go_at_call 39; go_must (refine hSq.mono ?_; rintro e w12 ⟨F2, u12, rfl, T12, o12, a12⟩; have z12 := T12.fr.size)))
  have o0 : EnO w12 base v l := (A.ow.fr0 F11).fr T12.fr (fun x hx q => by
    have := A.hv x hx
    rcases q with q | q
    · exact this.1 q
    · exact this.2.1 q)
  have hRp := fun (i' : Nat) => rep2_any (i := i) (by have := A.hb; omega) o0 o12 (fun q hq hq2 => by have := A.hv q hq; have := (o12.newB q hq2).1; omega) (by omega) (by omega)
  obtain ⟨a12', c12, hu12⟩ := o12.opn
  subst hu12
  have hcl := show Hid _ from hB
  clear hB
  have hmin := hmin.out
  have hmax := hmax.out
  go_wp2_with (first
    | (go_at_call 58; go_must (refine (hRp 0).mono ?_; rintro e w13 ⟨v13, rfl, o13, f13, p13⟩; have z13 := f13.size)))
  go_ret2
  have H13 : Sto w13 F2 gs gp X' L' (m + 2) := T12.st.fr f13 (fun q hq hF hv => by
    have h1 := A.hv q hv
    rcases hF with h2 | h2 | h2
    · rcases (T12.ft q h2).1 with h3 | h3
      · exact h1.1 h3
      · omega
    · exact h1.2.1 h2
    · exact h1.2.2.1 h2)
  refine ⟨F2, v13, rfl, ⟨H13, fun q hq => ⟨?_, H13.ft q hq⟩, ?_⟩, o13, fun q hq => ?_⟩
  · rcases (T12.ft q hq).1 with h | h
    · exact Or.inl h
    · exact Or.inr (by omega)
  · exact ((F11.mono (fun _ _ q => q.elim)).thenT T12.fr (fun _ _ q => Or.inr q)).thenT f13 (fun _ _ q => Or.inl q)
  · rcases p13 q hq with h | h
    · refine ⟨fun hF => ?_, Or.inl h⟩
      have h1 := A.hv q h
      rcases (T12.ft q hF).1 with h3 | h3
      · exact h1.1 h3
      · omega
    · refine ⟨fun hF => by have := (T12.ft q hF).2; omega, Or.inr (by omega)⟩
set_option maxRecDepth 100000 in
set_option maxHeartbeats 8000000 in
theorem place_eq {w : World} {F : Nat → Prop} {gs gp base : Nat} {X X' : DSt} {L L' : List Pg} {m : Nat} {k : Int} {cb : List Int} {l c : List (Int × Int)} {v cv : Value} {i B : Nat} {t : Int × Int} (A : PlA w F gs gp base X L m k cb l c v cv i) (hc0 : 1 ≤ c.length) (hB : besF X l i c.length = B) (hB2 : B = i) (hBl : B < l.length) (hJ : (c ++ othF X l i B).length ≤ 6)
    (hs : splF (X, L) k (c ++ othF X l i B) = ((X', L'), [t], 0)) :
    Calls Try.prog 55 #[trV gs, v, .int .i64 (i : Int), ndV k cb cv] w fun r w' => PlIs w w' F gs gp base v ((X', L'), l.take i ++ ([t] ++ l.drop (i + 1)), 0) (m + 2) r := by
  have hb := NdS.bl A.nd
  have hkw := A.nd.2.2.2
  obtain ⟨a, cap, hcv, _⟩ := A.nd.slr.opn
  have hS0 := A.nd.slr
  have hwc := A.nd.1.2
  subst hcv
  have hes : (⟨k, cb, c⟩ : Nd).es = c := rfl
  rw [hes] at hS0 hwc ⊢
  clear hes
  obtain ⟨O, HO⟩ : ∃ O, Hid (othF X l i B = O) := ⟨_, rfl⟩
  have hbes := fun W (s : Sto W F gs gp X L m) (hS : SlR enC 2 W v l) => bes_any (v := v) (i := i) (n := c.length) W s (by have := A.hm; omega) hS A.hi (by have := A.hl; omega) (by have := A.hc; omega) A.hg
  rw [hB, HO.out] at hbes
  rw [HO.out] at hs hJ
  have hwO : ∀ x ∈ O, (Lit.int .i64 x.1).wf = true ∧ (Lit.int .i64 x.2).wf = true := by
    intro x hx
    rw [← HO.out] at hx
    unfold othF at hx
    by_cases q : B = i
    · rw [if_pos q] at hx; cases hx
    · rw [if_neg q] at hx
      have hm : l.getD B (0, 0) ∈ l := by simp [List.getD, hBl]
      exact A.hw _ hm x hx
  have hwJ : ∀ x ∈ c ++ O, (Lit.int .i64 x.1).wf = true ∧ (Lit.int .i64 x.2).wf = true := fun x hx => by
    rcases List.mem_append.1 hx with q | q
    · exact hwc x q
    · exact hwO x q
  have hb16 := A.nd.2.1
  obtain ⟨J, HJ⟩ : ∃ J, Hid (c ++ O = J) := ⟨_, rfl⟩
  have hJl : Hid (J.length = c.length + O.length) := by rw [← HJ.out]; exact List.length_append
  rw [HJ.out] at hs hJ hwJ
  have hcat := fun W (vt va vb : Value) (h1 : SlR en1 1 W vt [va, vb]) (h2 : SlR enC 2 W va c) (h3 : SlR enC 2 W vb O) => cat_any h1 h2 h3 (by have := hJl.out; omega) (by have := hJl.out; omega)
  rw [HJ.out] at hcat
  have hi := A.hi
  have hl6 := A.hl
  have hc6 := A.hc
  have hm9 := A.hm
  obtain ⟨n, Hn⟩ : ∃ n, Hid (c.length = n) := ⟨_, rfl⟩
  rw [Hn.out] at hS0 hbes hc0 hc6 ⊢
  have hz : ((n : Int) == 0) = false := by simp; omega
  have hw1 : ∀ z : Nat, z ≤ 300 → IntKind.i64.wrap ((z : Int) + 1) = (z : Int) + 1 := fun z hz => wrap_sm (by omega)
  have hlt : decide ((B : Int) < (i : Int)) = false := by simp; omega
  have hmin : min (i : Int) (B : Int) = (i : Int) := by omega
  have hmax : max (i : Int) (B : Int) + 1 = (i : Int) + 1 := by omega
  have hSp := fun W (F1 : Nat → Prop) (s : Sto W F1 gs gp X L m) (u : Value) (o : SlR enC 2 W u J) (hu : ∀ x, u.ownBlock = some x → ¬ F1 x ∧ x ≠ gp ∧ x < W.heap.size) => split_any (X := X) (L := L) k cb J u W s (by omega) ⟨⟨o, hwJ⟩, hb16, by show J.length ≤ 1000; omega, hkw⟩ hu
  rw [hs] at hSp
  have hFt := A.st.ft
  have hgsl := A.st.lts
  have hgpl := A.st.ltp
  have hB3 : B ≤ i := by omega
  have hB4 : i ≤ B := by omega
  have hmin := show Hid _ from hmin
  have hmax := show Hid _ from hmax
  clear hB2
  go_enter Try.func55, Try.ntmps55
  go_upto_region 9 with (first
    | (with_reducible refine at_wpP ?_; refine wpList_boxG rfl 26 _ rfl (trV gs) [ptr gs] rfl rfl ?_; intro g4 w4 hg4 b4 f4 s4; have l4 := b4.lt; have z4 := f4.size)
    | (with_reducible refine at_wpP ?_; refine wpList_boxN rfl _ rfl k cb _ rfl ?_; intro g7 w7 hg7 b7 f7 s7; have l7 := b7.lt; have z7 := f7.size; have q7 := NdB.ents b7 hb.out; have B4 := b4.fr0 f7)
    | (with_reducible refine at_wpP ?_; refine at_ld 26 _ rfl ?_; go_must (refine wpList_ldP rfl _ rfl g4 rfl gs B4 ?_))
    | (go_at_call 69; go_must (refine (hbes _ (A.st.fr0 (f4.thenN f7)) (A.ow.sl.fr0 (f4.thenN f7))).mono ?_; rintro e w8 ⟨u8, rfl, o8, f8⟩; have z8 := f8.size; obtain ⟨a8, c8, hu8⟩ := o8.opn; subst hu8; have b8 := b7.fr0 f8; have q8 := NdB.ents b8 hb.out; have S8 := hS0.fr0 ((f4.thenN f7).thenN f8)))
    | (with_reducible refine at_wpP ?_; refine wpList_mk2S rfl _ _ rfl _ _ _ _ _ _ rfl rfl ?_; intro g9 w9 b9 f9 s9; have z9 := f9.size; have B9 := b8.fr0 f9)
    | (go_at_call 70; go_must (refine (hcat _ _ _ _ (vs_own b9 (by simp)).sl (S8.fr0 f9) (o8.sl.fr0 f9)).mono ?_; rintro e w10 ⟨v10, rfl, o10, f10⟩; have z10 := f10.size; obtain ⟨a10, c10, hv10⟩ := o10.opn; subst hv10; have B10 := B9.fr0 f10; have q10 := NdB.ents B10 hb.out))
    | (with_reducible refine at_wpP ?_; refine at_st 38 _ _ rfl ?_; go_must (refine wpList_stEnt rfl _ _ rfl g7 rfl _ rfl ⟨_, _, _, rfl⟩ k cb _ B10 hb.out ?_; intro w11 b11 f11; have z11 := f11.size)))
  have F10 : Fr noB w w10 := ((((f4.thenN f7).thenN f8).thenN f9).thenN f10)
  have F11 : Fr noB w w11 := F10.thenT f11 (fun x hx q => by unfold onB1 at q; omega)
  have H11 := A.st.fr0 F11
  have b4' : BxV w11 g4 26 [ptr gs] := (((B4.fr0 f8).fr0 f9).fr0 f10).fr f11 (fun q => by unfold onB1 at q; omega)
  have o11 := o10.fr f11 (fun x hx q => by have := (o10.newB x hx).1; unfold onB1 at q; omega)
  have hSq := hSp w11 F H11 _ o11.sl (fun x hx => by
    have h1 := o11.newB x hx
    exact ⟨fun q => by have := hFt x q; omega, by omega, h1.2⟩)
  have F11' := F11
  go_upto_region 12 with (first
    | (with_reducible refine at_wpP ?_; refine at_ld 24 _ rfl ?_; go_must (refine wpList_ldPT rfl _ rfl g4 rfl gs b4' ?_))
    | (with_reducible refine at_wpP ?_; refine at_ld 55 _ rfl ?_; go_must (refine wpList_ldN rfl _ rfl g7 rfl k cb _ b11 hb.out ?_))
    | (go_at_call 39; go_must (refine hSq.mono ?_; rintro e w12 ⟨F2, u12, rfl, T12, o12, a12⟩; have z12 := T12.fr.size)))
  have o0 : EnO w12 base v l := (A.ow.fr0 F11).fr T12.fr (fun x hx q => by
    have := A.hv x hx
    rcases q with q | q
    · exact this.1 q
    · exact this.2.1 q)
  have hRp := fun (i' : Nat) => repE_any (i := i) (m := [t]) (by have := A.hb; omega) o0 o12 (fun q hq hq2 => by have := A.hv q hq; have := (o12.newB q hq2).1; omega) (by simp) (by simp; omega) (by omega)
  obtain ⟨a12', c12, hu12⟩ := o12.opn
  subst hu12
  have hcl := show Hid _ from hB
  clear hB
  have hmin := hmin.out
  have hmax := hmax.out
  go_wp2_with (first
    | (go_at_call 58; go_must (refine (hRp 0).mono ?_; rintro e w13 ⟨v13, rfl, o13, f13, p13⟩; have z13 := f13.size)))
  go_ret2
  have H13 : Sto w13 F2 gs gp X' L' (m + 2) := T12.st.fr f13 (fun q hq hF hv => by
    have h1 := A.hv q hv
    rcases hF with h2 | h2 | h2
    · rcases (T12.ft q h2).1 with h3 | h3
      · exact h1.1 h3
      · omega
    · exact h1.2.1 h2
    · exact h1.2.2.1 h2)
  refine ⟨F2, v13, rfl, ⟨H13, fun q hq => ⟨?_, H13.ft q hq⟩, ?_⟩, o13, fun q hq => ?_⟩
  · rcases (T12.ft q hq).1 with h | h
    · exact Or.inl h
    · exact Or.inr (by omega)
  · exact ((F11.mono (fun _ _ q => q.elim)).thenT T12.fr (fun _ _ q => Or.inr q)).thenT f13 (fun _ _ q => Or.inl q)
  · rcases p13 q hq with h | h
    · refine ⟨fun hF => ?_, Or.inl h⟩
      have h1 := A.hv q h
      rcases (T12.ft q hF).1 with h3 | h3
      · exact h1.1 h3
      · omega
    · refine ⟨fun hF => by have := (T12.ft q hF).2; omega, Or.inr (by omega)⟩
end Go.Proofs.Ytmkinaijkgkgiaa
/- place, by its function; no condition. -/
namespace Go.Proofs.Ytmkinaijkgkgiaa
open Go.RowKit Go.Proofs.U
set_option linter.unusedSimpArgs false
set_option linter.unusedVariables false
theorem splF_one {S S' : DSt × List Pg} {k : Int} {J tops : List (Int × Int)} (h1 : 1 ≤ J.length) (h6 : J.length ≤ 6) (h : splF S k J = (S', tops, 0)) : ∃ t, tops = [t] := by
  unfold splF partsL at h
  rw [if_neg (by omega), if_neg (by omega), if_pos h6] at h
  unfold splA at h
  split at h
  · unfold splA at h
    simp only [List.nil_append, Prod.mk.injEq] at h
    exact ⟨_, h.2.1.symm⟩
  · rename_i he
    simp only [Prod.mk.injEq] at h
    exact absurd h.2.2 he
theorem place_any {w : World} {F : Nat → Prop} {gs gp base : Nat} {X X' : DSt} {L L' : List Pg} {m : Nat} {k : Int} {cb : List Int} {l c es' : List (Int × Int)} {v cv : Value} {i : Nat} (A : PlA w F gs gp base X L m k cb l c v cv i) (hp : placeF (X, L) k l i c = ((X', L'), es', 0)) :
    Calls Try.prog 55 #[trV gs, v, .int .i64 (i : Int), ndV k cb cv] w fun r w' => PlIs w w' F gs gp base v ((X', L'), es', 0) (m + 2) r := by
  by_cases hc : c.length = 0
  · unfold placeF at hp
    rw [if_pos hc] at hp
    cases hp
    exact place_none A hc
  · have hc1 : 1 ≤ c.length := by omega
    unfold placeF at hp
    rw [if_neg hc] at hp
    simp only [Prod.mk.injEq] at hp
    obtain ⟨h1, h2, h3⟩ := hp
    have hi := A.hi
    have hc6 := A.hc
    generalize hB : besF X l i c.length = B at *
    have hcs : (B + 1 = i ∧ szX X (l.getD B (0, 0)).2 + c.length ≤ 6) ∨ (B = i + 1 ∧ i + 1 < l.length ∧ szX X (l.getD B (0, 0)).2 + c.length ≤ 6) ∨ B = i := by
      unfold besF at hB
      split at hB
      · rename_i q; subst hB; exact Or.inl ⟨by omega, q.2⟩
      · split at hB
        · rename_i q; subst hB; exact Or.inr (Or.inl ⟨rfl, q.1, q.2⟩)
        · exact Or.inr (Or.inr hB.symm)
    have hol : ¬ B = i → (othF X l i B).length = szX X (l.getD B (0, 0)).2 := fun q => by unfold othF; rw [if_neg q]; rfl
    have ho0 : B = i → (othF X l i B).length = 0 := fun q => by unfold othF; rw [if_pos q]; rfl
    rcases hcs with ⟨q, q6⟩ | ⟨q, ql, q6⟩ | q
    · have hj : joinF X l i B c = othF X l i B ++ c := by unfold joinF; rw [if_pos (by omega)]
      have hJ : (othF X l i B ++ c).length ≤ 6 := by rw [List.length_append, hol (by omega)]; exact q6
      rw [hj] at h1 h2 h3
      generalize hq : splF (X, L) k (othF X l i B ++ c) = R at h1 h2 h3
      obtain ⟨S1, tops, e⟩ := R
      simp only at h1 h2 h3
      subst h1
      subst h3
      obtain ⟨t, rfl⟩ := splF_one (by rw [List.length_append]; omega) hJ hq
      rw [show min i B = B by omega, show max i B + 1 = B + 2 by omega] at h2
      rw [← h2]
      exact place_lt A hc1 hB q (by omega) hJ hq
    · have hj : joinF X l i B c = c ++ othF X l i B := by unfold joinF; rw [if_neg (by omega)]
      have hJ : (c ++ othF X l i B).length ≤ 6 := by rw [List.length_append, hol (by omega)]; omega
      rw [hj] at h1 h2 h3
      generalize hq : splF (X, L) k (c ++ othF X l i B) = R at h1 h2 h3
      obtain ⟨S1, tops, e⟩ := R
      simp only at h1 h2 h3
      subst h1
      subst h3
      obtain ⟨t, rfl⟩ := splF_one (by rw [List.length_append]; omega) hJ hq
      rw [show min i B = i by omega, show max i B + 1 = i + 2 by omega] at h2
      rw [← h2]
      exact place_gt A hc1 hB q (by omega) hJ hq
    · have hj : joinF X l i B c = c ++ othF X l i B := by unfold joinF; rw [if_neg (by omega)]
      have hJ : (c ++ othF X l i B).length ≤ 6 := by rw [List.length_append, ho0 q]; omega
      rw [hj] at h1 h2 h3
      generalize hq : splF (X, L) k (c ++ othF X l i B) = R at h1 h2 h3
      obtain ⟨S1, tops, e⟩ := R
      simp only at h1 h2 h3
      subst h1
      subst h3
      obtain ⟨t, rfl⟩ := splF_one (by rw [List.length_append]; omega) hJ hq
      rw [show min i B = i by omega, show max i B + 1 = i + 1 by omega] at h2
      rw [← h2]
      exact place_eq A hc1 hB q (by omega) hJ hq
end Go.Proofs.Ytmkinaijkgkgiaa
