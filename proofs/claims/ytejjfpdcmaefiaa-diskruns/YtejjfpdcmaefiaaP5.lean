/- The document's disk: Spoil and Put. -/
import Derived.Test.YtejjfpdcmaefiaaP4
import Derived.Test.YtejjfpdcmaefiaaOR
namespace Go.Proofs.Ytejjfpdcmaefiaa
open Go.RowKit Go.Proofs.U
set_option linter.unusedSimpArgs false
set_option linter.unusedVariables false

theorem info_bool : (Try.prog.info? 4).map (fun i => (i.zero, i.size, i.bytes)) = some (some (.bool false), 1, 1) := by kernel_rfl
theorem size_sbool : (Try.prog.info? 36).map (·.size) = some 1 := by kernel_rfl
theorem isSl_mk (a : Option Addr) (n c : Nat) : isSl (.slice a n c) := ⟨a, n, c, rfl⟩
/-- A slice that is the old one, or lies in new memory. -/
def nwB (w w' : World) (v v' : Value) : Prop := ∀ q, v'.ownBlock = some q → v.ownBlock = some q ∨ (w.heap.size ≤ q ∧ q < w'.heap.size)
def inR (n : Nat) (i : Int) : Bool := decide (0 ≤ i) && decide (i < (n : Int))

set_option maxRecDepth 100000 in
set_option maxHeartbeats 2000000 in
theorem rspoil_any (v1 v2 v3 : Value) (n : Nat) (a1 : Option Addr) (c1 : Nat) (hv1 : v1 = .slice a1 n c1) (h3 : isSl v3) (bad : List Bool) (c : Bool) (l : Int) (d : Bool) (i : Int) (b : Bool) (w : World)
    (h2 : SlBo w v2 bad) (hlb : bad.length = n) (hm : n ≤ 100000) :
    Calls Try.prog 25 #[dkV v1 v2 v3 c l d, .int .i64 i, .bool b] w fun r w' => ∃ v2', r = .returned (.tuple #[dkV v1 v2' v3 c l d, .int .i64 (if inR n i then 0 else 41)]) ∧ SlBo w' v2' (if inR n i then bad.set i.toNat b else bad) ∧ Fr noB w w' ∧ nwB w w' v2 v2' := by
  subst hv1
  have hsl2 := SlR.isSl h2
  obtain ⟨a2, c2', rfl, hc2⟩ := h2.opn
  have Hlb := show Hid _ from hlb
  clear hlb
  have hsl1 : isSl (.slice a1 n c1) := ⟨_, _, _, rfl⟩
  cases hin : inR n i with
  | false =>
    have ht : (decide (0 ≤ i) && decide (i < (n : Int))) = false := hin
    simp only [Bool.false_eq_true, if_false]
    go_enter Try.func25, Try.ntmps25
    go_wp2_with (first
      | (with_reducible refine at_wpP ?_; refine wpList_boxV rfl 39 _ rfl (dkL (.slice a1 n c1) (.slice a2 bad.length c2') v3 c l d) rfl ?_; intro g1 w1 hg1 b1 f1 s1)
      | (with_reducible refine at_wpP ?_; refine wpList_allocD rfl rfl ?_; intro g2 w2 hg2 b2 f2 s2; have e2 := b1.fr0 f2; have hl1 := b1.lt; have hl2 := b2.lt)
      | (go_at_call 35; go_must (refine (there_any _ _ _ _ _ _ _ _ _ _).mono ?_; rintro e w3 ⟨rfl, f3⟩; have b3 := b2.fr0 f3; have e3 := e2.fr0 f3))
      | (with_reducible refine at_wpP ?_; refine wpList_ldD rfl _ rfl g1 rfl _ _ _ c l d e3 ?_)
      | (with_reducible refine at_wpP ?_; refine wpList_ldD rfl _ rfl g1 rfl _ _ _ c l d e2 ?_)
      | (with_reducible refine at_wpP ?_; refine wpList_stD rfl _ _ rfl g2 rfl _ _ _ c l d rfl _ b3 rfl hsl1 hsl2 h3 ?_; intro w4 b4 f4))
    have F4 := ((f1.thenN f2).thenN f3).thenT (S := noB) f4 (fun i hi q => by unfold onB1 at q; have := f1.size; omega)
    refine bodyPost_ret (v := .tuple #[dkV (.slice a1 n c1) (.slice a2 bad.length c2') v3 c l d, .int .i64 41]) (results_disk2 Try.results25 _ w4 g2 _ _ _ c l d rfl b4) rfl ⟨_, rfl, h2.fr0 F4, F4, fun q h => Or.inl h⟩
  | true =>
    have ht : (decide (0 ≤ i) && decide (i < (n : Int))) = true := hin
    have hi : 0 ≤ i ∧ i < (n : Int) := by simpa using ht
    obtain ⟨j, rfl⟩ : ∃ j : Nat, i = j := ⟨i.toNat, by omega⟩
    have hj : j < bad.length := by rw [Hlb.out]; omega
    simp only [if_true, Int.toNat_natCast]
    have hbl : Hid (bad.length ≤ 100000) := by show _ ≤ _; rw [Hlb.out]; exact hm
    go_enter Try.func25, Try.ntmps25
    go_wp2_with (first
      | (with_reducible refine at_wpP ?_; refine wpList_boxV rfl 39 _ rfl (dkL (.slice a1 n c1) (.slice a2 bad.length c2') v3 c l d) rfl ?_; intro g1 w1 hg1 b1 f1 s1)
      | (with_reducible refine at_wpP ?_; refine wpList_allocD rfl rfl ?_; intro g2 w2 hg2 b2 f2 s2; have e2 := b1.fr0 f2; have hl1 := b1.lt; have hl2 := b2.lt)
      | (go_at_call 35; go_must (refine (there_any _ _ _ _ _ _ _ _ _ _).mono ?_; rintro e w3 ⟨rfl, f3⟩; have b3 := b2.fr0 f3; have e3 := e2.fr0 f3; have F3 := (f1.thenN f2).thenN f3; obtain ⟨k0, k1, k2, k3, k4, k5⟩ := e3.six))
      | (with_reducible refine at_wpP ?_; refine wpList_ldD rfl _ rfl g1 rfl _ _ _ c l d e2 ?_)
      | (with_reducible refine at_wpP ?_; refine wpList_mk0 encB 1 rfl 36 rfl 4 Try.underlying36 size_bool ?_; intro g4 w4 o4 f4 s4 t4; have b4 := b3.fr0 f4; have e4 := e3.fr0 f4; have F4 := F3.thenN f4; have hl3 := F3.size; obtain ⟨k0, k1, k2, k3, k4, k5⟩ := e4.six; have m1 := e3.lt; have m2 := b3.lt)
      | (at_builtin; go_must (refine wpList_appR (ec := encB) (sz := 1) rfl _ _ 36 rfl w3.heap.size 4 _ 1 Try.underlying36 info_bool rfl (by decide) _ [] rfl o4 _ bad rfl (h2.fr0 F4) (by intro y _ u hu; simp at hu; subst hu; rfl) ?hq1 ?hq2 ?hq3 ?_; rotate_left 3; intro v5 w5 o5 hg5; rw [List.nil_append] at o5; obtain ⟨g5, cap5, cur, hv5, h15, hB5, _, _, _⟩ := o5.bx (by omega); subst hv5; have hg5 : w4.grownBy w5 (some g4) := hg5; have f5 : Fr (onB1 g4) w4 w5 := (Fr.refl _ _).grown hg5 (fun k hk _ => (Option.some.inj hk).symm); have F5 := F4.thenT (S := noB) f5 (fun i hi q => by unfold onB1 at q; omega); have b5 := b4.ne f5 (by omega); have e5 := e4.ne f5 (by omega); have q5 := (o5.newB g5 rfl).1; obtain ⟨k0, k1, k2, k3, k4, k5⟩ := e5.six))
      | (refine at_idx 36 _ _ rfl ?_; go_must (refine wpList_idxO rfl 36 _ _ rfl 4 Try.underlying36 size_bool g5 _ _ rfl _ _ j rfl rfl hj ?_))
      | (with_reducible refine at_wpP ?_; refine at_st 4 _ _ rfl ?_; go_must (refine wpList_stR1 rfl 4 _ _ rfl g5 _ _ o5 j hj (by simp [Act.eval, Act.put]) b (.bool b) rfl rfl rfl size_bool ?_; intro w6 o6 f6; have b6 := b5.ne f6 (by omega); have e6 := e5.ne f6 (by omega); have F6 := F5.thenT (S := noB) f6 (fun i hi q => by unfold onB1 at q; have := F3.size; omega)))
      | (with_reducible refine at_wpP ?_; refine wpList_store1 rfl 36 _ _ rfl g1 1 rfl (.slice (some ⟨g5, 0, none⟩) bad.length cap5) rfl rfl _ _ e6 size_sbool (by simp) ?_; go_must (intro w7 e7 f7; have e7 : BxV w7 g1 39 (dkL (.slice a1 n c1) (.slice (some ⟨g5, 0, none⟩) bad.length cap5) v3 c l d) := (by simpa using e7); have b7 := b6.ne f7 (by omega)))
      | (with_reducible refine at_wpP ?_; refine wpList_ldD rfl _ rfl g1 rfl _ _ _ c l d e7 ?_)
      | (with_reducible refine at_wpP ?_; refine at_st 39 _ _ rfl ?_; go_must (refine wpList_stD rfl _ _ rfl g2 rfl _ _ _ c l d rfl _ b7 rfl hsl1 (isSl_mk _ _ _) h3 ?_; intro w8 b8 f8)))
    case hq1 => have := hbl.out; unfold maxLen; simp; omega
    case hq2 => have := hbl.out; simp; omega
    case hq3 => exact f4.size
    have F7 := F6.thenT (S := noB) f7 (fun i hi q => by unfold onB1 at q; have := f1.size; omega)
    have F8 := F7.thenT (S := noB) f8 (fun i hi q => by unfold onB1 at q; have := f1.size; omega)
    have o8 := (o6.ne f7 (fun k hk => by simp [Value.ownBlock] at hk; omega)).ne f8 (fun k hk => by simp [Value.ownBlock] at hk; omega)
    exact bodyPost_ret (v := .tuple #[dkV (.slice a1 n c1) (.slice (some ⟨g5, 0, none⟩) bad.length cap5) v3 c l d, .int .i64 0]) (results_disk2 Try.results25 _ w8 g2 _ _ _ c l d rfl b8) rfl ⟨_, rfl, o8.sl, F8, fun q h => Or.inr ⟨by have := (o8.newB q h).1; have := F3.size; omega, (o8.newB q h).2⟩⟩
end Go.Proofs.Ytejjfpdcmaefiaa
