/- Contract of Put of package label. -/
import Derived.Test.YtcpkkdffedndiaaDoorA2
import Derived.Test.YtcpkkdffedndiaaDoorL5
import Derived.Test.YtcpkkdffedndiaaDoorBaseM
namespace Go.Proofs.YtcpkkdffedndiaaDoor
open Go.RowKit Go.Proofs.U
set_option linter.unusedSimpArgs false
set_option linter.unusedVariables false

def nums (l : List (Int × Int)) : List Int := l.flatMap fun x => [x.1, x.2]
theorem nums_succ (l : List (Int × Int)) (k : Nat) (h : k < l.length) : nums (l.take (k + 1)) = nums (l.take k) ++ [l[k].1, l[k].2] := by
  unfold nums
  rw [List.take_succ_eq_append_getElem h, List.flatMap_append]; simp
theorem nums_length (l : List (Int × Int)) : (nums l).length = 2 * l.length := by
  unfold nums
  induction l with
  | nil => rfl
  | cons x l ih => rw [List.flatMap_cons, List.length_append, ih]; simp; omega
theorem info64 : (Tryd.prog.info? 51).map (fun i => (i.zero, i.size, i.bytes)) = some (some (.int .u64 0), 1, 8) := by kernel_rfl
theorem nums_bd (l : List (Int × Int)) (h : ∀ x ∈ l, U2 x.1 x.2) : ∀ n ∈ nums l, 0 ≤ n ∧ n < 4294967296 := by
  intro n hn
  unfold nums at hn
  simp at hn
  obtain ⟨a, b, hx, rfl | rfl⟩ := hn
  · have := h _ hx; exact ⟨this.e0, this.e1⟩
  · have := h _ hx; exact ⟨this.s0, this.s1⟩

set_option maxHeartbeats 2000000 in
theorem lput_any (vb vl : Value) (bs : List Int) (l : List (Int × Int)) (w : World) (hb : SlI .u8 w vb bs) (hl : SlL w vl l) (hU : ∀ x ∈ l, U2 x.1 x.2) (hbm : bs.length ≤ 1000000) (hm : l.length ≤ 1000000) :
    Calls Tryd.prog 22 #[vb, vl] w fun e w' => ∃ v, e = .returned v ∧ OwnI .u8 5 w' w.heap.size v (bs ++ putB 4 (nums l)) ∧ Fr noB w w' := by
  obtain ⟨a, cap, rfl, hcap⟩ := hl.opn
  obtain ⟨i6, hi6, hz6, hs6, hy6⟩ := info_parts info64
  obtain ⟨X, HX⟩ : ∃ X, Hid (bs ++ putB 4 (nums l) = X) := ⟨_, rfl⟩
  rw [HX.out]
  go_enter Tryd.func22, Tryd.ntmps22
  go_wp2_with (refine at_make 50 _ _ rfl ?_; go_must (refine wpList_make_own _ rfl _ _ 50 rfl w.heap.size 51 i6 _ 1 Tryd.underlying50 hi6 hz6 hs6 .i64 .i64 _ (2 * l.length) rfl rfl (by simp) ?hb2 ?hb3 (Nat.le_refl _) ?_; rotate_left 2; intro w1 hown hgr; have hf1 := Fr.of_grown hgr))
  case hb2 => rw [hy6]; omega
  case hb3 => unfold maxLen; omega
  have o1 : OwnI .u64 51 w1 w.heap.size _ [] := OwnI.mk _ hown (by simp)
  go_loopw [5, 16] (fun nv i wr => ∃ k : Nat, k ≤ l.length ∧ i = .int .i64 k ∧ OwnI .u64 51 wr w.heap.size nv (nums (l.take k)) ∧ Fr noB w wr) (fun _ i _ => l.length - (intOf i).toNat)
  case atStart => exact ⟨0, Nat.zero_le _, rfl, by simpa [nums] using o1, hf1⟩
  case round =>
    obtain ⟨k, hk, rfl, ho, hf⟩ := hrel
    by_cases hlt : k < l.length
    · have hS := hl.fr0 hf
      have hsucc := show Hid _ from nums_succ l k hlt
      have hux := hU l[k] (by simp)
      have hn2 := show Hid _ from nums_length (l.take k)
      obtain ⟨Z, HZ⟩ : ∃ Z, Hid (l[k] = Z) := ⟨l[k], (rfl : l[k] = l[k])⟩
      rw [HZ.out] at hsucc hux
      obtain ⟨u1, u2, u3, u4⟩ := hux
      have hkl : Hid ((l.take k).length = k) := by show _ = _; simp; omega
      have hfs := hf.size
      obtain ⟨a1, c1, rfl⟩ := ho.opn
      go_wp2_with (first
        | (refine at_idx 30 _ _ rfl ?_; go_must (refine wpList_idxR rfl 30 _ _ rfl 24 Tryd.underlying30 2 lab_size _ _ _ rfl hS (by decide) _ _ k rfl rfl hlt ?_; rw [HZ.out]; intro ba oa hba hca; have p0 := hca 0 _ rfl; have p1 := hca 1 _ rfl; rw [Nat.add_zero] at p0; clear hca))
        | (with_reducible refine at_wp ?_; refine wpList_stL rfl _ _ rfl wr.heap.size rfl _ _ _ _ rfl (Bx.made wr 0 0) ?_; go_must (intro w2 b2 f2 z2; clear z2; obtain ⟨m1, m2, m3, m4⟩ := b2.all; have o2 : OwnI .u64 51 w2 w.heap.size _ _ := (OwnI.fr (S := noB) ho ((Fr.refl _ _).alloc _) (fun _ _ q => q)).fr f2 (fun q hq h' => by have := (ho.newB q hq).2; unfold onL at h'; omega); have g2 : Fr noB w w2 := (hf.alloc _).thenT f2 (fun i hi q => by unfold onL at q; omega); have hs2 := g2.size))
        | (at_builtin; go_must (refine wpList_app rfl _ _ 50 rfl w.heap.size 51 _ 1 8 Tryd.underlying50 info64 rfl (by decide) _ _ _ rfl (owns_alloc o2 _) _ _ _ rfl (Sl_made w2 _ _ 2 w2.heap.size rfl rfl) ?h1 ?hq1 ?hq2 ?hq3 ?_; rotate_left 4; intro v3 w3 hown3 hgr3)))
      case h1 => exact by simp [Value.oneCell']
      case hq1 => have := hn2.out; rw [hkl.out] at this; unfold maxLen; omega
      case hq2 => have := hn2.out; rw [hkl.out] at this; omega
      case hq3 => simp; omega
      have o3 : OwnI .u64 51 w3 w.heap.size v3 (nums (l.take (k + 1))) := OwnI.mk _ hown3 (by rw [hsucc.out]; simp)
      obtain ⟨a3, c3, rfl⟩ := o3.opn
      have hf3 := (g2.alloc _).grown hgr3 (owns_new o2)
      go_roundw
      case rel => exact ⟨k + 1, by omega, by go_num, o3, hf3⟩
      case measure => simp [intOf]; omega
    · obtain rfl : k = l.length := by omega
      rw [List.take_length] at ho
      have hbd := nums_bd l hU
      have hln := nums_length l
      have hs5 := ho.sl (fun n hn => by have := hbd n hn; simp [Lit.wf, IntKind.min, IntKind.max, IntKind.signed, IntKind.bits]; omega)
      have hfit : (nums l).all (fits 4) = true := by
        rw [List.all_eq_true]
        intro n hn
        have := hbd n hn
        simp [fits, lim]; omega
      have hput := put_yes 4 rfl vb _ bs (nums l) wr (hb.fr0 hf) hs5 (by omega) (by omega) hfit
      clear hbd hfit hs5
      go_wp2_with fail
      refine hput.mono ?_
      rintro e w5 ⟨v5, rfl, ho5, hf5⟩
      have ho5 : OwnI .u8 5 w5 wr.heap.size v5 (bs ++ putB 4 (nums l)) := ho5
      rw [HX.out] at ho5
      obtain ⟨a5, c5, rfl⟩ := ho5.opn
      go_wp2
      go_ret
      exact ⟨_, rfl, ho5.rebase hf.size, hf.thenN hf5⟩
end Go.Proofs.YtcpkkdffedndiaaDoor
