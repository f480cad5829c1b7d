/- Contracts of the document's own answers for layer 1: Right, Bytes, Put; lists of at most 10^12 numbers. -/
import Derived.Test.YtffdgbimpodopaaB6m
namespace Go.Proofs.Ytffdgbimpodopaa
open Go.RowKit Go.Proofs.U

set_option maxHeartbeats 400000 in
theorem right_any (n : Int) (w : World) :
    Calls Try.prog 24 #[.int .i64 n] w fun e w' => e = .returned (.bool (isW n)) ∧ w = w' := by
  go_enter Try.func24, Try.ntmps24
  go_wp2
  all_goals go_ret
  all_goals refine ⟨?_, rfl⟩
  all_goals simp_all [isW]

set_option maxHeartbeats 1000000 in
theorem bytes_any (n : Int) (W : Nat) (w : World) (hn : 0 ≤ n ∧ n < 18446744073709551616) (hW : W ≤ 1000) :
    Calls Try.prog 25 #[.int .u64 n, .int .i64 W] w fun e w' => ∃ v, e = .returned (.tuple #[v, .bool (n / 256 ^ W == 0)]) ∧ OwnI .u8 5 w' w.heap.size v (leB W n) ∧ Fr noB w w' := by
  go_enter Try.func25, Try.ntmps25
  go_wp2
  go_loopw [0, 6] (fun x out wr => ∃ q : Nat, q ≤ W ∧ x = .int .u64 (n / 256 ^ q) ∧ OwnI .u8 5 wr w.heap.size out (leB q n) ∧ Fr noB w wr) (fun _ out _ => W - lenV out)
  case atStart => exact ⟨0, Nat.zero_le _, by simp, OwnI.mk [] (World.ownsRow_made _ #[] 0 (Nat.le_refl _) (Nat.zero_le _) rfl) rfl, (Fr.refl _ _).alloc _⟩
  case round =>
    obtain ⟨q, hq, rfl, ho, hf⟩ := hrel
    obtain ⟨a1, c1, rfl⟩ := ho.opn
    have hxd := div_bd n q hn
    have HD := Hid.mk (div_step n q)
    generalize hy : n / 256 ^ q = y at *
    have HY := Hid.mk hy
    clear hy
    have hlen := leB_length q n
    by_cases hlt : q < W
    · go_wp2_with (at_builtin; go_must (refine wpList_app rfl _ _ 22 rfl w.heap.size 5 _ 1 1 Try.underlying22 info5 rfl (by decide) _ _ _ rfl (owns_alloc ho _) _ _ _ rfl (Sl_one _ _ _) ?h1 ?hq1 ?hq2 ?hq3 ?_; rotate_left 4; intro v3 w3 hown3 hgr3))
      case h1 => simp [Value.oneCell']
      case hq1 => unfold maxLen; omega
      case hq2 => omega
      case hq3 => have := hf.size; simp; omega
      have o3 : OwnI .u8 5 w3 w.heap.size v3 (leB (q + 1) n) := OwnI.mk _ hown3 (by rw [leB_snoc q n hn.1, HY.out]; simp)
      obtain ⟨a3, c3, rfl⟩ := o3.opn
      have hf3 := (hf.alloc _).grown hgr3 (owns_new ho)
      go_roundw
      case rel => exact ⟨q + 1, by omega, by rw [HD.out], o3, hf3⟩
      case measure => simp only [lenV, leB_length]; omega
    · obtain rfl : q = W := by omega
      go_wp2
      go_ret2
      exact ⟨_, by rw [HY.out]; rfl, ho, hf⟩

theorem u64_of (l : List Int) (h : ∀ n ∈ l, (Lit.int .u64 n).wf = true) (k : Nat) (hk : k < l.length) : 0 ≤ l[k] ∧ l[k] < 18446744073709551616 := u64_bd (h _ (by simp))

theorem fits_iff (W : Nat) (hw : isW W = true) (x : Int) (h0 : 0 ≤ x) : (x / 256 ^ W == 0) = fits W x := by
  have hc : (W : Int) = 1 ∨ (W : Int) = 2 ∨ (W : Int) = 4 ∨ (W : Int) = 8 := by simpa [isW, or_assoc] using hw
  have hc' : W = 1 ∨ W = 2 ∨ W = 4 ∨ W = 8 := by omega
  rw [Bool.eq_iff_iff]
  rcases hc' with rfl | rfl | rfl | rfl <;> simp [fits, lim] <;> omega

/-- What the document's Put answers. -/
def putS (bs : List Int) (width : Int) (l : List Int) : Option (List Int) := if isW width && l.all (fits width) then some (bs ++ putB width.toNat l) else none

set_option maxHeartbeats 1000000 in
theorem rput_yes (W : Nat) (hwd : isW W = true) (vb vl : Value) (bs l : List Int) (w : World) (hb : SlI .u8 w vb bs) (hl : SlI .u64 w vl l) (hbm : bs.length ≤ 1000000000000) (hm : l.length ≤ 1000000000000) (hfit : l.all (fits W) = true) :
    Calls Try.prog 16 #[vb, .int .i64 W, vl] w fun e w' => ∃ v, e = .returned (.tuple #[v, .int .i64 0]) ∧ OwnI .u8 5 w' w.heap.size v (bs ++ putB W l) ∧ Fr noB w w' := by
  have hw1 : (1 : Int) ≤ W ∧ (W : Int) ≤ 8 := by
    have : (W : Int) = 1 ∨ (W : Int) = 2 ∨ (W : Int) = 4 ∨ (W : Int) = 8 := by simpa [isW, or_assoc] using hwd
    omega
  obtain ⟨a, cap, rfl, hcap⟩ := hb.opn
  obtain ⟨a2, cap2, rfl, hcap2⟩ := hl.opn
  have Hwd := Hid.mk hwd
  have Hfit := Hid.mk hfit
  clear hwd hfit
  go_enter Try.func16, Try.ntmps16
  go_wp2_with (first | (go_at_call 24; refine (right_any _ _).mono ?_; rintro e w' ⟨rfl, rfl⟩; rw [Hwd.out]) | (at_builtin; go_must (refine wpList_app rfl _ _ 22 rfl w.heap.size 5 _ 1 1 Try.underlying22 info5 rfl (by decide) _ _ _ rfl (World.ownsRow_made _ #[] 0 (Nat.le_refl _) (Nat.zero_le _) rfl) _ _ _ rfl (hb.1.fr0 ((Fr.refl _ _).alloc _)) (ones _ _) ?hq1 ?hq2 ?hq3 ?_; rotate_left 3; intro v2 w2 hown2 hgr2; have hf2 := ((Fr.refl noB w).alloc _).grown hgr2 (owns_new (World.ownsRow_made (e := 5) (size := 1) w #[] 0 (Nat.le_refl _) (Nat.zero_le _) rfl)))))
  case hq1 => unfold maxLen; omega
  case hq2 => omega
  case hq3 => simp
  have ho2 : OwnI .u8 5 w2 w.heap.size v2 bs := OwnI.mk _ hown2 (by simp)
  clear hown2 hgr2
  go_loopw [8, 21] (fun out i wr => ∃ k : Nat, k ≤ l.length ∧ i = .int .i64 k ∧ OwnI .u8 5 wr w.heap.size out (bs ++ putB W (l.take k)) ∧ Fr noB w wr) (fun _ i _ => l.length - (intOf i).toNat)
  case atStart => exact ⟨0, Nat.zero_le _, rfl, by simpa [putB] using ho2, hf2⟩
  case round =>
    obtain ⟨k, hk, rfl, ho, hf⟩ := hrel
    by_cases hlt : k < l.length
    · have hbd := u64_bd (hl.2 l[k] (by simp))
      have hlS := hl.1.fr0 hf
      have hlen : (bs ++ putB W (l.take k)).length ≤ 9000000000000 := by
        have h9 : k * W ≤ 1000000000000 * 8 := Nat.mul_le_mul (by omega) (by omega)
        simp [putB_length, Nat.min_eq_left hk]; omega
      have Hok : Hid ((l[k] / 256 ^ W == 0) = true) := by show _ = _; rw [fits_iff W Hwd.out _ hbd.1]; exact (List.all_eq_true.1 Hfit.out) _ (by simp)
      have Hlen := Hid.mk (leB_length W l[k])
      go_wp2_with (first
        | (refine wpList_idx1 rfl 32 _ _ rfl 26 Try.underlying32 size26 _ _ _ rfl hlS _ _ k rfl rfl hlt ?_; intro p u hu hc; obtain rfl := getu _ _ _ _ hu)
        | (go_at_call 25; go_must (refine (bytes_any l[k] W _ hbd (by omega)).mono ?_; rintro e w3 ⟨v3, rfl, ho3, hf3⟩; rw [Hok.out]; obtain ⟨a3, c3, rfl⟩ := ho3.opn; have o3 := ho.fr hf3 (fun _ _ q => q)))
        | (at_builtin; go_must (refine wpList_app rfl _ _ 22 rfl w.heap.size 5 _ 1 1 Try.underlying22 info5 rfl (by decide) _ _ _ rfl o3 _ _ _ rfl (Sl.of_owns ho3) (ones _ _) ?hq1 ?hq2 (Nat.le_trans hf.size hf3.size) ?_; rotate_left 2; intro v4 w4 hown4 hgr4)))
      case hq1 => rw [Hlen.out]; unfold maxLen; omega
      case hq2 => rw [Hlen.out]; omega
      go_roundw
      case rel => exact ⟨k + 1, by omega, by go_num, OwnI.mk _ hown4 (by rw [putB_take W l k hlt]; simp), (hf.thenN hf3).grown hgr4 (owns_new o3)⟩
      case measure => simp [intOf]; omega
    · go_wp2
      go_ret2
      have e : k = l.length := by omega
      subst e
      simp only [List.take_length] at ho
      exact ⟨_, rfl, ho, hf⟩
end Go.Proofs.Ytffdgbimpodopaa
