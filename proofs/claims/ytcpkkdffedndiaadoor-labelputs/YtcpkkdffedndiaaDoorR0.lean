/- Contract of the document's Bytes. -/
import Derived.Test.YtcpkkdffedndiaaDoorA2
import Derived.Test.YtcpkkdffedndiaaDoorBase2
namespace Go.Proofs.YtcpkkdffedndiaaDoor
open Go.RowKit Go.Proofs.U
set_option maxHeartbeats 1000000 in
theorem bytes_any (n : Int) (W : Nat) (w : World) (hn : 0 ≤ n ∧ n < 18446744073709551616) (hW : W ≤ 1000) :
    Calls Tryd.prog 40 #[.int .u64 n, .int .i64 W] w fun e w' => ∃ v, e = .returned (.tuple #[v, .bool (n / 256 ^ W == 0)]) ∧ OwnI .u8 5 w' w.heap.size v (leB W n) ∧ Fr noB w w' := by
  go_enter Tryd.func40, Tryd.ntmps40
  go_wp2
  go_loopw [0, 6] (fun x out wr => ∃ q : Nat, q ≤ W ∧ x = .int .u64 (n / 256 ^ q) ∧ OwnI .u8 5 wr w.heap.size out (leB q n) ∧ Fr noB w wr) (fun _ out _ => W - lenV out)
  case atStart => exact ⟨0, Nat.zero_le _, by simp, OwnI.mk [] (World.ownsRow_made _ #[] 0 (Nat.le_refl _) (Nat.zero_le _) rfl) rfl, (Fr.refl _ _).alloc _⟩
  case round =>
    obtain ⟨q, hq, rfl, ho, hf⟩ := hrel
    obtain ⟨a1, c1, rfl⟩ := ho.opn
    have hxd := div_bd n q hn
    have HD := Hid.mk (div_step n q)
    generalize hy : n / 256 ^ q = y at *
    have HY := Hid.mk hy
    clear hy
    have hlen := leB_length q n
    by_cases hlt : q < W
    · go_wp2_with (at_builtin; go_must (refine wpList_app rfl _ _ 38 rfl w.heap.size 5 _ 1 1 Tryd.underlying38 info5 rfl (by decide) _ _ _ rfl (owns_alloc ho _) _ _ _ rfl (Sl_one _ _ _) ?h1 ?hq1 ?hq2 ?hq3 ?_; rotate_left 4; intro v3 w3 hown3 hgr3))
      case h1 => simp [Value.oneCell']
      case hq1 => unfold maxLen; omega
      case hq2 => omega
      case hq3 => have := hf.size; simp; omega
      have o3 : OwnI .u8 5 w3 w.heap.size v3 (leB (q + 1) n) := OwnI.mk _ hown3 (by rw [leB_snoc q n hn.1, HY.out]; simp)
      obtain ⟨a3, c3, rfl⟩ := o3.opn
      have hf3 := (hf.alloc _).grown hgr3 (owns_new ho)
      go_roundw
      case rel => exact ⟨q + 1, by omega, by rw [HD.out], o3, hf3⟩
      case measure => simp only [lenV, leB_length]; omega
    · obtain rfl : q = W := by omega
      go_wp2
      go_ret2
      exact ⟨_, by rw [HY.out]; rfl, ho, hf⟩
end Go.Proofs.YtcpkkdffedndiaaDoor
