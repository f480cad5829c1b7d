/- Pages: the document's mix. -/
import Derived.Test.YtejjfpdcmaefiaaP1
import Derived.Laws.ShiftsVarLaws
namespace Go.Proofs.Ytejjfpdcmaefiaa
open Go.RowKit Go.Proofs.U
set_option linter.unusedSimpArgs false
set_option linter.unusedVariables false

/-- Is the bit of byte i's sector set? -/
def bitAt (mask : Int) (i : Nat) : Bool := mask / 2 ^ (i / 32) % 2 == 1
theorem bit_eq (mask : Int) (k : Nat) (h : 0 ≤ mask) : ((mask / 2 ^ (k / 32)).tmod 2 == 1) = bitAt mask k := by
  unfold bitAt
  rw [Int.tmod_eq_emod_of_nonneg (Int.ediv_nonneg h (Int.le_of_lt (Int.pow_pos (by decide))))]
def mixK (old next : List Int) (mask : Int) (k : Nat) : List Int := (List.range 256).map fun i => if i < k && bitAt mask i then next.getD i 0 else old.getD i 0
theorem mix_len (old next : List Int) (mask : Int) (k : Nat) : (mixK old next mask k).length = 256 := by simp only [mixK, List.length_map, List.length_range]
theorem mix_zero (old next : List Int) (mask : Int) (h : old.length = 256) : mixK old next mask 0 = old := by
  apply List.ext_getElem
  · rw [mix_len, h]
  · intro i h1 h2
    simp only [mixK, List.getElem_map, List.getElem_range, Nat.not_lt_zero, decide_false, Bool.false_and, Bool.false_eq_true, if_false]
    simp [List.getD, h2]
theorem mix_no (old next : List Int) (mask : Int) (k : Nat) (hb : bitAt mask k = false) : mixK old next mask (k + 1) = mixK old next mask k := by
  unfold mixK
  apply List.map_congr_left
  intro i _
  by_cases hik : i = k
  · subst hik; simp only [hb, Bool.and_false]
  · have : decide (i < k + 1) = decide (i < k) := by apply decide_eq_decide.2; omega
    rw [this]
theorem mix_yes (old next : List Int) (mask : Int) (k : Nat) (hk : k < 256) (hb : bitAt mask k = true) : mixK old next mask (k + 1) = (mixK old next mask k).set k (next.getD k 0) := by
  apply List.ext_getElem
  · rw [List.length_set, mix_len, mix_len]
  · intro i h1 h2
    rw [List.getElem_set]
    by_cases hik : k = i
    · subst hik
      rw [if_pos rfl]
      simp only [mixK, List.getElem_map, List.getElem_range, hb, Nat.lt_succ_self, decide_true, Bool.and_true, if_true]
    · rw [if_neg hik]
      simp only [mixK, List.getElem_map, List.getElem_range]
      have : decide (i < k + 1) = decide (i < k) := by apply decide_eq_decide.2; omega
      rw [this]
theorem mix_get (old next : List Int) (mask : Int) (k : Nat) (hk : k < 256) : (mixK old next mask k)[k]? = some (old.getD k 0) := by
  have hl : k < (mixK old next mask k).length := by rw [mix_len]; exact hk
  rw [List.getElem?_eq_getElem hl]
  simp only [mixK, List.getElem_map, List.getElem_range, Nat.lt_irrefl, decide_false, Bool.false_and, Bool.false_eq_true, if_false]

set_option maxRecDepth 100000 in
set_option maxHeartbeats 1000000 in
theorem mix_any (old next : List Int) (mask : Int) (hm : 0 ≤ mask ∧ mask < 256) (ho : old.length = 256) (hn : next.length = 256) (w : World) :
    Calls Try.prog 40 #[pgV old, pgV next, .int .u8 mask] w fun r w' => r = .returned (pgV (mixK old next mask 256)) ∧ Fr noB w w' := by
  obtain ⟨R, HR⟩ : ∃ R, Hid (mixK old next mask 256 = R) := ⟨_, rfl⟩
  rw [HR.out]
  obtain ⟨Z, HZ⟩ : ∃ Z, Hid (zeroP = Z) := ⟨_, rfl⟩
  have hZl : Hid (Z.length = 256) := by show _ = _; rw [← HZ.out]; exact zeroP_len
  have hol := show Hid _ from ho
  have hnl := show Hid _ from hn
  clear ho hn
  go_enter Try.func40, Try.ntmps40
  go_wp2_with (first
    | (with_reducible refine at_wpP ?_; refine wpList_boxV rfl 25 _ rfl (pgv next) rfl ?_; intro g2 w2 hg2 b2 f2 s2; have c1 := b1.fr0 f2; have hl1 := b1.lt; have hl2 := b2.lt; have F2 := f1.thenN f2)
    | (with_reducible refine at_wpP ?_; refine wpList_boxV rfl 25 _ rfl (pgv old) rfl ?_; intro g1 w1 hg1 b1 f1 s1; have z1 := f1.size)
    | (with_reducible refine at_wpP ?_; refine wpList_allocP rfl rfl ?_; rw [HZ.out]; intro g3 w3 hg3 b3 f3 s3; have d1 := c1.fr0 f3; have d2 := b2.fr0 f3; have F3 := F2.thenN f3; have hl3 := b3.lt))
  go_loopw [8] (fun i wr => ∃ (k : Nat) (p : List Int), k ≤ 256 ∧ i = .int .i64 (k : Int) ∧ Hid (p = mixK old next mask k) ∧ BxV wr g1 25 (pgv p) ∧ BxV wr g2 25 (pgv next) ∧ BxV wr g3 25 (pgv Z) ∧ Fr noB w wr) (fun i _ => 256 - (intOf i).toNat)
  case atStart => exact ⟨0, old, by omega, rfl, show _ = _ by rw [mix_zero old next mask hol.out], d1, d2, b3, F3⟩
  case round =>
    obtain ⟨k, p, hk, rfl, hp, hb1, hb2, hb3, hf⟩ := hrel
    have hpl : Hid (p.length = 256) := by show _ = _; rw [hp.out, mix_len]
    by_cases hlt : k < 256
    · have e1 : (0 : Int) ≤ (k : Int) := by omega
      have e2 : (k : Int) < 256 := by omega
      obtain ⟨x, Hx⟩ : ∃ x, Hid (next.getD k 0 = x) := ⟨_, rfl⟩
      have k2 : wr.cell? ⟨g2, k, none⟩ = some (.int .u8 x) := by
        have := (hb2.cell k _ (pgv_get next k (by rw [hnl.out]; exact hlt))).1
        rw [this, ← Hx.out]; simp [List.getD, hnl.out, hlt]
      have hbe := bit_eq mask k hm.1
      obtain ⟨bt, Hbt⟩ : ∃ b, Hid (bitAt mask k = b) := ⟨_, rfl⟩
      rw [Hbt.out] at hbe
      cases bt with
      | true =>
        go_wp2_with (with_reducible refine at_wpP ?_; refine wpList_store1 rfl 5 _ _ rfl g1 k (by simp [Act.eval]) (.int .u8 x) rfl rfl _ _ hb1 size_u8 (by rw [pgv_len, hpl.out]; exact hlt) ?_; intro w4 b4 f4)
        rw [pgv_set] at b4
        go_roundw
        case rel => exact ⟨k + 1, p.set k x, by omega, by go_num, show _ = _ by rw [mix_yes old next mask k hlt Hbt.out, hp.out, Hx.out], b4, hb2.ne f4 (by omega), hb3.ne f4 (by omega), hf.thenT f4 (fun i hi q => by unfold onB1 at q; omega)⟩
        case measure => simp [intOf]; omega
      | false =>
        go_wp2
        go_roundw
        case rel => exact ⟨k + 1, p, by omega, by go_num, show _ = _ by rw [mix_no old next mask k Hbt.out, hp.out], hb1, hb2, hb3, hf⟩
        case measure => simp [intOf]; omega
    · obtain rfl : k = 256 := by omega
      have hpR : p = R := by rw [hp.out, HR.out]
      subst hpR
      go_wp2_with (first
        | (with_reducible refine at_wpP ?_; refine wpList_loadP rfl _ rfl g1 rfl _ hb1 hpl.out ?_)
        | (with_reducible refine at_wpP ?_; refine wpList_storeP rfl _ _ rfl g3 rfl _ rfl _ hb3 hpl.out hZl.out ?_; intro w5 b5 f5))
      refine bodyPost_ret (v := pgV p) (results_page Try.results40 _ w5 g3 p rfl b5 hpl.out) rfl ⟨rfl, ?_⟩
      exact hf.thenT f5 (fun i hi q => by unfold onB1 at q; omega)
end Go.Proofs.Ytejjfpdcmaefiaa
