/- Contracts of strings.Cut at a point, and of numeral of package label. -/
import Derived.Test.YtcpkkdffedndiaaDoorSh
import Derived.Test.YtcpkkdffedndiaaDoorLP
import Derived.Test.YtcpkkdffedndiaaDoorL1
import Derived.Laws.RangeAny
import Derived.Laws.RangeString
import Derived.Deep.QuietTactic
namespace Go.Proofs.YtcpkkdffedndiaaDoor
open Go.RowKit Go.Proofs.U
set_option linter.unusedSimpArgs false
set_option linter.unusedVariables false

abbrev pnt : ByteArray := ⟨#[46]⟩

theorem ext_take (s : ByteArray) (p r : List UInt8) (h : s.data.toList = p ++ 46 :: r) : (s.extract 0 p.length).data.toList = p ∧ (s.extract (p.length + 1) s.size).data.toList = r := by
  have hs : s.size = p.length + 1 + r.length := by
    have : s.data.toList.length = s.size := by rw [Array.length_toList]; rfl
    rw [← this, h]; simp; omega
  constructor
  · simp [ByteArray.data_extract, h]
  · simp [ByteArray.data_extract, h, hs]

set_option maxHeartbeats 1000000 in
theorem cut_any (s : ByteArray) (hs : s.size ≤ 1000000) (w : World) :
    Calls Tryd.prog 41 #[.string s, .string pnt] w fun e w' => ∃ x y f, e = .returned (.tuple #[.string x, .string y, .bool f]) ∧ x.data.toList = (cutD s.data.toList).1 ∧ y.data.toList = (cutD s.data.toList).2 ∧ x.size ≤ s.size ∧ y.size ≤ s.size ∧ Fr noB w w' := by
  rcases ib_cases 46 s.data.toList with ⟨h1, h2⟩ | ⟨p, r, h1, h2, h3⟩
  · have hc : cutD s.data.toList = (s.data.toList, []) := by unfold cutD; rw [if_pos h1]
    rw [hc]
    go_enter Tryd.func41, Tryd.ntmps41
    go_wp2_with (go_at_call 43; go_must (refine (Tryd.stringslite_Index_one s 46 _).mono ?_; rintro e w' ⟨rfl, rfl⟩; rw [h1]))
    go_ret3
    exact ⟨_, _, _, rfl, rfl, rfl, Nat.le_refl _, Nat.zero_le _, Fr.refl _ _⟩
  · have hs2 : s.size = p.length + 1 + r.length := by
      have : s.data.toList.length = s.size := by rw [Array.length_toList]; rfl
      rw [← this, h1]; simp; omega
    have hc : cutD s.data.toList = (p, r) := by rw [h1] at h3 ⊢; exact cutD_hit h3
    obtain ⟨x1, x2⟩ := ext_take s p r h1
    have x1 := (show Hid _ from x1)
    have x2 := (show Hid _ from x2)
    rw [hc]
    have c1 : (0 : Int) ≤ (p.length : Int) := by omega
    have c2 : (p.length : Int) ≤ (s.size : Int) := by omega
    have c3 : (0 : Int) ≤ (p.length : Int) + 1 := by omega
    have c4 : (p.length : Int) + 1 ≤ (s.size : Int) := by omega
    clear h1 h2 hc
    go_enter Tryd.func41, Tryd.ntmps41
    go_wp2_with (go_at_call 43; go_must (refine (Tryd.stringslite_Index_one s 46 _).mono ?_; rintro e w' ⟨rfl, rfl⟩; rw [h3]))
    go_quiet (fail)
    go_wp2
    go_ret3
    exact ⟨_, _, _, rfl, x1.out, by have := x2.out; rwa [hs2] at this, by rw [ByteArray.size_extract]; omega, by rw [ByteArray.size_extract]; omega, (Fr.refl _ _).drewN _⟩

theorem at_list (s : ByteArray) (k : Nat) (h : k < s.size) (h' : k < s.data.toList.length) : s.data.toList[k] = s[k]'h := by
  rw [Array.getElem_toList]; rfl

set_option maxHeartbeats 2000000 in
theorem numeral_any (s : ByteArray) (hs : s.size ≤ 1000000) (w : World) :
    Calls Tryd.prog 34 #[.string s, .int .u32 1048576] w fun e w' => e = .returned (.tuple #[.int .u32 ((numV s.data.toList).1 : Int), .bool (numV s.data.toList).2]) ∧ Fr noB w w' := by
  obtain ⟨R, HR⟩ : ∃ R, Hid (numV s.data.toList = R) := ⟨_, rfl⟩
  rw [HR.out]
  obtain ⟨l, Hl⟩ : ∃ l, Hid (s.data.toList = l) := ⟨_, rfl⟩
  have hlen : l.length = s.size := by rw [← Hl.out, Array.length_toList]; rfl
  have bad : ∀ k, numF (l.take k) = none → Hid (R = (0, false)) := by
    intro k h
    have := numF_none l k h
    rw [← HR.out, Hl.out]
    show _ = _
    unfold numV; rw [this]
  go_enter Tryd.func34, Tryd.ntmps34
  go_wp2
  go_loopw [6] (fun n wr => ∃ (k m : Nat), k ≤ s.size ∧ wr = w.iter s k ∧ n = .int .u32 (m : Int) ∧ m ≤ 1048576 ∧ Hid (numF (l.take k) = some (k, m))) (fun _ wr => s.size - wr.iterPos w.heap.size)
  case atStart => exact ⟨0, 0, Nat.zero_le _, rfl, rfl, by omega, show _ = _ by simp [numF]⟩
  case round =>
    obtain ⟨k, m, hk, rfl, rfl, hm, hF⟩ := hrel
    by_cases hlt : k < s.size
    · have hlt' : k < l.length := by omega
      have hst : Hid (numF (l.take (k + 1)) = stepN (some (k, m)) (s[k]'hlt)) := by
        have := numF_take l k hlt'
        rw [hF.out] at this
        show _ = _
        rw [this]
        congr 1
        have h2 := at_list s k hlt (by rw [Hl.out]; exact hlt')
        rw [← h2]
        congr 1
        exact Hl.out.symm
      obtain ⟨b, Hb⟩ : ∃ b, Hid ((s[k]'hlt).toNat = b) := ⟨_, rfl⟩
      have fr1 : ∀ q, Fr noB w (w.iter s q) := fun q => (Fr.refl _ _).alloc _
      by_cases hhi : 128 ≤ b
      · have hd := decode_high s k hlt (by rw [Hb.out]; exact hhi)
        have hnext := fun ty => run_next_any (P := Tryd.prog) w s k ty hlt
        have hz : Hid (R = (0, false)) := bad (k + 1) (by
          rw [hst.out]; unfold stepN; simp only; rw [if_pos]
          simp [badD, Hb.out]; left; right; omega)
        generalize Utf8.decode s k = D at hnext hd
        have d1 : ¬ ((D.1 : Int) < 48) := by omega
        have d2 : (57 : Int) < (D.1 : Int) := by omega
        clear hd
        go_wp2
        go_ret2
        exact ⟨by rw [hz.out]; rfl, fr1 _⟩
      have hnext := fun ty => run_next_ascii (P := Tryd.prog) w s k ty hlt (by rw [Hb.out]; omega)
      rw [Hb.out] at hnext
      by_cases h48 : b < 48
      · have hz : Hid (R = (0, false)) := bad (k + 1) (by
          rw [hst.out]; unfold stepN; simp only; rw [if_pos]
          simp [badD, Hb.out]; left; left; omega)
        have d1 : ((b : Int) < 48) := by omega
        go_wp2
        go_ret2
        exact ⟨by rw [hz.out]; rfl, fr1 _⟩
      have d1 : ¬ ((b : Int) < 48) := by omega
      by_cases h57 : 57 < b
      · have hz : Hid (R = (0, false)) := bad (k + 1) (by
          rw [hst.out]; unfold stepN; simp only; rw [if_pos]
          simp [badD, Hb.out]; left; right; omega)
        have d2 : (57 : Int) < (b : Int) := by omega
        go_wp2
        go_ret2
        exact ⟨by rw [hz.out]; rfl, fr1 _⟩
      have d2 : ¬ (57 : Int) < (b : Int) := by omega
      by_cases hlead : 0 < k ∧ m = 0
      · have hz : Hid (R = (0, false)) := bad (k + 1) (by
          rw [hst.out]; unfold stepN; simp only; rw [if_pos]
          simp [badD, Hb.out, hlead.1, hlead.2])
        obtain ⟨hk0, rfl⟩ := hlead
        have d3 : (0 : Int) < (k : Int) := by omega
        go_wp2
        go_ret2
        exact ⟨by rw [hz.out]; rfl, fr1 _⟩
      have hst2 : Hid (numF (l.take (k + 1)) = if 1048576 < 10 * m + (b - 48) then none else some (k + 1, 10 * m + (b - 48))) := by
        show _ = _
        rw [hst.out]; unfold stepN; simp only
        rw [if_neg, Hb.out]
        simp [badD, Hb.out]
        exact ⟨⟨by omega, by omega⟩, fun h0 => fun hm0 => hlead ⟨h0, hm0⟩⟩
      have d4 : ((10 * m + (b - 48) : Nat) : Int) = 10 * (m : Int) + ((b : Int) - 48) := by omega
      have e4 := show Hid _ from d4
      clear d4
      have hw : IntKind.u32.wrap ((b : Int) - 48) = (b : Int) - 48 := by rw [IntKind.wrap_u32]; omega
      by_cases hbig : 1048576 < 10 * m + (b - 48)
      · have hz : Hid (R = (0, false)) := bad (k + 1) (by rw [hst2.out, if_pos hbig])
        have d5 : (1048576 : Int) < 10 * (m : Int) + ((b : Int) - 48) := by omega
        by_cases hk0 : k = 0
        · subst hk0
          go_wp2
          go_ret2
          exact ⟨by rw [hz.out]; rfl, fr1 _⟩
        · have d3 : (0 : Int) < (k : Int) := by omega
          have d6 : ((m : Int) == 0) = false := by simp; omega
          go_wp2
          go_ret2
          exact ⟨by rw [hz.out]; rfl, fr1 _⟩
      · have d5 : ¬ (1048576 : Int) < 10 * (m : Int) + ((b : Int) - 48) := by omega
        rw [if_neg hbig] at hst2
        by_cases hk0 : k = 0
        · subst hk0
          go_wp2
          go_roundw
          case rel => exact ⟨0 + 1, 10 * m + (b - 48), by omega, rfl, by rw [e4.out], by omega, hst2⟩
          case measure => simp; omega
        · have d3 : (0 : Int) < (k : Int) := by omega
          have d6 : ((m : Int) == 0) = false := by simp; omega
          go_wp2
          go_roundw
          case rel => exact ⟨k + 1, 10 * m + (b - 48), by omega, rfl, by rw [e4.out], by omega, hst2⟩
          case measure => simp; omega
    · obtain rfl : k = s.size := by omega
      have hnext := fun ty => run_next_end (P := Tryd.prog) w s s.size ty hlt
      have fr1 : ∀ q, Fr noB w (w.iter s q) := fun q => (Fr.refl _ _).alloc _
      have hR : Hid (R = if l = [] then (0, false) else (m, true)) := by
        have h1 := hF.out
        rw [← hlen, List.take_length] at h1
        show _ = _
        rw [← HR.out, Hl.out]
        unfold numV
        rw [h1]
      go_wp2
      go_ret2
      refine ⟨?_, fr1 _⟩
      have hsl : s.toList = l := (Go.ByteArray.toList_eq s).trans Hl.out
      have hfin : R = (m, !s.toList.isEmpty) := by
        rw [hR.out, hsl]
        by_cases hl0 : l = []
        · have h1 := hF.out
          rw [← hlen, List.take_length] at h1
          have := (numF_inv _ l rfl _ _ h1).2.2.2 hl0
          rw [if_pos hl0, hl0, this]
          rfl
        · rw [if_neg hl0]
          cases l with
          | nil => exact absurd rfl hl0
          | cons _ _ => rfl
      rw [hfin]
      rfl

set_option maxHeartbeats 1000000 in
theorem cutS_any (s : ByteArray) (hs : s.size ≤ 1000000) (w : World) :
    Calls Tryd.prog 33 #[.string s, .string pnt] w fun e w' => ∃ x y f, e = .returned (.tuple #[.string x, .string y, .bool f]) ∧ x.data.toList = (cutD s.data.toList).1 ∧ y.data.toList = (cutD s.data.toList).2 ∧ x.size ≤ s.size ∧ y.size ≤ s.size ∧ Fr noB w w' := by
  go_enter Tryd.func33, Tryd.ntmps33
  go_wp2_with (go_at_call 41; go_must (refine (cut_any s hs _).mono ?_; rintro e w' ⟨x, y, f, rfl, h1, h2, h3, h4, h5⟩; have h1 := show Hid _ from h1; have h2 := show Hid _ from h2))
  go_ret3
  exact ⟨_, _, _, rfl, h1.out, h2.out, h3, h4, h5⟩
end Go.Proofs.YtcpkkdffedndiaaDoor
