/- Contracts of isWidth and allFit of package ends, for every list of at most 10^12 numbers. -/
import Derived.Test.YtcpkkdffedndiaaDoorRows
import Derived.Test.YtcpkkdffedndiaaDoorBase
namespace Go.Proofs.YtcpkkdffedndiaaDoor
open Go.RowKit Go.Proofs.U

def isW (n : Int) : Bool := n == 1 || n == 2 || n == 4 || n == 8

set_option maxHeartbeats 400000 in
theorem isWidth_any (n : Int) (w : World) :
    Calls Tryd.prog 38 #[.int .i64 n] w fun e w' => e = .returned (.bool (isW n)) ∧ w = w' := by
  go_enter Tryd.func38, Tryd.ntmps38
  go_wp2
  all_goals go_ret
  all_goals refine ⟨?_, rfl⟩
  all_goals simp_all [isW]

theorem size26 : (Tryd.prog.info? 51).map (·.size) = some 1 := by kernel_rfl


theorem getu (k : IntKind) (l : List Int) (j : Nat) (u : Value) (h : (l.map (Value.int k))[j]? = some u) : u = .int k (l.getD j 0) := by
  simp at h; obtain ⟨x, hx, rfl⟩ := h; simp [List.getD, hx]

def lim (width : Int) : Int := if width = 1 then 256 else if width = 2 then 65536 else if width = 4 then 4294967296 else 18446744073709551616
def fits (width x : Int) : Bool := decide (x < lim width)

theorem u64_bd {x : Int} (h : (Lit.int .u64 x).wf = true) : 0 ≤ x ∧ x < 18446744073709551616 := by
  simp [Lit.wf, IntKind.min, IntKind.max, IntKind.signed, IntKind.bits] at h; omega

theorem all_take_succ (f : Int → Bool) (l : List Int) (k : Nat) (h : k < l.length) : (l.take (k+1)).all f = ((l.take k).all f && f l[k]) := by
  rw [List.take_succ_eq_append_getElem h, List.all_append]; simp

theorem all_of_bad (f : Int → Bool) (l : List Int) (k : Nat) (h : k < l.length) (hf : f l[k] = false) : l.all f = false := by
  rw [List.all_eq_false]; exact ⟨l[k], by simp, by simp [hf]⟩

theorem fits_yes {d x : Int} {width : Int} (_h0 : 0 ≤ x) (hl : lim width = d) (hd : 0 < d) (h : (x / d != 0) = false) : fits width x = true := by
  have h1 : x / d = 0 := by simpa using h
  simp [fits, hl]
  rcases Int.lt_or_le x d with h3 | h3
  · exact h3
  · have := (Int.le_ediv_iff_mul_le hd (a := 1) (b := x)).2 (by omega); omega
theorem fits_no {d x : Int} {width : Int} (h0 : 0 ≤ x) (hl : lim width = d) (h : (x / d != 0) = true) : fits width x = false := by
  have h1 : x / d ≠ 0 := by simpa using h
  simp [fits, hl]
  rcases Int.lt_or_le x d with h3 | h3
  · exact absurd (Int.ediv_eq_zero_of_lt h0 h3) h1
  · exact h3

theorem fits_8 {x : Int} (h : x < 18446744073709551616) : fits 8 x = true := by
  simp [fits, lim, h]
set_option maxHeartbeats 1000000 in
theorem allFit_any (width : Int) (hwd : isW width = true) (vl : Value) (l : List Int) (w : World) (hl : SlI .u64 w vl l) (hm : l.length ≤ 1000000000000) :
    Calls Tryd.prog 39 #[.int .i64 width, vl] w fun e w' => e = .returned (.bool (l.all (fits width))) ∧ w = w' := by
  obtain ⟨a, cap, rfl, hcap⟩ := hl.opn
  have hS := hl.1
  have hwf := hl.2
  have hcase : width = 1 ∨ width = 2 ∨ width = 4 ∨ width = 8 := by simpa [isW, or_assoc] using hwd
  clear hl hwd
  obtain ⟨F, HF⟩ : ∃ F, Hid (F = fits width) := ⟨_, rfl⟩
  rw [← HF.out]
  rcases hcase with rfl | rfl | rfl | rfl
  rotate_left 3
  · go_enter Tryd.func39, Tryd.ntmps39
    go_wp2
    go_loop [9] (fun i => ∃ k : Nat, k ≤ l.length ∧ i = .int .i64 k ∧ Hid ((l.take k).all F = true)) (fun i => l.length - (intOf i).toNat)
    case atStart => exact ⟨0, Nat.zero_le _, rfl, show _ = _ by simp⟩
    case round =>
      obtain ⟨k, hk, rfl, hall⟩ := hrel
      by_cases hlt : k < l.length
      · have hb := u64_bd (hwf l[k] (by simp))
        go_wp2_with (refine wpList_idx1 rfl 50 _ _ rfl 51 Tryd.underlying50 size26 _ _ _ rfl hS _ _ k rfl rfl hlt ?_; intro p u hu hc; obtain rfl := getu _ _ _ _ hu)
        · go_round
          case rel => exact ⟨k + 1, by omega, by go_num, show _ = _ by rw [all_take_succ _ _ _ hlt, hall.out, HF.out, fits_8 hb.2]; rfl⟩
          case measure => simp [intOf]; omega
      · go_wp2
        go_ret
        have e : k = l.length := by omega
        subst e
        have hall := hall.out
        rw [List.take_length] at hall
        exact ⟨by rw [hall]; rfl, rfl⟩
  all_goals
    go_enter Tryd.func39, Tryd.ntmps39
    go_wp2
    go_loop [9] (fun i => ∃ k : Nat, k ≤ l.length ∧ i = .int .i64 k ∧ Hid ((l.take k).all F = true)) (fun i => l.length - (intOf i).toNat)
    case atStart => exact ⟨0, Nat.zero_le _, rfl, show _ = _ by simp⟩
    case round =>
      obtain ⟨k, hk, rfl, hall⟩ := hrel
      by_cases hlt : k < l.length
      · have hb := u64_bd (hwf l[k] (by simp))
        go_wp2_with (refine wpList_idx1 rfl 50 _ _ rfl 51 Tryd.underlying50 size26 _ _ _ rfl hS _ _ k rfl rfl hlt ?_; intro p u hu hc; obtain rfl := getu _ _ _ _ hu)
        · go_ret
          exact ⟨by rw [all_of_bad F l k hlt (by rw [HF.out]; exact fits_no hb.1 rfl ‹_›)]; rfl, rfl⟩
        · go_round
          case rel => exact ⟨k + 1, by omega, by go_num, show _ = _ by rw [all_take_succ _ _ _ hlt, hall.out, HF.out, fits_yes hb.1 rfl (by decide) ‹_›]; rfl⟩
          case measure => simp [intOf]; omega
      · go_wp2
        go_ret
        have e : k = l.length := by omega
        subst e
        have hall := hall.out
        rw [List.take_length] at hall
        exact ⟨by rw [hall]; rfl, rfl⟩
end Go.Proofs.YtcpkkdffedndiaaDoor
