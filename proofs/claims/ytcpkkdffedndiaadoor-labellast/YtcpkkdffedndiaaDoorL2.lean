/- Contract of cmp.Or at two integers. -/
import Derived.Test.YtcpkkdffedndiaaDoorL1
import Derived.Test.YtcpkkdffedndiaaDoorRI2
namespace Go.Proofs.YtcpkkdffedndiaaDoor
open Go.RowKit Go.Proofs.U
set_option linter.unusedSimpArgs false
set_option linter.unusedVariables false

def or2 (x y : Int) : Int := if x = 0 then y else x

set_option maxHeartbeats 1000000 in
theorem or_two (g : Nat) (x y : Int) (w : World) (hx : w.cell? ⟨g, 0, none⟩ = some (.int .i64 x)) (hy : w.cell? ⟨g, 1, none⟩ = some (.int .i64 y)) :
    Calls Tryd.prog 26 #[.slice (some ⟨g, 0, none⟩) 2 2] w fun r w' => r = .returned (.int .i64 (or2 x y)) ∧ w = w' := by
  obtain ⟨R, HR⟩ : ∃ R, Hid (R = or2 x y) := ⟨_, rfl⟩
  rw [← HR.out]
  go_enter Tryd.func26, Tryd.ntmps26
  go_wp2
  go_loop [8] (fun i => ∃ k : Nat, k ≤ 2 ∧ i = .int .i64 k ∧ Hid ((1 ≤ k → x = 0) ∧ (2 ≤ k → y = 0))) (fun i => 2 - (intOf i).toNat)
  case atStart => exact ⟨0, by omega, rfl, show _ ∧ _ from ⟨fun h => by omega, fun h => by omega⟩⟩
  case round =>
    obtain ⟨k, hk, rfl, hall⟩ := hrel
    rcases k with _ | _ | _ | k
    · by_cases hx0 : x = 0
      · subst hx0
        go_wp2
        go_round
        case rel => exact ⟨1, by omega, rfl, show _ ∧ _ from ⟨fun h => trivial, fun h => by omega⟩⟩
        case measure => simp [intOf]
      · have hb : (x == 0) = false := by simpa using hx0
        go_wp2
        go_ret
        exact ⟨by rw [HR.out]; simp [or2, hx0], rfl⟩
    · have hx0 := hall.out.1 (by omega)
      by_cases hy0 : y = 0
      · subst hy0
        go_wp2
        go_round
        case rel => exact ⟨2, by omega, rfl, show _ ∧ _ from ⟨fun h => hx0, fun h => trivial⟩⟩
        case measure => simp [intOf]
      · have hb : (y == 0) = false := by simpa using hy0
        go_wp2
        go_ret
        exact ⟨by rw [HR.out]; simp [or2, hx0], rfl⟩
    · have hx0 := hall.out.1 (by omega)
      have hy0 := hall.out.2 (by omega)
      go_wp2
      go_ret
      exact ⟨by rw [HR.out]; simp [or2, hx0, hy0], rfl⟩
    · omega

/-- Two integers in a row. -/
def MFact.two (c d : Value) : MFact := ⟨fun v w => ∃ g, v = .slice (some ⟨g, 0, none⟩) 2 2 ∧ w.cell? ⟨g, 0, none⟩ = some c ∧ w.cell? ⟨g, 1, none⟩ = some d,
  fun _ _ _ hf ⟨g, e, h, k⟩ => ⟨g, e, hf.cell h (fun q => q), hf.cell k (fun q => q)⟩⟩

theorem cmpL_or (a b c d : Int) : or2 (c1 a c) (c1 b d) = cmpL a b c d := rfl

end Go.Proofs.YtcpkkdffedndiaaDoor
