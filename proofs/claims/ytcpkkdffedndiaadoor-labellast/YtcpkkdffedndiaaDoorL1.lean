/- Contracts of the small functions of package label and of the document's own. -/
import Derived.Test.YtcpkkdffedndiaaDoorRows
import Derived.Test.YtcpkkdffedndiaaDoorBase2
namespace Go.Proofs.YtcpkkdffedndiaaDoor
open Go.RowKit Go.Proofs.U
set_option linter.unusedSimpArgs false
set_option linter.unusedVariables false

/-- A label as a value. -/
abbrev lab (e s : Int) : Value := .agg #[.int .u32 e, .int .u32 s]
/-- Its numbers are of 32 bits. -/
structure U2 (e s : Int) : Prop where
  e0 : 0 ≤ e
  e1 : e < 4294967296
  s0 : 0 ≤ s
  s1 : s < 4294967296
def okL (e s : Int) : Bool := decide (e ≤ 1048576) && decide (s ≤ 1048576)
def lessL (a b c d : Int) : Bool := decide (a < c) || (decide (a = c) && decide (b < d))
def c1 (a b : Int) : Int := if a < b then -1 else if b < a then 1 else 0
def cmpL (a b c d : Int) : Int := if c1 a c = 0 then c1 b d else c1 a c

set_option maxHeartbeats 1000000 in
theorem right_any (e s : Int) (w : World) :
    Calls Tryd.prog 16 #[lab e s] w fun r w' => r = .returned (.bool (okL e s)) ∧ Fr noB w w' := by
  by_cases he : e ≤ 1048576
  · have he2 : decide (e ≤ 1048576) = true := by simpa using he
    go_enter Tryd.func16, Tryd.ntmps16
    go_wp2
    go_ret
    exact ⟨by simp [okL, he], (Fr.refl _ _).alloc _⟩
  · have he2 : decide (e ≤ 1048576) = false := by simpa using he
    have he3 : okL e s = false := by simp [okL, he2]
    go_enter Tryd.func16, Tryd.ntmps16
    go_wp2
    go_ret
    exact ⟨rfl, (Fr.refl _ _).alloc _⟩

set_option maxHeartbeats 1000000 in
theorem rright_any (e s : Int) (w : World) :
    Calls Tryd.prog 17 #[lab e s] w fun r w' => r = .returned (.bool (okL e s)) ∧ Fr noB w w' := by
  by_cases he : e ≤ 1048576
  · have he2 : decide (e ≤ 1048576) = true := by simpa using he
    go_enter Tryd.func17, Tryd.ntmps17
    go_wp2
    go_ret
    exact ⟨by simp [okL, he], (Fr.refl _ _).alloc _⟩
  · have he2 : decide (e ≤ 1048576) = false := by simpa using he
    have he3 : okL e s = false := by simp [okL, he2]
    go_enter Tryd.func17, Tryd.ntmps17
    go_wp2
    go_ret
    exact ⟨rfl, (Fr.refl _ _).alloc _⟩

set_option maxHeartbeats 1000000 in
theorem rless_any (a b c d : Int) (w : World) :
    Calls Tryd.prog 28 #[lab a b, lab c d] w fun r w' => r = .returned (.bool (lessL a b c d)) ∧ Fr noB w w' := by
  by_cases h1 : a < c
  · have g1 : decide (a < c) = true := by simpa using h1
    go_enter Tryd.func28, Tryd.ntmps28
    go_wp2
    go_ret
    exact ⟨by simp [lessL, h1], ((Fr.refl _ _).alloc _).alloc _⟩
  · have g1 : decide (a < c) = false := by simpa using h1
    by_cases h2 : a = c
    · have g2 : (a == c) = true := by simpa using h2
      go_enter Tryd.func28, Tryd.ntmps28
      go_wp2
      go_ret
      exact ⟨by simp [lessL, h1, h2], ((Fr.refl _ _).alloc _).alloc _⟩
    · have g2 : (a == c) = false := by simpa using h2
      go_enter Tryd.func28, Tryd.ntmps28
      go_wp2
      go_ret
      exact ⟨by simp [lessL, h1, h2], ((Fr.refl _ _).alloc _).alloc _⟩

set_option maxHeartbeats 1000000 in
theorem c1_any (a b : Int) (w : World) :
    Calls Tryd.prog 27 #[.int .u32 a, .int .u32 b] w fun r w' => r = .returned (.int .i64 (c1 a b)) ∧ w = w' := by
  by_cases h1 : a < b
  · go_enter Tryd.func27, Tryd.ntmps27
    go_wp2
    go_ret
    exact ⟨by simp [c1, h1], rfl⟩
  · by_cases h2 : b < a
    · go_enter Tryd.func27, Tryd.ntmps27
      go_wp2
      go_ret
      exact ⟨by simp [c1, h1, h2], rfl⟩
    · have h3 : c1 a b = 0 := by simp [c1, h1, h2]
      go_enter Tryd.func27, Tryd.ntmps27
      go_wp2
      go_ret
      exact ⟨rfl, rfl⟩
end Go.Proofs.YtcpkkdffedndiaaDoor
