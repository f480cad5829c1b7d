/- Contract of Of of package crc for one part that lies in a slice of one. -/
import Derived.Test.YtaaiockknpeglaaC4
namespace Go.Proofs.Ytaaiockknpeglaa
open Go.RowKit Go.Proofs.U

theorem of_one' (l : List Int) (n : Int) (hn : crcI l = n) (v : Value) (g : Nat) (w : World) (hc : w.cell? ⟨g, 0, none⟩ = some v) (h : SlI .u8 w v l) (hb : l.length ≤ 1000000000000) :
    Calls Try.prog 11 #[.slice (some ⟨g, 0, none⟩) 1 1] w fun e w' => e = .returned (.int .u32 n) ∧ w = w' := by
  have hB : SlB w (.slice (some ⟨g, 0, none⟩) 1 1) [l] := by
    refine ⟨[v], ⟨_, _, rfl, Nat.le_refl _, rfl, (fun h => by cases h), fun x hx => ?_⟩, fun j hj u hu => ?_⟩
    · cases hx
      intro j u hj
      cases j with
      | zero => simp at hj; subst hj; simpa [Addr.add] using hc
      | succ j => simp at hj
    · obtain rfl : j = 0 := by simpa using hj
      simp at hu; subst hu
      exact h
  have := of_any _ [l] _ hB ⟨by simp, by simpa using hb⟩
  subst hn
  simpa using this

end Go.Proofs.Ytaaiockknpeglaa
