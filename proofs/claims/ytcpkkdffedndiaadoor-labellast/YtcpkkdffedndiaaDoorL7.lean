/- Contract of Text of package label. -/
import Derived.Test.YtcpkkdffedndiaaDoorL6
import Derived.Test.YtcpkkdffedndiaaDoorRI2
namespace Go.Proofs.YtcpkkdffedndiaaDoor
open Go.RowKit Go.Proofs.U
set_option linter.unusedSimpArgs false
set_option linter.unusedVariables false

abbrev dot : ByteArray := ⟨#[46]⟩
/-- A label's text. -/
def txt (a b : Int) : ByteArray := dig a ++ dot ++ dig b

theorem dig_size (a : Int) (h0 : 0 ≤ a) (h1 : a < 4294967296) : (dig a).size ≤ 20 := by
  show (Lib.decDigits a.toNat).toArray.size ≤ 20
  rw [List.size_toArray, Lib.decDigits_length]
  exact Lib.nDigits_le20 _ (by omega)

set_option maxHeartbeats 1000000 in
theorem text_any (a b : Int) (hu : U2 a b) (w : World) (ht : Tab w) :
    Calls Tryd.prog 25 #[lab a b] w fun r w' => r = .returned (.string (txt a b)) ∧ Fr noB w w' := by
  have da := dig_size a hu.e0 hu.e1
  have db := dig_size b hu.s0 hu.s1
  go_enter Tryd.func25, Tryd.ntmps25
  go_wp2_with fail
  --REG L7
  refine wp_region_lay (by kernel_rfl) [MFact.is (.pointer (some ⟨w.heap.size, 0, none⟩)), MFact.is (.int .u32 a), MFact.is (.string (dig a)), MFact.is (.string (dig a ++ dot)), MFact.is (.pointer (some ⟨w.heap.size, 1, none⟩)), MFact.is (.int .u32 b), MFact.is (.string (dig b)), MFact.is (.string (txt a b)), MFact.is (.string (txt a b))] (by kernel_rfl) ⟨?o0, ?o1, ?o2, ?o3, ?o4, ?o5, ?o6, ?o7, ?o8, trivial⟩ ?oe
  case o0 =>
    intro A W hfr hbase hdep
    have e1 : A.eval (.tmp 1) = .pointer (some ⟨w.heap.size, 0, none⟩) := hbase 1 (by kernel_rfl)
    have f1 : A.tmps[1]?.getD undef = .pointer (some ⟨w.heap.size, 0, none⟩) := by simpa [Act.eval] using e1
    exact hands_val rfl (v := .pointer (some ⟨w.heap.size, 0, none⟩)) (w' := W) (by simp [execOp, go_sem, e1, f1]) (Fr.refl _ _) rfl
  case o1 =>
    intro A W hfr hbase hdep
    have e3 : A.eval (.tmp 3) = .pointer (some ⟨w.heap.size, 0, none⟩) := hdep 0 3 (by kernel_rfl) (by kernel_rfl)
    have f3 : A.tmps[3]?.getD undef = .pointer (some ⟨w.heap.size, 0, none⟩) := by simpa [Act.eval] using e3
    have hc0 := hfr.cell (show _ = some (Value.int .u32 a) from (by simp : (w.alloc (.cells #[.int .u32 a, .int .u32 b] 24)).drew.cell? ⟨w.heap.size, 0, none⟩ = some (Value.int .u32 a))) (fun q => q)
    exact hands_val rfl (v := .int .u32 a) (w' := W) (by simp [execOp, go_sem, e3, f3, hc0]) (Fr.refl _ _) rfl
  case o2 =>
    intro A W hfr hbase hdep
    have e4 : A.eval (.tmp 4) = .int .u32 a := hdep 1 4 (by kernel_rfl) (by kernel_rfl)
    have f4 : A.tmps[4]?.getD undef = .int .u32 a := by simpa [Act.eval] using e4
    refine hands_call rfl (args := #[.int .u32 a]) (f := 35) (by simp [execOp, resolve, invoke, go_sem, e4, f4]) ?_
    refine (digits_any _ hu.e0 hu.e1 _ ((ht.fr0 ((Fr.refl _ _).alloc _).drew).fr0 hfr)).mono ?_
    rintro e w4 ⟨rfl, f4⟩
    exact ⟨_, rfl, f4, rfl⟩
  case o3 =>
    intro A W hfr hbase hdep
    have e5 : A.eval (.tmp 5) = .string (dig a) := hdep 2 5 (by kernel_rfl) (by kernel_rfl)
    have f5 : A.tmps[5]?.getD undef = .string (dig a) := by simpa [Act.eval] using e5
    exact hands_val rfl (v := .string (dig a ++ dot)) (w' := W) (by simp [execOp, go_sem, e5, f5, dot]; omega) (Fr.refl _ _) rfl
  case o4 =>
    intro A W hfr hbase hdep
    have e1 : A.eval (.tmp 1) = .pointer (some ⟨w.heap.size, 0, none⟩) := hbase 1 (by kernel_rfl)
    have f1 : A.tmps[1]?.getD undef = .pointer (some ⟨w.heap.size, 0, none⟩) := by simpa [Act.eval] using e1
    exact hands_val rfl (v := .pointer (some ⟨w.heap.size, 1, none⟩)) (w' := W) (by simp [execOp, go_sem, e1, f1]) (Fr.refl _ _) rfl
  case o5 =>
    intro A W hfr hbase hdep
    have e7 : A.eval (.tmp 7) = .pointer (some ⟨w.heap.size, 1, none⟩) := hdep 4 7 (by kernel_rfl) (by kernel_rfl)
    have f7 : A.tmps[7]?.getD undef = .pointer (some ⟨w.heap.size, 1, none⟩) := by simpa [Act.eval] using e7
    have hc0 := hfr.cell (show _ = some (Value.int .u32 b) from (by simp : (w.alloc (.cells #[.int .u32 a, .int .u32 b] 24)).drew.cell? ⟨w.heap.size, 1, none⟩ = some (Value.int .u32 b))) (fun q => q)
    exact hands_val rfl (v := .int .u32 b) (w' := W) (by simp [execOp, go_sem, e7, f7, hc0]) (Fr.refl _ _) rfl
  case o6 =>
    intro A W hfr hbase hdep
    have e8 : A.eval (.tmp 8) = .int .u32 b := hdep 5 8 (by kernel_rfl) (by kernel_rfl)
    have f8 : A.tmps[8]?.getD undef = .int .u32 b := by simpa [Act.eval] using e8
    refine hands_call rfl (args := #[.int .u32 b]) (f := 35) (by simp [execOp, resolve, invoke, go_sem, e8, f8]) ?_
    refine (digits_any _ hu.s0 hu.s1 _ ((ht.fr0 ((Fr.refl _ _).alloc _).drew).fr0 hfr)).mono ?_
    rintro e w4 ⟨rfl, f4⟩
    exact ⟨_, rfl, f4, rfl⟩
  case o7 =>
    intro A W hfr hbase hdep
    have e6 : A.eval (.tmp 6) = .string (dig a ++ dot) := hdep 3 6 (by kernel_rfl) (by kernel_rfl)
    have f6 : A.tmps[6]?.getD undef = .string (dig a ++ dot) := by simpa [Act.eval] using e6
    have e9 : A.eval (.tmp 9) = .string (dig b) := hdep 6 9 (by kernel_rfl) (by kernel_rfl)
    have f9 : A.tmps[9]?.getD undef = .string (dig b) := by simpa [Act.eval] using e9
    exact hands_val rfl (v := .string (txt a b)) (w' := W) (by simp [execOp, go_sem, e6, f6, e9, f9, dot]; rw [if_neg (by omega)]; rfl) (Fr.refl _ _) rfl
  case o8 =>
    intro A W hfr hbase hdep
    have e10 : A.eval (.tmp 10) = .string (txt a b) := hdep 7 10 (by kernel_rfl) (by kernel_rfl)
    have f10 : A.tmps[10]?.getD undef = .string (txt a b) := by simpa [Act.eval] using e10
    exact hands_val rfl (v := .string (txt a b)) (w' := W) (by simp [execOp, e10, f10]) (Fr.refl _ _) rfl
  case oe =>
    intro vs W' hfW hall
    have x0 : vs 0 = .pointer (some ⟨w.heap.size, 0, none⟩) := hall 0 (by rfl)
    have x1 : vs 1 = .int .u32 a := hall 1 (by rfl)
    have x2 : vs 2 = .string (dig a) := hall 2 (by rfl)
    have x3 : vs 3 = .string (dig a ++ dot) := hall 3 (by rfl)
    have x4 : vs 4 = .pointer (some ⟨w.heap.size, 1, none⟩) := hall 4 (by rfl)
    have x5 : vs 5 = .int .u32 b := hall 5 (by rfl)
    have x6 : vs 6 = .string (dig b) := hall 6 (by rfl)
    have x7 : vs 7 = .string (txt a b) := hall 7 (by rfl)
    have x8 : vs 8 = .string (txt a b) := hall 8 (by rfl)
    simp only [layL, Nat.reduceAdd, x0, x1, x2, x3, x4, x5, x6, x7, x8, Act.put, List.setIfInBounds_toArray, List.set_cons_zero, List.set_cons_succ]
    clear x0 x1 x2 x3 x4 x5 x6 x7 x8 hall
  --END L7
    go_wp2
    go_ret
    exact ⟨rfl, (((Fr.refl _ _).alloc _).drew).thenN hfW⟩
end Go.Proofs.YtcpkkdffedndiaaDoor
