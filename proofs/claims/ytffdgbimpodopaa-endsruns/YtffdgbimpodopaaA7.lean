/- Contract of endsAlive: it answers true. -/
import Derived.Test.YtffdgbimpodopaaA6
namespace Go.Proofs.Ytffdgbimpodopaa
open Go.RowKit Go.Proofs.U

def nmV (l : List Int) (t : Nat) (f : Bool) (width : Int) : Int := if isW width then leNum (tkL l t f width) else 0
def nmT (l : List Int) (t : Nat) (f : Bool) (width : Int) : Nat := if isW width then tkT l t f width else t
def nmF (l : List Int) (t : Nat) (f : Bool) (width : Int) : Bool := if isW width then tkF l t f width else true
theorem num_any (b : Nat) (vb : Value) (l : List Int) (t : Nat) (f : Bool) (width : Int) (w : World) (hr : Rd w b vb l t f) :
    Calls Try.prog 12 #[.pointer (some ⟨b, 0, none⟩), .int .i64 width] w fun e w' => e = .returned (.int .u64 (nmV l t f width)) ∧ Rd w' b vb l (nmT l t f width) (nmF l t f width) ∧ Fr (onB b) w w' := by
  cases hwd : isW width with
  | true => simpa only [nmV, nmT, nmF, hwd, if_true] using num_width b vb l t f width w hr hwd
  | false => simpa only [nmV, nmT, nmF, hwd, if_false, Bool.false_eq_true] using num_nowidth b vb l t f width w hr hwd

theorem Sl1 (w : World) (t : TypeId) (k : IntKind) (n : Int) (h : (Lit.int k n).wf = true) : SlI k (w.alloc (.cells #[.int k n] t)) (.slice (some ⟨w.heap.size, 0, none⟩) 1 1) [n] := ⟨by simpa using Sl_one w t (.int k n), by simpa using h⟩

theorem str21 : ((strOfNums [2, 1]).toList == [2, 1]) = true := by decide +kernel
theorem put258 : ([] : List Int) ++ putB (2 : Int).toNat [258] = [2, 1] := by decide

set_option maxHeartbeats 1000000 in
theorem alive_any (w : World) : Calls Try.prog 11 #[] w fun e w' => e = .returned (.bool true) ∧ Fr noB w w' := by
  have hst := str21
  have e1 : nmV [2, 1] 0 false 2 = 258 := by decide
  have e2 : nmT [2, 1] 0 false 2 = 2 := by decide
  have e3 : nmF [2, 1] 0 false 2 = false := by decide
  go_enter Try.func11, Try.ntmps11
  go_wp2_with (first
    | (go_at_call 9; refine (put_yes 2 rfl _ _ [] [258] _ (SlI.nil _ _) (Sl1 _ _ _ _ (by decide)) (by decide) (by decide) (by decide)).mono ?_; rintro e w1 ⟨v, rfl, ho, hf1⟩; rw [put258] at ho; obtain ⟨a3, c3, rfl⟩ := ho.opn; have hsl := ho.sl (by decide))
    | (go_at_call 10; go_must (refine (new_any _ [2, 1] _ hsl (by decide)).mono ?_; rintro e w2 ⟨b, vb, rfl, hb, hvb, hr2, hf2⟩; have hsl2 := hsl.fr0 hf2))
    | (refine at_conv 22 9 _ rfl ?_; go_must (refine wpList_str rfl _ 22 9 5 rfl Try.underlying22 Try.underlying5 Try.underlying9 _ _ rfl hsl2 ?_))
    | (go_at_call 14; go_must (refine (left_any _ _ _ _ _ _ hr2).mono ?_; rintro e w3 ⟨rfl, hf3⟩; have hr3 := hr2.fr0 hf3))
    | (go_at_call 12; go_must (refine (num_any _ _ _ _ _ _ _ hr3).mono ?_; rintro e w4 ⟨rfl, hr4, hf4⟩))
    | (go_at_call 15; go_must (refine (ended_any _ _ _ _ _ _ hr4).mono ?_; rintro e w5 ⟨rfl, hf5⟩)))
  go_ret
  refine ⟨rfl, ?_⟩
  have hbw : w.heap.size ≤ b := by have := hf1.size; simp at this; omega
  exact ((((((Fr.refl _ _).alloc _).thenN hf1).thenN hf2).thenN hf3).thenT hf4 (fun i hi q => by unfold onB at q; omega)).thenN hf5
end Go.Proofs.Ytffdgbimpodopaa
