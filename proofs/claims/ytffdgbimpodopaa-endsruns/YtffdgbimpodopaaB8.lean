/- The walk of EndsHalves: it answers true for every uint64. -/
import Derived.Test.YtffdgbimpodopaaA7
namespace Go.Proofs.Ytffdgbimpodopaa
open Go.RowKit Go.Proofs.U

theorem leB_wf (q : Nat) (x : Int) : ∀ n ∈ leB q x, (Lit.int .u8 n).wf = true := by
  induction q generalizing x with
  | zero => simp [leB]
  | succ q ih =>
    intro n hn
    simp only [leB, List.mem_cons] at hn
    rcases hn with rfl | hn
    · simp [Lit.wf, IntKind.min, IntKind.max, IntKind.signed, IntKind.bits]; omega
    · exact ih _ n hn
theorem putB_wf (q : Nat) (l : List Int) : ∀ n ∈ putB q l, (Lit.int .u8 n).wf = true := by
  intro n hn; simp only [putB, List.mem_flatMap] at hn; obtain ⟨x, _, h⟩ := hn; exact leB_wf q x n h
theorem wf_app {k : IntKind} {a b : List Int} (ha : ∀ n ∈ a, (Lit.int k n).wf = true) (hb : ∀ n ∈ b, (Lit.int k n).wf = true) : ∀ n ∈ a ++ b, (Lit.int k n).wf = true := by
  intro n hn; rcases List.mem_append.1 hn with h | h
  · exact ha n h
  · exact hb n h

theorem put84 (n : Int) : ([] : List Int) ++ putB (4 : Int).toNat [n % 4294967296, n / 4294967296] = leB 8 n := by
  have e : (4 : Int).toNat = 4 := rfl
  simp only [e, List.nil_append, putB, List.flatMap_cons, List.flatMap_nil, leB, List.cons_append, List.append_nil, List.cons.injEq]
  refine ⟨by omega, by omega, by omega, by omega, by omega, by omega, by omega, by omega, trivial⟩
theorem put21 (n : Int) : ([] : List Int) ++ putB (1 : Int).toNat [n % 256, n / 256 % 256] = leB 2 (n % 65536) := by
  have e : (1 : Int).toNat = 1 := rfl
  simp only [e, List.nil_append, putB, List.flatMap_cons, List.flatMap_nil, leB, List.cons_append, List.append_nil, List.cons.injEq]
  refine ⟨by omega, by omega, trivial⟩

theorem u64_wf {x : Int} (h0 : 0 ≤ x) (h1 : x < 18446744073709551616) : (Lit.int .u64 x).wf = true := by
  simp [Lit.wf, IntKind.min, IntKind.max, IntKind.signed, IntKind.bits]; omega

theorem Sl2 (w : World) (t : TypeId) (k : IntKind) (x y : Int) (hx : (Lit.int k x).wf = true) (hy : (Lit.int k y).wf = true) : SlI k (w.alloc (.cells #[.int k x, .int k y] t)) (.slice (some ⟨w.heap.size, 0, none⟩) 2 2) [x, y] := by
  refine ⟨⟨_, _, rfl, Nat.le_refl _, by simp, (fun h => by cases h), fun z hz => ?_⟩, by simp [hx, hy]⟩
  cases hz
  intro j u hj
  rw [Addr.plain]
  match j, hj with
  | 0, hj => simp at hj; subst hj; simp
  | 1, hj => simp at hj; subst hj; simp
  | j + 2, hj => simp at hj

set_option maxHeartbeats 1000000 in
theorem halves_walk (n : Int) (w : World) (hn : (Lit.int .u64 n).wf = true) :
    Calls Try.prog 8 #[.int .u64 n] w fun e w' => e = .returned (.bool true) ∧ Below w.heap.size w w' := by
  have hb := u64_bd hn
  go_enter Try.func8, Try.ntmps8
  go_wp2_with (go_at_call 11; refine (alive_any _).mono ?_; rintro e w1 ⟨rfl, hf1⟩)
  refine (put_yes 8 rfl _ _ [] [n] _ (SlI.nil _ _) (Sl1 _ _ _ _ hn) (by decide) (by simp) (by simpa using fits_8 hb.2)).mono ?_
  rintro e w2 ⟨v2, rfl, ho2, hf2⟩
  rw [show ([] : List Int) ++ putB (8 : Int).toNat [n] = leB 8 n by simp [putB]] at ho2
  have hX8 := leB_length 8 n
  have hwf8 := leB_wf 8 n
  have Hput84 := Hid.mk (put84 n)
  generalize leB 8 n = X8 at *
  obtain ⟨a2, c2, rfl⟩ := ho2.opn
  go_wp2_with fail
  refine (put_yes 4 rfl _ _ [] [n % 4294967296, n / 4294967296] _ (SlI.nil _ _) (Sl2 _ _ _ _ _ (u64_wf (by omega) (by omega)) (u64_wf (by omega) (by omega))) (by decide) (by simp) (by simp [fits, lim]; omega)).mono ?_
  rintro e w3 ⟨v3, rfl, ho3, hf3⟩
  rw [Hput84.out] at ho3
  obtain ⟨a3, c3, rfl⟩ := ho3.opn
  go_wp2_with fail
  refine (put_yes 2 rfl _ _ [] [n % 65536] _ (SlI.nil _ _) (Sl1 _ _ _ _ (u64_wf (by omega) (by omega))) (by decide) (by simp) (by simp [fits, lim]; omega)).mono ?_
  rintro e w4 ⟨v4, rfl, ho4, hf4⟩
  rw [show ([] : List Int) ++ putB (2 : Int).toNat [n % 65536] = leB 2 (n % 65536) by simp [putB]] at ho4
  have hwf2 := leB_wf 2 (n % 65536)
  have Hput21 := Hid.mk (put21 n)
  generalize leB 2 (n % 65536) = X2 at *
  obtain ⟨a4, c4, rfl⟩ := ho4.opn
  go_wp2_with fail
  refine (put_yes 1 rfl _ _ [] [n % 256, n / 256 % 256] _ (SlI.nil _ _) (Sl2 _ _ _ _ _ (u64_wf (by omega) (by omega)) (u64_wf (by omega) (by omega))) (by decide) (by simp) (by simp [fits, lim]; omega)).mono ?_
  rintro e w5 ⟨v5, rfl, ho5, hf5⟩
  rw [Hput21.out] at ho5
  obtain ⟨a5, c5, rfl⟩ := ho5.opn
  have g3 := ((Fr.refl noB w2).alloc _).thenN hf3
  have g4 := ((Fr.refl noB w3).alloc _).thenN hf4
  have g5 := ((Fr.refl noB w4).alloc _).thenN hf5
  have s2 := (((ho2.sl hwf8).fr0 g3).fr0 g4).fr0 g5
  have s3 := ((ho3.sl hwf8).fr0 g4).fr0 g5
  have s4 := (ho4.sl hwf2).fr0 g5
  have s5 := ho5.sl hwf2
  rw [hX8] at s2 s3
  go_wp2_with (refine at_conv 22 9 _ rfl ?_; first | (refine wpList_str rfl _ 22 9 5 rfl Try.underlying22 Try.underlying5 Try.underlying9 _ _ rfl s2 ?_) | (refine wpList_str rfl _ 22 9 5 rfl Try.underlying22 Try.underlying5 Try.underlying9 _ _ rfl s3 ?_) | (refine wpList_str rfl _ 22 9 5 rfl Try.underlying22 Try.underlying5 Try.underlying9 _ _ rfl s4 ?_) | (refine wpList_str rfl _ 22 9 5 rfl Try.underlying22 Try.underlying5 Try.underlying9 _ _ rfl s5 ?_))
  go_ret
  exact ⟨rfl, (((((hf1.alloc _).thenN hf2).thenN g3).thenN g4).thenN g5).below⟩
end Go.Proofs.Ytffdgbimpodopaa
