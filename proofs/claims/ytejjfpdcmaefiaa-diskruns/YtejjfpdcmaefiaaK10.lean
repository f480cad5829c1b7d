/- The program's disk: Read in one form; the example that the statements ask first. -/
import Derived.Test.YtejjfpdcmaefiaaK9
namespace Go.Proofs.Ytejjfpdcmaefiaa
open Go.RowKit Go.Proofs.U
set_option linter.unusedSimpArgs false
set_option linter.unusedVariables false

theorem readP_len {w : World} {F : Nat → Prop} {g : Nat} {X : DSt} (h : Disk w F g X) (i : Int) : (readP X i).1.length = 256 := by
  obtain ⟨v1, m, v3, h⟩ := h
  unfold readP
  split
  · rename_i hin
    split
    · exact zeroP_len
    · have hj : i.toNat < X.pages.length := by simp [inR] at hin; omega
      have h1 : ∀ p ∈ X.pages, p.length = 256 := fun p hp => by have := h.st.1 p hp; rwa [pgv_len] at this
      have h3 : ∀ x ∈ X.pend, x.2.length = 256 := fun x hx => by have := h.pd.1 x hx; simpa [encW, pgv_len] using this
      have h0 : (X.pages.getD i.toNat []).length = 256 := by
        have : X.pages.getD i.toNat [] = X.pages[i.toNat] := by simp [List.getD, hj]
        rw [this]; exact h1 _ (by simp)
      simp only
      generalize X.pages.getD i.toNat [] = q at h0
      unfold lastW
      clear h
      generalize X.pend = l at h3
      induction l generalizing q with
      | nil => exact h0
      | cons x l ih =>
        rw [List.foldl_cons]
        refine ih _ ?_ (fun y hy => h3 y (by simp [hy]))
        split
        · exact h3 x (by simp)
        · exact h0
  · exact zeroP_len
theorem read_any {F : Nat → Prop} {X : DSt} (g : Nat) (i : Int) (hi : -9223372036854775808 ≤ i ∧ i ≤ 9223372036854775807) (w : World) (hD : Disk w F g X) (hm : X.pend.length ≤ 100000) :
    Calls Try.prog 10 #[ptr g, .int .i64 i] w fun r w' => r = .returned (.tuple #[pgV (readP X i).1, .int .i64 (readP X i).2]) ∧ Fr noB w w' := by
  unfold readP
  cases hin : inR X.pages.length i with
  | false => exact read_no g i w hD hin
  | true =>
    cases hb : X.bad i with
    | true => exact read_bad g i hi w hD hin hb
    | false => exact read_good g i hi w hD hm hin hb

theorem Disk.tight {w : World} {F : Nat → Prop} {g : Nat} {X : DSt} (h : Disk w F g X) : Disk w (fun k => F k ∧ k < w.heap.size) g X := h.mono (fun k hk hF => ⟨hF, hk⟩)
theorem slI_of_slR {w : World} {v : Value} {l : List Int} (h : SlR en8 1 w v l) (hw : ∀ n ∈ l, (Lit.int .u8 n).wf = true) : SlI .u8 w v l := by
  refine ⟨?_, hw⟩
  have := h.2
  rwa [flat_en8] at this
def pgA : List Int := mixS zeroP (List.replicate 256 1) (stayK [3] 0) 8
def X1A : DSt := (newD 3).write 2 (List.replicate 256 1)
theorem alive_read : readP (X1A.crash [3]) 2 = (pgA, 0) := by kernel_rfl

set_option maxRecDepth 100000 in
set_option maxHeartbeats 2000000 in
theorem alive_any (w : World) : Calls Try.prog 13 #[] w fun r w' => r = .returned (.bool true) ∧ Fr noB w w' := by
  obtain ⟨XC, HXC⟩ : ∃ X, Hid (X1A.crash [3] = X) := ⟨_, rfl⟩
  obtain ⟨X1, HX1⟩ : ∃ X, Hid (X1A = X) := ⟨_, rfl⟩
  have hX1 : Hid ((newD 3).write 2 (List.replicate 256 1) = X1) := HX1
  obtain ⟨X0, HX0⟩ : ∃ X, Hid (newD 3 = X) := ⟨_, rfl⟩
  have hl0 : Hid ((X0.pages.length : Int) = 3) := by show _ = _; rw [← HX0.out]; rfl
  have he0 : Hid (X0.writeE 2 = 0) := by show _ = _; rw [← HX0.out]; rfl
  have hp0 : X0.pend.length ≤ 100000 := by rw [← HX0.out]; decide
  have hp1 : X1.pend.length ≤ 100000 := by rw [← HX1.out]; decide
  have hpC : XC.pend.length ≤ 100000 := by rw [← HXC.out]; decide
  obtain ⟨P1, HP1⟩ : ∃ p, Hid (List.replicate 256 (1 : Int) = p) := ⟨_, rfl⟩
  have hP1 : P1.length = 256 := by rw [← HP1.out]; simp
  obtain ⟨PA, HPA⟩ : ∃ p, Hid (pgA = p) := ⟨_, rfl⟩
  have hPl : PA.length = 256 := by rw [← HPA.out]; exact mixS_len _ _ _ _
  have hrd : Hid (readP XC 2 = (PA, 0)) := by show _ = _; rw [← HXC.out, ← HPA.out]; exact alive_read
  have ha0 : (pgv PA)[0]? = some (.int .u8 1) := by rw [← HPA.out]; kernel_rfl
  have ha1 : (pgv PA)[63]? = some (.int .u8 1) := by rw [← HPA.out]; kernel_rfl
  have ha2 : (pgv PA)[64]? = some (.int .u8 0) := by rw [← HPA.out]; kernel_rfl
  have ha3 : (pgv PA)[255]? = some (.int .u8 0) := by rw [← HPA.out]; kernel_rfl
  have Hw0 : Hid (X0.write 2 P1 = X1) := by show _ = _; rw [← HX0.out, ← HP1.out]; exact hX1.out
  have HwC : Hid (X1.crash [3] = XC) := by show _ = _; rw [← HX1.out]; exact HXC.out
  go_enter Try.func13, Try.ntmps13
  go_wp2_with (first
    | (go_at_call 9; go_must (refine (new_any 3 (by omega) _).mono ?_; rw [HX0.out]; rintro e w1 ⟨g, rfl, d1, f1⟩))
    | (go_at_call 16; go_must (refine (len_any g _ d1).mono ?_; rw [hl0.out]; rintro e w' ⟨rfl, rfl⟩))
    | (go_at_call 19; go_must (refine (full_any 1 _).mono ?_; rw [HP1.out]; rintro e w2 ⟨rfl, f2⟩))
    | (go_at_call 18; go_must (refine (write_any g 2 P1 hP1 _ (d1.fr0 f2) hp0).mono ?_; rw [he0.out, Hw0.out]; rintro e w3 ⟨rfl, d3, f3⟩; have d3 := d3.tight))
    | (with_reducible refine at_wpP ?_; refine wpList_mk1 (ec := en8) (sz := 1) rfl 41 _ rfl 5 Try.underlying41 _ info_u8 (by decide) (by decide) 3 _ rfl rfl rfl ?_; intro g4 w4 s4 f4 r4 t4)
    | (go_at_call 23; go_must (refine (crash_any g _ [3] _ (d3.fr0 f4) hp1 (slI_of_slR s4 (by decide)) ?hkf).mono ?_; rotate_left 1; rw [HwC.out]; rintro e w5 ⟨rfl, d5, f5⟩))
    | (go_at_call 10; go_must (refine (read_any g 2 (by omega) _ d5 hpC).mono ?_; rw [hrd.out]; rintro e w6 ⟨rfl, f6⟩))
    | (with_reducible refine at_wpP ?_; refine wpList_allocP rfl rfl ?_; intro g7 w7 hg7 b7 f7 s7; have l7 := b7.lt)
    | (with_reducible refine at_wpP ?_; refine at_st 25 _ _ rfl ?_; go_must (refine wpList_storeP rfl _ _ rfl g7 rfl PA rfl _ b7 hPl zeroP_len ?_; intro w8 b8 f8; obtain ⟨q0, _⟩ := b8.cell _ _ ha0; obtain ⟨q1, _⟩ := b8.cell _ _ ha1; obtain ⟨q2, _⟩ := b8.cell _ _ ha2; obtain ⟨q3, _⟩ := b8.cell _ _ ha3)))
  case hkf =>
    intro b hb _ hF
    simp [Value.ownBlock] at hb
    have := hF.2
    omega
  have z1 := f1.size
  have z2 := f2.size
  have z3 := f3.size
  have z4 := f4.size
  have z5 := f5.size
  have z6 := f6.size
  have F3 := (f1.thenN f2).thenT (S := noB) f3 (fun k hk q => by omega)
  have F5 := (F3.thenN f4).thenT (S := noB) f5 (fun k hk q => by
    have h1 := q.1
    unfold orNew at h1
    omega)
  have F8 := ((F5.thenN f6).thenN f7).thenT (S := noB) f8 (fun k hk q => by unfold onB1 at q; omega)
  go_ret
  exact ⟨rfl, F8⟩
end Go.Proofs.Ytejjfpdcmaefiaa
