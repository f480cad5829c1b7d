/- Contract of (*Reader).Take: where it fails and where it takes. -/
import Derived.Test.YtffdgbimpodopaaA3
import Derived.BigRegion
namespace Go.Proofs.Ytffdgbimpodopaa
open Go.RowKit Go.Proofs.U

theorem Rd.nf {w : World} {b : Nat} {vb : Value} {l : List Int} {t : Nat} {f : Bool} (h : Rd w b vb l t f) (i : Nat) : w.frozen? ⟨b, i, none⟩ = false := by
  obtain ⟨h0, h1, h2, h3, _⟩ := h; exact h3 i
/-- The reader's own block. -/
def onB (b : Nat) : Nat → Prop := fun k => k = b

theorem Rd.setF {w : World} {b : Nat} {vb : Value} {l : List Int} {t : Nat} {f : Bool} (h : Rd w b vb l t f) (f' : Bool) : Rd (w.setCell ⟨b, 2, none⟩ (.bool f')) b vb l t f' := by
  obtain ⟨h0, h1, h2, h3, h4, h5, h6, h7⟩ := h
  refine ⟨?_, ?_, ?_, fun i => ?_, h4.fr (S := onB b) ((Fr.refl _ _).setCell _ _ (fun _ => rfl)) (fun k hk q => (h5 k hk).1 q), fun k hk => ⟨(h5 k hk).1, by simpa [World.setCell] using (h5 k hk).2⟩, h6, h7⟩
  · refine (World.cell?_setCell_other (a := ⟨b, 2, none⟩) w _ _ (by simp)).trans ?_; exact h0
  · refine (World.cell?_setCell_other (a := ⟨b, 2, none⟩) w _ _ (by simp)).trans ?_; exact h1
  · exact World.cell?_setCell_same' _ _ _ (by rw [h2]; rfl)
  · rw [World.frozen?_setCell]; exact h3 i

set_option maxHeartbeats 1000000 in
theorem take_no (b : Nat) (vb : Value) (l : List Int) (t : Nat) (f : Bool) (n : Int) (w : World) (hr : Rd w b vb l t f) (hno : f = true ∨ n < 0 ∨ (l.length : Int) - t < n) :
    Calls Try.prog 19 #[.pointer (some ⟨b, 0, none⟩), .int .i64 n] w fun e w' => e = .returned (.slice none 0 0) ∧ Rd w' b vb l t true ∧ Fr (onB b) w w' := by
  have hr0 := hr
  obtain ⟨h0, h1, h2, h3, h4, h5, h6, h7⟩ := hr
  have h3' := h3 2
  by_cases hf : f = true
  · subst hf
    go_enter Try.func19, Try.ntmps19
    go_wp2
    go_ret
    exact ⟨rfl, hr0.setF _, (Fr.refl _ _).setCell _ _ (fun _ => rfl)⟩
  · obtain rfl : f = false := by simpa using hf
    by_cases hn : n < 0
    · go_enter Try.func19, Try.ntmps19
      go_wp2
      go_ret
      exact ⟨rfl, hr0.setF _, (Fr.refl _ _).setCell _ _ (fun _ => rfl)⟩
    · have hlt : ((l.length - t : Nat) : Int) < n := by rcases hno with h | h | h <;> first | exact absurd h hf | omega
      go_enter Try.func19, Try.ntmps19
      go_wp2_with (go_at_call 14; refine (left_any _ _ _ _ _ _ hr0).mono ?_; rintro e w1 ⟨rfl, hf1⟩; have h2' := hf1.cell h2 (fun q => q); have h3'' := (hr0.fr0 hf1).nf 2)
      go_ret
      exact ⟨rfl, (hr0.fr0 hf1).setF _, (hf1.mono (fun _ _ q => q.elim)).setCell _ _ (fun _ => rfl)⟩

theorem take_end {b : Nat} {vb : Value} {l L : List Int} {t n : Nat} {w w1 w2 : World} {v : Value} (hr : Rd w b vb l t false) (hn : n ≤ l.length - t) (hs : w.heap.size ≤ w1.heap.size) (hf : Fr noB w w2) (ho : OwnI .u8 5 w2 w1.heap.size v L) :
    ∃ v', Ending.returned v = .returned v' ∧ OwnI .u8 5 (w2.setCell ⟨b, 1, none⟩ (.int .i64 ((t : Int) + (n : Int)))) w.heap.size v' L ∧ Rd (w2.setCell ⟨b, 1, none⟩ (.int .i64 ((t : Int) + (n : Int)))) b vb l (t + n) false ∧ Fr (onB b) w (w2.setCell ⟨b, 1, none⟩ (.int .i64 ((t : Int) + (n : Int)))) := by
  have hbl : b < w.heap.size := by obtain ⟨h0, _⟩ := hr; exact World.block_lt_of_cell? w _ h0
  have hr2 := hr.fr0 hf
  obtain ⟨h0, h1, h2, h3, h4, h5, h6, h7⟩ := hr2
  refine ⟨v, rfl, (ho.fr (S := onB b) ((Fr.refl _ _).setCell ⟨b, 1, none⟩ _ (fun _ => rfl)) (fun k hk q => ?_)).rebase hs, ⟨?_, ?_, ?_, fun i => ?_, h4.fr (S := onB b) ((Fr.refl _ _).setCell ⟨b, 1, none⟩ _ (fun _ => rfl)) (fun k hk q => (h5 k hk).1 q), fun k hk => ⟨(h5 k hk).1, by simpa [World.setCell] using (h5 k hk).2⟩, by omega, h7⟩, (hf.mono (fun _ _ q => q.elim)).setCell ⟨b, 1, none⟩ _ (fun _ => rfl)⟩
  · have := (ho.newB k hk).1
    unfold onB at q; omega
  · refine (World.cell?_setCell_other (a := ⟨b, 1, none⟩) w2 _ _ (by simp)).trans ?_; exact h0
  · rw [World.cell?_setCell_same' _ _ _ (by rw [h1]; rfl)]; simp
  · refine (World.cell?_setCell_other (a := ⟨b, 1, none⟩) w2 _ _ (by simp)).trans ?_; exact h2
  · rw [World.frozen?_setCell]; exact h3 i

set_option maxHeartbeats 1000000 in
theorem take_yes (b : Nat) (vb : Value) (l : List Int) (t : Nat) (n : Nat) (w : World) (hr : Rd w b vb l t false) (hn : n ≤ l.length - t) :
    Calls Try.prog 19 #[.pointer (some ⟨b, 0, none⟩), .int .i64 n] w fun e w' => ∃ v, e = .returned v ∧ OwnI .u8 5 w' w.heap.size v ((l.drop t).take n) ∧ Rd w' b vb l (t + n) false ∧ Fr (onB b) w w' := by
  have hr0 := hr
  obtain ⟨h0, h1, h2, h3, h4, h5, h6, h7⟩ := hr
  obtain ⟨a, cap, rfl, hcap⟩ := h4.opn
  have h3' := h3 1
  have hlt : (n : Int) ≤ ((l.length - t : Nat) : Int) := by omega
  have hlt2 : ¬ ((l.length - t : Nat) : Int) < (n : Int) := by omega
  have hn0 : ¬ (n : Int) < 0 := by omega
  have hc1 : (t : Int) ≤ (t : Int) + (n : Int) := by omega
  have hc2 : (t : Int) + (n : Int) ≤ (cap : Int) := by omega
  have hwr : IntKind.i64.wrap ((t : Int) + (n : Int)) = (t : Int) + (n : Int) := by simp [IntKind.wrap, IntKind.bits, IntKind.signed]; omega
  have hsub : ((t : Int) + (n : Int)).toNat - t = n := by omega
  obtain ⟨av, cv, hav, Hcut⟩ : ∃ av cv, (∀ h : cap = t, n = 0 ∧ av = a ∧ cv = 0) ∧ (∀ h : ¬ cap = t, av = Option.map (fun x => x.add t) a ∧ cv = cap - t) ∧ ∀ wx, Fr noB w wx → SlI .u8 wx (.slice av n cv) ((l.drop t).take n) := by
    by_cases hct : cap = t
    · exact ⟨a, 0, fun _ => ⟨by omega, rfl, rfl⟩, fun h => absurd hct h, fun wx hf => (h4.fr0 hf).cut t n (by omega) (fun _ => rfl) (fun h => absurd hct h) (by omega)⟩
    · exact ⟨_, _, fun h => absurd h hct, fun _ => ⟨rfl, rfl⟩, fun wx hf => (h4.fr0 hf).cut t n (by omega) (fun h => absurd h hct) (fun _ => rfl) rfl⟩
  obtain ⟨hav2, Hcut⟩ := Hcut
  have hlen : ((l.drop t).take n).length ≤ 1000000000000 := by simp; omega
  generalize hL : (l.drop t).take n = L at *
  clear hL
  by_cases hct : cap = t
  · obtain ⟨hn00, rfl, rfl⟩ := hav hct
    rw [hn00] at Hcut
    clear hav hav2 hn00 hsub
    go_enter Try.func19, Try.ntmps19
    go_wp2_with (go_at_call 14; refine (left_any _ _ _ _ _ _ hr0).mono ?_; rintro e w1 ⟨rfl, hf1⟩; have h0' := hf1.cell h0 (fun q => q); have h1' := hf1.cell h1 (fun q => q); have h2' := hf1.cell h2 (fun q => q))
    go_region_with (go_at_call 22; refine (copied_any _ L _ (Hcut _ hf1.drew) hlen).mono ?_; rintro e w2 ⟨v, rfl, ho, hf2⟩; have hf3 : Fr noB w w2 := hf1.drew.thenN hf2; have q0 := hf3.cell h0 (fun q => q); have q1 := hf3.cell h1 (fun q => q); have q2 := hf3.cell h2 (fun q => q); have q3 := (hr0.fr0 hf3).nf 1)
    all_goals go_wp2
    all_goals go_ret
    all_goals exact take_end hr0 hn hf1.size hf3 ho
  · obtain ⟨rfl, rfl⟩ := hav2 hct
    clear hav hav2
    go_enter Try.func19, Try.ntmps19
    go_wp2_with (go_at_call 14; refine (left_any _ _ _ _ _ _ hr0).mono ?_; rintro e w1 ⟨rfl, hf1⟩; have h0' := hf1.cell h0 (fun q => q); have h1' := hf1.cell h1 (fun q => q); have h2' := hf1.cell h2 (fun q => q))
    go_region_with (go_at_call 22; refine (copied_any _ L _ (Hcut _ hf1.drew) hlen).mono ?_; rintro e w2 ⟨v, rfl, ho, hf2⟩; have hf3 : Fr noB w w2 := hf1.drew.thenN hf2; have q0 := hf3.cell h0 (fun q => q); have q1 := hf3.cell h1 (fun q => q); have q2 := hf3.cell h2 (fun q => q); have q3 := (hr0.fr0 hf3).nf 1)
    all_goals go_wp2
    all_goals go_ret
    all_goals exact take_end hr0 hn hf1.size hf3 ho
end Go.Proofs.Ytffdgbimpodopaa
