/- Contracts of ends.Put where it answers ErrWide, of copied, New, Left, Failed and Ended. -/
import Derived.Test.YtffdgbimpodopaaA2
import Derived.Deep.QuietTactic
import Derived.Deep.RegionWith
namespace Go.Proofs.Ytffdgbimpodopaa
open Go.RowKit Go.Proofs.U

set_option maxHeartbeats 1000000 in
theorem put_no (width : Int) (vb vl : Value) (bs l : List Int) (w : World) (hb : SlI .u8 w vb bs) (hl : SlI .u64 w vl l) (hm : l.length ≤ 1000000000000) (hno : (isW width && l.all (fits width)) = false) :
    Calls Try.prog 9 #[vb, .int .i64 width, vl] w fun e w' => e = .returned (.tuple #[.slice none 0 0, .int .i64 11]) ∧ Fr noB w w' := by
  obtain ⟨a, cap, rfl, hcap⟩ := hb.opn
  obtain ⟨a2, cap2, rfl, hcap2⟩ := hl.opn
  cases hwd : isW width with
  | false =>
    have Hwd := Hid.mk hwd
    clear hwd hno
    go_enter Try.func9, Try.ntmps9
    go_wp2_with (first | (go_at_call 20; refine (isWidth_any _ _).mono ?_; rintro e w' ⟨rfl, rfl⟩; rw [Hwd.out]))
    go_ret2
    exact ⟨rfl, Fr.refl _ _⟩
  | true =>
    have Hfit : Hid (l.all (fits width) = false) := by rw [hwd, Bool.true_and] at hno; exact hno
    have Hwd := Hid.mk hwd
    clear hwd hno
    go_enter Try.func9, Try.ntmps9
    go_wp2_with (first | (go_at_call 20; refine (isWidth_any _ _).mono ?_; rintro e w' ⟨rfl, rfl⟩; rw [Hwd.out]) | (go_at_call 21; refine (allFit_any _ Hwd.out _ l _ hl hm).mono ?_; rintro e w' ⟨rfl, rfl⟩; rw [Hfit.out]))
    go_ret2
    exact ⟨rfl, Fr.refl _ _⟩

theorem size5 : (Try.prog.info? 5).map (·.size) = some 1 := by kernel_rfl

set_option maxHeartbeats 1000000 in
theorem copied_any (vb : Value) (bs : List Int) (w : World) (hb : SlI .u8 w vb bs) (hbm : bs.length ≤ 1000000000000) :
    Calls Try.prog 22 #[vb] w fun e w' => ∃ v, e = .returned v ∧ OwnI .u8 5 w' w.heap.size v bs ∧ Fr noB w w' := by
  obtain ⟨a, cap, rfl, hcap⟩ := hb.opn
  obtain ⟨i5, hi5, hz5, hs5, hy5⟩ := info_parts info5
  go_enter Try.func22, Try.ntmps22
  go_wp2_with (first | (refine at_make 22 _ _ rfl ?_; go_must (refine wpList_make_full _ rfl _ _ 22 rfl w.heap.size 5 i5 _ 1 Try.underlying22 hi5 hz5 hs5 .i64 .i64 _ _ bs.length rfl rfl rfl rfl ?hb2 ?hb3 (Nat.le_refl _) ?_; rotate_left 2; intro w1 hown hgr; have hf1 := Fr.of_grown hgr; have hbS := hb.1.fr0 hf1)) | (refine wpList_cpy rfl _ _ 22 22 rfl 5 Try.underlying22 size5 w.heap.size 5 _ _ _ rfl hown _ _ _ rfl hbS (ones _ _) ?_; intro w2 hown2 hgr2; have hf2 := hf1.grown hgr2 (owns_new hown)))
  case hb2 => rw [hy5]; omega
  case hb3 => unfold maxLen; omega
  go_ret
  refine ⟨_, rfl, OwnI.mk _ hown2 ?_, hf2⟩
  have := hown.1
  rw [List.take_of_length_le (by simp), List.drop_of_length_le (by omega), List.append_nil]

/-- A reader at v: its bytes l, t of them taken, whether it failed. -/
def Rd (w : World) (b : Nat) (vb : Value) (l : List Int) (t : Nat) (f : Bool) : Prop :=
  w.cell? ⟨b, 0, none⟩ = some vb ∧ w.cell? ⟨b, 1, none⟩ = some (.int .i64 t) ∧ w.cell? ⟨b, 2, none⟩ = some (.bool f) ∧ (∀ i, w.frozen? ⟨b, i, none⟩ = false) ∧ SlI .u8 w vb l ∧ (∀ k, vb.ownBlock = some k → k ≠ b ∧ k < w.heap.size) ∧ t ≤ l.length ∧ l.length ≤ 1000000000000

set_option maxHeartbeats 1000000 in
theorem new_any (vb : Value) (bs : List Int) (w : World) (hb : SlI .u8 w vb bs) (hbm : bs.length ≤ 1000000000000) :
    Calls Try.prog 10 #[vb] w fun e w' => ∃ b vb, e = .returned (.pointer (some ⟨b, 0, none⟩)) ∧ w.heap.size ≤ b ∧ (∀ k, vb.ownBlock = some k → w.heap.size ≤ k) ∧ Rd w' b vb bs 0 false ∧ Fr noB w w' := by
  obtain ⟨a, cap, rfl, hcap⟩ := hb.opn
  go_enter Try.func10, Try.ntmps10
  go_wp2_with (go_at_call 22; refine (copied_any _ _ _ hb hbm).mono ?_; rintro e w1 ⟨v, rfl, ho, hf⟩; obtain ⟨a3, c3, rfl⟩ := ho.opn)
  go_ret
  refine ⟨_, _, rfl, hf.size, fun k hk => (ho.newB k hk).1, ⟨by simp, by simp, by simp, fun i => by simp, (ho.sl hb.2).fr0 ((Fr.refl _ _).alloc _), fun k hk => ?_, Nat.zero_le _, hbm⟩, hf.alloc _⟩
  have := (ho.newB k hk).2; simp; omega

theorem Rd.fr {S : Nat → Prop} {w w' : World} {b : Nat} {vb : Value} {l : List Int} {t : Nat} {f : Bool} (h : Rd w b vb l t f) (hf : Fr S w w') (hb : ¬ S b) (hs : ∀ k, vb.ownBlock = some k → ¬ S k) : Rd w' b vb l t f := by
  obtain ⟨h0, h1, h2, h3, h4, h5, h6, h7⟩ := h
  exact ⟨hf.cell h0 hb, hf.cell h1 hb, hf.cell h2 hb, fun i => (World.frozen?_of_block (w := w) (hf.block b (World.block_lt_of_cell? w _ h0) hb)).trans (h3 i), h4.fr hf hs, fun k hk => ⟨(h5 k hk).1, Nat.lt_of_lt_of_le (h5 k hk).2 hf.size⟩, h6, h7⟩
theorem Rd.fr0 {w w' : World} {b : Nat} {vb : Value} {l : List Int} {t : Nat} {f : Bool} (h : Rd w b vb l t f) (hf : Fr noB w w') : Rd w' b vb l t f := h.fr hf (fun q => q) (fun _ _ q => q)

set_option maxHeartbeats 1000000 in
theorem left_any (b : Nat) (vb : Value) (l : List Int) (t : Nat) (f : Bool) (w : World) (hr : Rd w b vb l t f) :
    Calls Try.prog 14 #[.pointer (some ⟨b, 0, none⟩)] w fun e w' => e = .returned (.int .i64 ((l.length - t : Nat) : Int)) ∧ Fr noB w w' := by
  obtain ⟨h0, h1, h2, h3, h4, h5, h6, h7⟩ := hr
  obtain ⟨a, cap, rfl, hcap⟩ := h4.opn
  go_enter Try.func14, Try.ntmps14
  go_wp2
  go_quiet (fail)
  go_wp2
  go_ret
  refine ⟨?_, (Fr.refl _ _).drewN _⟩
  simp
  omega

set_option maxHeartbeats 1000000 in
theorem failed_any (b : Nat) (vb : Value) (l : List Int) (t : Nat) (f : Bool) (w : World) (hr : Rd w b vb l t f) :
    Calls Try.prog 13 #[.pointer (some ⟨b, 0, none⟩)] w fun e w' => e = .returned (.bool f) ∧ Fr noB w w' := by
  obtain ⟨h0, h1, h2, h3, h4, h5, h6, h7⟩ := hr
  go_enter Try.func13, Try.ntmps13
  go_wp2
  go_ret
  exact ⟨rfl, Fr.refl _ _⟩

set_option maxHeartbeats 1000000 in
theorem ended_any (b : Nat) (vb : Value) (l : List Int) (t : Nat) (f : Bool) (w : World) (hr : Rd w b vb l t f) :
    Calls Try.prog 15 #[.pointer (some ⟨b, 0, none⟩)] w fun e w' => e = .returned (.bool (decide (l.length = t) && !f)) ∧ Fr noB w w' := by
  have hr0 := hr
  obtain ⟨h0, h1, h2, h3, h4, h5, h6, h7⟩ := hr
  by_cases hz : l.length = t
  · have hz2 : (((l.length - t : Nat) : Int) == 0) = true := by simp; omega
    go_enter Try.func15, Try.ntmps15
    go_wp2_with (go_at_call 14; refine (left_any _ _ _ _ _ _ hr0).mono ?_; rintro e w1 ⟨rfl, hf1⟩; have h2' := hf1.cell h2 (fun q => q))
    go_ret
    exact ⟨by simp [hz], hf1⟩
  · have hz2 : (((l.length - t : Nat) : Int) == 0) = false := by simp; omega
    go_enter Try.func15, Try.ntmps15
    go_wp2_with (go_at_call 14; refine (left_any _ _ _ _ _ _ hr0).mono ?_; rintro e w1 ⟨rfl, hf1⟩; have h2' := hf1.cell h2 (fun q => q))
    go_ret
    exact ⟨by simp [hz], hf1⟩
end Go.Proofs.Ytffdgbimpodopaa
