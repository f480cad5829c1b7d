/- DiskNames. -/
import Derived.Test.YtejjfpdcmaefiaaK10
namespace Go.Proofs.Ytejjfpdcmaefiaa
open Go.RowKit Go.Proofs.U
set_option linter.unusedSimpArgs false
set_option linter.unusedVariables false

def XN1 : DSt := (newD 1).spoil 0 true
def XN2 : DSt := { XN1 with left := 0 }
theorem nm1 : readP (newD 1) 1 = (zeroP, 41) := by kernel_rfl
theorem nm2 : readP XN1 0 = (zeroP, 43) := by kernel_rfl
theorem nm3 : XN2.actE = 42 ∧ XN2.sync.down = true := ⟨by kernel_rfl, by kernel_rfl⟩
theorem len999 : ((newD 999).pages.length : Int) = 244 := by kernel_rfl
theorem lenm1 : ((newD (-1)).pages.length : Int) = 0 := by kernel_rfl

set_option maxRecDepth 100000 in
set_option maxHeartbeats 4000000 in
theorem dnames_walk (w : World) : Calls Try.prog 3 #[] w fun r w' => r = .returned (.bool true) ∧ Below w.heap.size w w' := by
  obtain ⟨X0, HX0⟩ : ∃ X, Hid (newD 1 = X) := ⟨_, rfl⟩
  obtain ⟨X1, HX1⟩ : ∃ X, Hid (XN1 = X) := ⟨_, rfl⟩
  obtain ⟨X2, HX2⟩ : ∃ X, Hid (XN2 = X) := ⟨_, rfl⟩
  obtain ⟨X3, HX3⟩ : ∃ X, Hid (X2.sync = X) := ⟨_, rfl⟩
  obtain ⟨Y1, HY1⟩ : ∃ X, Hid (newD 999 = X) := ⟨_, rfl⟩
  obtain ⟨Y2, HY2⟩ : ∃ X, Hid (newD (-1) = X) := ⟨_, rfl⟩
  have hp0 : X0.pend.length ≤ 100000 := by rw [← HX0.out]; decide
  have hp1 : X1.pend.length ≤ 100000 := by rw [← HX1.out]; decide
  have hp2 : X2.pend.length ≤ 100000 := by rw [← HX2.out]; decide
  have h1 : Hid (readP X0 1 = (zeroP, 41)) := by show _ = _; rw [← HX0.out]; exact nm1
  have h2 : Hid (readP X1 0 = (zeroP, 43)) := by show _ = _; rw [← HX1.out]; exact nm2
  have hs : Hid (X0.spoil 0 true = X1) := by show _ = _; rw [← HX0.out]; exact HX1.out
  have hse : Hid ((if inR X0.pages.length 0 then (0 : Int) else 41) = 0) := by show _ = _; rw [← HX0.out]; kernel_rfl
  have hc : Hid (({ X1 with left := 0 } : DSt) = X2) := by show _ = _; rw [← HX1.out]; exact HX2.out
  have ha : Hid (X2.actE = 42) := by show _ = _; rw [← HX2.out]; exact nm3.1
  have hdn : Hid (X3.down = true) := by show _ = _; rw [← HX3.out, ← HX2.out]; exact nm3.2
  have hl1 : Hid ((Y1.pages.length : Int) = 244) := by show _ = _; rw [← HY1.out]; exact len999
  have hl2 : Hid ((Y2.pages.length : Int) = 0) := by show _ = _; rw [← HY2.out]; exact lenm1
  obtain ⟨Z, HZ⟩ : ∃ p, Hid (zeroP = p) := ⟨_, rfl⟩
  have hZl : Hid (Z.length = 256) := by show _ = _; rw [← HZ.out]; exact zeroP_len
  rw [HZ.out] at h1 h2
  go_enter Try.func3, Try.ntmps3
  go_wp2_with (first
    | (go_at_call 9; have y1' := y1; go_must (refine (new_any (-1) (by omega) _).mono ?_; rw [HY2.out]; rintro e w14 ⟨gz, rfl, y2, f14⟩))
    | (go_at_call 9; have d12' := d12; go_must (refine (new_any 999 (by omega) _).mono ?_; rw [HY1.out]; rintro e w13 ⟨gy, rfl, y1, f13⟩))
    | (go_at_call 9; go_must (refine (new_any 1 (by omega) _).mono ?_; rw [HX0.out]; rintro e w1 ⟨g, rfl, d1, f1⟩; have z1 := f1.size))
    | (go_at_call 10; have d5' := d5; go_must (refine (read_any g 0 (by omega) _ d5 hp1).mono ?_; rw [h2.out]; rintro e w6 ⟨rfl, f6⟩))
    | (go_at_call 10; go_must (refine (read_any g 1 (by omega) _ d1 hp0).mono ?_; rw [h1.out]; rintro e w2 ⟨rfl, f2⟩))
    | (with_reducible refine at_wpP ?_; have f6' := f6; refine wpList_allocP rfl rfl ?_; intro g7 w7 hg7 b7 f7 s7; have l7 := b7.lt)
    | (with_reducible refine at_wpP ?_; refine wpList_allocP rfl rfl ?_; intro g3 w3 hg3 b3 f3 s3; have l3 := b3.lt)
    | (with_reducible refine at_wpP ?_; refine at_st 25 _ _ rfl ?_; have b7' := b7; go_must (refine wpList_storeP rfl _ _ rfl g7 rfl Z rfl _ b7 hZl.out zeroP_len ?_; intro w8 b8 f8; have F8 : Fr noB w5 w8 := (f6.thenN f7).thenT f8 (fun k hk q => by have := f6.size; unfold onB1 at q; omega)))
    | (with_reducible refine at_wpP ?_; refine at_st 25 _ _ rfl ?_; go_must (refine wpList_storeP rfl _ _ rfl g3 rfl Z rfl _ b3 hZl.out zeroP_len ?_; intro w4 b4 f4; have F4 : Fr noB w1 w4 := (f2.thenN f3).thenT f4 (fun k hk q => by have := f2.size; unfold onB1 at q; omega)))
    | (go_at_call 11; go_must (refine (spoil_any g 0 (by omega) true _ (d1.fr0 F4)).mono ?_; rw [hs.out, hse.out]; rintro e w5 ⟨rfl, d5, f5⟩))
    | (go_at_call 12; go_must (refine (pcut_any g 0 (by omega) _ (d5.fr0 F8)).mono ?_; rw [hc.out]; rintro e w9 ⟨rfl, d9, f9⟩))
    | (go_at_call 13; go_must (refine (alive_any _).mono ?_; rintro e w10 ⟨rfl, f10⟩))
    | (go_at_call 14; go_must (refine (sync_any g _ (d9.fr0 f10) hp2).mono ?_; rw [ha.out, HX3.out]; rintro e w11 ⟨rfl, d11, f11⟩))
    | (go_at_call 15; go_must (refine (down_any g _ d11).mono ?_; rw [hdn.out]; rintro e w' ⟨rfl, rfl⟩; have d12 := d11))
    | (go_at_call 16; have y2' := y2; go_must (refine (len_any gz _ y2).mono ?_; rw [hl2.out]; rintro e w' ⟨rfl, rfl⟩))
    | (go_at_call 16; go_must (refine (len_any gy _ y1).mono ?_; rw [hl1.out]; rintro e w' ⟨rfl, rfl⟩)))
  go_ret
  have G5 := (f1.thenN F4).thenT (S := noB) f5 (fun k hk q => by omega)
  have G9 := (G5.thenN F8).thenT (S := noB) f9 (fun k hk q => by omega)
  have G11 := (G9.thenN f10).thenT (S := noB) f11 (fun k hk q => by omega)
  exact ⟨rfl, ((G11.thenN f13).thenN f14).below⟩
end Go.Proofs.Ytejjfpdcmaefiaa
