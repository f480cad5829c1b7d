/- Texts H5, H6, H7, H8, H9, H10, H13, V6, V7, V11, V12, B5a, D5, E3, X13 of the proof of PruneDense, one behind the other. -/
import Derived.Shelf.SlIterI.Nil
import Derived.Shelf.SortM.Plain
import Derived.Shelf.SortM.SortNone
import Derived.Lib.SlBytesConst
import Derived.Test.YtmkinaijkgkgiaaRows
import Derived.Deep.MidRow
import Derived.Deep.RegionHeld3
import Derived.Test.YtmkinaijkgkgiaaBundlePruneDense1
import Derived.Test.YtmkinaijkgkgiaaBundlePruneDense2
import Derived.Test.YtmkinaijkgkgiaaBundlePruneDense3
import Derived.Test.YtmkinaijkgkgiaaBundlePruneDense4
import Derived.Test.YtmkinaijkgkgiaaBundlePruneDense5
import Derived.Test.YtmkinaijkgkgiaaBundlePruneDense6
import Derived.Test.YtmkinaijkgkgiaaBundlePruneDense7
import Derived.Test.YtmkinaijkgkgiaaBundlePruneDense8
import Derived.Test.YtmkinaijkgkgiaaBundlePruneDense9
import Derived.Test.YtmkinaijkgkgiaaBundlePruneDense10
import Derived.Test.YtmkinaijkgkgiaaBundlePruneDense11
import Derived.Test.YtmkinaijkgkgiaaBundlePruneDense12
/- A store: Make, Drop. -/
namespace Go.Proofs.Ytmkinaijkgkgiaa
open Go.RowKit Go.Proofs.U Go.Shelf
set_option linter.unusedSimpArgs false
set_option linter.unusedVariables false
theorem eg_lacks : ∀ args w, (callFunc 31 args).run Try.prog w = .ok (.enter 31 args) w := enters_of Try.func31 (by kernel_rfl) rfl
theorem eg_hold : ∀ args w, (callFunc 34 args).run Try.prog w = .ok (.enter 34 args) w := enters_of Try.func34 (by kernel_rfl) rfl
theorem eg_drop : ∀ args w, (callFunc 41 args).run Try.prog w = .ok (.enter 41 args) w := enters_of Try.func41 (by kernel_rfl) rfl
theorem contains_lacks {F : Nat → Prop} {gs gp : Nat} {X : DSt} {L : List Pg} {m : Nat} (u : Value) (l : List Int) (hl : l.length ≤ 1000000) (w : World) (h : Sto w F gs gp X L m) (hu : SlI .i64 w u l) :
    Calls Try.prog 30 #[u, .func (.func 31) #[ptr gs] #[]] w fun r w' => r = .returned (.bool (l.any fun p => !plHeld L p)) ∧ w = w' :=
  containsFunc_any (fun p => !plHeld L p) 31 #[ptr gs] #[] eg_lacks u l w hu hl (fun x hx => lacks_any x w h)
theorem each_hold {gp : Nat} {L : List Pg} (u : Value) (l : List Int) (hl : l.length ≤ 1000000) (w : World) (h : PoolB w gp L) (ho : plOk L) (hu : SlI .i64 w u l) (hg : ∀ k, u.ownBlock = some k → k ≠ gp) :
    Calls Try.prog 33 #[u, .func (.func 34) #[ptr gp] #[]] w fun r w' => r = .returned (.int .i64 (eachF plHold L l).2) ∧ PoolB w' gp (eachF plHold L l).1 ∧ Fr (onB1 gp) w w' := by
  refine (each_any plHold (fun M W => PoolB W gp M ∧ plOk M ∧ SlI .i64 W u l ∧ Fr (onB1 gp) w W) 34 #[ptr gp] #[] eg_hold u l hl (fun _ _ h => h.2.2.1) (fun M W x hx hI => ?_) L w ⟨h, ho, hu, Fr.refl _ _⟩).mono ?_
  · refine (phold_any hI.2.1 gp x W hI.1).mono ?_
    rintro e w1 ⟨rfl, b1, f1⟩
    exact ⟨rfl, b1, hold_ok hI.2.1 x, hI.2.2.1.fr f1 (fun k hk q => hg k hk q), hI.2.2.2.trans f1⟩
  · rintro e w1 ⟨rfl, b1, _, _, f1⟩
    exact ⟨rfl, b1, f1⟩
theorem kids_len {w : World} {v : Value} {n : Nd} (h : NdS w v n) : (kids n).length ≤ 1000 := by unfold kids; rw [List.length_map]; exact h.2.2.1
theorem eachHold_len (l : List Int) (L : List Pg) : (eachF plHold L l).1.length = L.length := eachF_inv (I := fun M => M.length = L.length) (fun M p h => by rw [hold_len]; exact h) l L rfl
theorem eachHold_ok (l : List Int) {L : List Pg} (h : plOk L) : plOk (eachF plHold L l).1 := eachF_inv (I := plOk) (fun M p h => hold_ok h p) l L h
set_option maxRecDepth 100000 in
set_option maxHeartbeats 1000000 in
theorem make_no {F : Nat → Prop} {gs gp : Nat} {X : DSt} {L : List Pg} {m : Nat} (n : Nd) (vs : Value) (w : World) (h : Sto w F gs gp X L m) (hn : NdS w vs n) (hr : n.right = false) :
    Calls Try.prog 18 #[ptr gs, ndV n.k n.b vs] w fun r w' => r = .returned (.tuple #[.int .i64 (-1), .int .i64 81]) ∧ Sto w' F gs gp X L m ∧ Fr noB w w' := by
  have hP := fun W (f : Fr noB w W) => page_no n vs W (hn.fr0 f) hr
  have hbl := NdS.bl hn
  obtain ⟨Z, HZ⟩ : ∃ Z, Hid (zerB 256 = Z) := ⟨_, rfl⟩
  have hZl : Hid (Z.length = 256) := by show _ = _; rw [← HZ.out]; exact zerB_len 256
  rw [HZ.out] at hP
  go_enter Try.func18, Try.ntmps18
  go_wp2_with (first
    | (with_reducible refine at_wpP ?_; refine wpList_boxN rfl _ rfl n.k n.b vs rfl ?_; intro g1 w1 hg1 b1 f1 s1; have l1 := b1.lt; have z1 := f1.size)
    | (with_reducible refine at_wpP ?_; refine at_ld 55 _ rfl ?_; go_must (refine wpList_ldN rfl _ rfl g1 rfl n.k n.b vs b1 hbl.out ?_))
    | (go_at_call 28; go_must (refine (hP _ f1).mono ?_; rintro e w2 ⟨rfl, f2⟩; have z2 := f2.size))
    | (with_reducible refine at_wpP ?_; refine wpList_allocA arr_page rfl rfl ?_; rw [HZ.out]; intro g3 w3 hg3 b3 f3 s3; have l3 := b3.lt; have z3 := f3.size)
    | (with_reducible refine at_wpP ?_; refine at_st 77 _ _ rfl ?_; go_must (refine wpList_storeA arr_page rfl _ _ rfl g3 rfl Z rfl _ b3 hZl.out hZl.out ?_; intro w4 b4 f4; have z4 := f4.size; have F4 : Fr noB w2 w4 := Fr.ownX f3 s3 f4)))
  go_ret2
  have F := (f1.thenN f2).thenN F4
  exact ⟨rfl, h.fr0 F, F⟩
set_option maxRecDepth 100000 in
set_option maxHeartbeats 1000000 in
theorem make_lack {F : Nat → Prop} {gs gp : Nat} {X : DSt} {L : List Pg} {m : Nat} (n : Nd) (vs : Value) (w : World) (h : Sto w F gs gp X L m) (hn : NdS w vs n) (hr : n.right = true) (ha : (kids n).any (fun p => !plHeld L p) = true) :
    Calls Try.prog 18 #[ptr gs, ndV n.k n.b vs] w fun r w' => r = .returned (.tuple #[.int .i64 (-1), .int .i64 73]) ∧ Sto w' F gs gp X L m ∧ Fr noB w w' := by
  have hP := fun W (f : Fr noB w W) => page_ok n vs W (hn.fr0 f) hr
  have hC := fun W (f : Fr noB w W) => children_any n vs W (hn.fr0 f)
  have hkl := kids_len hn
  have hL := fun (u : Value) W (f : Fr noB w W) (hu : SlI .i64 W u (kids n)) => contains_lacks u (kids n) (by omega) W (h.fr0 f) hu
  rw [ha] at hL
  have hbl := NdS.bl hn
  have hpl := show Hid _ from page_len hr hbl.out
  obtain ⟨K, HK⟩ : ∃ K, Hid (kids n = K) := ⟨_, rfl⟩
  rw [HK.out] at hC hL
  obtain ⟨P, HP⟩ : ∃ P, Hid (n.page = P) := ⟨_, rfl⟩
  rw [HP.out] at hP hpl
  obtain ⟨Z, HZ⟩ : ∃ Z, Hid (zerB 256 = Z) := ⟨_, rfl⟩
  have hZl : Hid (Z.length = 256) := by show _ = _; rw [← HZ.out]; exact zerB_len 256
  go_enter Try.func18, Try.ntmps18
  go_wp2_with (first
    | (with_reducible refine at_wpP ?_; refine wpList_boxN rfl _ rfl n.k n.b vs rfl ?_; intro g1 w1 hg1 b1 f1 s1; have l1 := b1.lt; have z1 := f1.size)
    | (with_reducible refine at_wpP ?_; refine at_ld 55 _ rfl ?_; have q := b4; go_must (refine wpList_ldN rfl _ rfl g1 rfl n.k n.b vs ((b1.fr0 f2).fr0 F4) hbl.out ?_))
    | (with_reducible refine at_wpP ?_; refine at_ld 55 _ rfl ?_; refine wpList_ldN rfl _ rfl g1 rfl n.k n.b vs b1 hbl.out ?_)
    | (go_at_call 28; go_must (refine (hP _ f1).mono ?_; rintro e w2 ⟨rfl, f2⟩; have z2 := f2.size))
    | (with_reducible refine at_wpP ?_; refine wpList_allocA arr_page rfl rfl ?_; rw [HZ.out]; intro g3 w3 hg3 b3 f3 s3; have l3 := b3.lt; have z3 := f3.size)
    | (with_reducible refine at_wpP ?_; refine at_st 77 _ _ rfl ?_; go_must (refine wpList_storeA arr_page rfl _ _ rfl g3 rfl P rfl _ b3 hpl.out hZl.out ?_; intro w4 b4 f4; have z4 := f4.size; have F4 : Fr noB w2 w4 := Fr.ownX f3 s3 f4; have G4 : Fr noB w w4 := (f1.thenN f2).thenN F4))
    | (go_at_call 29; go_must (refine (hC _ G4).mono ?_; rintro e w5 ⟨u, rfl, o5, u5, f5⟩; have z5 := f5.size; have G5 := G4.thenN f5))
    | (go_at_call 30; go_must (refine (hL _ _ G5 u5).mono ?_; rintro e w6 ⟨rfl, rfl⟩)))
  go_ret2
  exact ⟨rfl, h.fr0 G5, G5⟩
end Go.Proofs.Ytmkinaijkgkgiaa
/- A store: Make; Drop. (Written by h6_gen.py.) -/
namespace Go.Proofs.Ytmkinaijkgkgiaa
open Go.RowKit Go.Proofs.U Go.Shelf
set_option linter.unusedSimpArgs false
set_option linter.unusedVariables false
set_option maxRecDepth 100000 in
set_option maxHeartbeats 1000000 in
theorem make_full {F : Nat → Prop} {gs gp : Nat} {X : DSt} {L : List Pg} {m : Nat} (n : Nd) (vs : Value) (w : World) (h : Sto w F gs gp X L m) (hm : m ≤ 100000) (hn : NdS w vs n) (hr : n.right = true) (ha : (kids n).any (fun p => !plHeld L p) = false) (hT : ¬ (plTake L).2.2 = 0) :
    Calls Try.prog 18 #[ptr gs, ndV n.k n.b vs] w fun r w' => r = .returned (.tuple #[.int .i64 (-1), .int .i64 (plTake L).2.2]) ∧ LayIs w w' F gs gp (X, (plTake L).1) m := by
  have hP := fun W (f : Fr noB w W) => page_ok n vs W (hn.fr0 f) hr
  have hC := fun W (f : Fr noB w W) => children_any n vs W (hn.fr0 f)
  have hkl := kids_len hn
  have hL := fun (u : Value) W (f : Fr noB w W) (hu : SlI .i64 W u (kids n)) => contains_lacks u (kids n) (by omega) W (h.fr0 f) hu
  rw [ha] at hL
  have hbl := NdS.bl hn
  have hpl := show Hid _ from page_len hr hbl.out
  have hpb := page_byt hr hn.2.1
  have hY := fun W (f : Fr noB w W) => lay_no n.page hpl.out W (h.fr0 f) hT
  obtain ⟨R, HR⟩ : ∃ R, Hid (plTake L = R) := ⟨_, rfl⟩
  rw [HR.out] at hY hT ⊢
  obtain ⟨K, HK⟩ : ∃ K, Hid (kids n = K) := ⟨_, rfl⟩
  rw [HK.out] at hC hL hkl 
  obtain ⟨P, HP⟩ : ∃ P, Hid (n.page = P) := ⟨_, rfl⟩
  rw [HP.out] at hP hpl hY 
  obtain ⟨Z, HZ⟩ : ∃ Z, Hid (zerB 256 = Z) := ⟨_, rfl⟩
  have hZl : Hid (Z.length = 256) := by show _ = _; rw [← HZ.out]; exact zerB_len 256
  go_enter Try.func18, Try.ntmps18
  go_wp2_with (first
    | (with_reducible refine at_wpP ?_; refine wpList_boxN rfl _ rfl n.k n.b vs rfl ?_; intro g1 w1 hg1 b1 f1 s1; have l1 := b1.lt; have z1 := f1.size)
    | (with_reducible refine at_wpP ?_; refine at_ld 55 _ rfl ?_; have q := b4; go_must (refine wpList_ldN rfl _ rfl g1 rfl n.k n.b vs ((b1.fr0 f2).fr0 F4) hbl.out ?_))
    | (with_reducible refine at_wpP ?_; refine at_ld 55 _ rfl ?_; refine wpList_ldN rfl _ rfl g1 rfl n.k n.b vs b1 hbl.out ?_)
    | (go_at_call 28; go_must (refine (hP _ f1).mono ?_; rintro e w2 ⟨rfl, f2⟩; have z2 := f2.size))
    | (with_reducible refine at_wpP ?_; refine wpList_allocA arr_page rfl rfl ?_; rw [HZ.out]; intro g3 w3 hg3 b3 f3 s3; have l3 := b3.lt; have z3 := f3.size)
    | (with_reducible refine at_wpP ?_; refine at_st 77 _ _ rfl ?_; go_must (refine wpList_storeA arr_page rfl _ _ rfl g3 rfl P rfl _ b3 hpl.out hZl.out ?_; intro w4 b4 f4; have z4 := f4.size; have F4 : Fr noB w2 w4 := Fr.ownX f3 s3 f4; have G4 : Fr noB w w4 := (f1.thenN f2).thenN F4))
    | (go_at_call 29; go_must (refine (hC _ G4).mono ?_; rintro e w5 ⟨u, rfl, o5, u5, f5⟩; have z5 := f5.size; have G5 := G4.thenN f5; have nb5 := o5.newB; have lp5 := h.ltp; have zz5 := G4.size))
    | (go_at_call 30; go_must (refine (hL _ _ G5 u5).mono ?_; rintro e w6 ⟨rfl, rfl⟩))
    | (with_reducible refine at_wpP ?_; refine at_ld 77 _ rfl ?_; go_must (refine wpList_loadA arr_page rfl _ rfl g3 rfl P (b4.fr0 f5) hpl.out ?_))
    | (go_at_call 32; go_must (refine (hY _ G5).mono ?_; rintro e w7 ⟨rfl, F', S7, g7, f7⟩; have z7 := f7.size; obtain ⟨gd, q0, q1, _⟩ := S7.cells)))
  go_ret2
  exact ⟨rfl, F', S7, fun k hk => ⟨(g7 k hk).1.imp id (fun q => by have := G5.size; omega), (g7 k hk).2⟩, (G5.mono (fun _ _ q => q.elim)).thenT f7 (fun i hi q => q)⟩
set_option maxRecDepth 100000 in
set_option maxHeartbeats 1000000 in
theorem make_yes {F : Nat → Prop} {gs gp : Nat} {X : DSt} {L : List Pg} {m : Nat} (n : Nd) (vs : Value) (w : World) (h : Sto w F gs gp X L m) (hm : m ≤ 100000) (hn : NdS w vs n) (hr : n.right = true) (ha : (kids n).any (fun p => !plHeld L p) = false) (hT : (plTake L).2.2 = 0) (he : (eachF plHold (plTake L).1 (kids n)).2 = 0) :
    Calls Try.prog 18 #[ptr gs, ndV n.k n.b vs] w fun r w' => r = .returned (.tuple #[.int .i64 (plTake L).2.1, .int .i64 0]) ∧ LayIs w w' F gs gp (X.write ((plTake L).2.1 + 4) n.page, (eachF plHold (plTake L).1 (kids n)).1) (m + 1) := by
  have hP := fun W (f : Fr noB w W) => page_ok n vs W (hn.fr0 f) hr
  have hC := fun W (f : Fr noB w W) => children_any n vs W (hn.fr0 f)
  have hkl := kids_len hn
  have hL := fun (u : Value) W (f : Fr noB w W) (hu : SlI .i64 W u (kids n)) => contains_lacks u (kids n) (by omega) W (h.fr0 f) hu
  rw [ha] at hL
  have hbl := NdS.bl hn
  have hpl := show Hid _ from page_len hr hbl.out
  have hpb := page_byt hr hn.2.1
  have hY := fun W (f : Fr noB w W) => lay_yes n.page hpl.out hpb W (h.fr0 f) hm hT
  have ho := take_ok h.ok
  have hE := fun (u : Value) W (b : PoolB W gp (plTake L).1) (hu : SlI .i64 W u (kids n)) (hg : ∀ k, u.ownBlock = some k → k ≠ gp) => each_hold u (kids n) (by omega) W b ho hu hg
  have ho2 := eachHold_ok (kids n) ho
  have hn2 := show Hid _ from eachHold_len (kids n) (plTake L).1
  obtain ⟨R, HR⟩ : ∃ R, Hid (plTake L = R) := ⟨_, rfl⟩
  rw [HR.out] at hY hT hE ho he ho2 hn2 ⊢
  obtain ⟨K, HK⟩ : ∃ K, Hid (kids n = K) := ⟨_, rfl⟩
  rw [HK.out] at hC hL hkl hE he ho2 hn2 ⊢
  obtain ⟨P, HP⟩ : ∃ P, Hid (n.page = P) := ⟨_, rfl⟩
  rw [HP.out] at hP hpl hY ⊢
  obtain ⟨Z, HZ⟩ : ∃ Z, Hid (zerB 256 = Z) := ⟨_, rfl⟩
  have hZl : Hid (Z.length = 256) := by show _ = _; rw [← HZ.out]; exact zerB_len 256
  obtain ⟨R1, i, e0⟩ := R
  simp only at hY hT hE ho he ho2 hn2 ⊢
  subst hT
  obtain ⟨V, HV⟩ : ∃ V, Hid (eachF plHold R1 K = V) := ⟨_, rfl⟩
  rw [HV.out] at hE he ho2 hn2 ⊢
  obtain ⟨V1, e1⟩ := V
  simp only at hE he ho2 hn2 ⊢
  subst he
  obtain ⟨Y, HY⟩ : ∃ Y, Hid (X.write (i + 4) P = Y) := ⟨_, rfl⟩
  rw [HY.out] at hY ⊢
  go_enter Try.func18, Try.ntmps18
  go_wp2_with (first
    | (with_reducible refine at_wpP ?_; refine wpList_boxN rfl _ rfl n.k n.b vs rfl ?_; intro g1 w1 hg1 b1 f1 s1; have l1 := b1.lt; have z1 := f1.size)
    | (with_reducible refine at_wpP ?_; refine at_ld 55 _ rfl ?_; have q := b4; go_must (refine wpList_ldN rfl _ rfl g1 rfl n.k n.b vs ((b1.fr0 f2).fr0 F4) hbl.out ?_))
    | (with_reducible refine at_wpP ?_; refine at_ld 55 _ rfl ?_; refine wpList_ldN rfl _ rfl g1 rfl n.k n.b vs b1 hbl.out ?_)
    | (go_at_call 28; go_must (refine (hP _ f1).mono ?_; rintro e w2 ⟨rfl, f2⟩; have z2 := f2.size))
    | (with_reducible refine at_wpP ?_; refine wpList_allocA arr_page rfl rfl ?_; rw [HZ.out]; intro g3 w3 hg3 b3 f3 s3; have l3 := b3.lt; have z3 := f3.size)
    | (with_reducible refine at_wpP ?_; refine at_st 77 _ _ rfl ?_; go_must (refine wpList_storeA arr_page rfl _ _ rfl g3 rfl P rfl _ b3 hpl.out hZl.out ?_; intro w4 b4 f4; have z4 := f4.size; have F4 : Fr noB w2 w4 := Fr.ownX f3 s3 f4; have G4 : Fr noB w w4 := (f1.thenN f2).thenN F4))
    | (go_at_call 29; go_must (refine (hC _ G4).mono ?_; rintro e w5 ⟨u, rfl, o5, u5, f5⟩; have z5 := f5.size; have G5 := G4.thenN f5; have nb5 := o5.newB; have lp5 := h.ltp; have zz5 := G4.size))
    | (go_at_call 30; go_must (refine (hL _ _ G5 u5).mono ?_; rintro e w6 ⟨rfl, rfl⟩))
    | (with_reducible refine at_wpP ?_; refine at_ld 77 _ rfl ?_; go_must (refine wpList_loadA arr_page rfl _ rfl g3 rfl P (b4.fr0 f5) hpl.out ?_))
    | (go_at_call 32; go_must (refine (hY _ G5).mono ?_; rintro e w7 ⟨rfl, F', S7, g7, f7⟩; have z7 := f7.size; obtain ⟨gd, q0, q1, _⟩ := S7.cells))
    | (go_at_call 33; go_must (refine (hE u _ S7.pl ?hu7 ?hg7).mono ?_; rotate_left 2; rintro e w8 ⟨rfl, b8, f8⟩)))
  case hu7 =>
    refine u5.fr f7 (fun k hk q => ?_)
    have := nb5 k hk
    unfold stB at q
    rcases q with q | q
    · have := h.ft k q; omega
    · omega
  case hg7 =>
    intro k hk e
    have := nb5 k hk
    omega
  go_ret2
  have S8 := S7.pool f8 b8 ho2 hn2.out
  exact ⟨rfl, F', S8, fun k hk => ⟨(g7 k hk).1.imp id (fun q => by have := G5.size; omega), by have := (g7 k hk).2; have := f8.size; omega⟩, ((G5.mono (fun _ _ q => q.elim)).thenT f7 (fun i hi q => q)).thenT f8 (fun i hi q => Or.inr q)⟩
set_option maxRecDepth 100000 in
set_option maxHeartbeats 1000000 in
theorem make_cut {F : Nat → Prop} {gs gp : Nat} {X : DSt} {L : List Pg} {m : Nat} (n : Nd) (vs : Value) (w : World) (h : Sto w F gs gp X L m) (hm : m ≤ 100000) (hn : NdS w vs n) (hr : n.right = true) (ha : (kids n).any (fun p => !plHeld L p) = false) (hT : (plTake L).2.2 = 0) (he : ¬ (eachF plHold (plTake L).1 (kids n)).2 = 0) :
    Calls Try.prog 18 #[ptr gs, ndV n.k n.b vs] w fun r w' => r = .returned (.tuple #[.int .i64 (-1), .int .i64 (eachF plHold (plTake L).1 (kids n)).2]) ∧ LayIs w w' F gs gp (X.write ((plTake L).2.1 + 4) n.page, (eachF plHold (plTake L).1 (kids n)).1) (m + 1) := by
  have hP := fun W (f : Fr noB w W) => page_ok n vs W (hn.fr0 f) hr
  have hC := fun W (f : Fr noB w W) => children_any n vs W (hn.fr0 f)
  have hkl := kids_len hn
  have hL := fun (u : Value) W (f : Fr noB w W) (hu : SlI .i64 W u (kids n)) => contains_lacks u (kids n) (by omega) W (h.fr0 f) hu
  rw [ha] at hL
  have hbl := NdS.bl hn
  have hpl := show Hid _ from page_len hr hbl.out
  have hpb := page_byt hr hn.2.1
  have hY := fun W (f : Fr noB w W) => lay_yes n.page hpl.out hpb W (h.fr0 f) hm hT
  have ho := take_ok h.ok
  have hE := fun (u : Value) W (b : PoolB W gp (plTake L).1) (hu : SlI .i64 W u (kids n)) (hg : ∀ k, u.ownBlock = some k → k ≠ gp) => each_hold u (kids n) (by omega) W b ho hu hg
  have ho2 := eachHold_ok (kids n) ho
  have hn2 := show Hid _ from eachHold_len (kids n) (plTake L).1
  obtain ⟨R, HR⟩ : ∃ R, Hid (plTake L = R) := ⟨_, rfl⟩
  rw [HR.out] at hY hT hE ho he ho2 hn2 ⊢
  obtain ⟨K, HK⟩ : ∃ K, Hid (kids n = K) := ⟨_, rfl⟩
  rw [HK.out] at hC hL hkl hE he ho2 hn2 ⊢
  obtain ⟨P, HP⟩ : ∃ P, Hid (n.page = P) := ⟨_, rfl⟩
  rw [HP.out] at hP hpl hY ⊢
  obtain ⟨Z, HZ⟩ : ∃ Z, Hid (zerB 256 = Z) := ⟨_, rfl⟩
  have hZl : Hid (Z.length = 256) := by show _ = _; rw [← HZ.out]; exact zerB_len 256
  obtain ⟨R1, i, e0⟩ := R
  simp only at hY hT hE ho he ho2 hn2 ⊢
  subst hT
  obtain ⟨V, HV⟩ : ∃ V, Hid (eachF plHold R1 K = V) := ⟨_, rfl⟩
  rw [HV.out] at hE he ho2 hn2 ⊢
  obtain ⟨V1, e1⟩ := V
  simp only at hE he ho2 hn2 ⊢
  obtain ⟨Y, HY⟩ : ∃ Y, Hid (X.write (i + 4) P = Y) := ⟨_, rfl⟩
  rw [HY.out] at hY ⊢
  go_enter Try.func18, Try.ntmps18
  go_wp2_with (first
    | (with_reducible refine at_wpP ?_; refine wpList_boxN rfl _ rfl n.k n.b vs rfl ?_; intro g1 w1 hg1 b1 f1 s1; have l1 := b1.lt; have z1 := f1.size)
    | (with_reducible refine at_wpP ?_; refine at_ld 55 _ rfl ?_; have q := b4; go_must (refine wpList_ldN rfl _ rfl g1 rfl n.k n.b vs ((b1.fr0 f2).fr0 F4) hbl.out ?_))
    | (with_reducible refine at_wpP ?_; refine at_ld 55 _ rfl ?_; refine wpList_ldN rfl _ rfl g1 rfl n.k n.b vs b1 hbl.out ?_)
    | (go_at_call 28; go_must (refine (hP _ f1).mono ?_; rintro e w2 ⟨rfl, f2⟩; have z2 := f2.size))
    | (with_reducible refine at_wpP ?_; refine wpList_allocA arr_page rfl rfl ?_; rw [HZ.out]; intro g3 w3 hg3 b3 f3 s3; have l3 := b3.lt; have z3 := f3.size)
    | (with_reducible refine at_wpP ?_; refine at_st 77 _ _ rfl ?_; go_must (refine wpList_storeA arr_page rfl _ _ rfl g3 rfl P rfl _ b3 hpl.out hZl.out ?_; intro w4 b4 f4; have z4 := f4.size; have F4 : Fr noB w2 w4 := Fr.ownX f3 s3 f4; have G4 : Fr noB w w4 := (f1.thenN f2).thenN F4))
    | (go_at_call 29; go_must (refine (hC _ G4).mono ?_; rintro e w5 ⟨u, rfl, o5, u5, f5⟩; have z5 := f5.size; have G5 := G4.thenN f5; have nb5 := o5.newB; have lp5 := h.ltp; have zz5 := G4.size))
    | (go_at_call 30; go_must (refine (hL _ _ G5 u5).mono ?_; rintro e w6 ⟨rfl, rfl⟩))
    | (with_reducible refine at_wpP ?_; refine at_ld 77 _ rfl ?_; go_must (refine wpList_loadA arr_page rfl _ rfl g3 rfl P (b4.fr0 f5) hpl.out ?_))
    | (go_at_call 32; go_must (refine (hY _ G5).mono ?_; rintro e w7 ⟨rfl, F', S7, g7, f7⟩; have z7 := f7.size; obtain ⟨gd, q0, q1, _⟩ := S7.cells))
    | (go_at_call 33; go_must (refine (hE u _ S7.pl ?hu7 ?hg7).mono ?_; rotate_left 2; rintro e w8 ⟨rfl, b8, f8⟩)))
  case hu7 =>
    refine u5.fr f7 (fun k hk q => ?_)
    have := nb5 k hk
    unfold stB at q
    rcases q with q | q
    · have := h.ft k q; omega
    · omega
  case hg7 =>
    intro k hk e
    have := nb5 k hk
    omega
  go_ret2
  have S8 := S7.pool f8 b8 ho2 hn2.out
  exact ⟨rfl, F', S8, fun k hk => ⟨(g7 k hk).1.imp id (fun q => by have := G5.size; omega), by have := (g7 k hk).2; have := f8.size; omega⟩, ((G5.mono (fun _ _ q => q.elim)).thenT f7 (fun i hi q => q)).thenT f8 (fun i hi q => Or.inr q)⟩
theorem LayIs.of {w w' : World} {F : Nat → Prop} {gs gp : Nat} {X : DSt} {L : List Pg} {m m' : Nat} (h : Sto w' F gs gp X L m) (f : Fr noB w w') (hm : m ≤ m') : LayIs w w' F gs gp (X, L) m' :=
  ⟨F, h.mono hm, fun k hk => ⟨Or.inl hk, h.ft k hk⟩, f.mono (fun _ _ q => q.elim)⟩
theorem LayIs.mono {w w' : World} {F : Nat → Prop} {gs gp : Nat} {S : DSt × List Pg} {m m' : Nat} (h : LayIs w w' F gs gp S m) (hm : m ≤ m') : LayIs w w' F gs gp S m' := by
  obtain ⟨F', s, g, f⟩ := h
  exact ⟨F', s.mono hm, g, f⟩
theorem make_any {F : Nat → Prop} {gs gp : Nat} {X : DSt} {L : List Pg} {m : Nat} (n : Nd) (vs : Value) (w : World) (h : Sto w F gs gp X L m) (hm : m ≤ 100000) (hn : NdS w vs n) :
    Calls Try.prog 18 #[ptr gs, ndV n.k n.b vs] w fun r w' => r = .returned (.tuple #[.int .i64 (makeF X L n).2.1, .int .i64 (makeF X L n).2.2]) ∧ LayIs w w' F gs gp (makeF X L n).1 (m + 1) := by
  unfold makeF
  cases hr : n.right with
  | false =>
    refine (make_no n vs w h hn hr).mono ?_
    rintro e w' ⟨rfl, s, f⟩
    exact ⟨rfl, LayIs.of s f (by omega)⟩
  | true =>
    simp only [if_true]
    cases ha : (kids n).any (fun p => !plHeld L p) with
    | true =>
      refine (make_lack n vs w h hn hr ha).mono ?_
      rintro e w' ⟨rfl, s, f⟩
      exact ⟨rfl, LayIs.of s f (by omega)⟩
    | false =>
      simp only [Bool.false_eq_true, if_false]
      by_cases hT : (plTake L).2.2 = 0
      · rw [if_pos hT]
        by_cases he : (eachF plHold (plTake L).1 (kids n)).2 = 0
        · rw [if_pos he]; exact make_yes n vs w h hm hn hr ha hT he
        · rw [if_neg he]; exact make_cut n vs w h hm hn hr ha hT he
      · rw [if_neg hT]
        refine (make_full n vs w h hm hn hr ha hT).mono ?_
        rintro e w' ⟨rfl, s⟩
        exact ⟨rfl, s.mono (by omega)⟩
theorem dropF_succ {X : DSt} {n : Nat} {L L1 : List Pg} {p e : Int} {b : Bool} (hd : plDrop L p = (L1, b, e)) : dropF X (n + 1) L p = if b then (if (rdN X p).2 = 0 then eachF (dropF X n) L1 (kids (rdN X p).1) else (L1, (rdN X p).2)) else (L1, e) := by
  rw [dropF, hd]
set_option maxRecDepth 100000 in
set_option maxHeartbeats 1000000 in
theorem ndrop_any {F : Nat → Prop} {gs gp : Nat} {X : DSt} {m : Nat} (hm : m ≤ 100000) : ∀ (n : Nat) (L : List Pg) (p : Int) (w : World), muL L < n → Sto w F gs gp X L m →
    Calls Try.prog 41 #[ptr gs, .int .i64 p] w fun r w' => r = .returned (.int .i64 (dropF X n L p).2) ∧ Sto w' F gs gp X (dropF X n L p).1 m ∧ Fr (onB1 gp) w w' := by
  intro n
  induction n with
  | zero => intro L p w h; omega
  | succ n ih =>
    intro L p w hmu h
    obtain ⟨gd, k0, k1, hd⟩ := h.cells
    obtain ⟨L1, b, e, hdr⟩ : ∃ L1 b e, plDrop L p = (L1, b, e) := ⟨_, _, _, rfl⟩
    have hD := pdrop_any h.ok gp p w h.pl
    have ho := drop_ok h.ok p
    have hl := show Hid _ from drop_len L p
    have hM := drop_mu h.ok hdr
    rw [dropF_succ hdr]
    rw [hdr] at hD ho hl
    simp only at hD ho hl
    clear hdr
    cases b with
    | false =>
      simp only [Bool.false_eq_true, if_false]
      go_enter Try.func41, Try.ntmps41
      go_wp2_with (first
        | (go_at_call 59; go_must (refine hD.mono ?_; rintro e w1 ⟨rfl, b1, f1⟩)))
      go_ret
      exact ⟨rfl, h.pool f1 b1 ho hl.out, f1⟩
    | true =>
      obtain ⟨rfl, hlt, hp0, hp1⟩ := hM.2 rfl
      have hmu1 : muL L1 < n := by omega
      clear hM hlt hmu
      simp only [if_true]
      have hR := fun W (s : Sto W F gs gp X L1 m) => nread_any p hp0 (by rw [hl.out]; exact hp1) W s hm
      obtain ⟨R, HR⟩ : ∃ R, Hid (rdN X p = R) := ⟨_, rfl⟩
      rw [HR.out] at hR ⊢
      by_cases hr0 : R.2 = 0
      · rw [if_pos hr0]
        obtain ⟨N, e0⟩ := R
        simp only at hr0
        subst hr0
        simp only at hR ⊢
        have hC := fun v W (hn : NdS W v N) => children_any N v W hn
        have hE := fun (u : Value) (W : World) (hK : (kids N).length ≤ 1000) (s : Sto W F gs gp X L1 m) (hu : SlI .i64 W u (kids N)) (hg : ∀ k, u.ownBlock = some k → k ≠ gp) =>
          each_any (dropF X n) (fun M V => Sto V F gs gp X M m ∧ muL M < n ∧ SlI .i64 V u (kids N) ∧ Fr (onB1 gp) W V) 41 #[ptr gs] #[] eg_drop u (kids N) (by omega) (fun _ _ h => h.2.2.1) (fun M V x hx hI => by
            refine (ih M x V hI.2.1 hI.1).mono ?_
            rintro e w1 ⟨rfl, s1, f1⟩
            exact ⟨rfl, s1, Nat.lt_of_le_of_lt (dropF_mu n x hI.1.ok) hI.2.1, hI.2.2.1.fr f1 (fun k hk q => hg k hk q), hI.2.2.2.trans f1⟩) L1 W ⟨s, hmu1, hu, Fr.refl _ _⟩
        clear ih
        obtain ⟨K, HK⟩ : ∃ K, Hid (kids N = K) := ⟨_, rfl⟩
        have hkl := fun v W (hn : NdS W v N) => kids_len hn
        rw [HK.out] at hC hE hkl ⊢
        obtain ⟨V, HV⟩ : ∃ V, Hid (eachF (dropF X n) L1 K = V) := ⟨_, rfl⟩
        rw [HV.out] at hE ⊢
        go_enter Try.func41, Try.ntmps41
        go_wp2_with (first
          | (go_at_call 59; go_must (refine hD.mono ?_; rintro e w1 ⟨rfl, b1, f1⟩; have z1 := f1.size; have S1 := h.pool f1 b1 ho hl.out))
          | (go_at_call 53; go_must (refine (hR _ S1).mono ?_; rintro e w2 ⟨v, rfl, n2, o2, f2⟩; have z2 := f2.size; have hv := NdS.sl n2; have hbl := NdS.bl n2))
          | (with_reducible refine at_wpP ?_; refine wpList_allocN rfl rfl ?_; intro g3 w3 hg3 b3 f3 s3; have l3 := b3.lt; have z3 := f3.size)
          | (with_reducible refine at_wpP ?_; refine at_st 55 _ _ rfl ?_; have q := n2; go_must (refine wpList_stN rfl _ _ rfl g3 rfl N.k N.b v rfl hbl.out hv 0 (zerB 16) nilS b3 (zerB_len 16) ?_; intro w4 b4 f4; have z4 := f4.size; have F4 : Fr noB w2 w4 := Fr.ownX f3 s3 f4; have n4 := n2.fr0 F4; have hk := hkl _ _ n2))
          | (with_reducible refine at_wpP ?_; refine at_ld 55 _ rfl ?_; go_must (refine wpList_ldN rfl _ rfl g3 rfl N.k N.b v b4 hbl.out ?_))
          | (go_at_call 29; go_must (refine (hC _ _ n4).mono ?_; rintro e w5 ⟨u, rfl, o5, u5, f5⟩; have z5 := f5.size; have S5 := ((S1.fr0 f2).fr0 F4).fr0 f5; have nb5 := o5.newB; have lp := S1.ltp))
          | (go_at_call 33; go_must (refine (hE u _ hk S5 u5 ?hg5).mono ?_; rotate_left 1; rintro e w6 ⟨rfl, s6, _, _, f6⟩)))
        case hg5 =>
          intro k hk e
          have := nb5 k hk
          omega
        go_ret
        exact ⟨rfl, s6, (((f1.thenN f2).thenN F4).thenN f5).trans f6⟩
      · rw [if_neg hr0]
        go_enter Try.func41, Try.ntmps41
        go_wp2_with (first
          | (go_at_call 59; go_must (refine hD.mono ?_; rintro e w1 ⟨rfl, b1, f1⟩; have z1 := f1.size; have S1 := h.pool f1 b1 ho hl.out))
          | (go_at_call 53; go_must (refine (hR _ S1).mono ?_; rintro e w2 ⟨v, rfl, n2, o2, f2⟩; have z2 := f2.size; have hv := NdS.sl n2; have hbl := NdS.bl n2))
          | (with_reducible refine at_wpP ?_; refine wpList_allocN rfl rfl ?_; intro g3 w3 hg3 b3 f3 s3; have l3 := b3.lt; have z3 := f3.size)
          | (with_reducible refine at_wpP ?_; refine at_st 55 _ _ rfl ?_; have q := n2; go_must (refine wpList_stN rfl _ _ rfl g3 rfl R.1.k R.1.b v rfl hbl.out hv 0 (zerB 16) nilS b3 (zerB_len 16) ?_; intro w4 b4 f4; have z4 := f4.size; have F4 : Fr noB w2 w4 := Fr.ownX f3 s3 f4)))
        go_ret
        exact ⟨rfl, (S1.fr0 f2).fr0 F4, (f1.thenN f2).thenN F4⟩
end Go.Proofs.Ytmkinaijkgkgiaa
/- The keys of a map of integers, sorted (maps.Keys, slices.Sorted, slices.Sort: by the library's contracts). -/
namespace Go.Proofs.Ytmkinaijkgkgiaa
open Go.RowKit Go.Proofs.U Go.Shelf Go.Maps Go.Sort
set_option linter.unusedSimpArgs false
set_option linter.unusedVariables false
/-- A sorted list of just what was seen. -/
structure SeenL (S : Int → Bool) (l : List Int) : Prop where
  mem : ∀ x, x ∈ l ↔ S x = true
  nd : l.Nodup
  len : l.length ≤ 240
end Go.Proofs.Ytmkinaijkgkgiaa
/- A store: see, Reach. -/
namespace Go.Proofs.Ytmkinaijkgkgiaa
open Go.RowKit Go.Proofs.U Go.Shelf Go.Maps
set_option linter.unusedSimpArgs false
set_option linter.unusedVariables false
section
variable {w : World} {ops : Array Oper} {rest : List Oper} {o : Oper} {a : Act} {Q : Exit → Act → World → Prop}
end
/-- How many pages were not seen yet. -/
def nS (S : Int → Bool) : Nat := (List.range 240).countP fun (i : Nat) => !S (i : Int)
theorem countP_lt {l : List Nat} {p q : Nat → Bool} (h : ∀ x ∈ l, q x = true → p x = true) {y : Nat} (hy : y ∈ l) (hp : p y = true) (hq : q y = false) : l.countP q < l.countP p := by
  induction l with
  | nil => cases hy
  | cons a l ih =>
    rw [List.countP_cons, List.countP_cons]
    have hle : l.countP q ≤ l.countP p := List.countP_mono_left (fun x hx => h x (List.mem_cons_of_mem _ hx))
    rcases List.mem_cons.1 hy with rfl | hy
    · rw [hp, hq]; simp; omega
    · have := ih (fun x hx => h x (List.mem_cons_of_mem _ hx)) hy
      by_cases ha : q a = true
      · have := h a List.mem_cons_self ha
        rw [ha, this]; simp; omega
      · simp [ha]; split <;> omega
theorem nS_put {S : Int → Bool} {p : Int} (h0 : 0 ≤ p) (h1 : p < 240) (hp : S p = false) : nS (fun x => if x == p then true else S x) < nS S := by
  unfold nS
  obtain ⟨k, rfl⟩ : ∃ k : Nat, p = (k : Int) := ⟨p.toNat, by omega⟩
  refine countP_lt (fun x _ hx => ?_) (y := k) (List.mem_range.2 (by omega)) (by rw [hp]; rfl) (by simp)
  simp at hx ⊢
  exact hx.2
theorem nS_mono {S T : Int → Bool} (h : ∀ x, S x = true → T x = true) : nS T ≤ nS S := by
  unfold nS
  refine List.countP_mono_left (fun x _ hx => ?_)
  simp at hx ⊢
  cases hs : S (x : Int) with
  | false => rfl
  | true => rw [h _ hs] at hx; cases hx
theorem seeF_succ (get : Int → Nd × Int) (n : Nat) (S : Int → Bool) (p : Int) : seeF get (n + 1) S p = if S p then (S, 0) else if (get p).2 = 0 then eachF (seeF get n) (fun x => if x == p then true else S x) (kids (get p).1) else (S, (get p).2) := rfl
end Go.Proofs.Ytmkinaijkgkgiaa
/- A store: Reach. -/
namespace Go.Proofs.Ytmkinaijkgkgiaa
open Go.RowKit Go.Proofs.U Go.Shelf Go.Maps
set_option linter.unusedSimpArgs false
set_option linter.unusedVariables false
/-- A root is passed over, if it is none. -/
def rootF (get : Int → Nd × Int) (S : Int → Bool) (p : Int) : (Int → Bool) × Int := if p = -1 then (S, 0) else seeF get 241 S p
/-- Reach: what was seen, or the first error. -/
def reachF (get : Int → Nd × Int) (roots : List Int) : (Int → Bool) × Int := eachF (rootF get) (fun _ => false) roots
theorem nS_lt (S : Int → Bool) : nS S < 241 := by
  unfold nS
  have := List.countP_le_length (p := fun (i : Nat) => !S (i : Int)) (l := List.range 240)
  simp only [List.length_range] at this
  omega
end Go.Proofs.Ytmkinaijkgkgiaa
/- nodesAlive, NodesNames. -/
namespace Go.Proofs.Ytmkinaijkgkgiaa
open Go.RowKit Go.Proofs.U Go.Shelf Go.Maps
set_option linter.unusedSimpArgs false
set_option linter.unusedVariables false
section
variable {w : World} {ops : Array Oper} {rest : List Oper} {o : Oper} {a : Act} {Q : Exit → Act → World → Prop}
theorem wpList_blkC {n : Int} (hgd : Region.wanted o (yielded ops a.tmps) = true) (ho : o.op = .build 53 #[(0, .const (.int .u8 n))]) (C : List Int) (hb : Try.prog.built 53 [(0, .int .u8 n)] = some (pgv C).toArray)
    (h : wpList Try.prog ops Q rest (a.put o.dst (pgV C)) w) : wpList Try.prog ops Q (o :: rest) a w := by
  refine wpList_wanted hgd fun K hK => ?_
  have hrun := run_build (P := Try.prog) w 53 #[(0, .int .u8 n)] _ hb
  unfold Oper.wp
  have hc : a.eval (.const (.int .u8 n)) = .int .u8 n := rfl
  simp [execOp, ho, hc, hrun, Result.andThen]
  exact hK _ _ h
end
theorem built_ndB (k : Int) (b : List Int) (hb : b.length = 16) : Try.prog.built 55 [(0, .int .i64 k), (1, pgV b)] = some (ndL k b nilS).toArray := by
  rw [built_struct _ _ nd_struct _ nd_zero _ nd_places]
  rw [fill_put _ _ 0 0 1 (.int .i64 k) [.int .i64 k] rfl rfl rfl (by decide)]
  rw [fill_put _ _ 1 1 16 (pgV b) (pgv b) rfl rfl (by rw [pgv_len, hb]) (by simp [putAt, ndL, pgv, zerB])]
  unfold Instr.fill
  congr 2
  unfold putAt ndL
  simp [pgv_len, hb, pgv, zerB]
end Go.Proofs.Ytmkinaijkgkgiaa
/- What NodesBack may read of a store, plain. -/
namespace Go.Proofs.Ytmkinaijkgkgiaa
open Go.RowKit Go.Proofs.U
set_option linter.unusedSimpArgs false
set_option linter.unusedVariables false
theorem rdN_write {X : DSt} {N m : Nat} (h : Up X N m) {p : Int} (h0 : 0 ≤ p) (h1 : p < (N : Int)) {n : Nd} (hr : n.right = true) (ho : n.ok) {r : Int} (r0 : 0 ≤ r) (r1 : r < (N : Int)) :
    rdN (X.write (p + 4) n.page) r = if r = p then (n, 0) else rdN X r := by
  unfold rdN
  rw [(h.write h0 h1 (page_len hr ho.1) (page_byt hr ho)).2.2 r r0 r1]
  split
  · exact opN_own hr ho
  · rfl
theorem hold_cases (L : List Pg) (p : Int) : (plHeld L p = false ∧ plHold L p = (L, 73)) ∨ (plHeld L p = true ∧ (plAt L p.toNat).c = 255 ∧ plHold L p = (L, 72)) ∨
    (plHeld L p = true ∧ ¬ (plAt L p.toNat).c = 255 ∧ plHold L p = (L.set p.toNat ⟨(plAt L p.toNat).c + 1, (plAt L p.toNat).s⟩, 0)) := by
  unfold plHeld plHold
  cases h : (plIn L p && (plAt L p.toNat).held) with
  | false => exact Or.inl ⟨rfl, by rw [if_neg (by simp)]⟩
  | true =>
    by_cases hc : (plAt L p.toNat).c = 255
    · exact Or.inr (Or.inl ⟨rfl, hc, by rw [if_pos rfl, if_pos hc]⟩)
    · exact Or.inr (Or.inr ⟨rfl, hc, by rw [if_pos rfl, if_neg hc]⟩)
theorem hold_keeps {L : List Pg} (hL : plOk L) (q p : Int) : plHeld (plHold L q).1 p = plHeld L p := by
  rcases hold_cases L q with ⟨_, e⟩ | ⟨_, _, e⟩ | ⟨hh, hc, e⟩
  · rw [e]
  · rw [e]
  · rw [e]
    obtain ⟨j, rfl, hj⟩ := plHeld_in hh
    simp only [Int.toNat_natCast] at *
    unfold plHeld plIn
    rw [List.length_set]
    congr 1
    rw [plAt_set _ _ _ _ hj]
    by_cases hp : p.toNat = j
    · rw [if_pos hp, hp]
      have h0 := (hL.2 j).1
      have h2 : plHeld L (j : Int) = true := hh
      unfold plHeld at h2
      simp only [Bool.and_eq_true, Int.toNat_natCast] at h2
      rw [h2.2]
      unfold Pg.held
      simp
      omega
    · rw [if_neg hp]
theorem eachHold_keeps (l : List Int) {L : List Pg} (hL : plOk L) (p : Int) : plHeld (eachF plHold L l).1 p = plHeld L p :=
  (eachF_inv (I := fun M => plOk M ∧ plHeld M p = plHeld L p) (fun M q h => ⟨hold_ok h.1 q, by rw [hold_keeps h.1]; exact h.2⟩) l L ⟨hL, rfl⟩).2
theorem eachHold_err : ∀ (l : List Int) {L : List Pg}, plOk L → (∀ q ∈ l, plHeld L q = true) → (eachF plHold L l).2 = 0 ∨ (eachF plHold L l).2 = 72
  | [], L, _, _ => Or.inl rfl
  | q :: l, L, hL, h => by
    by_cases h0 : (plHold L q).2 = 0
    · rw [eachF_cons0 h0]
      exact eachHold_err l (hold_ok hL q) (fun x hx => by rw [hold_keeps hL]; exact h x (by simp [hx]))
    · rw [eachF_cons1 h0]
      have hq := h q (by simp)
      rcases hold_cases L q with ⟨e, _⟩ | ⟨_, _, e⟩ | ⟨_, _, e⟩
      · rw [e] at hq; cases hq
      · rw [e]; exact Or.inr rfl
      · rw [e] at h0; exact absurd rfl h0
theorem held_set {L : List Pg} {k : Nat} (hk : k < L.length) (x : Pg) (p : Int) : plHeld (L.set k x) p = if p = (k : Int) then x.held else plHeld L p := by
  unfold plHeld plIn
  rw [List.length_set, plAt_set _ _ _ _ hk]
  by_cases hp : p = (k : Int)
  · subst hp
    simp [hk]
  · rw [if_neg hp]
    by_cases h0 : 0 ≤ p
    · rw [if_neg (by omega)]
    · have : decide (0 ≤ p) = false := by simpa using h0
      rw [this]; rfl
theorem free_not_held {L : List Pg} {k : Nat} (h : (plAt L k).free = true) : plHeld L (k : Int) = false := by
  unfold plHeld
  unfold Pg.free at h
  simp only [Bool.and_eq_true, beq_iff_eq] at h
  have : (plAt L k).held = false := by unfold Pg.held; simp [h.1, h.2]
  rw [Int.toNat_natCast, this]
  simp
theorem free_none {L : List Pg} (h : plFree L = 0) : plTake L = (L, 0, 71) := by
  rcases plTake_cases L with ⟨k, hk, hf, _, _⟩ | ⟨_, e⟩
  · unfold plFree at h
    rw [List.countP_eq_zero] at h
    exact absurd (by rw [← plAt_get L k hk]; exact hf) (h L[k] (by simp))
  · exact e
theorem free_some {L : List Pg} (h : ¬ plFree L = 0) : ∃ k, k < L.length ∧ (plAt L k).free = true ∧ plTake L = (L.set k ⟨0, 1⟩, (k : Int), 0) := by
  rcases plTake_cases L with ⟨k, hk, hf, _, e⟩ | ⟨hn, _⟩
  · exact ⟨k, hk, hf, e⟩
  · refine absurd ?_ h
    unfold plFree
    rw [List.countP_eq_zero]
    intro x hx
    obtain ⟨j, hj, rfl⟩ := List.mem_iff_getElem.1 hx
    have := hn j hj
    rw [plAt_get L j hj] at this
    simp [this]
theorem makeB_full (X : DSt) {L : List Pg} {n : Nd} (h : n.right = true) (ha : (kids n).any (fun p => !plHeld L p) = false) (hf : plFree L = 0) : makeF X L n = ((X, L), -1, 71) := by
  unfold makeF
  rw [h, ha, free_none hf]
  rfl
end Go.Proofs.Ytmkinaijkgkgiaa
/- Both slots' pages as one value; newestOf and topOf of package root. -/
namespace Go.Proofs.Ytmkinaijkgkgiaa
open Go.RowKit Go.Proofs.U
set_option linter.unusedSimpArgs false
set_option linter.unusedVariables false
def pp (p q : List Int) : List Value := pgv p ++ pgv q
section
variable {w : World} {ops : Array Oper} {rest : List Oper} {o : Oper} {a : Act} {Q : Exit → Act → World → Prop}
end

end Go.Proofs.Ytmkinaijkgkgiaa
/- slots of package root. -/
namespace Go.Proofs.Ytmkinaijkgkgiaa
open Go.RowKit Go.Proofs.U
set_option linter.unusedSimpArgs false
set_option linter.unusedVariables false
/-- All pages, and all that is pending, are bytes. -/
def DSt.byt (X : DSt) : Prop := (∀ p ∈ X.pages, Byt p) ∧ ∀ x ∈ X.pend, Byt x.2
section
variable {w : World} {ops : Array Oper} {rest : List Oper} {o : Oper} {a : Act} {Q : Exit → Act → World → Prop}
end
section
variable {w : World} {ops : Array Oper} {rest : List Oper} {o : Oper} {a : Act} {Q : Exit → Act → World → Prop}
end
end Go.Proofs.Ytmkinaijkgkgiaa
/- Roots, plain: what is written is read; what is torn is no root; the greatest generation. -/
namespace Go.Proofs.Ytmkinaijkgkgiaa
open Go.RowKit Go.Proofs.U
set_option linter.unusedSimpArgs false
set_option linter.unusedVariables false

/-- What newest tells. -/
theorem newest_cases (p q : List Int) :
    ((rootOf q).1 % 2 = 1 ∧ newest p q = rootOf q ∧ (0 ≤ (rootOf p).1 → 0 < (rootOf q).1)) ∨ ((rootOf p).1 % 2 = 0 ∧ 0 < (rootOf p).1 ∧ newest p q = rootOf p) ∨ newest p q = (0, []) := by
  unfold newest
  generalize rootOf p = a
  generalize rootOf q = b
  by_cases c1 : a.1 % 2 = 0 ∧ 0 < a.1
  · by_cases c2 : b.1 % 2 = 1 ∧ a.1 < b.1
    · simp only [c1, c2, and_self, if_true, true_and]
      exact Or.inl (fun h => by omega)
    · simp only [c1, and_self, if_true, if_neg c2, true_and]
      exact Or.inr (Or.inl trivial)
  · by_cases c2 : b.1 % 2 = 1 ∧ (0 : Int) < b.1
    · simp only [if_neg c1, c2, and_self, if_true, true_and]
      exact Or.inl (fun _ => trivial)
    · simp only [if_neg c1, if_neg c2]
      exact Or.inr (Or.inr trivial)
theorem newest_zero {p q : List Int} (h : (newest p q).1 = 0) (hb : Byt p) (hc : Byt q) : newest p q = (0, []) := by
  have h1 := rootOf_bd hb
  rcases newest_cases p q with ⟨_, h2, h3⟩ | ⟨_, h2, h3⟩ | h2
  · rw [h2] at h
    have := h3 h1.1
    omega
  · rw [h3] at h; omega
  · exact h2
end Go.Proofs.Ytmkinaijkgkgiaa
/- A disk of two pages, plain: what a Write makes of it, cut off or not; what is read behind a crash. -/
namespace Go.Proofs.Ytmkinaijkgkgiaa
open Go.RowKit Go.Proofs.U
set_option linter.unusedSimpArgs false
set_option linter.unusedVariables false

/-- Both slots, nothing pending, nothing bad. -/
structure Two (X : DSt) (p q : List Int) : Prop where
  pages : X.pages = [p, q]
  pend : X.pend = []
  bad : ∀ i, X.bad i = false
  lp : p.length = 256
  lq : q.length = 256
  bp : Byt p
  bq : Byt q
section
variable {X : DSt} {p q : List Int}
theorem Two.read0 (h : Two X p q) : readP X 0 = (p, 0) := by
  unfold readP
  rw [h.pages, h.pend, h.bad]
  rfl
theorem Two.read1 (h : Two X p q) : readP X 1 = (q, 0) := by
  unfold readP
  rw [h.pages, h.pend, h.bad]
  rfl
theorem Two.re (h : Two X p q) : rdE X = 0 := by unfold rdE; rw [h.read0, h.read1]; rfl
theorem Two.nw (h : Two X p q) : nwst X = newest p q := by unfold nwst; rw [h.read0, h.read1]
theorem Two.byt (h : Two X p q) : X.byt := by
  refine ⟨?_, by rw [h.pend]; simp⟩
  rw [h.pages]
  intro r hr
  simp at hr
  rcases hr with rfl | rfl
  · exact h.bp
  · exact h.bq
theorem Two.rd (h : Two X p q) : rRead X = ((newest p q).2, (newest p q).1, if (newest p q).1 = 0 then 51 else 0) := by
  unfold rRead
  rw [h.re, h.nw, if_pos rfl]
  by_cases h0 : (newest p q).1 = 0
  · have := newest_zero h0 h.bp h.bq
    rw [this]; rfl
  · rw [if_neg h0, if_neg h0]
end

section
variable {X : DSt} {p q : List Int}
end
end Go.Proofs.Ytmkinaijkgkgiaa
/- Rows of the call's own making: one element read, one stored; no condition. -/
namespace Go.Proofs.U
open Go.RowKit

theorem OwnI.some {k : IntKind} {e : TypeId} {w : World} {base : Nat} {v : Value} {l : List Int} (h : OwnI k e w base v l) (hl : 0 < l.length) :
    ∃ g cap cur, v = .slice (Option.some ⟨g, 0, none⟩) l.length cap ∧ base ≤ g ∧ w.heap[g]? = Option.some (.cells cur e (0, 0)) ∧ l.length ≤ cap ∧ cap ≤ maxLen ∧ cur.size = cap ∧ cur.toList.take l.length = l.map (Value.int k) := by
  rcases h.2 with ⟨_, hn⟩ | ⟨g, cap, cur, hv, h1, h2, h3, h4, h5, h6⟩
  · omega
  · exact ⟨g, cap, cur, hv, h1, h2, h3, h4, by simpa using h5, by simpa using h6⟩

end Go.Proofs.U
/- The walk of CrcJoin: it answers true for any three byte lists. -/
namespace Go.Proofs.Ytmkinaijkgkgiaa
open Go.RowKit Go.Proofs.U
set_option linter.unusedSimpArgs false
set_option linter.unusedVariables false

/-- the parts so far, zeros behind them. -/
def part (M : List Int) (k : Nat) : List Int := M.take k ++ List.replicate (M.length - k) 0
end Go.Proofs.Ytmkinaijkgkgiaa
/- Contract of the document's own sum. -/
namespace Go.Proofs.Ytmkinaijkgkgiaa
open Go.RowKit Go.Proofs.U
set_option linter.unusedSimpArgs false
set_option linter.unusedVariables false

def ones (k : Nat) : List Bool := List.replicate k true ++ List.replicate (32 - k) false
end Go.Proofs.Ytmkinaijkgkgiaa
/- The document's Open. (Written by x13_gen.py.) -/
namespace Go.Proofs.Ytmkinaijkgkgiaa
open Go.RowKit Go.Proofs.U
set_option linter.unusedSimpArgs false
set_option linter.unusedVariables false
section
variable {w : World} {ops : Array Oper} {rest : List Oper} {o : Oper} {a : Act} {Q : Exit → Act → World → Prop}
end
/-- Where things lie, while the document's entries are read. -/
structure RS8 (w : World) (g1 g2 g4 B : Nat) : Prop where
  a0 : w.heap.size ≤ g1
  a1 : w.heap.size ≤ g2
  a2 : g1 < g4
  a3 : g2 < g4
  a4 : g4 < B
section
variable {w : World} {g1 g2 g4 B : Nat} {p : List Int} {K : Int} {W W' : World} {u v : Value} {L : List (Int × Int)}
end

end Go.Proofs.Ytmkinaijkgkgiaa
