/- Texts H5, H6, Shi, H7, H8 of the proof of PruneBack, one behind the other. -/
import Derived.Shelf.SlIterI.Nil
import Derived.Shelf.SortM.Plain
import Derived.Shelf.SortM.SortNone
import Derived.Test.YtmkinaijkgkgiaaGreatBundlePruneBack1
import Derived.Test.YtmkinaijkgkgiaaGreatBundlePruneBack2
import Derived.Test.YtmkinaijkgkgiaaGreatBundlePruneBack3
import Derived.Test.YtmkinaijkgkgiaaGreatBundlePruneBack4
import Derived.Test.YtmkinaijkgkgiaaGreatBundlePruneBack5
import Derived.Test.YtmkinaijkgkgiaaGreatBundlePruneBack6
import Derived.Test.YtmkinaijkgkgiaaGreatBundlePruneBack7
import Derived.Test.YtmkinaijkgkgiaaGreatBundlePruneBack8
import Derived.Test.YtmkinaijkgkgiaaGreatBundlePruneBack9
import Derived.Test.YtmkinaijkgkgiaaGreatBundlePruneBack10
import Derived.Test.YtmkinaijkgkgiaaGreatBundlePruneBack11
import Derived.Test.YtmkinaijkgkgiaaGreatBundlePruneBack12
/- A store: Make, Drop. -/
namespace Go.Proofs.YtmkinaijkgkgiaaGreat
open Go.RowKit Go.Proofs.U Go.Shelf
set_option linter.unusedSimpArgs false
set_option linter.unusedVariables false
theorem eg_lacks : ∀ args w, (callFunc 48 args).run Tryz.prog w = .ok (.enter 48 args) w := enters_of Tryz.func48 (by kernel_rfl) rfl
theorem eg_hold : ∀ args w, (callFunc 51 args).run Tryz.prog w = .ok (.enter 51 args) w := enters_of Tryz.func51 (by kernel_rfl) rfl
theorem eg_drop : ∀ args w, (callFunc 36 args).run Tryz.prog w = .ok (.enter 36 args) w := enters_of Tryz.func36 (by kernel_rfl) rfl
theorem contains_lacks {F : Nat → Prop} {gs gp : Nat} {X : DSt} {L : List Pg} {m : Nat} (u : Value) (l : List Int) (hl : l.length ≤ 1000000) (w : World) (h : Sto w F gs gp X L m) (hu : SlI .i64 w u l) :
    Calls Tryz.prog 47 #[u, .func (.func 48) #[ptr gs] #[]] w fun r w' => r = .returned (.bool (l.any fun p => !plHeld L p)) ∧ w = w' :=
  containsFunc_any (fun p => !plHeld L p) 48 #[ptr gs] #[] eg_lacks u l w hu hl (fun x hx => lacks_any x w h)
theorem each_hold {gp : Nat} {L : List Pg} (u : Value) (l : List Int) (hl : l.length ≤ 1000000) (w : World) (h : PoolB w gp L) (ho : plOk L) (hu : SlI .i64 w u l) (hg : ∀ k, u.ownBlock = some k → k ≠ gp) :
    Calls Tryz.prog 50 #[u, .func (.func 51) #[ptr gp] #[]] w fun r w' => r = .returned (.int .i64 (eachF plHold L l).2) ∧ PoolB w' gp (eachF plHold L l).1 ∧ Fr (onB1 gp) w w' := by
  refine (each_any plHold (fun M W => PoolB W gp M ∧ plOk M ∧ SlI .i64 W u l ∧ Fr (onB1 gp) w W) 51 #[ptr gp] #[] eg_hold u l hl (fun _ _ h => h.2.2.1) (fun M W x hx hI => ?_) L w ⟨h, ho, hu, Fr.refl _ _⟩).mono ?_
  · refine (phold_any hI.2.1 gp x W hI.1).mono ?_
    rintro e w1 ⟨rfl, b1, f1⟩
    exact ⟨rfl, b1, hold_ok hI.2.1 x, hI.2.2.1.fr f1 (fun k hk q => hg k hk q), hI.2.2.2.trans f1⟩
  · rintro e w1 ⟨rfl, b1, _, _, f1⟩
    exact ⟨rfl, b1, f1⟩
theorem kids_len {w : World} {v : Value} {n : Nd} (h : NdS w v n) : (kids n).length ≤ 1000 := by unfold kids; rw [List.length_map]; exact h.2.2.1
theorem eachHold_len (l : List Int) (L : List Pg) : (eachF plHold L l).1.length = L.length := eachF_inv (I := fun M => M.length = L.length) (fun M p h => by rw [hold_len]; exact h) l L rfl
theorem eachHold_ok (l : List Int) {L : List Pg} (h : plOk L) : plOk (eachF plHold L l).1 := eachF_inv (I := plOk) (fun M p h => hold_ok h p) l L h
set_option maxRecDepth 100000 in
set_option maxHeartbeats 1000000 in
theorem make_no {F : Nat → Prop} {gs gp : Nat} {X : DSt} {L : List Pg} {m : Nat} (n : Nd) (vs : Value) (w : World) (h : Sto w F gs gp X L m) (hn : NdS w vs n) (hr : n.right = false) :
    Calls Tryz.prog 29 #[ptr gs, ndV n.k n.b vs] w fun r w' => r = .returned (.tuple #[.int .i64 (-1), .int .i64 81]) ∧ Sto w' F gs gp X L m ∧ Fr noB w w' := by
  have hP := fun W (f : Fr noB w W) => page_no n vs W (hn.fr0 f) hr
  have hbl := NdS.bl hn
  obtain ⟨Z, HZ⟩ : ∃ Z, Hid (zerB 256 = Z) := ⟨_, rfl⟩
  have hZl : Hid (Z.length = 256) := by show _ = _; rw [← HZ.out]; exact zerB_len 256
  rw [HZ.out] at hP
  go_enter Tryz.func29, Tryz.ntmps29
  go_wp2_with (first
    | (with_reducible refine at_wpP ?_; refine wpList_boxN rfl _ rfl n.k n.b vs rfl ?_; intro g1 w1 hg1 b1 f1 s1; have l1 := b1.lt; have z1 := f1.size)
    | (with_reducible refine at_wpP ?_; refine at_ld 72 _ rfl ?_; go_must (refine wpList_ldN rfl _ rfl g1 rfl n.k n.b vs b1 hbl.out ?_))
    | (go_at_call 45; go_must (refine (hP _ f1).mono ?_; rintro e w2 ⟨rfl, f2⟩; have z2 := f2.size))
    | (with_reducible refine at_wpP ?_; refine wpList_allocA arr_page rfl rfl ?_; rw [HZ.out]; intro g3 w3 hg3 b3 f3 s3; have l3 := b3.lt; have z3 := f3.size)
    | (with_reducible refine at_wpP ?_; refine at_st 96 _ _ rfl ?_; go_must (refine wpList_storeA arr_page rfl _ _ rfl g3 rfl Z rfl _ b3 hZl.out hZl.out ?_; intro w4 b4 f4; have z4 := f4.size; have F4 : Fr noB w2 w4 := Fr.ownX f3 s3 f4)))
  go_ret2
  have F := (f1.thenN f2).thenN F4
  exact ⟨rfl, h.fr0 F, F⟩
set_option maxRecDepth 100000 in
set_option maxHeartbeats 1000000 in
theorem make_lack {F : Nat → Prop} {gs gp : Nat} {X : DSt} {L : List Pg} {m : Nat} (n : Nd) (vs : Value) (w : World) (h : Sto w F gs gp X L m) (hn : NdS w vs n) (hr : n.right = true) (ha : (kids n).any (fun p => !plHeld L p) = true) :
    Calls Tryz.prog 29 #[ptr gs, ndV n.k n.b vs] w fun r w' => r = .returned (.tuple #[.int .i64 (-1), .int .i64 73]) ∧ Sto w' F gs gp X L m ∧ Fr noB w w' := by
  have hP := fun W (f : Fr noB w W) => page_ok n vs W (hn.fr0 f) hr
  have hC := fun W (f : Fr noB w W) => children_any n vs W (hn.fr0 f)
  have hkl := kids_len hn
  have hL := fun (u : Value) W (f : Fr noB w W) (hu : SlI .i64 W u (kids n)) => contains_lacks u (kids n) (by omega) W (h.fr0 f) hu
  rw [ha] at hL
  have hbl := NdS.bl hn
  have hpl := show Hid _ from page_len hr hbl.out
  obtain ⟨K, HK⟩ : ∃ K, Hid (kids n = K) := ⟨_, rfl⟩
  rw [HK.out] at hC hL
  obtain ⟨P, HP⟩ : ∃ P, Hid (n.page = P) := ⟨_, rfl⟩
  rw [HP.out] at hP hpl
  obtain ⟨Z, HZ⟩ : ∃ Z, Hid (zerB 256 = Z) := ⟨_, rfl⟩
  have hZl : Hid (Z.length = 256) := by show _ = _; rw [← HZ.out]; exact zerB_len 256
  go_enter Tryz.func29, Tryz.ntmps29
  go_wp2_with (first
    | (with_reducible refine at_wpP ?_; refine wpList_boxN rfl _ rfl n.k n.b vs rfl ?_; intro g1 w1 hg1 b1 f1 s1; have l1 := b1.lt; have z1 := f1.size)
    | (with_reducible refine at_wpP ?_; refine at_ld 72 _ rfl ?_; have q := b4; go_must (refine wpList_ldN rfl _ rfl g1 rfl n.k n.b vs ((b1.fr0 f2).fr0 F4) hbl.out ?_))
    | (with_reducible refine at_wpP ?_; refine at_ld 72 _ rfl ?_; refine wpList_ldN rfl _ rfl g1 rfl n.k n.b vs b1 hbl.out ?_)
    | (go_at_call 45; go_must (refine (hP _ f1).mono ?_; rintro e w2 ⟨rfl, f2⟩; have z2 := f2.size))
    | (with_reducible refine at_wpP ?_; refine wpList_allocA arr_page rfl rfl ?_; rw [HZ.out]; intro g3 w3 hg3 b3 f3 s3; have l3 := b3.lt; have z3 := f3.size)
    | (with_reducible refine at_wpP ?_; refine at_st 96 _ _ rfl ?_; go_must (refine wpList_storeA arr_page rfl _ _ rfl g3 rfl P rfl _ b3 hpl.out hZl.out ?_; intro w4 b4 f4; have z4 := f4.size; have F4 : Fr noB w2 w4 := Fr.ownX f3 s3 f4; have G4 : Fr noB w w4 := (f1.thenN f2).thenN F4))
    | (go_at_call 46; go_must (refine (hC _ G4).mono ?_; rintro e w5 ⟨u, rfl, o5, u5, f5⟩; have z5 := f5.size; have G5 := G4.thenN f5))
    | (go_at_call 47; go_must (refine (hL _ _ G5 u5).mono ?_; rintro e w6 ⟨rfl, rfl⟩)))
  go_ret2
  exact ⟨rfl, h.fr0 G5, G5⟩
end Go.Proofs.YtmkinaijkgkgiaaGreat
/- A store: Make; Drop. (Written by h6_gen.py.) -/
namespace Go.Proofs.YtmkinaijkgkgiaaGreat
open Go.RowKit Go.Proofs.U Go.Shelf
set_option linter.unusedSimpArgs false
set_option linter.unusedVariables false
set_option maxRecDepth 100000 in
set_option maxHeartbeats 1000000 in
theorem make_full {F : Nat → Prop} {gs gp : Nat} {X : DSt} {L : List Pg} {m : Nat} (n : Nd) (vs : Value) (w : World) (h : Sto w F gs gp X L m) (hm : m ≤ 100000) (hn : NdS w vs n) (hr : n.right = true) (ha : (kids n).any (fun p => !plHeld L p) = false) (hT : ¬ (plTake L).2.2 = 0) :
    Calls Tryz.prog 29 #[ptr gs, ndV n.k n.b vs] w fun r w' => r = .returned (.tuple #[.int .i64 (-1), .int .i64 (plTake L).2.2]) ∧ LayIs w w' F gs gp (X, (plTake L).1) m := by
  have hP := fun W (f : Fr noB w W) => page_ok n vs W (hn.fr0 f) hr
  have hC := fun W (f : Fr noB w W) => children_any n vs W (hn.fr0 f)
  have hkl := kids_len hn
  have hL := fun (u : Value) W (f : Fr noB w W) (hu : SlI .i64 W u (kids n)) => contains_lacks u (kids n) (by omega) W (h.fr0 f) hu
  rw [ha] at hL
  have hbl := NdS.bl hn
  have hpl := show Hid _ from page_len hr hbl.out
  have hpb := page_byt hr hn.2.1
  have hY := fun W (f : Fr noB w W) => lay_no n.page hpl.out W (h.fr0 f) hT
  obtain ⟨R, HR⟩ : ∃ R, Hid (plTake L = R) := ⟨_, rfl⟩
  rw [HR.out] at hY hT ⊢
  obtain ⟨K, HK⟩ : ∃ K, Hid (kids n = K) := ⟨_, rfl⟩
  rw [HK.out] at hC hL hkl 
  obtain ⟨P, HP⟩ : ∃ P, Hid (n.page = P) := ⟨_, rfl⟩
  rw [HP.out] at hP hpl hY 
  obtain ⟨Z, HZ⟩ : ∃ Z, Hid (zerB 256 = Z) := ⟨_, rfl⟩
  have hZl : Hid (Z.length = 256) := by show _ = _; rw [← HZ.out]; exact zerB_len 256
  go_enter Tryz.func29, Tryz.ntmps29
  go_wp2_with (first
    | (with_reducible refine at_wpP ?_; refine wpList_boxN rfl _ rfl n.k n.b vs rfl ?_; intro g1 w1 hg1 b1 f1 s1; have l1 := b1.lt; have z1 := f1.size)
    | (with_reducible refine at_wpP ?_; refine at_ld 72 _ rfl ?_; have q := b4; go_must (refine wpList_ldN rfl _ rfl g1 rfl n.k n.b vs ((b1.fr0 f2).fr0 F4) hbl.out ?_))
    | (with_reducible refine at_wpP ?_; refine at_ld 72 _ rfl ?_; refine wpList_ldN rfl _ rfl g1 rfl n.k n.b vs b1 hbl.out ?_)
    | (go_at_call 45; go_must (refine (hP _ f1).mono ?_; rintro e w2 ⟨rfl, f2⟩; have z2 := f2.size))
    | (with_reducible refine at_wpP ?_; refine wpList_allocA arr_page rfl rfl ?_; rw [HZ.out]; intro g3 w3 hg3 b3 f3 s3; have l3 := b3.lt; have z3 := f3.size)
    | (with_reducible refine at_wpP ?_; refine at_st 96 _ _ rfl ?_; go_must (refine wpList_storeA arr_page rfl _ _ rfl g3 rfl P rfl _ b3 hpl.out hZl.out ?_; intro w4 b4 f4; have z4 := f4.size; have F4 : Fr noB w2 w4 := Fr.ownX f3 s3 f4; have G4 : Fr noB w w4 := (f1.thenN f2).thenN F4))
    | (go_at_call 46; go_must (refine (hC _ G4).mono ?_; rintro e w5 ⟨u, rfl, o5, u5, f5⟩; have z5 := f5.size; have G5 := G4.thenN f5; have nb5 := o5.newB; have lp5 := h.ltp; have zz5 := G4.size))
    | (go_at_call 47; go_must (refine (hL _ _ G5 u5).mono ?_; rintro e w6 ⟨rfl, rfl⟩))
    | (with_reducible refine at_wpP ?_; refine at_ld 96 _ rfl ?_; go_must (refine wpList_loadA arr_page rfl _ rfl g3 rfl P (b4.fr0 f5) hpl.out ?_))
    | (go_at_call 49; go_must (refine (hY _ G5).mono ?_; rintro e w7 ⟨rfl, F', S7, g7, f7⟩; have z7 := f7.size; obtain ⟨gd, q0, q1, _⟩ := S7.cells)))
  go_ret2
  exact ⟨rfl, F', S7, fun k hk => ⟨(g7 k hk).1.imp id (fun q => by have := G5.size; omega), (g7 k hk).2⟩, (G5.mono (fun _ _ q => q.elim)).thenT f7 (fun i hi q => q)⟩
set_option maxRecDepth 100000 in
set_option maxHeartbeats 1000000 in
theorem make_yes {F : Nat → Prop} {gs gp : Nat} {X : DSt} {L : List Pg} {m : Nat} (n : Nd) (vs : Value) (w : World) (h : Sto w F gs gp X L m) (hm : m ≤ 100000) (hn : NdS w vs n) (hr : n.right = true) (ha : (kids n).any (fun p => !plHeld L p) = false) (hT : (plTake L).2.2 = 0) (he : (eachF plHold (plTake L).1 (kids n)).2 = 0) :
    Calls Tryz.prog 29 #[ptr gs, ndV n.k n.b vs] w fun r w' => r = .returned (.tuple #[.int .i64 (plTake L).2.1, .int .i64 0]) ∧ LayIs w w' F gs gp (X.write ((plTake L).2.1 + 4) n.page, (eachF plHold (plTake L).1 (kids n)).1) (m + 1) := by
  have hP := fun W (f : Fr noB w W) => page_ok n vs W (hn.fr0 f) hr
  have hC := fun W (f : Fr noB w W) => children_any n vs W (hn.fr0 f)
  have hkl := kids_len hn
  have hL := fun (u : Value) W (f : Fr noB w W) (hu : SlI .i64 W u (kids n)) => contains_lacks u (kids n) (by omega) W (h.fr0 f) hu
  rw [ha] at hL
  have hbl := NdS.bl hn
  have hpl := show Hid _ from page_len hr hbl.out
  have hpb := page_byt hr hn.2.1
  have hY := fun W (f : Fr noB w W) => lay_yes n.page hpl.out hpb W (h.fr0 f) hm hT
  have ho := take_ok h.ok
  have hE := fun (u : Value) W (b : PoolB W gp (plTake L).1) (hu : SlI .i64 W u (kids n)) (hg : ∀ k, u.ownBlock = some k → k ≠ gp) => each_hold u (kids n) (by omega) W b ho hu hg
  have ho2 := eachHold_ok (kids n) ho
  have hn2 := show Hid _ from eachHold_len (kids n) (plTake L).1
  obtain ⟨R, HR⟩ : ∃ R, Hid (plTake L = R) := ⟨_, rfl⟩
  rw [HR.out] at hY hT hE ho he ho2 hn2 ⊢
  obtain ⟨K, HK⟩ : ∃ K, Hid (kids n = K) := ⟨_, rfl⟩
  rw [HK.out] at hC hL hkl hE he ho2 hn2 ⊢
  obtain ⟨P, HP⟩ : ∃ P, Hid (n.page = P) := ⟨_, rfl⟩
  rw [HP.out] at hP hpl hY ⊢
  obtain ⟨Z, HZ⟩ : ∃ Z, Hid (zerB 256 = Z) := ⟨_, rfl⟩
  have hZl : Hid (Z.length = 256) := by show _ = _; rw [← HZ.out]; exact zerB_len 256
  obtain ⟨R1, i, e0⟩ := R
  simp only at hY hT hE ho he ho2 hn2 ⊢
  subst hT
  obtain ⟨V, HV⟩ : ∃ V, Hid (eachF plHold R1 K = V) := ⟨_, rfl⟩
  rw [HV.out] at hE he ho2 hn2 ⊢
  obtain ⟨V1, e1⟩ := V
  simp only at hE he ho2 hn2 ⊢
  subst he
  obtain ⟨Y, HY⟩ : ∃ Y, Hid (X.write (i + 4) P = Y) := ⟨_, rfl⟩
  rw [HY.out] at hY ⊢
  go_enter Tryz.func29, Tryz.ntmps29
  go_wp2_with (first
    | (with_reducible refine at_wpP ?_; refine wpList_boxN rfl _ rfl n.k n.b vs rfl ?_; intro g1 w1 hg1 b1 f1 s1; have l1 := b1.lt; have z1 := f1.size)
    | (with_reducible refine at_wpP ?_; refine at_ld 72 _ rfl ?_; have q := b4; go_must (refine wpList_ldN rfl _ rfl g1 rfl n.k n.b vs ((b1.fr0 f2).fr0 F4) hbl.out ?_))
    | (with_reducible refine at_wpP ?_; refine at_ld 72 _ rfl ?_; refine wpList_ldN rfl _ rfl g1 rfl n.k n.b vs b1 hbl.out ?_)
    | (go_at_call 45; go_must (refine (hP _ f1).mono ?_; rintro e w2 ⟨rfl, f2⟩; have z2 := f2.size))
    | (with_reducible refine at_wpP ?_; refine wpList_allocA arr_page rfl rfl ?_; rw [HZ.out]; intro g3 w3 hg3 b3 f3 s3; have l3 := b3.lt; have z3 := f3.size)
    | (with_reducible refine at_wpP ?_; refine at_st 96 _ _ rfl ?_; go_must (refine wpList_storeA arr_page rfl _ _ rfl g3 rfl P rfl _ b3 hpl.out hZl.out ?_; intro w4 b4 f4; have z4 := f4.size; have F4 : Fr noB w2 w4 := Fr.ownX f3 s3 f4; have G4 : Fr noB w w4 := (f1.thenN f2).thenN F4))
    | (go_at_call 46; go_must (refine (hC _ G4).mono ?_; rintro e w5 ⟨u, rfl, o5, u5, f5⟩; have z5 := f5.size; have G5 := G4.thenN f5; have nb5 := o5.newB; have lp5 := h.ltp; have zz5 := G4.size))
    | (go_at_call 47; go_must (refine (hL _ _ G5 u5).mono ?_; rintro e w6 ⟨rfl, rfl⟩))
    | (with_reducible refine at_wpP ?_; refine at_ld 96 _ rfl ?_; go_must (refine wpList_loadA arr_page rfl _ rfl g3 rfl P (b4.fr0 f5) hpl.out ?_))
    | (go_at_call 49; go_must (refine (hY _ G5).mono ?_; rintro e w7 ⟨rfl, F', S7, g7, f7⟩; have z7 := f7.size; obtain ⟨gd, q0, q1, _⟩ := S7.cells))
    | (go_at_call 50; go_must (refine (hE u _ S7.pl ?hu7 ?hg7).mono ?_; rotate_left 2; rintro e w8 ⟨rfl, b8, f8⟩)))
  case hu7 =>
    refine u5.fr f7 (fun k hk q => ?_)
    have := nb5 k hk
    unfold stB at q
    rcases q with q | q
    · have := h.ft k q; omega
    · omega
  case hg7 =>
    intro k hk e
    have := nb5 k hk
    omega
  go_ret2
  have S8 := S7.pool f8 b8 ho2 hn2.out
  exact ⟨rfl, F', S8, fun k hk => ⟨(g7 k hk).1.imp id (fun q => by have := G5.size; omega), by have := (g7 k hk).2; have := f8.size; omega⟩, ((G5.mono (fun _ _ q => q.elim)).thenT f7 (fun i hi q => q)).thenT f8 (fun i hi q => Or.inr q)⟩
set_option maxRecDepth 100000 in
set_option maxHeartbeats 1000000 in
theorem make_cut {F : Nat → Prop} {gs gp : Nat} {X : DSt} {L : List Pg} {m : Nat} (n : Nd) (vs : Value) (w : World) (h : Sto w F gs gp X L m) (hm : m ≤ 100000) (hn : NdS w vs n) (hr : n.right = true) (ha : (kids n).any (fun p => !plHeld L p) = false) (hT : (plTake L).2.2 = 0) (he : ¬ (eachF plHold (plTake L).1 (kids n)).2 = 0) :
    Calls Tryz.prog 29 #[ptr gs, ndV n.k n.b vs] w fun r w' => r = .returned (.tuple #[.int .i64 (-1), .int .i64 (eachF plHold (plTake L).1 (kids n)).2]) ∧ LayIs w w' F gs gp (X.write ((plTake L).2.1 + 4) n.page, (eachF plHold (plTake L).1 (kids n)).1) (m + 1) := by
  have hP := fun W (f : Fr noB w W) => page_ok n vs W (hn.fr0 f) hr
  have hC := fun W (f : Fr noB w W) => children_any n vs W (hn.fr0 f)
  have hkl := kids_len hn
  have hL := fun (u : Value) W (f : Fr noB w W) (hu : SlI .i64 W u (kids n)) => contains_lacks u (kids n) (by omega) W (h.fr0 f) hu
  rw [ha] at hL
  have hbl := NdS.bl hn
  have hpl := show Hid _ from page_len hr hbl.out
  have hpb := page_byt hr hn.2.1
  have hY := fun W (f : Fr noB w W) => lay_yes n.page hpl.out hpb W (h.fr0 f) hm hT
  have ho := take_ok h.ok
  have hE := fun (u : Value) W (b : PoolB W gp (plTake L).1) (hu : SlI .i64 W u (kids n)) (hg : ∀ k, u.ownBlock = some k → k ≠ gp) => each_hold u (kids n) (by omega) W b ho hu hg
  have ho2 := eachHold_ok (kids n) ho
  have hn2 := show Hid _ from eachHold_len (kids n) (plTake L).1
  obtain ⟨R, HR⟩ : ∃ R, Hid (plTake L = R) := ⟨_, rfl⟩
  rw [HR.out] at hY hT hE ho he ho2 hn2 ⊢
  obtain ⟨K, HK⟩ : ∃ K, Hid (kids n = K) := ⟨_, rfl⟩
  rw [HK.out] at hC hL hkl hE he ho2 hn2 ⊢
  obtain ⟨P, HP⟩ : ∃ P, Hid (n.page = P) := ⟨_, rfl⟩
  rw [HP.out] at hP hpl hY ⊢
  obtain ⟨Z, HZ⟩ : ∃ Z, Hid (zerB 256 = Z) := ⟨_, rfl⟩
  have hZl : Hid (Z.length = 256) := by show _ = _; rw [← HZ.out]; exact zerB_len 256
  obtain ⟨R1, i, e0⟩ := R
  simp only at hY hT hE ho he ho2 hn2 ⊢
  subst hT
  obtain ⟨V, HV⟩ : ∃ V, Hid (eachF plHold R1 K = V) := ⟨_, rfl⟩
  rw [HV.out] at hE he ho2 hn2 ⊢
  obtain ⟨V1, e1⟩ := V
  simp only at hE he ho2 hn2 ⊢
  obtain ⟨Y, HY⟩ : ∃ Y, Hid (X.write (i + 4) P = Y) := ⟨_, rfl⟩
  rw [HY.out] at hY ⊢
  go_enter Tryz.func29, Tryz.ntmps29
  go_wp2_with (first
    | (with_reducible refine at_wpP ?_; refine wpList_boxN rfl _ rfl n.k n.b vs rfl ?_; intro g1 w1 hg1 b1 f1 s1; have l1 := b1.lt; have z1 := f1.size)
    | (with_reducible refine at_wpP ?_; refine at_ld 72 _ rfl ?_; have q := b4; go_must (refine wpList_ldN rfl _ rfl g1 rfl n.k n.b vs ((b1.fr0 f2).fr0 F4) hbl.out ?_))
    | (with_reducible refine at_wpP ?_; refine at_ld 72 _ rfl ?_; refine wpList_ldN rfl _ rfl g1 rfl n.k n.b vs b1 hbl.out ?_)
    | (go_at_call 45; go_must (refine (hP _ f1).mono ?_; rintro e w2 ⟨rfl, f2⟩; have z2 := f2.size))
    | (with_reducible refine at_wpP ?_; refine wpList_allocA arr_page rfl rfl ?_; rw [HZ.out]; intro g3 w3 hg3 b3 f3 s3; have l3 := b3.lt; have z3 := f3.size)
    | (with_reducible refine at_wpP ?_; refine at_st 96 _ _ rfl ?_; go_must (refine wpList_storeA arr_page rfl _ _ rfl g3 rfl P rfl _ b3 hpl.out hZl.out ?_; intro w4 b4 f4; have z4 := f4.size; have F4 : Fr noB w2 w4 := Fr.ownX f3 s3 f4; have G4 : Fr noB w w4 := (f1.thenN f2).thenN F4))
    | (go_at_call 46; go_must (refine (hC _ G4).mono ?_; rintro e w5 ⟨u, rfl, o5, u5, f5⟩; have z5 := f5.size; have G5 := G4.thenN f5; have nb5 := o5.newB; have lp5 := h.ltp; have zz5 := G4.size))
    | (go_at_call 47; go_must (refine (hL _ _ G5 u5).mono ?_; rintro e w6 ⟨rfl, rfl⟩))
    | (with_reducible refine at_wpP ?_; refine at_ld 96 _ rfl ?_; go_must (refine wpList_loadA arr_page rfl _ rfl g3 rfl P (b4.fr0 f5) hpl.out ?_))
    | (go_at_call 49; go_must (refine (hY _ G5).mono ?_; rintro e w7 ⟨rfl, F', S7, g7, f7⟩; have z7 := f7.size; obtain ⟨gd, q0, q1, _⟩ := S7.cells))
    | (go_at_call 50; go_must (refine (hE u _ S7.pl ?hu7 ?hg7).mono ?_; rotate_left 2; rintro e w8 ⟨rfl, b8, f8⟩)))
  case hu7 =>
    refine u5.fr f7 (fun k hk q => ?_)
    have := nb5 k hk
    unfold stB at q
    rcases q with q | q
    · have := h.ft k q; omega
    · omega
  case hg7 =>
    intro k hk e
    have := nb5 k hk
    omega
  go_ret2
  have S8 := S7.pool f8 b8 ho2 hn2.out
  exact ⟨rfl, F', S8, fun k hk => ⟨(g7 k hk).1.imp id (fun q => by have := G5.size; omega), by have := (g7 k hk).2; have := f8.size; omega⟩, ((G5.mono (fun _ _ q => q.elim)).thenT f7 (fun i hi q => q)).thenT f8 (fun i hi q => Or.inr q)⟩
theorem LayIs.of {w w' : World} {F : Nat → Prop} {gs gp : Nat} {X : DSt} {L : List Pg} {m m' : Nat} (h : Sto w' F gs gp X L m) (f : Fr noB w w') (hm : m ≤ m') : LayIs w w' F gs gp (X, L) m' :=
  ⟨F, h.mono hm, fun k hk => ⟨Or.inl hk, h.ft k hk⟩, f.mono (fun _ _ q => q.elim)⟩
theorem LayIs.mono {w w' : World} {F : Nat → Prop} {gs gp : Nat} {S : DSt × List Pg} {m m' : Nat} (h : LayIs w w' F gs gp S m) (hm : m ≤ m') : LayIs w w' F gs gp S m' := by
  obtain ⟨F', s, g, f⟩ := h
  exact ⟨F', s.mono hm, g, f⟩
theorem make_any {F : Nat → Prop} {gs gp : Nat} {X : DSt} {L : List Pg} {m : Nat} (n : Nd) (vs : Value) (w : World) (h : Sto w F gs gp X L m) (hm : m ≤ 100000) (hn : NdS w vs n) :
    Calls Tryz.prog 29 #[ptr gs, ndV n.k n.b vs] w fun r w' => r = .returned (.tuple #[.int .i64 (makeF X L n).2.1, .int .i64 (makeF X L n).2.2]) ∧ LayIs w w' F gs gp (makeF X L n).1 (m + 1) := by
  unfold makeF
  cases hr : n.right with
  | false =>
    refine (make_no n vs w h hn hr).mono ?_
    rintro e w' ⟨rfl, s, f⟩
    exact ⟨rfl, LayIs.of s f (by omega)⟩
  | true =>
    simp only [if_true]
    cases ha : (kids n).any (fun p => !plHeld L p) with
    | true =>
      refine (make_lack n vs w h hn hr ha).mono ?_
      rintro e w' ⟨rfl, s, f⟩
      exact ⟨rfl, LayIs.of s f (by omega)⟩
    | false =>
      simp only [Bool.false_eq_true, if_false]
      by_cases hT : (plTake L).2.2 = 0
      · rw [if_pos hT]
        by_cases he : (eachF plHold (plTake L).1 (kids n)).2 = 0
        · rw [if_pos he]; exact make_yes n vs w h hm hn hr ha hT he
        · rw [if_neg he]; exact make_cut n vs w h hm hn hr ha hT he
      · rw [if_neg hT]
        refine (make_full n vs w h hm hn hr ha hT).mono ?_
        rintro e w' ⟨rfl, s⟩
        exact ⟨rfl, s.mono (by omega)⟩
theorem dropF_succ {X : DSt} {n : Nat} {L L1 : List Pg} {p e : Int} {b : Bool} (hd : plDrop L p = (L1, b, e)) : dropF X (n + 1) L p = if b then (if (rdN X p).2 = 0 then eachF (dropF X n) L1 (kids (rdN X p).1) else (L1, (rdN X p).2)) else (L1, e) := by
  rw [dropF, hd]
set_option maxRecDepth 100000 in
set_option maxHeartbeats 1000000 in
theorem ndrop_any {F : Nat → Prop} {gs gp : Nat} {X : DSt} {m : Nat} (hm : m ≤ 100000) : ∀ (n : Nat) (L : List Pg) (p : Int) (w : World), muL L < n → Sto w F gs gp X L m →
    Calls Tryz.prog 36 #[ptr gs, .int .i64 p] w fun r w' => r = .returned (.int .i64 (dropF X n L p).2) ∧ Sto w' F gs gp X (dropF X n L p).1 m ∧ Fr (onB1 gp) w w' := by
  intro n
  induction n with
  | zero => intro L p w h; omega
  | succ n ih =>
    intro L p w hmu h
    obtain ⟨gd, k0, k1, hd⟩ := h.cells
    obtain ⟨L1, b, e, hdr⟩ : ∃ L1 b e, plDrop L p = (L1, b, e) := ⟨_, _, _, rfl⟩
    have hD := pdrop_any h.ok gp p w h.pl
    have ho := drop_ok h.ok p
    have hl := show Hid _ from drop_len L p
    have hM := drop_mu h.ok hdr
    rw [dropF_succ hdr]
    rw [hdr] at hD ho hl
    simp only at hD ho hl
    clear hdr
    cases b with
    | false =>
      simp only [Bool.false_eq_true, if_false]
      go_enter Tryz.func36, Tryz.ntmps36
      go_wp2_with (first
        | (go_at_call 59; go_must (refine hD.mono ?_; rintro e w1 ⟨rfl, b1, f1⟩)))
      go_ret
      exact ⟨rfl, h.pool f1 b1 ho hl.out, f1⟩
    | true =>
      obtain ⟨rfl, hlt, hp0, hp1⟩ := hM.2 rfl
      have hmu1 : muL L1 < n := by omega
      clear hM hlt hmu
      simp only [if_true]
      have hR := fun W (s : Sto W F gs gp X L1 m) => nread_any p hp0 (by rw [hl.out]; exact hp1) W s hm
      obtain ⟨R, HR⟩ : ∃ R, Hid (rdN X p = R) := ⟨_, rfl⟩
      rw [HR.out] at hR ⊢
      by_cases hr0 : R.2 = 0
      · rw [if_pos hr0]
        obtain ⟨N, e0⟩ := R
        simp only at hr0
        subst hr0
        simp only at hR ⊢
        have hC := fun v W (hn : NdS W v N) => children_any N v W hn
        have hE := fun (u : Value) (W : World) (hK : (kids N).length ≤ 1000) (s : Sto W F gs gp X L1 m) (hu : SlI .i64 W u (kids N)) (hg : ∀ k, u.ownBlock = some k → k ≠ gp) =>
          each_any (dropF X n) (fun M V => Sto V F gs gp X M m ∧ muL M < n ∧ SlI .i64 V u (kids N) ∧ Fr (onB1 gp) W V) 36 #[ptr gs] #[] eg_drop u (kids N) (by omega) (fun _ _ h => h.2.2.1) (fun M V x hx hI => by
            refine (ih M x V hI.2.1 hI.1).mono ?_
            rintro e w1 ⟨rfl, s1, f1⟩
            exact ⟨rfl, s1, Nat.lt_of_le_of_lt (dropF_mu n x hI.1.ok) hI.2.1, hI.2.2.1.fr f1 (fun k hk q => hg k hk q), hI.2.2.2.trans f1⟩) L1 W ⟨s, hmu1, hu, Fr.refl _ _⟩
        clear ih
        obtain ⟨K, HK⟩ : ∃ K, Hid (kids N = K) := ⟨_, rfl⟩
        have hkl := fun v W (hn : NdS W v N) => kids_len hn
        rw [HK.out] at hC hE hkl ⊢
        obtain ⟨V, HV⟩ : ∃ V, Hid (eachF (dropF X n) L1 K = V) := ⟨_, rfl⟩
        rw [HV.out] at hE ⊢
        go_enter Tryz.func36, Tryz.ntmps36
        go_wp2_with (first
          | (go_at_call 59; go_must (refine hD.mono ?_; rintro e w1 ⟨rfl, b1, f1⟩; have z1 := f1.size; have S1 := h.pool f1 b1 ho hl.out))
          | (go_at_call 60; go_must (refine (hR _ S1).mono ?_; rintro e w2 ⟨v, rfl, n2, o2, f2⟩; have z2 := f2.size; have hv := NdS.sl n2; have hbl := NdS.bl n2))
          | (with_reducible refine at_wpP ?_; refine wpList_allocN rfl rfl ?_; intro g3 w3 hg3 b3 f3 s3; have l3 := b3.lt; have z3 := f3.size)
          | (with_reducible refine at_wpP ?_; refine at_st 72 _ _ rfl ?_; have q := n2; go_must (refine wpList_stN rfl _ _ rfl g3 rfl N.k N.b v rfl hbl.out hv 0 (zerB 16) nilS b3 (zerB_len 16) ?_; intro w4 b4 f4; have z4 := f4.size; have F4 : Fr noB w2 w4 := Fr.ownX f3 s3 f4; have n4 := n2.fr0 F4; have hk := hkl _ _ n2))
          | (with_reducible refine at_wpP ?_; refine at_ld 72 _ rfl ?_; go_must (refine wpList_ldN rfl _ rfl g3 rfl N.k N.b v b4 hbl.out ?_))
          | (go_at_call 46; go_must (refine (hC _ _ n4).mono ?_; rintro e w5 ⟨u, rfl, o5, u5, f5⟩; have z5 := f5.size; have S5 := ((S1.fr0 f2).fr0 F4).fr0 f5; have nb5 := o5.newB; have lp := S1.ltp))
          | (go_at_call 50; go_must (refine (hE u _ hk S5 u5 ?hg5).mono ?_; rotate_left 1; rintro e w6 ⟨rfl, s6, _, _, f6⟩)))
        case hg5 =>
          intro k hk e
          have := nb5 k hk
          omega
        go_ret
        exact ⟨rfl, s6, (((f1.thenN f2).thenN F4).thenN f5).trans f6⟩
      · rw [if_neg hr0]
        go_enter Tryz.func36, Tryz.ntmps36
        go_wp2_with (first
          | (go_at_call 59; go_must (refine hD.mono ?_; rintro e w1 ⟨rfl, b1, f1⟩; have z1 := f1.size; have S1 := h.pool f1 b1 ho hl.out))
          | (go_at_call 60; go_must (refine (hR _ S1).mono ?_; rintro e w2 ⟨v, rfl, n2, o2, f2⟩; have z2 := f2.size; have hv := NdS.sl n2; have hbl := NdS.bl n2))
          | (with_reducible refine at_wpP ?_; refine wpList_allocN rfl rfl ?_; intro g3 w3 hg3 b3 f3 s3; have l3 := b3.lt; have z3 := f3.size)
          | (with_reducible refine at_wpP ?_; refine at_st 72 _ _ rfl ?_; have q := n2; go_must (refine wpList_stN rfl _ _ rfl g3 rfl R.1.k R.1.b v rfl hbl.out hv 0 (zerB 16) nilS b3 (zerB_len 16) ?_; intro w4 b4 f4; have z4 := f4.size; have F4 : Fr noB w2 w4 := Fr.ownX f3 s3 f4)))
        go_ret
        exact ⟨rfl, (S1.fr0 f2).fr0 F4, (f1.thenN f2).thenN F4⟩
end Go.Proofs.YtmkinaijkgkgiaaGreat
/- Contracts of functions of the Go library (maps.Keys, slices.Sorted, slices.Sort), laid at this program; no condition. -/
namespace Go.Proofs
open Go.Shelf
def Tryz.keysA_ren : Go.Shelf.Ren := ⟨fun | 7 => 64 | 10 => 87 | n => n, fun | 23 => 91 | 26 => 3 | 3 => 119 | 28 => 117 | 0 => 0 | 27 => 116 | 33 => 89 | 4 => 4 | n => n, fun | n => n⟩
theorem Tryz.keysA : Go.Proofs.SlLaysZI.n7 Tryz.prog Tryz.keysA_ren := {
  mixed := by kernel_rfl
  f7 := ⟨Tryz.f64.name, by decide, Tryz.func64.trans (congrArg some (by kernel_rfl))⟩
  f10 := ⟨Tryz.f87.name, by decide, Tryz.func87.trans (congrArg some (by kernel_rfl))⟩
  t0 := Tryz.underlying0
  a0 := Tryz.isAgg0
  z0 := Tryz.sizeOf0
  v0 := Tryz.zeroValue0
  t4 := Tryz.underlying4
  a4 := Tryz.isAgg4
  z4 := Tryz.sizeOf4
  v4 := Tryz.zeroValue4
  t23 := Tryz.underlying91
  a23 := Tryz.isAgg91
  z23 := Tryz.sizeOf91
  v23 := Tryz.zeroValue91
  t26 := Tryz.underlying3
  a26 := Tryz.isAgg3
  z26 := Tryz.sizeOf3
  v26 := Tryz.zeroValue3
  t27 := Tryz.underlying116
  a27 := Tryz.isAgg116
  z27 := Tryz.sizeOf116
  v27 := Tryz.zeroValue116
  t28 := Tryz.underlying117
  a28 := Tryz.isAgg117
  z28 := Tryz.sizeOf117
  v28 := Tryz.zeroValue117
  t33 := Tryz.underlying89
  a33 := Tryz.isAgg89
  z33 := Tryz.sizeOf89
  v33 := Tryz.zeroValue89 }
def Tryz.sortedA_ren : Go.Shelf.Ren := ⟨fun | 6 => 63 | 8 => 85 | 9 => 86 | 11 => 100 | 13 => 102 | 12 => 101 | 23 => 121 | 24 => 122 | 14 => 112 | 15 => 113 | 16 => 114 | 17 => 115 | 18 => 116 | 19 => 117 | 20 => 118 | 21 => 119 | 22 => 120 | 25 => 126 | 26 => 127 | 27 => 128 | 28 => 129 | 29 => 130 | 30 => 131 | 31 => 133 | n => n, fun | 26 => 3 | 28 => 117 | 24 => 52 | 0 => 0 | 3 => 3 | 37 => 143 | 48 => 141 | 50 => 144 | 4 => 4 | 40 => 174 | 39 => 173 | 45 => 179 | 5 => 5 | 9 => 9 | 51 => 187 | 55 => 191 | 57 => 196 | 58 => 197 | 33 => 89 | n => n, fun | n => n⟩
theorem Tryz.sortedA : Go.Proofs.SlLaysZI.n6 Tryz.prog Tryz.sortedA_ren := {
  mixed := by kernel_rfl
  f6 := ⟨Tryz.f63.name, by decide, Tryz.func63.trans (congrArg some (by kernel_rfl))⟩
  f8 := ⟨Tryz.f85.name, by decide, Tryz.func85.trans (congrArg some (by kernel_rfl))⟩
  f11 := ⟨Tryz.f100.name, by decide, Tryz.func100.trans (congrArg some (by kernel_rfl))⟩
  t0 := Tryz.underlying0
  a0 := Tryz.isAgg0
  z0 := Tryz.sizeOf0
  v0 := Tryz.zeroValue0
  t24 := Tryz.underlying52
  a24 := Tryz.isAgg52
  z24 := Tryz.sizeOf52
  v24 := Tryz.zeroValue52
  t26 := Tryz.underlying3
  a26 := Tryz.isAgg3
  z26 := Tryz.sizeOf3
  v26 := Tryz.zeroValue3
  t28 := Tryz.underlying117
  a28 := Tryz.isAgg117
  z28 := Tryz.sizeOf117
  v28 := Tryz.zeroValue117
  i26 := by kernel_rfl }
def Tryz.sortA_ren : Go.Shelf.Ren := ⟨fun | 5 => 86 | 8 => 102 | 7 => 101 | 19 => 121 | 20 => 122 | 10 => 112 | 11 => 113 | 12 => 114 | 13 => 115 | 14 => 116 | 15 => 117 | 16 => 118 | 17 => 119 | 18 => 120 | 30 => 126 | 31 => 127 | 32 => 128 | 33 => 129 | 34 => 130 | 35 => 131 | 40 => 133 | n => n, fun | 23 => 52 | 25 => 3 | 3 => 3 | 32 => 143 | 22 => 52 | 0 => 0 | 44 => 141 | 46 => 144 | 4 => 4 | 36 => 174 | 35 => 173 | 41 => 179 | 5 => 5 | 9 => 9 | 53 => 187 | 57 => 191 | 63 => 196 | 64 => 197 | n => n, fun | n => n⟩
theorem Tryz.sortA : Go.Proofs.SlLaysM.n5 Tryz.prog Tryz.sortA_ren := {
  mixed := by kernel_rfl
  f5 := ⟨Tryz.f86.name, by decide, Tryz.func86.trans (congrArg some (by kernel_rfl))⟩
  f7 := ⟨Tryz.f101.name, by decide, Tryz.func101.trans (congrArg some (by kernel_rfl))⟩
  f8 := Tryz.func102.trans (congrArg some (by kernel_rfl))
  f10 := ⟨Tryz.f112.name, by decide, Tryz.func112.trans (congrArg some (by kernel_rfl))⟩
  f11 := ⟨Tryz.f113.name, by decide, Tryz.func113.trans (congrArg some (by kernel_rfl))⟩
  f12 := ⟨Tryz.f114.name, by decide, Tryz.func114.trans (congrArg some (by kernel_rfl))⟩
  f13 := ⟨Tryz.f115.name, by decide, Tryz.func115.trans (congrArg some (by kernel_rfl))⟩
  f14 := ⟨Tryz.f116.name, by decide, Tryz.func116.trans (congrArg some (by kernel_rfl))⟩
  f15 := ⟨Tryz.f117.name, by decide, Tryz.func117.trans (congrArg some (by kernel_rfl))⟩
  f16 := ⟨Tryz.f118.name, by decide, Tryz.func118.trans (congrArg some (by kernel_rfl))⟩
  f17 := ⟨Tryz.f119.name, by decide, Tryz.func119.trans (congrArg some (by kernel_rfl))⟩
  f18 := ⟨Tryz.f120.name, by decide, Tryz.func120.trans (congrArg some (by kernel_rfl))⟩
  f19 := Tryz.func121.trans (congrArg some (by kernel_rfl))
  f20 := Tryz.func122.trans (congrArg some (by kernel_rfl))
  f30 := ⟨Tryz.f126.name, by decide, Tryz.func126.trans (congrArg some (by kernel_rfl))⟩
  f31 := Tryz.func127.trans (congrArg some (by kernel_rfl))
  f32 := Tryz.func128.trans (congrArg some (by kernel_rfl))
  f33 := ⟨Tryz.f129.name, by decide, Tryz.func129.trans (congrArg some (by kernel_rfl))⟩
  f34 := ⟨Tryz.f130.name, by decide, Tryz.func130.trans (congrArg some (by kernel_rfl))⟩
  f35 := ⟨Tryz.f131.name, by decide, Tryz.func131.trans (congrArg some (by kernel_rfl))⟩
  f40 := ⟨Tryz.f133.name, by decide, Tryz.func133.trans (congrArg some (by kernel_rfl))⟩
  t0 := Tryz.underlying0
  a0 := Tryz.isAgg0
  z0 := Tryz.sizeOf0
  v0 := Tryz.zeroValue0
  t3 := Tryz.underlying3
  a3 := Tryz.isAgg3
  z3 := Tryz.sizeOf3
  v3 := Tryz.zeroValue3
  t4 := Tryz.underlying4
  a4 := Tryz.isAgg4
  z4 := Tryz.sizeOf4
  v4 := Tryz.zeroValue4
  t5 := Tryz.underlying5
  a5 := Tryz.isAgg5
  z5 := Tryz.sizeOf5
  v5 := Tryz.zeroValue5
  t9 := Tryz.underlying9
  a9 := Tryz.isAgg9
  z9 := Tryz.sizeOf9
  v9 := Tryz.zeroValue9
  t22 := Tryz.underlying52
  a22 := Tryz.isAgg52
  z22 := Tryz.sizeOf52
  v22 := Tryz.zeroValue52
  t23 := Tryz.underlying52
  a23 := Tryz.isAgg52
  z23 := Tryz.sizeOf52
  v23 := Tryz.zeroValue52
  t25 := Tryz.underlying3
  a25 := Tryz.isAgg3
  z25 := Tryz.sizeOf3
  v25 := Tryz.zeroValue3
  t32 := Tryz.underlying143
  a32 := Tryz.isAgg143
  z32 := Tryz.sizeOf143
  v32 := Tryz.zeroValue143
  t35 := Tryz.underlying173
  a35 := Tryz.isAgg173
  z35 := Tryz.sizeOf173
  v35 := Tryz.zeroValue173
  t36 := Tryz.underlying174
  a36 := Tryz.isAgg174
  z36 := Tryz.sizeOf174
  v36 := Tryz.zeroValue174
  t41 := Tryz.underlying179
  a41 := Tryz.isAgg179
  z41 := Tryz.sizeOf179
  v41 := Tryz.zeroValue179
  t44 := Tryz.underlying141
  a44 := Tryz.isAgg141
  z44 := Tryz.sizeOf141
  v44 := Tryz.zeroValue141
  t46 := Tryz.underlying144
  a46 := Tryz.isAgg144
  z46 := Tryz.sizeOf144
  v46 := Tryz.zeroValue144
  t53 := Tryz.underlying187
  a53 := Tryz.isAgg187
  z53 := Tryz.sizeOf187
  v53 := Tryz.zeroValue187
  t57 := Tryz.underlying191
  a57 := Tryz.isAgg191
  z57 := Tryz.sizeOf191
  v57 := Tryz.zeroValue191
  t63 := Tryz.underlying196
  a63 := Tryz.isAgg196
  z63 := Tryz.sizeOf196
  v63 := Tryz.zeroValue196
  t64 := Tryz.underlying197
  a64 := Tryz.isAgg197
  z64 := Tryz.sizeOf197
  v64 := Tryz.zeroValue197 }
end Go.Proofs
/- The keys of a map of integers, sorted (maps.Keys, slices.Sorted, slices.Sort: by the library's contracts). -/
namespace Go.Proofs.YtmkinaijkgkgiaaGreat
open Go.RowKit Go.Proofs.U Go.Shelf Go.Maps Go.Sort
set_option linter.unusedSimpArgs false
set_option linter.unusedVariables false
theorem sortsI (m : Nat) : /- of 64 -/ AnyZI.SortsIn Tryz.prog Tryz.sortedA_ren Fence.wide m :=
  ⟨fun blk off cap ss W hH hblk hsz => callsIn_wide.2 (AnyM.slices_Sort_int Tryz.sortA blk off cap ss W hH hblk hsz),
   fun p cap W => callsIn_wide.2 (AnyM.slices_Sort_int_none Tryz.sortA p cap W)⟩
theorem keysI /- of 64 -/ {w : World} {m n : Nat} {D : DataW Unit} {S : Int → Bool} (ho : w.ownsMap Tryz.prog 3 unitElem m n D) (hh : ∀ kl, Maps.has D kl = badK S kl) : (Go.intKeys D).Nodup ∧ (∀ x, x ∈ Go.intKeys D ↔ S x = true) ∧ (Go.intKeys D).length = Maps.size D := by
  obtain ⟨es, hD, hpw, _⟩ := ho.entries keyI
  obtain ⟨es', hD', hko⟩ := ho.keysOf
  obtain rfl : es = es' := by rw [hD] at hD'; simpa using hD'
  have hk : ∀ p ∈ es, ∃ x, p.1 = .int .i64 x := fun p hp => by
    obtain ⟨v, hv⟩ := hko p hp
    obtain ⟨x, _, hx, _⟩ := Maps.keyOf_i64 Tryz.underlying3 hv
    exact ⟨x, hx⟩
  subst hD
  refine ⟨?_, fun x => ?_, ?_⟩
  · show (es.map fun p => Go.intOf p.1).Nodup
    refine List.pairwise_map.2 (hpw.imp_of_mem fun {p q} hp' hq' hne e => hne ?_)
    obtain ⟨a, ha⟩ := hk p hp'
    obtain ⟨b, hb⟩ := hk q hq'
    rw [ha, hb] at e ⊢
    exact congrArg _ e
  · have h1 := hh (.int .i64 x)
    show x ∈ (es.map fun p => Go.intOf p.1) ↔ _
    rw [show badK S (.int .i64 x) = S x from rfl] at h1
    rw [← h1, has_eq, List.any_eq_true, List.mem_map]
    constructor
    · rintro ⟨p, hp', rfl⟩
      obtain ⟨a, ha⟩ := hk p hp'
      exact ⟨p, hp', by rw [ha]; simp [Lit.sameKey, Go.intOf]⟩
    · rintro ⟨p, hp', hs⟩
      obtain ⟨a, ha⟩ := hk p hp'
      rw [ha] at hs
      exact ⟨p, hp', by rw [ha]; simpa [Lit.sameKey, Go.intOf] using hs⟩
  · show (es.map fun p => Go.intOf p.1).length = _
    rw [List.length_map]; rfl
/-- A sorted list of just what was seen. -/
structure SeenL (S : Int → Bool) (l : List Int) : Prop where
  mem : ∀ x, x ∈ l ↔ S x = true
  nd : l.Nodup
  len : l.length ≤ 240
theorem mkeys_any (b : Nat) (w : World) :
    Calls Tryz.prog 64 #[.map (some b)] w fun e w' => ∃ g, e = .returned (.func (.func 87) #[] #[ptr g]) ∧ w.heap.size ≤ g ∧ BxV w' g 91 [.map (some b)] ∧ Fr noB w w' := by
  have cK : CallsIn Fence.wide 5 Tryz.prog 64 #[.map (some b)] w fun e w' => e = .returned (.func (.func 87) #[] #[.pointer (some ⟨w.heap.size, 0, none⟩)]) ∧ w' = w.alloc (.cells #[.map (some b)] 91) := AnyZI.keys_in Tryz.keysA Fence.wide 5 trivial rfl (some b) w
  refine (callsIn_wide.1 cK).mono ?_
  rintro e w' ⟨rfl, rfl⟩
  refine ⟨w.heap.size, rfl, Nat.le_refl _, ?_, (Fr.refl _ _).alloc _⟩
  show (w.heap.push _)[w.heap.size]? = _
  rw [Array.getElem?_push, if_pos rfl]
theorem sorted_any (g b : Nat) (S : Int → Bool) (hS : ∀ x, S x = true → 0 ≤ x ∧ x < ((240 : Nat) : Int)) (w : World) (hB : BxV w g 91 [.map (some b)]) (hM : MapI w b S) :
    Calls Tryz.prog 63 #[.func (.func 87) #[] #[ptr g]] w fun e w' => ∃ v l, e = .returned v ∧ SeenL S l ∧ SlI .i64 w' v l ∧ (∀ k, v.ownBlock = some k → w.heap.size ≤ k) ∧ Fr noB w w' := by
  obtain ⟨D, ho, hh⟩ := hM.tight hS
  obtain ⟨hnd, hmem, hsz⟩ := keysI ho hh
  have hlen : (Go.intKeys D).length ≤ 240 := ints_length 240 _ (hnd.imp fun h => h) (fun x hx => hS x ((hmem x).1 hx))
  have hwf := intKeys_wf ho Tryz.underlying3
  have hseq : SeqGives Fence.wide 2 Tryz.prog 87 #[.pointer (some ⟨g, 0, none⟩)] encZ (fun ss => ss.Perm (Go.intKeys D)) (Maps.size D) w :=
    AnyZI.keys_gives (ρ := Tryz.keysA_ren) { Tryz.keysA with } Fence.wide _ trivial rfl (by omega) g b _ D w hB.lt (hB.cell 0 _ rfl).1 ho
  have cS := AnyZI.sorted_in Tryz.sortedA Fence.wide 5 trivial trivial trivial trivial rfl (by omega) (sortsI _) (enters_of Tryz.func86 (by kernel_rfl) rfl) 87 #[.pointer (some ⟨g, 0, none⟩)] trivial (enters_of Tryz.func87 (by kernel_rfl) rfl) _ _ (by unfold maxLen; omega) (by omega) _ hseq
  change CallsIn _ _ Tryz.prog 63 _ _ _ at cS
  refine (callsIn_wide.1 cS).mono ?_
  rintro e w' ⟨v, ss, rfl, hS', hrow, hnil, hb⟩
  have hp := (List.mergeSort_perm ss (fun x y => decide (x ≤ y))).trans hS'
  refine ⟨v, ss.mergeSort (fun x y => decide (x ≤ y)), rfl, ⟨fun x => by rw [hp.mem_iff]; exact hmem x, hp.nodup_iff.2 hnd, by rw [hp.length_eq]; exact hlen⟩, ⟨?_, fun x hx => hwf x (hp.mem_iff.1 hx)⟩, fun k hk => (World.ownsRow.lt hrow k hk).1, Fr.of_below hb⟩
  have := Sl.of_owns hrow
  rw [List.length_mergeSort]
  exact this
end Go.Proofs.YtmkinaijkgkgiaaGreat
/- A store: see, Reach. -/
namespace Go.Proofs.YtmkinaijkgkgiaaGreat
open Go.RowKit Go.Proofs.U Go.Shelf Go.Maps
set_option linter.unusedSimpArgs false
set_option linter.unusedVariables false
section
variable {w : World} {ops : Array Oper} {rest : List Oper} {o : Oper} {a : Act} {Q : Exit → Act → World → Prop}
theorem wpList_lookI (hgd : Region.wanted o (yielded ops a.tmps) = true) (x y : Operand) (ho : o.op = .lookup 91 x y true) (m : Nat) (hx : a.eval x = .map (some m)) (i : Int) (hi : -9223372036854775808 ≤ i ∧ i ≤ 9223372036854775807) (hy : a.eval y = .int .i64 i) (S : Int → Bool) (hM : MapI w m S)
    (h : wpList Tryz.prog ops Q rest (a.put o.dst (.tuple #[.agg #[], .bool (S i)])) w) : wpList Tryz.prog ops Q (o :: rest) a w := by
  refine wpList_wanted hgd fun K hK => ?_
  have hr := hM.look i hi
  unfold Oper.wp execOp
  simp only [ho, hx, hy, Sem.run_bind, hr, Result.andThen_ok]
  exact hK _ _ h
theorem wpList_stU (hgd : Region.wanted o (yielded ops a.tmps) = true) (x y : Operand) (ho : o.op = .store 119 x y) (p : Addr) (hx : a.eval x = .pointer (some p)) (hy : a.eval y = .agg #[])
    (h : wpList Tryz.prog ops Q rest (a.put o.dst undef) w) : wpList Tryz.prog ops Q (o :: rest) a w := by
  refine wpList_wanted hgd fun K hK => ?_
  have hr := run_stU w p
  unfold Oper.wp execOp
  simp only [ho, hx, hy, Sem.run_bind, hr, Result.andThen_ok]
  exact hK _ _ h
theorem unit_zero2 : (Tryz.prog.info? 119).map (·.zero) = some (some (.agg #[])) := by kernel_rfl
theorem at_look (t : TypeId) (x y : Operand) (b : Bool) (_ho : o.op = .lookup t x y b) (h : wpList Tryz.prog ops Q (o :: rest) a w) : wpList Tryz.prog ops Q (o :: rest) a w := h
theorem at_upd (t : TypeId) (x y z : Operand) (_ho : o.op = .mapUpdate t x y z) (h : wpList Tryz.prog ops Q (o :: rest) a w) : wpList Tryz.prog ops Q (o :: rest) a w := h
theorem wpList_updI (hgd : o.guard = none) (x y z : Operand) (ho : o.op = .mapUpdate 91 x y z) (m : Nat) (hx : a.eval x = .map (some m)) (i : Int) (hi : -9223372036854775808 ≤ i ∧ i ≤ 9223372036854775807) (hy : a.eval y = .int .i64 i) (hz : a.eval z = .agg #[]) (S : Int → Bool) (hS : ∀ x, S x = true → 0 ≤ x ∧ x < ((240 : Nat) : Int)) (hM : MapI w m S)
    (h : ∀ w', MapI w' m (fun x => if x == i then true else S x) → Fr (onB1 m) w w' → wpList Tryz.prog ops Q rest (a.put o.dst undef) w') : wpList Tryz.prog ops Q (o :: rest) a w := by
  obtain ⟨D, ho', hh⟩ := hM.tight hS
  refine wpList_mapUpdate_in _ hgd _ _ _ 91 ho 3 119 keyI Tryz.underlying91 _ m _ D hx ho' (by unfold maxLen; omega) _ _ _ hy hz (keyOf_int_mk Tryz.underlying3 (WalkArith.wf_i64 hi)) _ [] unitElem_mk ?_
  intro w' ho1 ht
  refine h w' ⟨_, _, ho1, fun kl => ?_⟩ ((Fr.refl _ _).grown ht.grown (fun k hk _ => (Option.some.inj hk).symm))
  by_cases hk : kl = .int .i64 i
  · subst hk
    rw [has_put_same ho'.isMap (by trivial) _]; simp [badK]
  · rw [has_put_other hk _, hh, badK_put _ _ _ _ hk]
theorem wpList_mkMap (hgd : Region.wanted o (yielded ops a.tmps) = true) (ho : o.op = .makeMap 91 none)
    (h : ∀ g w', MapI w' g (fun _ => false) → Fr noB w w' → w.heap.size ≤ g → wpList Tryz.prog ops Q rest (a.put o.dst (.map (some g))) w') : wpList Tryz.prog ops Q (o :: rest) a w := by
  refine wpList_wanted hgd fun K hK => ?_
  have hrun : (execOp a.eval o).run Tryz.prog w = .ok (.value (.map (some w.heap.size))) (w.alloc (.map #[] 0)) := by
    simp [execOp, ho, go_sem, run_makeMap]
  unfold Oper.wp
  rw [hrun]
  exact hK _ _ (h w.heap.size _ ⟨0, .map [], World.ownsMap_made w Tryz.prog 3 unitElem, fun kl => by cases kl with | int k x => cases k <;> rfl | _ => rfl⟩ ((Fr.refl _ _).alloc _) (Nat.le_refl _))
end
/-- How many pages were not seen yet. -/
def nS (S : Int → Bool) : Nat := (List.range 240).countP fun (i : Nat) => !S (i : Int)
theorem countP_lt {l : List Nat} {p q : Nat → Bool} (h : ∀ x ∈ l, q x = true → p x = true) {y : Nat} (hy : y ∈ l) (hp : p y = true) (hq : q y = false) : l.countP q < l.countP p := by
  induction l with
  | nil => cases hy
  | cons a l ih =>
    rw [List.countP_cons, List.countP_cons]
    have hle : l.countP q ≤ l.countP p := List.countP_mono_left (fun x hx => h x (List.mem_cons_of_mem _ hx))
    rcases List.mem_cons.1 hy with rfl | hy
    · rw [hp, hq]; simp; omega
    · have := ih (fun x hx => h x (List.mem_cons_of_mem _ hx)) hy
      by_cases ha : q a = true
      · have := h a List.mem_cons_self ha
        rw [ha, this]; simp; omega
      · simp [ha]; split <;> omega
theorem nS_put {S : Int → Bool} {p : Int} (h0 : 0 ≤ p) (h1 : p < 240) (hp : S p = false) : nS (fun x => if x == p then true else S x) < nS S := by
  unfold nS
  obtain ⟨k, rfl⟩ : ∃ k : Nat, p = (k : Int) := ⟨p.toNat, by omega⟩
  refine countP_lt (fun x _ hx => ?_) (y := k) (List.mem_range.2 (by omega)) (by rw [hp]; rfl) (by simp)
  simp at hx ⊢
  exact hx.2
theorem nS_mono {S T : Int → Bool} (h : ∀ x, S x = true → T x = true) : nS T ≤ nS S := by
  unfold nS
  refine List.countP_mono_left (fun x _ hx => ?_)
  simp at hx ⊢
  cases hs : S (x : Int) with
  | false => rfl
  | true => rw [h _ hs] at hx; cases hx
theorem seeF_inv {get : Int → Nd × Int} {I : (Int → Bool) → Prop} (hI : ∀ S p, I S → (get p).2 = 0 → I (fun x => if x == p then true else S x)) : ∀ (n : Nat) (S : Int → Bool) (p : Int), I S → I (seeF get n S p).1
  | 0, S, p, h => h
  | n + 1, S, p, h => by
    unfold seeF
    split
    · exact h
    · split
      · rename_i h0
        exact eachF_inv (seeF_inv hI n) _ _ (hI S p h h0)
      · exact h
theorem seeF_mono {get : Int → Nd × Int} (n : Nat) (S : Int → Bool) (p : Int) : ∀ x, S x = true → (seeF get n S p).1 x = true :=
  seeF_inv (I := fun T => ∀ x, S x = true → T x = true) (fun T p h _ x hx => by simp only; split; rfl; exact h x hx) n S p (fun x h => h)
theorem getF_rng {X : DSt} {L : List Pg} (hL : plOk L) {p : Int} (h : (getF X L p).2 = 0) : 0 ≤ p ∧ p < ((240 : Nat) : Int) := by
  unfold getF at h
  split at h
  · rename_i hh
    have := plHeld_rng hh
    have := hL.1
    omega
  · simp at h
abbrev Low (S : Int → Bool) : Prop := ∀ x, S x = true → 0 ≤ x ∧ x < ((240 : Nat) : Int)
theorem Low.put {S : Int → Bool} (h : Low S) {p : Int} (hp : 0 ≤ p ∧ p < ((240 : Nat) : Int)) : Low (fun x => if x == p then true else S x) := by
  intro x hx
  by_cases e : x = p
  · subst e; exact hp
  · have : (x == p) = false := by simpa using e
    simp only [this, Bool.false_eq_true, if_false] at hx
    exact h x hx
theorem seeF_low {X : DSt} {L : List Pg} (hL : plOk L) (n : Nat) {S : Int → Bool} (p : Int) (h : Low S) : Low (seeF (getF X L) n S p).1 := seeF_inv (I := Low) (fun T p h h0 => h.put (getF_rng hL h0)) n S p h
theorem eg_see1 : ∀ args w, (callFunc 84 args).run Tryz.prog w = .ok (.enter 84 args) w := enters_of Tryz.func84 (by kernel_rfl) rfl
theorem wf_rng {x : Int} (h : (Lit.int .i64 x).wf = true) : -9223372036854775808 ≤ x ∧ x ≤ 9223372036854775807 := by
  simp [Lit.wf, IntKind.min, IntKind.max, IntKind.bits, IntKind.signed] at h; omega
set_option maxRecDepth 100000 in
set_option maxHeartbeats 1000000 in
theorem see1_any {gs gq : Nat} (g1 g2 : Nat) (p : Int) (w : World) (b1 : BxV w g1 24 [ptr gs]) (b2 : BxV w g2 91 [.map (some gq)]) {v : Value} {Z : World → Prop}
    (hc : Calls Tryz.prog 62 #[ptr gs, .int .i64 p, .map (some gq)] w fun r w' => r = .returned v ∧ Z w') :
    Calls Tryz.prog 84 #[.int .i64 p, ptr g1, ptr g2] w fun r w' => r = .returned v ∧ Z w' := by
  have k1 := (b1.cell 0 _ rfl).1
  have k2 := (b2.cell 0 _ rfl).1
  go_enter Tryz.func84, Tryz.ntmps84
  go_wp2_with (first
    | (go_at_call 62; go_must (refine hc.mono ?_; rintro e w1 ⟨rfl, q1⟩)))
  go_ret
  exact ⟨rfl, q1⟩
theorem seeF_succ (get : Int → Nd × Int) (n : Nat) (S : Int → Bool) (p : Int) : seeF get (n + 1) S p = if S p then (S, 0) else if (get p).2 = 0 then eachF (seeF get n) (fun x => if x == p then true else S x) (kids (get p).1) else (S, (get p).2) := rfl
set_option maxRecDepth 100000 in
set_option maxHeartbeats 1000000 in
theorem see_any {F : Nat → Prop} {gs gp gq : Nat} {X : DSt} {L : List Pg} {m : Nat} (hm : m ≤ 100000) (hqF : ¬ F gq) (hqp : gq ≠ gp) (hqs : gq ≠ gs) : ∀ (n : Nat) (S : Int → Bool) (p : Int) (w : World), nS S < n → Low S → (Lit.int .i64 p).wf = true → Sto w F gs gp X L m → MapI w gq S →
    Calls Tryz.prog 62 #[ptr gs, .int .i64 p, .map (some gq)] w fun r w' => r = .returned (.int .i64 (seeF (getF X L) n S p).2) ∧ MapI w' gq (seeF (getF X L) n S p).1 ∧ Fr (onB1 gq) w w' := by
  intro n
  induction n with
  | zero => intro S p w h; omega
  | succ n ih =>
    intro S p w hn hS hp h hM
    have hpr := wf_rng hp
    have lq := hM.lt
    have hG := fun W (f : Fr noB w W) => nget_any p W (h.fr0 f) hm
    rw [seeF_succ]
    cases hSp : S p with
    | true =>
      simp only [if_true]
      go_enter Tryz.func62, Tryz.ntmps62
      go_wp2_with (first
        | (with_reducible refine at_wpP ?_; refine wpList_boxG rfl 24 _ rfl (ptr gs) [ptr gs] rfl rfl ?_; intro g1 w1 hg1 b1 f1 s1)
        | (with_reducible refine at_wpP ?_; refine wpList_boxG rfl 91 _ rfl (.map (some gq)) [.map (some gq)] rfl rfl ?_; intro g2 w2 hg2 b2 f2 s2; have k2 := (b2.cell 0 _ rfl).1; have M2 := (hM.fr f1 (fun q => q)).fr f2 (fun q => q))
        | (with_reducible refine at_wpP ?_; refine at_look 91 _ _ _ rfl ?_; go_must (refine wpList_lookI rfl _ _ rfl gq rfl p hpr rfl S M2 ?_; rw [hSp]))
        | (with_reducible refine at_wpP ?_; refine wpList_allocG rfl 119 rfl (.agg #[]) [] unit_zero2 rfl ?_; intro g3 w3 hg3 b3 f3 s3)
        | (with_reducible refine at_wpP ?_; refine at_st 119 _ _ rfl ?_; go_must (refine wpList_stU rfl _ _ rfl ⟨g3, 0, none⟩ rfl rfl ?_)))
      go_ret
      have F3 := (f1.thenN f2).thenN f3
      exact ⟨rfl, hM.fr F3 (fun q => q), F3.mono (fun _ _ q => q.elim)⟩
    | false =>
      simp only [Bool.false_eq_true, if_false]
      have hlow := fun (h0 : (getF X L p).2 = 0) => getF_rng h.ok h0
      obtain ⟨R, HR⟩ : ∃ R, Hid (getF X L p = R) := ⟨_, rfl⟩
      rw [HR.out] at hG hlow ⊢
      by_cases hr0 : R.2 = 0
      · rw [if_pos hr0]
        have hpl := hlow hr0
        have hn1 := nS_put hpl.1 hpl.2 hSp
        have hS1 := hS.put hpl
        obtain ⟨S1, HS1⟩ : ∃ S1, Hid ((fun x => if x == p then true else S x) = S1) := ⟨_, rfl⟩
        rw [HS1.out] at hn1 hS1 ⊢
        obtain ⟨N, e0⟩ := R
        simp only at hr0
        subst hr0
        simp only at hG ⊢
        clear hlow
        have hC := fun v W (hn : NdS W v N) => children_any N v W hn
        have hE := fun (u : Value) (g1 g2 : Nat) (W : World) (hK : (kids N).length ≤ 1000) (s : Sto W F gs gp X L m) (hMM : MapI W gq S1) (b1 : BxV W g1 24 [ptr gs]) (b2 : BxV W g2 91 [.map (some gq)]) (h1 : g1 ≠ gq) (h2 : g2 ≠ gq) (hu : SlI .i64 W u (kids N)) (hg : ∀ k, u.ownBlock = some k → k ≠ gq) =>
          each_any (seeF (getF X L) n) (fun T V => MapI V gq T ∧ Low T ∧ nS T < n ∧ SlI .i64 V u (kids N) ∧ Fr (onB1 gq) W V) 84 #[] #[ptr g1, ptr g2] eg_see1 u (kids N) (by omega) (fun _ _ h => h.2.2.2.1) (fun T V x hx hI => by
            refine see1_any g1 g2 x V (b1.fr hI.2.2.2.2 (fun q => h1 q)) (b2.fr hI.2.2.2.2 (fun q => h2 q)) ?_
            refine (ih T x V hI.2.2.1 hI.2.1 (hI.2.2.2.1.2 x hx) (s.fr hI.2.2.2.2 (fun k hk q e => by unfold onB1 at e; subst e; rcases q with q | q | q; exact hqF q; exact hqp q; exact hqs q)) hI.1).mono ?_
            rintro e w1 ⟨rfl, s1, f1⟩
            exact ⟨rfl, s1, seeF_low h.ok n x hI.2.1, Nat.lt_of_le_of_lt (nS_mono (seeF_mono n T x)) hI.2.2.1, hI.2.2.2.1.fr f1 (fun k hk q => hg k hk q), hI.2.2.2.2.trans f1⟩) S1 W ⟨hMM, hS1, by omega, hu, Fr.refl _ _⟩
        clear ih
        obtain ⟨K, HK⟩ : ∃ K, Hid (kids N = K) := ⟨_, rfl⟩
        have hkl := fun v W (hn : NdS W v N) => kids_len hn
        rw [HK.out] at hC hE hkl ⊢
        obtain ⟨V, HV⟩ : ∃ V, Hid (eachF (seeF (getF X L) n) S1 K = V) := ⟨_, rfl⟩
        rw [HV.out] at hE ⊢
        have lps := h.lts
        go_enter Tryz.func62, Tryz.ntmps62
        go_wp2_with (first
          | (with_reducible refine at_wpP ?_; refine wpList_boxG rfl 24 _ rfl (ptr gs) [ptr gs] rfl rfl ?_; intro g1 w1 hg1 b1 f1 s1; have l1 := b1.lt; have z1 := f1.size)
          | (with_reducible refine at_wpP ?_; refine wpList_boxG rfl 91 _ rfl (.map (some gq)) [.map (some gq)] rfl rfl ?_; intro g2 w2 hg2 b2 f2 s2; have l2 := b2.lt; have z2 := f2.size; have k2 := (b2.cell 0 _ rfl).1; have G2 := f1.thenN f2; have M2 := hM.fr G2 (fun q => q))
          | (with_reducible refine at_wpP ?_; refine at_look 91 _ _ _ rfl ?_; go_must (refine wpList_lookI rfl _ _ rfl gq rfl p hpr rfl S M2 ?_; rw [hSp]))
          | (with_reducible refine at_wpP ?_; refine wpList_allocG rfl 119 rfl (.agg #[]) [] unit_zero2 rfl ?_; intro g3 w3 hg3 b3 f3 s3; have z3 := f3.size; have G3 := G2.thenN f3; have B1 := (b1.fr0 f2).fr0 f3; have k1 := (B1.cell 0 _ rfl).1)
          | (with_reducible refine at_wpP ?_; refine at_st 119 _ _ rfl ?_; go_must (refine wpList_stU rfl _ _ rfl ⟨g3, 0, none⟩ rfl rfl ?_))
          | (go_at_call 40; go_must (refine (hG _ G3).mono ?_; rintro e w4 ⟨v, rfl, n4, o4, f4⟩; have z4 := f4.size; have hv := NdS.sl n4; have hbl := NdS.bl n4; have G4 := G3.thenN f4; have hk := hkl _ _ n4))
          | (with_reducible refine at_wpP ?_; refine wpList_allocN rfl rfl ?_; intro g5 w5 hg5 b5 f5 s5; have l5 := b5.lt; have z5 := f5.size)
          | (with_reducible refine at_wpP ?_; refine at_st 72 _ _ rfl ?_; have q := n4; go_must (refine wpList_stN rfl _ _ rfl g5 rfl N.k N.b v rfl hbl.out hv 0 (zerB 16) nilS b5 (zerB_len 16) ?_; intro w6 b6 f6; have z6 := f6.size; have F6 : Fr noB w4 w6 := Fr.ownX f5 s5 f6; have n6 := n4.fr0 F6; have G6 := G4.thenN F6; have B2 := (((b2.fr0 f3).fr0 f4).fr0 F6); have B1 := ((B1.fr0 f4).fr0 F6); have k2 := (B2.cell 0 _ rfl).1; have M6 := hM.fr G6 (fun q => q)))
          | (with_reducible refine at_wpP ?_; refine at_upd 91 _ _ _ rfl ?_; go_must (refine wpList_updI rfl _ _ _ rfl gq rfl p hpr rfl rfl S hS M6 ?_; rw [HS1.out]; intro w7 M7 f7; have z7 := f7.size; have b7 := BxV.ne b6 f7 (by omega); have n7 := NdS.frS n6 f7 (fun k hk q => by have := o4 k hk; unfold onB1 at q; omega); have C1 := BxV.ne B1 f7 (by omega); have C2 := BxV.ne B2 f7 (by omega)))
          | (with_reducible refine at_wpP ?_; refine at_ld 72 _ rfl ?_; go_must (refine wpList_ldN rfl _ rfl g5 rfl N.k N.b v b7 hbl.out ?_))
          | (go_at_call 46; go_must (refine (hC _ _ n7).mono ?_; rintro e w8 ⟨u, rfl, o8, u8, f8⟩; have z8 := f8.size; have nb8 := o8.newB; have M8 := M7.fr f8 (fun q => q); have D1 := C1.fr0 f8; have D2 := C2.fr0 f8))
          | (go_at_call 50; go_must (refine (hE u g1 g2 _ hk ?hs8 M8 D1 D2 (by omega) (by omega) u8 ?hg8).mono ?_; rotate_left 2; rintro e w9 ⟨rfl, s9, _, _, _, f9⟩)))
        case hs8 =>
          exact ((h.fr0 G6).fr f7 (fun k hk q e => by unfold onB1 at e; subst e; rcases q with q | q | q; exact hqF q; exact hqp q; exact hqs q)).fr0 f8
        case hg8 =>
          intro k hk e
          have := nb8 k hk
          omega
        go_ret
        exact ⟨rfl, s9, (((G6.mono (fun _ _ q => q.elim)).trans f7).thenN f8).trans f9⟩
      · rw [if_neg hr0]
        go_enter Tryz.func62, Tryz.ntmps62
        go_wp2_with (first
          | (with_reducible refine at_wpP ?_; refine wpList_boxG rfl 24 _ rfl (ptr gs) [ptr gs] rfl rfl ?_; intro g1 w1 hg1 b1 f1 s1; have l1 := b1.lt; have z1 := f1.size)
          | (with_reducible refine at_wpP ?_; refine wpList_boxG rfl 91 _ rfl (.map (some gq)) [.map (some gq)] rfl rfl ?_; intro g2 w2 hg2 b2 f2 s2; have l2 := b2.lt; have z2 := f2.size; have k2 := (b2.cell 0 _ rfl).1; have G2 := f1.thenN f2; have M2 := hM.fr G2 (fun q => q))
          | (with_reducible refine at_wpP ?_; refine at_look 91 _ _ _ rfl ?_; go_must (refine wpList_lookI rfl _ _ rfl gq rfl p hpr rfl S M2 ?_; rw [hSp]))
          | (with_reducible refine at_wpP ?_; refine wpList_allocG rfl 119 rfl (.agg #[]) [] unit_zero2 rfl ?_; intro g3 w3 hg3 b3 f3 s3; have z3 := f3.size; have G3 := G2.thenN f3; have B1 := (b1.fr0 f2).fr0 f3; have k1 := (B1.cell 0 _ rfl).1)
          | (with_reducible refine at_wpP ?_; refine at_st 119 _ _ rfl ?_; go_must (refine wpList_stU rfl _ _ rfl ⟨g3, 0, none⟩ rfl rfl ?_))
          | (go_at_call 40; go_must (refine (hG _ G3).mono ?_; rintro e w4 ⟨v, rfl, n4, o4, f4⟩; have z4 := f4.size; have hv := NdS.sl n4; have hbl := NdS.bl n4; have G4 := G3.thenN f4))
          | (with_reducible refine at_wpP ?_; refine wpList_allocN rfl rfl ?_; intro g5 w5 hg5 b5 f5 s5; have l5 := b5.lt; have z5 := f5.size)
          | (with_reducible refine at_wpP ?_; refine at_st 72 _ _ rfl ?_; have q := n4; go_must (refine wpList_stN rfl _ _ rfl g5 rfl R.1.k R.1.b v rfl hbl.out hv 0 (zerB 16) nilS b5 (zerB_len 16) ?_; intro w6 b6 f6; have z6 := f6.size; have F6 : Fr noB w4 w6 := Fr.ownX f5 s5 f6; have G6 := G4.thenN F6)))
        go_ret
        exact ⟨rfl, hM.fr G6 (fun q => q), G6.mono (fun _ _ q => q.elim)⟩
end Go.Proofs.YtmkinaijkgkgiaaGreat
