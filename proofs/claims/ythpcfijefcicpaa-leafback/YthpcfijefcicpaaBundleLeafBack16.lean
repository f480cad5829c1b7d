/- Texts X15 of the proof of LeafBack, one behind the other. -/
import Derived.Test.YthpcfijefcicpaaBundleLeafBack1
import Derived.Test.YthpcfijefcicpaaBundleLeafBack2
import Derived.Test.YthpcfijefcicpaaBundleLeafBack3
import Derived.Test.YthpcfijefcicpaaBundleLeafBack4
import Derived.Test.YthpcfijefcicpaaBundleLeafBack5
import Derived.Test.YthpcfijefcicpaaBundleLeafBack6
import Derived.Test.YthpcfijefcicpaaBundleLeafBack7
import Derived.Test.YthpcfijefcicpaaBundleLeafBack8
import Derived.Test.YthpcfijefcicpaaBundleLeafBack9
import Derived.Test.YthpcfijefcicpaaBundleLeafBack10
import Derived.Test.YthpcfijefcicpaaBundleLeafBack11
import Derived.Test.YthpcfijefcicpaaBundleLeafBack12
import Derived.Test.YthpcfijefcicpaaBundleLeafBack13
import Derived.Test.YthpcfijefcicpaaBundleLeafBack14
import Derived.Test.YthpcfijefcicpaaBundleLeafBack15
/- LeafBack. (Written by x15_gen.py.) -/
namespace Go.Proofs.Ythpcfijefcicpaa
open Go.RowKit Go.Proofs.U
set_option linter.unusedSimpArgs false
set_option linter.unusedVariables false
theorem page_some (n : Nd) (vs : Value) (w : World) (h : NdS w vs n) :
    Calls Try.prog 7 #[ndV n.k n.b vs] w fun r w' => ∃ P E, r = .returned (.tuple #[pgV P, .int .i64 E]) ∧ Hid (P.length = 256) ∧ Fr noB w w' := by
  cases hr : n.right with
  | true =>
    refine (page_ok n vs w h hr).mono ?_
    rintro e w' ⟨rfl, f⟩
    exact ⟨_, _, rfl, page_len hr h.2.1.1, f⟩
  | false =>
    refine (page_no n vs w h hr).mono ?_
    rintro e w' ⟨rfl, f⟩
    exact ⟨_, _, rfl, zerB_len 256, f⟩
/-- What Open of any page is, for what LeafBack asks. -/
def BackX (p : List Int) : Prop :=
  ((∀ w, Calls Try.prog 8 #[pgV p] w fun r w' => OpenIs w w' (nd0, 81) r) ∧ ∀ (v : Value) w, NdS w v nd0 → Calls Try.prog 12 #[ndV nd0.k nd0.b v, ndV 0 (zerB 16) nilS] w fun r w' => r = .returned (.bool true) ∧ Fr noB w w') ∨
  ∃ N : Nd, (∀ w, Calls Try.prog 8 #[pgV p] w fun r w' => OpenIs w w' (N, 0) r) ∧ ∀ (v : Value) w, NdS w v N → Calls Try.prog 7 #[ndV N.k N.b v] w fun r w' => r = .returned (.tuple #[pgV p, .int .i64 0]) ∧ Fr noB w w'
theorem backX (p : List Int) (hp : p.length = 256) (hb : Byt p) : BackX p := by
  rcases opN_cases p with ⟨h1, h2, h3⟩ | h1
  · refine Or.inr ⟨decN p, fun w => ?_, fun v w hv => ?_⟩
    · rw [← h1]; exact open_any p hp hb w
    · have := page_ok (decN p) v w hv h2
      rwa [h3] at this
  · refine Or.inl ⟨fun w => ?_, fun v w hv => ?_⟩
    · rw [← h1]; exact open_any p hp hb w
    · have := same_any nd0 nd0 v nilS w hv (NdS.none w)
      rw [same_self] at this
      exact this

set_option maxRecDepth 100000 in
set_option maxHeartbeats 4000000 in
theorem lback_no (na nb : Nd) (p : List Int) (aa ab : Option Addr) (ca cb : Nat) (w : World) (hna : NdS w (.slice aa na.es.length ca) na) (hnb : NdS w (.slice ab nb.es.length cb) nb) (hla : ¬ (50 : Int) < (na.es.length : Int)) (hlb : ¬ (50 : Int) < (nb.es.length : Int)) (Hp : Hid (p.length = 256)) (hX : BackX p) (hra : na.right = false) :
    Calls Try.prog 5 #[ndV na.k na.b (.slice aa na.es.length ca), ndV nb.k nb.b (.slice ab nb.es.length cb), pgV p] w fun e w' => e = .returned (.bool true) ∧ Below w.heap.size w w' := by
  have Hba := NdS.bl hna
  have Hbb := NdS.bl hnb
  have hda : decide ((50 : Int) < (na.es.length : Int)) = false := decide_eq_false hla
  have hdb : decide ((50 : Int) < (nb.es.length : Int)) = false := decide_eq_false hlb
  obtain ⟨Z, HZ⟩ : ∃ Z, Hid (zerB 256 = Z) := ⟨_, rfl⟩
  have hZl : Hid (Z.length = 256) := by show _ = _; rw [← HZ.out]; exact zerB_len 256
  have hpp : Hid ((p == p) = true) := beq_self_eq_true p
  rcases hX with ⟨hop, hs00⟩ | ⟨N, hop, hpn⟩
  · go_enter Try.func5, Try.ntmps5
    go_wp2_with (first
      | (with_reducible refine at_wpP ?_; have q := b3; refine wpList_boxN rfl _ rfl nb.k nb.b (.slice ab nb.es.length cb) rfl ?_; intro g4 w2 hg4 b4 f2 s4)
      | (with_reducible refine at_wpP ?_; refine wpList_boxN rfl _ rfl na.k na.b (.slice aa na.es.length ca) rfl ?_; intro g3 w1 hg3 b3 f1 s3)
      | (with_reducible refine at_wpP ?_; refine wpList_boxV rfl 23 _ rfl (pgv p) rfl ?_; intro g5 w3 hg5 b5 f3 s5; have F3 := (f1.thenN f2).thenN f3; have B3 := (b3.fr0 f2).fr0 f3; have B4 := b4.fr0 f3)
      | (go_at_call 9; go_must (refine (lalive_any _).mono ?_; rintro e w4 ⟨rfl, f4⟩; have F4 := F3.thenN f4; have C3 := B3.fr0 f4; have C4 := B4.fr0 f4; have C5 := b5.fr0 f4; have q3 := NdB.ents C3 Hba.out; have q4 := NdB.ents C4 Hbb.out))
      | (with_reducible refine at_wpP ?_; refine at_ld 31 (.tmp 3) rfl ?_; go_must (refine wpList_ldN rfl _ rfl g3 rfl na.k na.b (.slice aa na.es.length ca) C3 Hba.out ?_))
      | (with_reducible refine at_wpP ?_; refine at_ld 31 (.tmp 4) rfl ?_; go_must (refine wpList_ldN rfl _ rfl g4 rfl nb.k nb.b (.slice ab nb.es.length cb) (C4.fr0 I7) Hbb.out ?_))
      | (go_at_call 7; have q := I7; go_must (refine (page_some nb _ _ ((hnb.fr0 F4).fr0 I7)).mono ?_; rintro e w8 ⟨P, E, rfl, hPl, f8⟩; have I8 := I7.thenN f8))
      | (go_at_call 7; go_must (refine (page_no na _ _ (hna.fr0 F4) hra).mono ?_; rw [HZ.out]; rintro e w5 ⟨rfl, f5⟩))
      | (with_reducible refine at_wpP ?_; refine at_alX 23 rfl ?_; have q := I8; refine wpList_allocA arr_page rfl rfl ?_; rw [HZ.out]; intro g9 w9 hg9 b9 f9 s9)
      | (with_reducible refine at_wpP ?_; refine at_alX 23 rfl ?_; have q := f5; refine wpList_allocA arr_page rfl rfl ?_; rw [HZ.out]; intro g7 w6 hg7 b6 f6 s7)
      | (with_reducible refine at_wpP ?_; refine at_st 23 (.tmp 7) _ rfl ?_; go_must (refine wpList_storeA arr_page rfl _ _ rfl g7 rfl Z rfl _ b6 hZl.out hZl.out ?_; intro w7 b7 f7; have I7 := f5.thenN (Fr.ownX f6 s7 f7)))
      | (with_reducible refine at_wpP ?_; refine at_st 23 (.tmp 9) _ rfl ?_; go_must (refine wpList_storeA arr_page rfl _ _ rfl g9 rfl P rfl _ b9 hPl.out hZl.out ?_; intro w10 b10 f10; have J10 := Fr.ownX f9 s9 f10; have I10 := I8.thenN J10; have b7' := (b7.fr0 f8).fr0 J10))
      | (with_reducible refine at_wpP ?_; refine at_ld 23 (.tmp 5) rfl ?_; refine wpList_loadA arr_page rfl _ rfl g5 rfl p (C5.fr0 I10) Hp.out ?_)
      | (go_at_call 8; go_must (refine (hop _).mono ?_; intro e w20 hq; obtain ⟨a20, m20, c20, rfl, n20, l20, f20⟩ := OpenIs.parts hq; clear hq))
      | (with_reducible refine at_wpP ?_; refine at_alX 31 rfl ?_; have q := f20; refine wpList_allocN rfl rfl ?_; intro g13 w21 hg13 b21 f21 s21)
      | (with_reducible refine at_wpP ?_; refine at_st 31 (.tmp 13) _ rfl ?_; go_must (refine wpList_stN rfl _ _ rfl g13 rfl nd0.k nd0.b (.slice a20 m20 c20) rfl l20.out ⟨_, _, _, rfl⟩ 0 (zerB 16) nilS b21 (zerB_len 16) ?_; intro w22 b22 f22; have J22 := Fr.ownX f21 s21 f22; have I22 : Fr noB w4 w22 := (Fr.thenN I10 f20).thenN J22))
      | (with_reducible refine at_wpP ?_; refine at_ld 31 (.tmp 13) rfl ?_; go_must (refine wpList_ldN rfl _ rfl g13 rfl nd0.k nd0.b (.slice a20 m20 c20) b22 l20.out ?_))
      | (with_reducible refine at_wpP ?_; refine at_bldX 31 _ rfl ?_; refine wpList_bldN rfl _ rfl 0 (zerB 16) nilS [] rfl built_nd0 ?_)
      | (go_at_call 12; go_must (refine (hs00 _ _ (n20.fr0 J22)).mono ?_; rintro e w23 ⟨rfl, f23⟩)))
    go_ret
    exact ⟨rfl, (F4.thenN (I22.thenN f23)).below⟩
  · go_enter Try.func5, Try.ntmps5
    go_wp2_with (first
      | (go_at_call 7; have q := I22; go_must (refine (hpn _ _ (n20.fr0 J22)).mono ?_; rintro e w23 ⟨rfl, f23⟩; have I23 := I22.thenN f23))
      | (with_reducible refine at_wpP ?_; refine at_alX 23 rfl ?_; have q := I23; refine wpList_allocA arr_page rfl rfl ?_; rw [HZ.out]; intro g15 w24 hg15 b24 f24 s24)
      | (with_reducible refine at_wpP ?_; have q := b3; refine wpList_boxN rfl _ rfl nb.k nb.b (.slice ab nb.es.length cb) rfl ?_; intro g4 w2 hg4 b4 f2 s4)
      | (with_reducible refine at_wpP ?_; refine wpList_boxN rfl _ rfl na.k na.b (.slice aa na.es.length ca) rfl ?_; intro g3 w1 hg3 b3 f1 s3)
      | (with_reducible refine at_wpP ?_; refine wpList_boxV rfl 23 _ rfl (pgv p) rfl ?_; intro g5 w3 hg5 b5 f3 s5; have F3 := (f1.thenN f2).thenN f3; have B3 := (b3.fr0 f2).fr0 f3; have B4 := b4.fr0 f3)
      | (go_at_call 9; go_must (refine (lalive_any _).mono ?_; rintro e w4 ⟨rfl, f4⟩; have F4 := F3.thenN f4; have C3 := B3.fr0 f4; have C4 := B4.fr0 f4; have C5 := b5.fr0 f4; have q3 := NdB.ents C3 Hba.out; have q4 := NdB.ents C4 Hbb.out))
      | (with_reducible refine at_wpP ?_; refine at_ld 31 (.tmp 3) rfl ?_; go_must (refine wpList_ldN rfl _ rfl g3 rfl na.k na.b (.slice aa na.es.length ca) C3 Hba.out ?_))
      | (with_reducible refine at_wpP ?_; refine at_ld 31 (.tmp 4) rfl ?_; go_must (refine wpList_ldN rfl _ rfl g4 rfl nb.k nb.b (.slice ab nb.es.length cb) (C4.fr0 I7) Hbb.out ?_))
      | (go_at_call 7; have q := I7; go_must (refine (page_some nb _ _ ((hnb.fr0 F4).fr0 I7)).mono ?_; rintro e w8 ⟨P, E, rfl, hPl, f8⟩; have I8 := I7.thenN f8))
      | (go_at_call 7; go_must (refine (page_no na _ _ (hna.fr0 F4) hra).mono ?_; rw [HZ.out]; rintro e w5 ⟨rfl, f5⟩))
      | (with_reducible refine at_wpP ?_; refine at_alX 23 rfl ?_; have q := I8; refine wpList_allocA arr_page rfl rfl ?_; rw [HZ.out]; intro g9 w9 hg9 b9 f9 s9)
      | (with_reducible refine at_wpP ?_; refine at_alX 23 rfl ?_; have q := f5; refine wpList_allocA arr_page rfl rfl ?_; rw [HZ.out]; intro g7 w6 hg7 b6 f6 s7)
      | (with_reducible refine at_wpP ?_; refine at_st 23 (.tmp 7) _ rfl ?_; go_must (refine wpList_storeA arr_page rfl _ _ rfl g7 rfl Z rfl _ b6 hZl.out hZl.out ?_; intro w7 b7 f7; have I7 := f5.thenN (Fr.ownX f6 s7 f7)))
      | (with_reducible refine at_wpP ?_; refine at_st 23 (.tmp 9) _ rfl ?_; go_must (refine wpList_storeA arr_page rfl _ _ rfl g9 rfl P rfl _ b9 hPl.out hZl.out ?_; intro w10 b10 f10; have J10 := Fr.ownX f9 s9 f10; have I10 := I8.thenN J10; have b7' := (b7.fr0 f8).fr0 J10))
      | (with_reducible refine at_wpP ?_; refine at_ld 23 (.tmp 5) rfl ?_; have q := C25; refine wpList_loadA arr_page rfl _ rfl g5 rfl p C25 Hp.out ?_)
      | (with_reducible refine at_wpP ?_; refine at_ld 23 (.tmp 5) rfl ?_; refine wpList_loadA arr_page rfl _ rfl g5 rfl p (C5.fr0 I10) Hp.out ?_)
      | (go_at_call 8; go_must (refine (hop _).mono ?_; intro e w20 hq; obtain ⟨a20, m20, c20, rfl, n20, l20, f20⟩ := OpenIs.parts hq; clear hq))
      | (with_reducible refine at_wpP ?_; refine at_alX 31 rfl ?_; have q := f20; refine wpList_allocN rfl rfl ?_; intro g13 w21 hg13 b21 f21 s21)
      | (with_reducible refine at_wpP ?_; refine at_st 31 (.tmp 13) _ rfl ?_; go_must (refine wpList_stN rfl _ _ rfl g13 rfl N.k N.b (.slice a20 m20 c20) rfl l20.out ⟨_, _, _, rfl⟩ 0 (zerB 16) nilS b21 (zerB_len 16) ?_; intro w22 b22 f22; have J22 := Fr.ownX f21 s21 f22; have I22 : Fr noB w4 w22 := (Fr.thenN I10 f20).thenN J22))
      | (with_reducible refine at_wpP ?_; refine at_ld 31 (.tmp 13) rfl ?_; go_must (refine wpList_ldN rfl _ rfl g13 rfl N.k N.b (.slice a20 m20 c20) b22 l20.out ?_))
      | (with_reducible refine at_wpP ?_; refine at_st 23 (.tmp 15) _ rfl ?_; go_must (refine wpList_storeA arr_page rfl _ _ rfl g15 rfl p rfl _ b24 Hp.out hZl.out ?_; intro w25 b25 f25; have I25 := I23.thenN (Fr.ownX f24 s24 f25); have C25 := C5.fr0 I25))
      | (with_reducible refine at_wpP ?_; refine at_ld 23 (.tmp 15) rfl ?_; refine wpList_loadA arr_page rfl _ rfl g15 rfl p b25 Hp.out ?_)
      | (with_reducible refine at_wpP ?_; refine at_binX .eql 23 _ _ _ rfl ?_; refine wpList_eqlA arr_page rfl _ _ _ rfl p p rfl rfl Hp.out Hp.out ?_; rw [hpp.out]))
    go_ret
    exact ⟨rfl, (F4.thenN I25).below⟩

set_option maxRecDepth 100000 in
set_option maxHeartbeats 4000000 in
theorem lback_yn (na nb : Nd) (p : List Int) (aa ab : Option Addr) (ca cb : Nat) (w : World) (hna : NdS w (.slice aa na.es.length ca) na) (hnb : NdS w (.slice ab nb.es.length cb) nb) (hla : ¬ (50 : Int) < (na.es.length : Int)) (hlb : ¬ (50 : Int) < (nb.es.length : Int)) (Hp : Hid (p.length = 256)) (hX : BackX p) (hra : na.right = true) (hrb : nb.right = false) :
    Calls Try.prog 5 #[ndV na.k na.b (.slice aa na.es.length ca), ndV nb.k nb.b (.slice ab nb.es.length cb), pgV p] w fun e w' => e = .returned (.bool true) ∧ Below w.heap.size w w' := by
  have Hba := NdS.bl hna
  have Hbb := NdS.bl hnb
  have hda : decide ((50 : Int) < (na.es.length : Int)) = false := decide_eq_false hla
  have hdb : decide ((50 : Int) < (nb.es.length : Int)) = false := decide_eq_false hlb
  obtain ⟨Z, HZ⟩ : ∃ Z, Hid (zerB 256 = Z) := ⟨_, rfl⟩
  have hZl : Hid (Z.length = 256) := by show _ = _; rw [← HZ.out]; exact zerB_len 256
  have hpp : Hid ((p == p) = true) := beq_self_eq_true p
  have hoa := fun w => open_any na.page (page_len hra Hba.out) (page_byt hra hna.2.1) w
  rw [opN_own hra hna.2.1] at hoa
  have hsA : ∀ v u w, NdS w v na → NdS w u na → Calls Try.prog 12 #[ndV na.k na.b v, ndV na.k na.b u] w fun r w' => r = .returned (.bool true) ∧ Fr noB w w' := fun v u w h1 h2 => by
    have := same_any na na v u w h1 h2
    rwa [same_self] at this
  obtain ⟨Ra, HRa⟩ : ∃ R, Hid (na.page = R) := ⟨_, rfl⟩
  have hRal : Hid (Ra.length = 256) := by show _ = _; rw [← HRa.out]; exact page_len hra Hba.out
  rw [HRa.out] at hoa
  go_enter Try.func5, Try.ntmps5
  go_wp2_with (first
    | (with_reducible refine at_wpP ?_; have q := b3; refine wpList_boxN rfl _ rfl nb.k nb.b (.slice ab nb.es.length cb) rfl ?_; intro g4 w2 hg4 b4 f2 s4)
    | (with_reducible refine at_wpP ?_; refine wpList_boxN rfl _ rfl na.k na.b (.slice aa na.es.length ca) rfl ?_; intro g3 w1 hg3 b3 f1 s3)
    | (with_reducible refine at_wpP ?_; refine wpList_boxV rfl 23 _ rfl (pgv p) rfl ?_; intro g5 w3 hg5 b5 f3 s5; have F3 := (f1.thenN f2).thenN f3; have B3 := (b3.fr0 f2).fr0 f3; have B4 := b4.fr0 f3)
    | (go_at_call 9; go_must (refine (lalive_any _).mono ?_; rintro e w4 ⟨rfl, f4⟩; have F4 := F3.thenN f4; have C3 := B3.fr0 f4; have C4 := B4.fr0 f4; have C5 := b5.fr0 f4; have q3 := NdB.ents C3 Hba.out; have q4 := NdB.ents C4 Hbb.out))
    | (with_reducible refine at_wpP ?_; refine at_ld 31 (.tmp 3) rfl ?_; go_must (refine wpList_ldN rfl _ rfl g3 rfl na.k na.b (.slice aa na.es.length ca) C3 Hba.out ?_))
    | (with_reducible refine at_wpP ?_; refine at_ld 31 (.tmp 4) rfl ?_; go_must (refine wpList_ldN rfl _ rfl g4 rfl nb.k nb.b (.slice ab nb.es.length cb) (C4.fr0 I7) Hbb.out ?_))
    | (go_at_call 7; have q := I7; go_must (refine (page_no nb _ _ ((hnb.fr0 F4).fr0 I7) hrb).mono ?_; rw [HZ.out]; rintro e w8 ⟨rfl, f8⟩; have I8 := I7.thenN f8))
    | (go_at_call 7; go_must (refine (page_ok na _ _ (hna.fr0 F4) hra).mono ?_; rw [HRa.out]; rintro e w5 ⟨rfl, f5⟩))
    | (with_reducible refine at_wpP ?_; refine at_alX 31 rfl ?_; have q := f11; refine wpList_allocN rfl rfl ?_; intro g11 w12 hg11 b12 f12 s12)
    | (with_reducible refine at_wpP ?_; refine at_alX 23 rfl ?_; have q := I8; refine wpList_allocA arr_page rfl rfl ?_; rw [HZ.out]; intro g9 w9 hg9 b9 f9 s9)
    | (with_reducible refine at_wpP ?_; refine at_alX 23 rfl ?_; have q := f5; refine wpList_allocA arr_page rfl rfl ?_; rw [HZ.out]; intro g7 w6 hg7 b6 f6 s7)
    | (with_reducible refine at_wpP ?_; refine at_st 23 (.tmp 7) _ rfl ?_; go_must (refine wpList_storeA arr_page rfl _ _ rfl g7 rfl Ra rfl _ b6 hRal.out hZl.out ?_; intro w7 b7 f7; have I7 := f5.thenN (Fr.ownX f6 s7 f7)))
    | (with_reducible refine at_wpP ?_; refine at_st 23 (.tmp 9) _ rfl ?_; go_must (refine wpList_storeA arr_page rfl _ _ rfl g9 rfl Z rfl _ b9 hZl.out hZl.out ?_; intro w10 b10 f10; have J10 := Fr.ownX f9 s9 f10; have I10 := I8.thenN J10; have b7' := (b7.fr0 f8).fr0 J10))
    | (with_reducible refine at_wpP ?_; refine at_ld 23 (.tmp 7) rfl ?_; go_must (refine wpList_loadA arr_page rfl _ rfl g7 rfl Ra b7' hRal.out ?_))
    | (go_at_call 8; have q := I10; go_must (refine (hoa _).mono ?_; intro e w11 hq; obtain ⟨a11, m11, c11, rfl, n11, l11, f11⟩ := OpenIs.parts hq; clear hq))
    | (with_reducible refine at_wpP ?_; refine at_st 31 (.tmp 11) _ rfl ?_; go_must (refine wpList_stN rfl _ _ rfl g11 rfl na.k na.b (.slice a11 m11 c11) rfl l11.out ⟨_, _, _, rfl⟩ 0 (zerB 16) nilS b12 (zerB_len 16) ?_; intro w13 b13 f13; have J13 := Fr.ownX f12 s12 f13; have K13 := f11.thenN J13; have I13 := I10.thenN K13)))
  obtain ⟨w0, HW⟩ : ∃ w0, Hid (w13.drew = w0) := ⟨_, rfl⟩
  have f0 : Fr noB w13 w0 := by rw [← HW.out]; exact (Fr.refl _ _).drew
  have HJ0 : JGX w0 [] w13.drew := by rw [HW.out]; exact Fr.refl _ _
  have I0 := I13.thenN f0
  have E3 : NdB w0 g3 na.k na.b (.slice aa na.es.length ca) := C3.fr0 I0
  have E4 : NdB w0 g4 nb.k nb.b (.slice ab nb.es.length cb) := C4.fr0 I0
  have E7 := (b7'.fr0 K13).fr0 f0
  have E9 := (b10.fr0 K13).fr0 f0
  have E11 : NdB w0 g11 na.k na.b (.slice a11 m11 c11) := b13.fr0 f0
  have m11' := (n11.fr0 J13).fr0 f0
  have mA := (hna.fr0 F4).fr0 I0
  have mB := (hnb.fr0 F4).fr0 I0
  refine wp_region_chain_lay (by kernel_rfl) [] [none, none, none, none, none, none, none, none, none, none, none, none, none, none, none, none, none, none, none, none, none]
    [fun v => v = .int .i64 0, fun v => v = .bool false, fun v => v = .bool false, fun v => v = ndV na.k na.b (.slice a11 m11 c11), fun v => v = ndV na.k na.b (.slice aa na.es.length ca), fun v => v = .bool true, fun v => v = .bool false, fun v => v = .bool false, fun v => v = .bool false, fun v => v = .int .i64 81, fun v => v = .bool false, fun v => v = .bool false, fun v => v = undef, fun v => v = undef, fun v => v = undef, fun v => v = undef, fun v => v = undef, fun v => v = undef, fun v => v = undef, fun v => v = .bool false, fun v => v = .bool false]
    (JGX w0) (HJ0) (by kernel_rfl) (by kernel_rfl) (by decide) ⟨?o0, ?o1, ?o2, ?o3, ?o4, ?o5, ?o6, ?o7, ?o8, ?o9, ?o10, ?o11, ?o12, ?o13, ?o14, ?o15, ?o16, ?o17, ?o18, ?o19, ?o20, trivial⟩ ?oe
  case o0 =>
    intro A W hv hlen hJ hbase hdL hdH
    have e12 : A.eval (.tmp 12) = .int .i64 0 := hbase 12 (by kernel_rfl)
    have f12 : A.tmps[12]?.getD undef = .int .i64 0 := by simpa [Act.eval] using e12
    exact light_val rfl (v := .int .i64 0) (by simp [execOp, e12, f12]) hJ rfl
  case o1 =>
    intro A W hv hlen hJ hbase hdL hdH
    have e46 : A.eval (.tmp 46) = .int .i64 0 := hdL 0 46 (by kernel_rfl) (by kernel_rfl) (by kernel_rfl)
    have f46 : A.tmps[46]?.getD undef = .int .i64 0 := by simpa [Act.eval] using e46
    exact light_val rfl (v := .bool false) (by simp [execOp, go_sem, e46, f46]) hJ rfl
  case o2 =>
    intro A W hv hlen hJ hbase hdL hdH
    have e47 : A.eval (.tmp 47) = .bool false := hdL 1 47 (by kernel_rfl) (by kernel_rfl) (by kernel_rfl)
    have f47 : A.tmps[47]?.getD undef = .bool false := by simpa [Act.eval] using e47
    exact light_val rfl (v := .bool false) (by simp [execOp, e47, f47]) hJ rfl
  case o3 =>
    intro A W hv hlen hJ hbase hdL hdH
    have e11 : A.eval (.tmp 11) = .pointer (some ⟨g11, 0, none⟩) := hbase 11 (by kernel_rfl)
    have f11 : A.tmps[11]?.getD undef = .pointer (some ⟨g11, 0, none⟩) := by simpa [Act.eval] using e11
    have eg : A.eval (.tmp 48) = .bool false := hdL 2 48 (by kernel_rfl) (by kernel_rfl) (by kernel_rfl)
    have hr := run_ldN (k := _) (b := _) (v := _) (E11.fr0 hJ) l11.out
    exact light_val (wanted_of rfl (by kernel_rfl) eg) (v := ndV na.k na.b (.slice a11 m11 c11)) (by simp [execOp, e11, hr, Result.andThen]) hJ rfl
  case o4 =>
    intro A W hv hlen hJ hbase hdL hdH
    have e3 : A.eval (.tmp 3) = .pointer (some ⟨g3, 0, none⟩) := hbase 3 (by kernel_rfl)
    have f3 : A.tmps[3]?.getD undef = .pointer (some ⟨g3, 0, none⟩) := by simpa [Act.eval] using e3
    have eg : A.eval (.tmp 48) = .bool false := hdL 2 48 (by kernel_rfl) (by kernel_rfl) (by kernel_rfl)
    have hr := run_ldN (k := _) (b := _) (v := _) (E3.fr0 hJ) Hba.out
    exact light_val (wanted_of rfl (by kernel_rfl) eg) (v := ndV na.k na.b (.slice aa na.es.length ca)) (by simp [execOp, e3, hr, Result.andThen]) hJ rfl
  case o5 =>
    intro A W hv hlen hJ hbase hdL hdH
    have e49 : A.eval (.tmp 49) = ndV na.k na.b (.slice a11 m11 c11) := hdL 3 49 (by kernel_rfl) (by kernel_rfl) (by kernel_rfl)
    have f49 : A.tmps[49]?.getD undef = ndV na.k na.b (.slice a11 m11 c11) := by simpa [Act.eval] using e49
    have e50 : A.eval (.tmp 50) = ndV na.k na.b (.slice aa na.es.length ca) := hdL 4 50 (by kernel_rfl) (by kernel_rfl) (by kernel_rfl)
    have f50 : A.tmps[50]?.getD undef = ndV na.k na.b (.slice aa na.es.length ca) := by simpa [Act.eval] using e50
    have eg : A.eval (.tmp 48) = .bool false := hdL 2 48 (by kernel_rfl) (by kernel_rfl) (by kernel_rfl)
    refine light_callX (wanted_of rfl (by kernel_rfl) eg) (args := #[ndV na.k na.b (.slice a11 m11 c11), ndV na.k na.b (.slice aa na.es.length ca)]) (f := 12) (by simp [execOp, resolve, invoke, go_sem, e49, f49, e50, f50]) ?_
    refine (hsA _ _ _ (NdS.fr0 m11' hJ) (NdS.fr0 mA hJ)).mono ?_
    rintro e w' ⟨rfl, f'⟩
    exact ⟨_, rfl, Fr.thenN hJ f', rfl⟩
  case o6 =>
    intro A W hv hlen hJ hbase hdL hdH
    have e51 : A.eval (.tmp 51) = .bool true := hdL 5 51 (by kernel_rfl) (by kernel_rfl) (by kernel_rfl)
    have f51 : A.tmps[51]?.getD undef = .bool true := by simpa [Act.eval] using e51
    have eg : A.eval (.tmp 48) = .bool false := hdL 2 48 (by kernel_rfl) (by kernel_rfl) (by kernel_rfl)
    exact light_val (wanted_of rfl (by kernel_rfl) eg) (v := .bool false) (by simp [execOp, go_sem, e51, f51]) hJ rfl
  case o7 =>
    intro A W hv hlen hJ hbase hdL hdH
    have e48 : A.eval (.tmp 48) = .bool false := hdL 2 48 (by kernel_rfl) (by kernel_rfl) (by kernel_rfl)
    have f48 : A.tmps[48]?.getD undef = .bool false := by simpa [Act.eval] using e48
    have e52 : A.eval (.tmp 52) = .bool false := hdL 6 52 (by kernel_rfl) (by kernel_rfl) (by kernel_rfl)
    have f52 : A.tmps[52]?.getD undef = .bool false := by simpa [Act.eval] using e52
    exact light_val rfl (v := .bool false) (by simp [execOp, go_sem, e48, f48, e52, f52]) hJ rfl
  case o8 =>
    intro A W hv hlen hJ hbase hdL hdH
    have e53 : A.eval (.tmp 53) = .bool false := hdL 7 53 (by kernel_rfl) (by kernel_rfl) (by kernel_rfl)
    have f53 : A.tmps[53]?.getD undef = .bool false := by simpa [Act.eval] using e53
    exact light_val rfl (v := .bool false) (by simp [execOp, e53, f53]) hJ rfl
  case o9 =>
    intro A W hv hlen hJ hbase hdL hdH
    have e10 : A.eval (.tmp 10) = .int .i64 81 := hbase 10 (by kernel_rfl)
    have f10 : A.tmps[10]?.getD undef = .int .i64 81 := by simpa [Act.eval] using e10
    have eg : A.eval (.tmp 54) = .bool false := hdL 8 54 (by kernel_rfl) (by kernel_rfl) (by kernel_rfl)
    exact light_val (wanted_of rfl (by kernel_rfl) eg) (v := .int .i64 81) (by simp [execOp, e10, f10]) hJ rfl
  case o10 =>
    intro A W hv hlen hJ hbase hdL hdH
    have e55 : A.eval (.tmp 55) = .int .i64 81 := hdL 9 55 (by kernel_rfl) (by kernel_rfl) (by kernel_rfl)
    have f55 : A.tmps[55]?.getD undef = .int .i64 81 := by simpa [Act.eval] using e55
    have eg : A.eval (.tmp 54) = .bool false := hdL 8 54 (by kernel_rfl) (by kernel_rfl) (by kernel_rfl)
    exact light_val (wanted_of rfl (by kernel_rfl) eg) (v := .bool false) (by simp [execOp, go_sem, e55, f55]) hJ rfl
  case o11 =>
    intro A W hv hlen hJ hbase hdL hdH
    have e56 : A.eval (.tmp 56) = .bool false := hdL 10 56 (by kernel_rfl) (by kernel_rfl) (by kernel_rfl)
    have f56 : A.tmps[56]?.getD undef = .bool false := by simpa [Act.eval] using e56
    have eg : A.eval (.tmp 54) = .bool false := hdL 8 54 (by kernel_rfl) (by kernel_rfl) (by kernel_rfl)
    exact light_val (wanted_of rfl (by kernel_rfl) eg) (v := .bool false) (by simp [execOp, e56, f56]) hJ rfl
  case o12 =>
    intro A W hv hlen hJ hbase hdL hdH
    have eg : A.eval (.tmp 57) = .bool false := hdL 11 57 (by kernel_rfl) (by kernel_rfl) (by kernel_rfl)
    exact light_no (unwanted_of rfl (by kernel_rfl) eg) rfl
  case o13 =>
    intro A W hv hlen hJ hbase hdL hdH
    have eg : A.eval (.tmp 57) = .bool false := hdL 11 57 (by kernel_rfl) (by kernel_rfl) (by kernel_rfl)
    exact light_no (unwanted_of rfl (by kernel_rfl) eg) rfl
  case o14 =>
    intro A W hv hlen hJ hbase hdL hdH
    have eg : A.eval (.tmp 57) = .bool false := hdL 11 57 (by kernel_rfl) (by kernel_rfl) (by kernel_rfl)
    exact light_no (unwanted_of rfl (by kernel_rfl) eg) rfl
  case o15 =>
    intro A W hv hlen hJ hbase hdL hdH
    have eg : A.eval (.tmp 57) = .bool false := hdL 11 57 (by kernel_rfl) (by kernel_rfl) (by kernel_rfl)
    exact light_no (unwanted_of rfl (by kernel_rfl) eg) rfl
  case o16 =>
    intro A W hv hlen hJ hbase hdL hdH
    have eg : A.eval (.tmp 57) = .bool false := hdL 11 57 (by kernel_rfl) (by kernel_rfl) (by kernel_rfl)
    exact light_no (unwanted_of rfl (by kernel_rfl) eg) rfl
  case o17 =>
    intro A W hv hlen hJ hbase hdL hdH
    have eg : A.eval (.tmp 57) = .bool false := hdL 11 57 (by kernel_rfl) (by kernel_rfl) (by kernel_rfl)
    exact light_no (unwanted_of rfl (by kernel_rfl) eg) rfl
  case o18 =>
    intro A W hv hlen hJ hbase hdL hdH
    have eg : A.eval (.tmp 57) = .bool false := hdL 11 57 (by kernel_rfl) (by kernel_rfl) (by kernel_rfl)
    exact light_no (unwanted_of rfl (by kernel_rfl) eg) rfl
  case o19 =>
    intro A W hv hlen hJ hbase hdL hdH
    have e57 : A.eval (.tmp 57) = .bool false := hdL 11 57 (by kernel_rfl) (by kernel_rfl) (by kernel_rfl)
    have f57 : A.tmps[57]?.getD undef = .bool false := by simpa [Act.eval] using e57
    have e64 : A.eval (.tmp 64) = undef := hdL 18 64 (by kernel_rfl) (by kernel_rfl) (by kernel_rfl)
    have f64 : A.tmps[64]?.getD undef = undef := by simpa [Act.eval] using e64
    have eg : A.eval (.tmp 54) = .bool false := hdL 8 54 (by kernel_rfl) (by kernel_rfl) (by kernel_rfl)
    exact light_val (wanted_of rfl (by kernel_rfl) eg) (v := .bool false) (by simp [execOp, go_sem, e57, f57, e64, f64]) hJ rfl
  case o20 =>
    intro A W hv hlen hJ hbase hdL hdH
    have e54 : A.eval (.tmp 54) = .bool false := hdL 8 54 (by kernel_rfl) (by kernel_rfl) (by kernel_rfl)
    have f54 : A.tmps[54]?.getD undef = .bool false := by simpa [Act.eval] using e54
    have e65 : A.eval (.tmp 65) = .bool false := hdL 19 65 (by kernel_rfl) (by kernel_rfl) (by kernel_rfl)
    have f65 : A.tmps[65]?.getD undef = .bool false := by simpa [Act.eval] using e65
    exact light_val rfl (v := .bool false) (by simp [execOp, go_sem, e54, f54, e65, f65]) hJ rfl
  case oe =>
    intro vz W' hv hlen hJ hL' hH
    have x66 := hL' 20 (by decide) (by rfl)
    have x66 : vz 20 = .bool false := x66
    simp only [layL, Nat.reduceAdd, Act.put, List.setIfInBounds_toArray, List.set_cons_zero, List.set_cons_succ]
    clear hL' hH
    generalize vz 0 = y100 at *
    generalize vz 1 = y101 at *
    generalize vz 2 = y102 at *
    generalize vz 3 = y103 at *
    generalize vz 4 = y104 at *
    generalize vz 5 = y105 at *
    generalize vz 6 = y106 at *
    generalize vz 7 = y107 at *
    generalize vz 8 = y108 at *
    generalize vz 9 = y109 at *
    generalize vz 10 = y110 at *
    generalize vz 11 = y111 at *
    generalize vz 12 = y112 at *
    generalize vz 13 = y113 at *
    generalize vz 14 = y114 at *
    generalize vz 15 = y115 at *
    generalize vz 16 = y116 at *
    generalize vz 17 = y117 at *
    generalize vz 18 = y118 at *
    generalize vz 19 = y119 at *
    rw [x66]
    clear x66
    have hJ : Fr noB w0 W' := hJ
    have IW := I0.thenN hJ
    clear b3 b4 b6 b7 b7' b9 b10 b12 b13 B3 B4 C3 C4 q3 q4 E3 E4 E7 E9 E11 m11' mA mB n11
    rcases hX with ⟨hop, hs00⟩ | ⟨N, hop, hpn⟩
    · skip
      go_wp2_with (first
        | (with_reducible refine at_wpP ?_; refine at_ld 23 (.tmp 5) rfl ?_; refine wpList_loadA arr_page rfl _ rfl g5 rfl p (C5.fr0 IW) Hp.out ?_)
        | (go_at_call 8; go_must (refine (hop _).mono ?_; intro e w20 hq; obtain ⟨a20, m20, c20, rfl, n20, l20, f20⟩ := OpenIs.parts hq; clear hq))
        | (with_reducible refine at_wpP ?_; refine at_alX 31 rfl ?_; have q := f20; refine wpList_allocN rfl rfl ?_; intro g13 w21 hg13 b21 f21 s21)
        | (with_reducible refine at_wpP ?_; refine at_st 31 (.tmp 13) _ rfl ?_; go_must (refine wpList_stN rfl _ _ rfl g13 rfl nd0.k nd0.b (.slice a20 m20 c20) rfl l20.out ⟨_, _, _, rfl⟩ 0 (zerB 16) nilS b21 (zerB_len 16) ?_; intro w22 b22 f22; have J22 := Fr.ownX f21 s21 f22; have I22 : Fr noB w4 w22 := (Fr.thenN IW f20).thenN J22))
        | (with_reducible refine at_wpP ?_; refine at_ld 31 (.tmp 13) rfl ?_; go_must (refine wpList_ldN rfl _ rfl g13 rfl nd0.k nd0.b (.slice a20 m20 c20) b22 l20.out ?_))
        | (with_reducible refine at_wpP ?_; refine at_bldX 31 _ rfl ?_; refine wpList_bldN rfl _ rfl 0 (zerB 16) nilS [] rfl built_nd0 ?_)
        | (go_at_call 12; go_must (refine (hs00 _ _ (n20.fr0 J22)).mono ?_; rintro e w23 ⟨rfl, f23⟩)))
      go_ret
      exact ⟨rfl, (F4.thenN (I22.thenN f23)).below⟩
    · skip
      go_wp2_with (first
        | (go_at_call 7; have q := I22; go_must (refine (hpn _ _ (n20.fr0 J22)).mono ?_; rintro e w23 ⟨rfl, f23⟩; have I23 := I22.thenN f23))
        | (with_reducible refine at_wpP ?_; refine at_alX 23 rfl ?_; have q := I23; refine wpList_allocA arr_page rfl rfl ?_; rw [HZ.out]; intro g15 w24 hg15 b24 f24 s24)
        | (with_reducible refine at_wpP ?_; refine at_ld 23 (.tmp 5) rfl ?_; have q := C25; refine wpList_loadA arr_page rfl _ rfl g5 rfl p C25 Hp.out ?_)
        | (with_reducible refine at_wpP ?_; refine at_ld 23 (.tmp 5) rfl ?_; refine wpList_loadA arr_page rfl _ rfl g5 rfl p (C5.fr0 IW) Hp.out ?_)
        | (go_at_call 8; go_must (refine (hop _).mono ?_; intro e w20 hq; obtain ⟨a20, m20, c20, rfl, n20, l20, f20⟩ := OpenIs.parts hq; clear hq))
        | (with_reducible refine at_wpP ?_; refine at_alX 31 rfl ?_; have q := f20; refine wpList_allocN rfl rfl ?_; intro g13 w21 hg13 b21 f21 s21)
        | (with_reducible refine at_wpP ?_; refine at_st 31 (.tmp 13) _ rfl ?_; go_must (refine wpList_stN rfl _ _ rfl g13 rfl N.k N.b (.slice a20 m20 c20) rfl l20.out ⟨_, _, _, rfl⟩ 0 (zerB 16) nilS b21 (zerB_len 16) ?_; intro w22 b22 f22; have J22 := Fr.ownX f21 s21 f22; have I22 : Fr noB w4 w22 := (Fr.thenN IW f20).thenN J22))
        | (with_reducible refine at_wpP ?_; refine at_ld 31 (.tmp 13) rfl ?_; go_must (refine wpList_ldN rfl _ rfl g13 rfl N.k N.b (.slice a20 m20 c20) b22 l20.out ?_))
        | (with_reducible refine at_wpP ?_; refine at_st 23 (.tmp 15) _ rfl ?_; go_must (refine wpList_storeA arr_page rfl _ _ rfl g15 rfl p rfl _ b24 Hp.out hZl.out ?_; intro w25 b25 f25; have I25 := I23.thenN (Fr.ownX f24 s24 f25); have C25 := C5.fr0 I25))
        | (with_reducible refine at_wpP ?_; refine at_ld 23 (.tmp 15) rfl ?_; refine wpList_loadA arr_page rfl _ rfl g15 rfl p b25 Hp.out ?_)
        | (with_reducible refine at_wpP ?_; refine at_binX .eql 23 _ _ _ rfl ?_; refine wpList_eqlA arr_page rfl _ _ _ rfl p p rfl rfl Hp.out Hp.out ?_; rw [hpp.out]))
      go_ret
      exact ⟨rfl, (F4.thenN I25).below⟩

set_option maxRecDepth 100000 in
set_option maxHeartbeats 4000000 in
theorem lback_yy (na nb : Nd) (p : List Int) (aa ab : Option Addr) (ca cb : Nat) (w : World) (hna : NdS w (.slice aa na.es.length ca) na) (hnb : NdS w (.slice ab nb.es.length cb) nb) (hla : ¬ (50 : Int) < (na.es.length : Int)) (hlb : ¬ (50 : Int) < (nb.es.length : Int)) (Hp : Hid (p.length = 256)) (hX : BackX p) (hra : na.right = true) (hrb : nb.right = true) :
    Calls Try.prog 5 #[ndV na.k na.b (.slice aa na.es.length ca), ndV nb.k nb.b (.slice ab nb.es.length cb), pgV p] w fun e w' => e = .returned (.bool true) ∧ Below w.heap.size w w' := by
  have Hba := NdS.bl hna
  have Hbb := NdS.bl hnb
  have hda : decide ((50 : Int) < (na.es.length : Int)) = false := decide_eq_false hla
  have hdb : decide ((50 : Int) < (nb.es.length : Int)) = false := decide_eq_false hlb
  obtain ⟨Z, HZ⟩ : ∃ Z, Hid (zerB 256 = Z) := ⟨_, rfl⟩
  have hZl : Hid (Z.length = 256) := by show _ = _; rw [← HZ.out]; exact zerB_len 256
  have hpp : Hid ((p == p) = true) := beq_self_eq_true p
  have hoa := fun w => open_any na.page (page_len hra Hba.out) (page_byt hra hna.2.1) w
  rw [opN_own hra hna.2.1] at hoa
  have hsA : ∀ v u w, NdS w v na → NdS w u na → Calls Try.prog 12 #[ndV na.k na.b v, ndV na.k na.b u] w fun r w' => r = .returned (.bool true) ∧ Fr noB w w' := fun v u w h1 h2 => by
    have := same_any na na v u w h1 h2
    rwa [same_self] at this
  obtain ⟨Q, HQ0⟩ : ∃ Q, Hid ((na.page == nb.page) = Q) := ⟨_, rfl⟩
  have hQs : na.same nb = Q := by
    rw [← HQ0.out]
    cases hs : na.same nb with
    | true => rw [same_eq.1 hs]; exact (beq_self_eq_true _).symm
    | false =>
      refine (Bool.eq_false_iff.2 fun h => ?_).symm
      have h' : na.page = nb.page := by simpa using h
      have := page_inj hra hna.2.1 hrb hnb.2.1 h'
      rw [same_eq.2 this] at hs
      cases hs
  have hsAB : ∀ v u w, NdS w v na → NdS w u nb → Calls Try.prog 12 #[ndV na.k na.b v, ndV nb.k nb.b u] w fun r w' => r = .returned (.bool Q) ∧ Fr noB w w' := fun v u w h1 h2 => by
    have := same_any na nb v u w h1 h2
    rwa [hQs] at this
  clear hQs
  obtain ⟨Ra, HRa⟩ : ∃ R, Hid (na.page = R) := ⟨_, rfl⟩
  have hRal : Hid (Ra.length = 256) := by show _ = _; rw [← HRa.out]; exact page_len hra Hba.out
  rw [HRa.out] at hoa
  obtain ⟨Rb, HRb⟩ : ∃ R, Hid (nb.page = R) := ⟨_, rfl⟩
  have hRbl : Hid (Rb.length = 256) := by show _ = _; rw [← HRb.out]; exact page_len hrb Hbb.out
  have HQ : Hid ((Ra == Rb) = Q) := by show _ = _; rw [← HRa.out, ← HRb.out]; exact HQ0.out
  go_enter Try.func5, Try.ntmps5
  go_wp2_with (first
    | (with_reducible refine at_wpP ?_; have q := b3; refine wpList_boxN rfl _ rfl nb.k nb.b (.slice ab nb.es.length cb) rfl ?_; intro g4 w2 hg4 b4 f2 s4)
    | (with_reducible refine at_wpP ?_; refine wpList_boxN rfl _ rfl na.k na.b (.slice aa na.es.length ca) rfl ?_; intro g3 w1 hg3 b3 f1 s3)
    | (with_reducible refine at_wpP ?_; refine wpList_boxV rfl 23 _ rfl (pgv p) rfl ?_; intro g5 w3 hg5 b5 f3 s5; have F3 := (f1.thenN f2).thenN f3; have B3 := (b3.fr0 f2).fr0 f3; have B4 := b4.fr0 f3)
    | (go_at_call 9; go_must (refine (lalive_any _).mono ?_; rintro e w4 ⟨rfl, f4⟩; have F4 := F3.thenN f4; have C3 := B3.fr0 f4; have C4 := B4.fr0 f4; have C5 := b5.fr0 f4; have q3 := NdB.ents C3 Hba.out; have q4 := NdB.ents C4 Hbb.out))
    | (with_reducible refine at_wpP ?_; refine at_ld 31 (.tmp 3) rfl ?_; go_must (refine wpList_ldN rfl _ rfl g3 rfl na.k na.b (.slice aa na.es.length ca) C3 Hba.out ?_))
    | (with_reducible refine at_wpP ?_; refine at_ld 31 (.tmp 4) rfl ?_; go_must (refine wpList_ldN rfl _ rfl g4 rfl nb.k nb.b (.slice ab nb.es.length cb) (C4.fr0 I7) Hbb.out ?_))
    | (go_at_call 7; have q := I7; go_must (refine (page_ok nb _ _ ((hnb.fr0 F4).fr0 I7) hrb).mono ?_; rw [HRb.out]; rintro e w8 ⟨rfl, f8⟩; have I8 := I7.thenN f8))
    | (go_at_call 7; go_must (refine (page_ok na _ _ (hna.fr0 F4) hra).mono ?_; rw [HRa.out]; rintro e w5 ⟨rfl, f5⟩))
    | (with_reducible refine at_wpP ?_; refine at_alX 31 rfl ?_; have q := f11; refine wpList_allocN rfl rfl ?_; intro g11 w12 hg11 b12 f12 s12)
    | (with_reducible refine at_wpP ?_; refine at_alX 23 rfl ?_; have q := I8; refine wpList_allocA arr_page rfl rfl ?_; rw [HZ.out]; intro g9 w9 hg9 b9 f9 s9)
    | (with_reducible refine at_wpP ?_; refine at_alX 23 rfl ?_; have q := f5; refine wpList_allocA arr_page rfl rfl ?_; rw [HZ.out]; intro g7 w6 hg7 b6 f6 s7)
    | (with_reducible refine at_wpP ?_; refine at_st 23 (.tmp 7) _ rfl ?_; go_must (refine wpList_storeA arr_page rfl _ _ rfl g7 rfl Ra rfl _ b6 hRal.out hZl.out ?_; intro w7 b7 f7; have I7 := f5.thenN (Fr.ownX f6 s7 f7)))
    | (with_reducible refine at_wpP ?_; refine at_st 23 (.tmp 9) _ rfl ?_; go_must (refine wpList_storeA arr_page rfl _ _ rfl g9 rfl Rb rfl _ b9 hRbl.out hZl.out ?_; intro w10 b10 f10; have J10 := Fr.ownX f9 s9 f10; have I10 := I8.thenN J10; have b7' := (b7.fr0 f8).fr0 J10))
    | (with_reducible refine at_wpP ?_; refine at_ld 23 (.tmp 7) rfl ?_; go_must (refine wpList_loadA arr_page rfl _ rfl g7 rfl Ra b7' hRal.out ?_))
    | (go_at_call 8; have q := I10; go_must (refine (hoa _).mono ?_; intro e w11 hq; obtain ⟨a11, m11, c11, rfl, n11, l11, f11⟩ := OpenIs.parts hq; clear hq))
    | (with_reducible refine at_wpP ?_; refine at_st 31 (.tmp 11) _ rfl ?_; go_must (refine wpList_stN rfl _ _ rfl g11 rfl na.k na.b (.slice a11 m11 c11) rfl l11.out ⟨_, _, _, rfl⟩ 0 (zerB 16) nilS b12 (zerB_len 16) ?_; intro w13 b13 f13; have J13 := Fr.ownX f12 s12 f13; have K13 := f11.thenN J13; have I13 := I10.thenN K13)))
  obtain ⟨w0, HW⟩ : ∃ w0, Hid (w13.drew = w0) := ⟨_, rfl⟩
  have f0 : Fr noB w13 w0 := by rw [← HW.out]; exact (Fr.refl _ _).drew
  have HJ0 : JGX w0 [] w13.drew := by rw [HW.out]; exact Fr.refl _ _
  have I0 := I13.thenN f0
  have E3 : NdB w0 g3 na.k na.b (.slice aa na.es.length ca) := C3.fr0 I0
  have E4 : NdB w0 g4 nb.k nb.b (.slice ab nb.es.length cb) := C4.fr0 I0
  have E7 := (b7'.fr0 K13).fr0 f0
  have E9 := (b10.fr0 K13).fr0 f0
  have E11 : NdB w0 g11 na.k na.b (.slice a11 m11 c11) := b13.fr0 f0
  have m11' := (n11.fr0 J13).fr0 f0
  have mA := (hna.fr0 F4).fr0 I0
  have mB := (hnb.fr0 F4).fr0 I0
  refine wp_region_chain_lay (by kernel_rfl) [] [none, none, none, none, none, none, none, none, none, none, none, none, none, none, none, none, none, none, none, none, none]
    [fun v => v = .int .i64 0, fun v => v = .bool false, fun v => v = .bool false, fun v => v = ndV na.k na.b (.slice a11 m11 c11), fun v => v = ndV na.k na.b (.slice aa na.es.length ca), fun v => v = .bool true, fun v => v = .bool false, fun v => v = .bool false, fun v => v = .bool false, fun v => v = .int .i64 0, fun v => v = .bool true, fun v => v = .bool true, fun v => v = pgV Ra, fun v => v = pgV Rb, fun v => v = .bool Q, fun v => v = ndV na.k na.b (.slice aa na.es.length ca), fun v => v = ndV nb.k nb.b (.slice ab nb.es.length cb), fun v => v = .bool Q, fun v => v = .bool false, fun v => v = .bool false, fun v => v = .bool false]
    (JGX w0) (HJ0) (by kernel_rfl) (by kernel_rfl) (by decide) ⟨?o0, ?o1, ?o2, ?o3, ?o4, ?o5, ?o6, ?o7, ?o8, ?o9, ?o10, ?o11, ?o12, ?o13, ?o14, ?o15, ?o16, ?o17, ?o18, ?o19, ?o20, trivial⟩ ?oe
  case o0 =>
    intro A W hv hlen hJ hbase hdL hdH
    have e12 : A.eval (.tmp 12) = .int .i64 0 := hbase 12 (by kernel_rfl)
    have f12 : A.tmps[12]?.getD undef = .int .i64 0 := by simpa [Act.eval] using e12
    exact light_val rfl (v := .int .i64 0) (by simp [execOp, e12, f12]) hJ rfl
  case o1 =>
    intro A W hv hlen hJ hbase hdL hdH
    have e46 : A.eval (.tmp 46) = .int .i64 0 := hdL 0 46 (by kernel_rfl) (by kernel_rfl) (by kernel_rfl)
    have f46 : A.tmps[46]?.getD undef = .int .i64 0 := by simpa [Act.eval] using e46
    exact light_val rfl (v := .bool false) (by simp [execOp, go_sem, e46, f46]) hJ rfl
  case o2 =>
    intro A W hv hlen hJ hbase hdL hdH
    have e47 : A.eval (.tmp 47) = .bool false := hdL 1 47 (by kernel_rfl) (by kernel_rfl) (by kernel_rfl)
    have f47 : A.tmps[47]?.getD undef = .bool false := by simpa [Act.eval] using e47
    exact light_val rfl (v := .bool false) (by simp [execOp, e47, f47]) hJ rfl
  case o3 =>
    intro A W hv hlen hJ hbase hdL hdH
    have e11 : A.eval (.tmp 11) = .pointer (some ⟨g11, 0, none⟩) := hbase 11 (by kernel_rfl)
    have f11 : A.tmps[11]?.getD undef = .pointer (some ⟨g11, 0, none⟩) := by simpa [Act.eval] using e11
    have eg : A.eval (.tmp 48) = .bool false := hdL 2 48 (by kernel_rfl) (by kernel_rfl) (by kernel_rfl)
    have hr := run_ldN (k := _) (b := _) (v := _) (E11.fr0 hJ) l11.out
    exact light_val (wanted_of rfl (by kernel_rfl) eg) (v := ndV na.k na.b (.slice a11 m11 c11)) (by simp [execOp, e11, hr, Result.andThen]) hJ rfl
  case o4 =>
    intro A W hv hlen hJ hbase hdL hdH
    have e3 : A.eval (.tmp 3) = .pointer (some ⟨g3, 0, none⟩) := hbase 3 (by kernel_rfl)
    have f3 : A.tmps[3]?.getD undef = .pointer (some ⟨g3, 0, none⟩) := by simpa [Act.eval] using e3
    have eg : A.eval (.tmp 48) = .bool false := hdL 2 48 (by kernel_rfl) (by kernel_rfl) (by kernel_rfl)
    have hr := run_ldN (k := _) (b := _) (v := _) (E3.fr0 hJ) Hba.out
    exact light_val (wanted_of rfl (by kernel_rfl) eg) (v := ndV na.k na.b (.slice aa na.es.length ca)) (by simp [execOp, e3, hr, Result.andThen]) hJ rfl
  case o5 =>
    intro A W hv hlen hJ hbase hdL hdH
    have e49 : A.eval (.tmp 49) = ndV na.k na.b (.slice a11 m11 c11) := hdL 3 49 (by kernel_rfl) (by kernel_rfl) (by kernel_rfl)
    have f49 : A.tmps[49]?.getD undef = ndV na.k na.b (.slice a11 m11 c11) := by simpa [Act.eval] using e49
    have e50 : A.eval (.tmp 50) = ndV na.k na.b (.slice aa na.es.length ca) := hdL 4 50 (by kernel_rfl) (by kernel_rfl) (by kernel_rfl)
    have f50 : A.tmps[50]?.getD undef = ndV na.k na.b (.slice aa na.es.length ca) := by simpa [Act.eval] using e50
    have eg : A.eval (.tmp 48) = .bool false := hdL 2 48 (by kernel_rfl) (by kernel_rfl) (by kernel_rfl)
    refine light_callX (wanted_of rfl (by kernel_rfl) eg) (args := #[ndV na.k na.b (.slice a11 m11 c11), ndV na.k na.b (.slice aa na.es.length ca)]) (f := 12) (by simp [execOp, resolve, invoke, go_sem, e49, f49, e50, f50]) ?_
    refine (hsA _ _ _ (NdS.fr0 m11' hJ) (NdS.fr0 mA hJ)).mono ?_
    rintro e w' ⟨rfl, f'⟩
    exact ⟨_, rfl, Fr.thenN hJ f', rfl⟩
  case o6 =>
    intro A W hv hlen hJ hbase hdL hdH
    have e51 : A.eval (.tmp 51) = .bool true := hdL 5 51 (by kernel_rfl) (by kernel_rfl) (by kernel_rfl)
    have f51 : A.tmps[51]?.getD undef = .bool true := by simpa [Act.eval] using e51
    have eg : A.eval (.tmp 48) = .bool false := hdL 2 48 (by kernel_rfl) (by kernel_rfl) (by kernel_rfl)
    exact light_val (wanted_of rfl (by kernel_rfl) eg) (v := .bool false) (by simp [execOp, go_sem, e51, f51]) hJ rfl
  case o7 =>
    intro A W hv hlen hJ hbase hdL hdH
    have e48 : A.eval (.tmp 48) = .bool false := hdL 2 48 (by kernel_rfl) (by kernel_rfl) (by kernel_rfl)
    have f48 : A.tmps[48]?.getD undef = .bool false := by simpa [Act.eval] using e48
    have e52 : A.eval (.tmp 52) = .bool false := hdL 6 52 (by kernel_rfl) (by kernel_rfl) (by kernel_rfl)
    have f52 : A.tmps[52]?.getD undef = .bool false := by simpa [Act.eval] using e52
    exact light_val rfl (v := .bool false) (by simp [execOp, go_sem, e48, f48, e52, f52]) hJ rfl
  case o8 =>
    intro A W hv hlen hJ hbase hdL hdH
    have e53 : A.eval (.tmp 53) = .bool false := hdL 7 53 (by kernel_rfl) (by kernel_rfl) (by kernel_rfl)
    have f53 : A.tmps[53]?.getD undef = .bool false := by simpa [Act.eval] using e53
    exact light_val rfl (v := .bool false) (by simp [execOp, e53, f53]) hJ rfl
  case o9 =>
    intro A W hv hlen hJ hbase hdL hdH
    have e10 : A.eval (.tmp 10) = .int .i64 0 := hbase 10 (by kernel_rfl)
    have f10 : A.tmps[10]?.getD undef = .int .i64 0 := by simpa [Act.eval] using e10
    have eg : A.eval (.tmp 54) = .bool false := hdL 8 54 (by kernel_rfl) (by kernel_rfl) (by kernel_rfl)
    exact light_val (wanted_of rfl (by kernel_rfl) eg) (v := .int .i64 0) (by simp [execOp, e10, f10]) hJ rfl
  case o10 =>
    intro A W hv hlen hJ hbase hdL hdH
    have e55 : A.eval (.tmp 55) = .int .i64 0 := hdL 9 55 (by kernel_rfl) (by kernel_rfl) (by kernel_rfl)
    have f55 : A.tmps[55]?.getD undef = .int .i64 0 := by simpa [Act.eval] using e55
    have eg : A.eval (.tmp 54) = .bool false := hdL 8 54 (by kernel_rfl) (by kernel_rfl) (by kernel_rfl)
    exact light_val (wanted_of rfl (by kernel_rfl) eg) (v := .bool true) (by simp [execOp, go_sem, e55, f55]) hJ rfl
  case o11 =>
    intro A W hv hlen hJ hbase hdL hdH
    have e56 : A.eval (.tmp 56) = .bool true := hdL 10 56 (by kernel_rfl) (by kernel_rfl) (by kernel_rfl)
    have f56 : A.tmps[56]?.getD undef = .bool true := by simpa [Act.eval] using e56
    have eg : A.eval (.tmp 54) = .bool false := hdL 8 54 (by kernel_rfl) (by kernel_rfl) (by kernel_rfl)
    exact light_val (wanted_of rfl (by kernel_rfl) eg) (v := .bool true) (by simp [execOp, e56, f56]) hJ rfl
  case o12 =>
    intro A W hv hlen hJ hbase hdL hdH
    have e7 : A.eval (.tmp 7) = .pointer (some ⟨g7, 0, none⟩) := hbase 7 (by kernel_rfl)
    have f7 : A.tmps[7]?.getD undef = .pointer (some ⟨g7, 0, none⟩) := by simpa [Act.eval] using e7
    have eg : A.eval (.tmp 57) = .bool true := hdL 11 57 (by kernel_rfl) (by kernel_rfl) (by kernel_rfl)
    have hr := run_loadA arr_page W g7 0 Ra (bxAll (E7.fr0 hJ)) hRal.out
    exact light_val (wanted_of rfl (by kernel_rfl) eg) (v := pgV Ra) (by simp [execOp, e7, hr, Result.andThen]) hJ rfl
  case o13 =>
    intro A W hv hlen hJ hbase hdL hdH
    have e9 : A.eval (.tmp 9) = .pointer (some ⟨g9, 0, none⟩) := hbase 9 (by kernel_rfl)
    have f9 : A.tmps[9]?.getD undef = .pointer (some ⟨g9, 0, none⟩) := by simpa [Act.eval] using e9
    have eg : A.eval (.tmp 57) = .bool true := hdL 11 57 (by kernel_rfl) (by kernel_rfl) (by kernel_rfl)
    have hr := run_loadA arr_page W g9 0 Rb (bxAll (E9.fr0 hJ)) hRbl.out
    exact light_val (wanted_of rfl (by kernel_rfl) eg) (v := pgV Rb) (by simp [execOp, e9, hr, Result.andThen]) hJ rfl
  case o14 =>
    intro A W hv hlen hJ hbase hdL hdH
    have e58 : A.eval (.tmp 58) = pgV Ra := hdL 12 58 (by kernel_rfl) (by kernel_rfl) (by kernel_rfl)
    have f58 : A.tmps[58]?.getD undef = pgV Ra := by simpa [Act.eval] using e58
    have e59 : A.eval (.tmp 59) = pgV Rb := hdL 13 59 (by kernel_rfl) (by kernel_rfl) (by kernel_rfl)
    have f59 : A.tmps[59]?.getD undef = pgV Rb := by simpa [Act.eval] using e59
    have eg : A.eval (.tmp 57) = .bool true := hdL 11 57 (by kernel_rfl) (by kernel_rfl) (by kernel_rfl)
    have hr := run_eqlA arr_page W Ra Rb hRal.out hRbl.out
    rw [HQ.out] at hr
    exact light_val (wanted_of rfl (by kernel_rfl) eg) (v := .bool Q) (by simp [execOp, e58, e59, hr, eqgA arr_page, Result.andThen]) hJ rfl
  case o15 =>
    intro A W hv hlen hJ hbase hdL hdH
    have e3 : A.eval (.tmp 3) = .pointer (some ⟨g3, 0, none⟩) := hbase 3 (by kernel_rfl)
    have f3 : A.tmps[3]?.getD undef = .pointer (some ⟨g3, 0, none⟩) := by simpa [Act.eval] using e3
    have eg : A.eval (.tmp 57) = .bool true := hdL 11 57 (by kernel_rfl) (by kernel_rfl) (by kernel_rfl)
    have hr := run_ldN (k := _) (b := _) (v := _) (E3.fr0 hJ) Hba.out
    exact light_val (wanted_of rfl (by kernel_rfl) eg) (v := ndV na.k na.b (.slice aa na.es.length ca)) (by simp [execOp, e3, hr, Result.andThen]) hJ rfl
  case o16 =>
    intro A W hv hlen hJ hbase hdL hdH
    have e4 : A.eval (.tmp 4) = .pointer (some ⟨g4, 0, none⟩) := hbase 4 (by kernel_rfl)
    have f4 : A.tmps[4]?.getD undef = .pointer (some ⟨g4, 0, none⟩) := by simpa [Act.eval] using e4
    have eg : A.eval (.tmp 57) = .bool true := hdL 11 57 (by kernel_rfl) (by kernel_rfl) (by kernel_rfl)
    have hr := run_ldN (k := _) (b := _) (v := _) (E4.fr0 hJ) Hbb.out
    exact light_val (wanted_of rfl (by kernel_rfl) eg) (v := ndV nb.k nb.b (.slice ab nb.es.length cb)) (by simp [execOp, e4, hr, Result.andThen]) hJ rfl
  case o17 =>
    intro A W hv hlen hJ hbase hdL hdH
    have e61 : A.eval (.tmp 61) = ndV na.k na.b (.slice aa na.es.length ca) := hdL 15 61 (by kernel_rfl) (by kernel_rfl) (by kernel_rfl)
    have f61 : A.tmps[61]?.getD undef = ndV na.k na.b (.slice aa na.es.length ca) := by simpa [Act.eval] using e61
    have e62 : A.eval (.tmp 62) = ndV nb.k nb.b (.slice ab nb.es.length cb) := hdL 16 62 (by kernel_rfl) (by kernel_rfl) (by kernel_rfl)
    have f62 : A.tmps[62]?.getD undef = ndV nb.k nb.b (.slice ab nb.es.length cb) := by simpa [Act.eval] using e62
    have eg : A.eval (.tmp 57) = .bool true := hdL 11 57 (by kernel_rfl) (by kernel_rfl) (by kernel_rfl)
    refine light_callX (wanted_of rfl (by kernel_rfl) eg) (args := #[ndV na.k na.b (.slice aa na.es.length ca), ndV nb.k nb.b (.slice ab nb.es.length cb)]) (f := 12) (by simp [execOp, resolve, invoke, go_sem, e61, f61, e62, f62]) ?_
    refine (hsAB _ _ _ (NdS.fr0 mA hJ) (NdS.fr0 mB hJ)).mono ?_
    rintro e w' ⟨rfl, f'⟩
    exact ⟨_, rfl, Fr.thenN hJ f', rfl⟩
  case o18 =>
    intro A W hv hlen hJ hbase hdL hdH
    have e60 : A.eval (.tmp 60) = .bool Q := hdL 14 60 (by kernel_rfl) (by kernel_rfl) (by kernel_rfl)
    have f60 : A.tmps[60]?.getD undef = .bool Q := by simpa [Act.eval] using e60
    have e63 : A.eval (.tmp 63) = .bool Q := hdL 17 63 (by kernel_rfl) (by kernel_rfl) (by kernel_rfl)
    have f63 : A.tmps[63]?.getD undef = .bool Q := by simpa [Act.eval] using e63
    have eg : A.eval (.tmp 57) = .bool true := hdL 11 57 (by kernel_rfl) (by kernel_rfl) (by kernel_rfl)
    exact light_val (wanted_of rfl (by kernel_rfl) eg) (v := .bool false) (by simp [execOp, go_sem, e60, f60, e63, f63]) hJ rfl
  case o19 =>
    intro A W hv hlen hJ hbase hdL hdH
    have e57 : A.eval (.tmp 57) = .bool true := hdL 11 57 (by kernel_rfl) (by kernel_rfl) (by kernel_rfl)
    have f57 : A.tmps[57]?.getD undef = .bool true := by simpa [Act.eval] using e57
    have e64 : A.eval (.tmp 64) = .bool false := hdL 18 64 (by kernel_rfl) (by kernel_rfl) (by kernel_rfl)
    have f64 : A.tmps[64]?.getD undef = .bool false := by simpa [Act.eval] using e64
    have eg : A.eval (.tmp 54) = .bool false := hdL 8 54 (by kernel_rfl) (by kernel_rfl) (by kernel_rfl)
    exact light_val (wanted_of rfl (by kernel_rfl) eg) (v := .bool false) (by simp [execOp, go_sem, e57, f57, e64, f64]) hJ rfl
  case o20 =>
    intro A W hv hlen hJ hbase hdL hdH
    have e54 : A.eval (.tmp 54) = .bool false := hdL 8 54 (by kernel_rfl) (by kernel_rfl) (by kernel_rfl)
    have f54 : A.tmps[54]?.getD undef = .bool false := by simpa [Act.eval] using e54
    have e65 : A.eval (.tmp 65) = .bool false := hdL 19 65 (by kernel_rfl) (by kernel_rfl) (by kernel_rfl)
    have f65 : A.tmps[65]?.getD undef = .bool false := by simpa [Act.eval] using e65
    exact light_val rfl (v := .bool false) (by simp [execOp, go_sem, e54, f54, e65, f65]) hJ rfl
  case oe =>
    intro vz W' hv hlen hJ hL' hH
    have x66 := hL' 20 (by decide) (by rfl)
    have x66 : vz 20 = .bool false := x66
    simp only [layL, Nat.reduceAdd, Act.put, List.setIfInBounds_toArray, List.set_cons_zero, List.set_cons_succ]
    clear hL' hH
    generalize vz 0 = y100 at *
    generalize vz 1 = y101 at *
    generalize vz 2 = y102 at *
    generalize vz 3 = y103 at *
    generalize vz 4 = y104 at *
    generalize vz 5 = y105 at *
    generalize vz 6 = y106 at *
    generalize vz 7 = y107 at *
    generalize vz 8 = y108 at *
    generalize vz 9 = y109 at *
    generalize vz 10 = y110 at *
    generalize vz 11 = y111 at *
    generalize vz 12 = y112 at *
    generalize vz 13 = y113 at *
    generalize vz 14 = y114 at *
    generalize vz 15 = y115 at *
    generalize vz 16 = y116 at *
    generalize vz 17 = y117 at *
    generalize vz 18 = y118 at *
    generalize vz 19 = y119 at *
    rw [x66]
    clear x66
    have hJ : Fr noB w0 W' := hJ
    have IW := I0.thenN hJ
    clear b3 b4 b6 b7 b7' b9 b10 b12 b13 B3 B4 C3 C4 q3 q4 E3 E4 E7 E9 E11 m11' mA mB n11
    rcases hX with ⟨hop, hs00⟩ | ⟨N, hop, hpn⟩
    · skip
      go_wp2_with (first
        | (with_reducible refine at_wpP ?_; refine at_ld 23 (.tmp 5) rfl ?_; refine wpList_loadA arr_page rfl _ rfl g5 rfl p (C5.fr0 IW) Hp.out ?_)
        | (go_at_call 8; go_must (refine (hop _).mono ?_; intro e w20 hq; obtain ⟨a20, m20, c20, rfl, n20, l20, f20⟩ := OpenIs.parts hq; clear hq))
        | (with_reducible refine at_wpP ?_; refine at_alX 31 rfl ?_; have q := f20; refine wpList_allocN rfl rfl ?_; intro g13 w21 hg13 b21 f21 s21)
        | (with_reducible refine at_wpP ?_; refine at_st 31 (.tmp 13) _ rfl ?_; go_must (refine wpList_stN rfl _ _ rfl g13 rfl nd0.k nd0.b (.slice a20 m20 c20) rfl l20.out ⟨_, _, _, rfl⟩ 0 (zerB 16) nilS b21 (zerB_len 16) ?_; intro w22 b22 f22; have J22 := Fr.ownX f21 s21 f22; have I22 : Fr noB w4 w22 := (Fr.thenN IW f20).thenN J22))
        | (with_reducible refine at_wpP ?_; refine at_ld 31 (.tmp 13) rfl ?_; go_must (refine wpList_ldN rfl _ rfl g13 rfl nd0.k nd0.b (.slice a20 m20 c20) b22 l20.out ?_))
        | (with_reducible refine at_wpP ?_; refine at_bldX 31 _ rfl ?_; refine wpList_bldN rfl _ rfl 0 (zerB 16) nilS [] rfl built_nd0 ?_)
        | (go_at_call 12; go_must (refine (hs00 _ _ (n20.fr0 J22)).mono ?_; rintro e w23 ⟨rfl, f23⟩)))
      go_ret
      exact ⟨rfl, (F4.thenN (I22.thenN f23)).below⟩
    · skip
      go_wp2_with (first
        | (go_at_call 7; have q := I22; go_must (refine (hpn _ _ (n20.fr0 J22)).mono ?_; rintro e w23 ⟨rfl, f23⟩; have I23 := I22.thenN f23))
        | (with_reducible refine at_wpP ?_; refine at_alX 23 rfl ?_; have q := I23; refine wpList_allocA arr_page rfl rfl ?_; rw [HZ.out]; intro g15 w24 hg15 b24 f24 s24)
        | (with_reducible refine at_wpP ?_; refine at_ld 23 (.tmp 5) rfl ?_; have q := C25; refine wpList_loadA arr_page rfl _ rfl g5 rfl p C25 Hp.out ?_)
        | (with_reducible refine at_wpP ?_; refine at_ld 23 (.tmp 5) rfl ?_; refine wpList_loadA arr_page rfl _ rfl g5 rfl p (C5.fr0 IW) Hp.out ?_)
        | (go_at_call 8; go_must (refine (hop _).mono ?_; intro e w20 hq; obtain ⟨a20, m20, c20, rfl, n20, l20, f20⟩ := OpenIs.parts hq; clear hq))
        | (with_reducible refine at_wpP ?_; refine at_alX 31 rfl ?_; have q := f20; refine wpList_allocN rfl rfl ?_; intro g13 w21 hg13 b21 f21 s21)
        | (with_reducible refine at_wpP ?_; refine at_st 31 (.tmp 13) _ rfl ?_; go_must (refine wpList_stN rfl _ _ rfl g13 rfl N.k N.b (.slice a20 m20 c20) rfl l20.out ⟨_, _, _, rfl⟩ 0 (zerB 16) nilS b21 (zerB_len 16) ?_; intro w22 b22 f22; have J22 := Fr.ownX f21 s21 f22; have I22 : Fr noB w4 w22 := (Fr.thenN IW f20).thenN J22))
        | (with_reducible refine at_wpP ?_; refine at_ld 31 (.tmp 13) rfl ?_; go_must (refine wpList_ldN rfl _ rfl g13 rfl N.k N.b (.slice a20 m20 c20) b22 l20.out ?_))
        | (with_reducible refine at_wpP ?_; refine at_st 23 (.tmp 15) _ rfl ?_; go_must (refine wpList_storeA arr_page rfl _ _ rfl g15 rfl p rfl _ b24 Hp.out hZl.out ?_; intro w25 b25 f25; have I25 := I23.thenN (Fr.ownX f24 s24 f25); have C25 := C5.fr0 I25))
        | (with_reducible refine at_wpP ?_; refine at_ld 23 (.tmp 15) rfl ?_; refine wpList_loadA arr_page rfl _ rfl g15 rfl p b25 Hp.out ?_)
        | (with_reducible refine at_wpP ?_; refine at_binX .eql 23 _ _ _ rfl ?_; refine wpList_eqlA arr_page rfl _ _ _ rfl p p rfl rfl Hp.out Hp.out ?_; rw [hpp.out]))
      go_ret
      exact ⟨rfl, (F4.thenN I25).below⟩
set_option maxRecDepth 100000 in
set_option maxHeartbeats 2000000 in
theorem lback_walk (va : Value) (na : Nd) (vb : Value) (nb : Nd) (vp : Value) (p : List Int) (w : World) (ha : IsNd w va na) (hb : IsNd w vb nb) (hp : IsArr vp 256 p) :
    Calls Try.prog 5 #[va, vb, vp] w fun e w' => e = .returned (.bool true) ∧ Below w.heap.size w w' := by
  obtain ⟨aa, ca, rfl, hsa, hoka, hwfa⟩ := ha.parts
  obtain ⟨ab, cb, rfl, hsb, hokb, hwfb⟩ := hb.parts
  obtain ⟨rfl, hpl, hpb⟩ := hp
  have Hp := show Hid _ from hpl
  have Hba := show Hid _ from hoka.1
  have Hbb := show Hid _ from hokb.1
  by_cases hla : (50 : Int) < (na.es.length : Int)
  · have hda : decide ((50 : Int) < (na.es.length : Int)) = true := decide_eq_true hla
    clear hpl ha hb
    go_enter Try.func5, Try.ntmps5
    go_wp2_with (first
      | (with_reducible refine at_wpP ?_; have q := b3; refine wpList_boxN rfl _ rfl nb.k nb.b (.slice ab nb.es.length cb) rfl ?_; intro g4 w2 hg4 b4 f2 s4)
      | (with_reducible refine at_wpP ?_; refine wpList_boxN rfl _ rfl na.k na.b (.slice aa na.es.length ca) rfl ?_; intro g3 w1 hg3 b3 f1 s3)
      | (with_reducible refine at_wpP ?_; refine wpList_boxV rfl 23 _ rfl (pgv p) rfl ?_; intro g5 w3 hg5 b5 f3 s5; have F3 := (f1.thenN f2).thenN f3; have B3 := (b3.fr0 f2).fr0 f3; have B4 := b4.fr0 f3)
      | (go_at_call 9; go_must (refine (lalive_any _).mono ?_; rintro e w4 ⟨rfl, f4⟩; have F4 := F3.thenN f4; have C3 := B3.fr0 f4; have C4 := B4.fr0 f4; have C5 := b5.fr0 f4; have q3 := NdB.ents C3 Hba.out; have q4 := NdB.ents C4 Hbb.out)))
    go_ret
    exact ⟨rfl, F4.below⟩
  by_cases hlb : (50 : Int) < (nb.es.length : Int)
  · have hda : decide ((50 : Int) < (na.es.length : Int)) = false := decide_eq_false hla
    have hdb : decide ((50 : Int) < (nb.es.length : Int)) = true := decide_eq_true hlb
    clear hpl ha hb
    go_enter Try.func5, Try.ntmps5
    go_wp2_with (first
      | (with_reducible refine at_wpP ?_; have q := b3; refine wpList_boxN rfl _ rfl nb.k nb.b (.slice ab nb.es.length cb) rfl ?_; intro g4 w2 hg4 b4 f2 s4)
      | (with_reducible refine at_wpP ?_; refine wpList_boxN rfl _ rfl na.k na.b (.slice aa na.es.length ca) rfl ?_; intro g3 w1 hg3 b3 f1 s3)
      | (with_reducible refine at_wpP ?_; refine wpList_boxV rfl 23 _ rfl (pgv p) rfl ?_; intro g5 w3 hg5 b5 f3 s5; have F3 := (f1.thenN f2).thenN f3; have B3 := (b3.fr0 f2).fr0 f3; have B4 := b4.fr0 f3)
      | (go_at_call 9; go_must (refine (lalive_any _).mono ?_; rintro e w4 ⟨rfl, f4⟩; have F4 := F3.thenN f4; have C3 := B3.fr0 f4; have C4 := B4.fr0 f4; have C5 := b5.fr0 f4; have q3 := NdB.ents C3 Hba.out; have q4 := NdB.ents C4 Hbb.out)))
    go_ret
    exact ⟨rfl, F4.below⟩
  have hna : NdS w (.slice aa na.es.length ca) na := ⟨hsa, hoka, by omega, hwfa⟩
  have hnb : NdS w (.slice ab nb.es.length cb) nb := ⟨hsb, hokb, by omega, hwfb⟩
  have hX := backX p hpl hpb
  cases hra : na.right with
  | false => exact lback_no na nb p aa ab ca cb w hna hnb hla hlb Hp hX hra
  | true =>
    cases hrb : nb.right with
    | false => exact lback_yn na nb p aa ab ca cb w hna hnb hla hlb Hp hX hra hrb
    | true => exact lback_yy na nb p aa ab ca cb w hna hnb hla hlb Hp hX hra hrb
end Go.Proofs.Ythpcfijefcicpaa
