/- Texts JH, JP, JK, JL of the proof of TreeNames, one behind the other. -/
import Derived.Test.YtkhdniccnefdhaaBundleTreeNames1
import Derived.Test.YtkhdniccnefdhaaBundleTreeNames2
import Derived.Test.YtkhdniccnefdhaaBundleTreeNames3
import Derived.Test.YtkhdniccnefdhaaBundleTreeNames4
import Derived.Test.YtkhdniccnefdhaaBundleTreeNames5
import Derived.Test.YtkhdniccnefdhaaBundleTreeNames6
import Derived.Test.YtkhdniccnefdhaaBundleTreeNames7
import Derived.Test.YtkhdniccnefdhaaBundleTreeNames8
import Derived.Test.YtkhdniccnefdhaaBundleTreeNames9
import Derived.Test.YtkhdniccnefdhaaBundleTreeNames10
import Derived.Test.YtkhdniccnefdhaaBundleTreeNames11
import Derived.Test.YtkhdniccnefdhaaBundleTreeNames12
import Derived.Test.YtkhdniccnefdhaaBundleTreeNames13
import Derived.Test.YtkhdniccnefdhaaBundleTreeNames14
import Derived.Test.YtkhdniccnefdhaaBundleTreeNames15
import Derived.Test.YtkhdniccnefdhaaBundleTreeNames16
/- Trees in memory: find; no condition. -/
namespace Go.Proofs.Ytkhdniccnefdhaa
open Go.RowKit Go.Proofs.U
set_option linter.unusedSimpArgs false
set_option linter.unusedVariables false
theorem NdS.slr {w : World} {v : Value} {n : Nd} (h : NdS w v n) : SlR enC 2 w v n.es := h.1.1
/-- A tree's page, as open hands it back. -/
theorem open_tree {F : Nat → Prop} {gs gp : Nat} {X : DSt} {L : List Pg} {R : List Int} {T : List Nat} {m : Nat} (hI : InvT X L R T) (hm : m ≤ 100000) {lv : Nat} {p lo hi : Int} (k : okT X lv p lo hi) (h0 : 0 ≤ p) (hp : 0 < cntT L T p.toNat) (d : Int) (hd : d < 8) {w : World} (h : Sto w F gs gp X L m) :
    Calls Try.prog 45 #[trV gs, .int .i64 p, .int .i64 d] w fun r w' => NOpenO w w' ((rdN X p).1, 0) r := by
  refine open_at p d w h hm (by omega) hd ?_ ?_
  · unfold getF
    rw [hI.held h0 hp, if_pos rfl]
    have := k.rd
    cases hx : rdN X p with
    | mk a b => rw [hx] at this; simp only at this; rw [this]
  · rw [k.kd]; unfold kdL; split <;> decide
theorem at_none_eq {l : List (Int × Int)} {key i : Int} (hb : ∀ y ∈ l, key < y.1) (h : AtIs l key i) : i = -1 := by
  by_cases hi : i = -1
  · exact hi
  · obtain ⟨k, hk, rfl, _, hle, _⟩ := h.some hi
    have := hb l[k] (by simp)
    omega
/-- The last entry whose key isn't above. -/
theorem last_le : ∀ {l : List (Int × Int)} {key : Int}, KeysUp l → (¬ ∀ y ∈ l, key < y.1) → ∃ (j : Nat) (hj : j < l.length), l[j].1 ≤ key ∧ ∀ y ∈ l.drop (j + 1), key < y.1
  | [], key, _, h => absurd (by simp) h
  | x :: l, key, hu, h => by
    by_cases hl : ∀ y ∈ l, key < y.1
    · refine ⟨0, by simp, ?_, hl⟩
      rcases Int.lt_or_le key x.1 with q | q
      · exact absurd (fun y hy => by
          rcases List.mem_cons.1 hy with rfl | hy
          · exact q
          · exact hl y hy) h
      · exact q
    · obtain ⟨j, hj, h1, h2⟩ := last_le hu.tail hl
      exact ⟨j + 1, by simpa using hj, h1, h2⟩
theorem at_of {l : List (Int × Int)} {key : Int} {k : Nat} (hk : k < l.length) (hle : l[k].1 ≤ key) (hgt : ∀ y ∈ l.drop (k + 1), key < y.1) (hu : KeysUp l) : AtIs l key (k : Int) := by
  refine ⟨by omega, by omega, fun j hj => ⟨fun q => ?_, fun q => ?_⟩⟩
  · refine hgt l[j] ?_
    rw [List.mem_drop_iff_getElem]
    exact ⟨j - (k + 1), by omega, by congr 1; omega⟩
  · have : j = k := by omega
    subst this; exact hle
/-- Find below a page. -/
def FindIs (w w' : World) (x : Int) (r : Ending) : Prop := r = .returned (.tuple #[.int .i64 x, .int .i64 0]) ∧ Fr noB w w'
set_option maxRecDepth 100000 in
set_option maxHeartbeats 2000000 in
theorem find_miss {F : Nat → Prop} {gs gp : Nat} {X : DSt} {L : List Pg} {R : List Int} {T : List Nat} {m : Nat} (hI : InvT X L R T) (hm : m ≤ 100000) {lv : Nat} {p lo hi : Int} (k : okT X lv p lo hi) (h0 : 0 ≤ p) (hp : 0 < cntT L T p.toNat) (key d : Int) (hd : d < 8) (w : World) (h : Sto w F gs gp X L m) (hb : ∀ y ∈ esX X p, key < y.1) :
    Calls Try.prog 31 #[trV gs, .int .i64 p, .int .i64 key, .int .i64 d] w fun r w' => FindIs w w' (-1) r := by
  have hO := fun W (f : Fr noB w W) => open_tree hI hm k h0 hp d hd (h.fr0 f)
  obtain ⟨N, HN⟩ : ∃ N, Hid ((rdN X p).1 = N) := ⟨_, rfl⟩
  have hes : Hid (esX X p = N.es) := by show _ = _; rw [← HN.out]; rfl
  rw [HN.out] at hO
  have hb' : ∀ y ∈ N.es, key < y.1 := by rw [← hes.out]; exact hb
  have hl6 : N.es.length ≤ 6 := by rw [← hes.out]; exact k.es.2.2.1
  go_enter Try.func31, Try.ntmps31
  go_wp2_with (first
    | (with_reducible refine at_wpP ?_; refine wpList_boxG rfl 25 _ rfl (trV gs) [ptr gs] rfl rfl ?_; intro g4 w4 hg4 b4 f4 s4; have l4 := b4.lt; have z4 := f4.size)
    | (go_at_call 45; go_must (refine (hO _ f4).mono ?_; rintro e w5 ⟨v, rfl, n5, o5, f5, q5⟩; have z5 := f5.size; have hv := NdS.sl n5; have hbl := NdS.bl n5; have B4 := b4.fr0 f5))
    | (with_reducible refine at_wpP ?_; have q := n5; refine wpList_allocN rfl rfl ?_; intro g10 w6 hg10 b10 f6 s6; have l6 := b10.lt; have z6 := f6.size)
    | (with_reducible refine at_wpP ?_; refine at_st 47 _ _ rfl ?_; have q := b10; go_must (refine wpList_stN rfl _ _ rfl g10 rfl N.k N.b v rfl hbl.out hv 0 (zerB 16) nilS b10 (zerB_len 16) ?_; intro w7 b7 f7; have z7 := f7.size; have q7 := NdB.kind b7; have e7 := NdB.ents b7 hbl.out; have F7 := Fr.ownX f6 s6 f7; have N7 := n5.fr0 F7; have C4 := B4.fr0 F7))
    | (with_reducible refine at_wpP ?_; refine at_ld 25 _ rfl ?_; go_must (refine wpList_ldT rfl _ rfl g4 rfl gs b4 ?_))
    | (go_at_call 47; go_must (refine (at_any v N.es key _ N7.1 (by omega)).mono ?_; rintro e w8 ⟨i, rfl, hi, f8⟩; have hi1 : i = -1 := (at_none_eq hb' hi); subst hi1)))
  go_ret2
  exact ⟨rfl, (((f4.thenN f5).thenN F7).thenN f8)⟩
theorem at_one {l : List (Int × Int)} {key i : Int} {k : Nat} (hk : k < l.length) (hle : l[k].1 ≤ key) (hgt : ∀ y ∈ l.drop (k + 1), key < y.1) (hu : KeysUp l) (h : AtIs l key i) : i = (k : Int) := by
  obtain ⟨h0, h1, h2⟩ := h
  rcases Int.lt_trichotomy i (k : Int) with q | q | q
  · have := (h2 k hk).1 q; omega
  · exact q
  · have hj : i.toNat < l.length := by omega
    have h3 := (h2 i.toNat hj).2 (by omega)
    have h4 := hgt l[i.toNat] (by
      rw [List.mem_drop_iff_getElem]
      exact ⟨i.toNat - (k + 1), by omega, by congr 1; omega⟩)
    omega
set_option maxRecDepth 100000 in
set_option maxHeartbeats 2000000 in
theorem find_at0 {F : Nat → Prop} {gs gp : Nat} {X : DSt} {L : List Pg} {R : List Int} {T : List Nat} {m : Nat} (hI : InvT X L R T) (hm : m ≤ 100000) {p lo hi : Int} (k : okT X 0 p lo hi) (h0 : 0 ≤ p) (hp : 0 < cntT L T p.toNat) (key d : Int) (hd : d < 8) (w : World) (h : Sto w F gs gp X L m) {j : Nat} (hj0 : j < (esX X p).length) (hAt0 : ∀ i, AtIs (esX X p) key i → i = (j : Int)) :
    Calls Try.prog 31 #[trV gs, .int .i64 p, .int .i64 key, .int .i64 d] w fun r w' => FindIs w w' (if (esX X p)[j].1 = key then (esX X p)[j].2 else -1) r := by
  have hO := fun W (f : Fr noB w W) => open_tree hI hm k h0 hp d hd (h.fr0 f)
  obtain ⟨x, Hx0⟩ : ∃ x : Int × Int, Hid ((esX X p)[j] = x) := ⟨(esX X p)[j], rfl⟩
  rw [Hx0.out]
  have hk2 : (rdN X p).1.k = 2 := k.kd
  obtain ⟨N, HN⟩ : ∃ N, Hid ((rdN X p).1 = N) := ⟨_, rfl⟩
  have hes : esX X p = N.es := by rw [← HN.out]; rfl
  rw [HN.out] at hO hk2
  have hl6 : N.es.length ≤ 6 := by rw [← hes]; exact k.es.2.2.1
  have hj : j < N.es.length := by rw [← hes]; exact hj0
  have Hx : Hid (N.es[j] = x) := by have := Hx0.out; simp only [hes] at this; exact this
  have hAt : ∀ i, AtIs N.es key i → i = (j : Int) := by rw [← hes]; exact hAt0
  clear hes Hx0 hAt0 hj0 HN
  obtain ⟨nk, nb, nes⟩ := N
  simp only at hk2 hl6 hj Hx hAt
  subst hk2
  have hj1 : ((j : Int) == -1) = false := beq_eq_false_iff_ne.2 (by omega)
  by_cases he : x.1 = key
  · have he1 : (x.1 == key) = true := by simpa using he
    rw [if_pos he]
    go_enter Try.func31, Try.ntmps31
    go_wp2_with (first
    | (with_reducible refine at_wpP ?_; refine wpList_boxG rfl 25 _ rfl (trV gs) [ptr gs] rfl rfl ?_; intro g4 w4 hg4 b4 f4 s4; have l4 := b4.lt; have z4 := f4.size)
    | (go_at_call 45; go_must (refine (hO _ f4).mono ?_; rintro e w5 ⟨v, rfl, n5, o5, f5, q5⟩; have z5 := f5.size; have hv := NdS.sl n5; have hbl := NdS.bl n5; have B4 := b4.fr0 f5))
    | (with_reducible refine at_wpP ?_; have q := n5; refine wpList_allocN rfl rfl ?_; intro g10 w6 hg10 b10 f6 s6; have l6 := b10.lt; have z6 := f6.size)
    | (with_reducible refine at_wpP ?_; refine at_st 47 _ _ rfl ?_; have q := b10; go_must (refine wpList_stN rfl _ _ rfl g10 rfl 2 nb v rfl hbl.out hv 0 (zerB 16) nilS b10 (zerB_len 16) ?_; intro w7 b7 f7; have z7 := f7.size; have q7 := NdB.kind b7; have e7 := NdB.ents b7 hbl.out; have F7 := Fr.ownX f6 s6 f7; have N7 := n5.fr0 F7; have C4 := B4.fr0 F7))
    | (with_reducible refine at_wpP ?_; refine at_ld 25 _ rfl ?_; go_must (refine wpList_ldT rfl _ rfl g4 rfl gs b4 ?_))
    | (go_at_call 47; go_must (refine (at_any v nes key _ N7.1 (by omega)).mono ?_; rintro e w8 ⟨i, rfl, hi, f8⟩; have z8 := f8.size; obtain rfl := hAt i hi; have N8 := N7.fr0 f8; have b8 := b7.fr0 f8; have e8 := NdB.ents b8 hbl.out; have k8 := NdB.kind b8))
    | (with_reducible refine at_wpP ?_; refine at_idx 31 _ _ rfl ?_; have q := N8; go_must (refine wpList_idxR rfl 31 _ _ rfl 49 uE 2 en_size enC v nes rfl (NdS.slr N8) (by decide) .i64 (j : Int) j rfl rfl hj ?_; intro eb eo heb hec; rw [Hx.out] at hec))
    | (with_reducible refine at_wpP ?_; refine at_ld 49 _ rfl ?_; have q := hec; go_must (refine wpList_ldE rfl _ rfl eb eo rfl x hec ?_))
    | (with_reducible refine at_wpP ?_; refine wpList_allocE rfl rfl ?_; intro g13 w9 hg13 b13 f9 s9; have z9 := f9.size; have l13 := b13.lt)
    | (with_reducible refine at_wpP ?_; refine at_st 49 _ _ rfl ?_; go_must (refine wpList_stE rfl _ _ rfl g13 rfl (0, 0) x b13 rfl ?_; intro w10 b14 f10; have z10 := f10.size; have q14 := EnB.all b14; have F10 := Fr.ownX f9 s9 f10; have q10 := NdB.kind (b8.fr0 F10); have D4 := (C4.fr0 f8).fr0 F10)))
    go_ret2
    exact ⟨rfl, (((f4.thenN f5).thenN F7).thenN f8).thenN F10⟩
  · have he1 : (x.1 == key) = false := by simpa using he
    rw [if_neg he]
    go_enter Try.func31, Try.ntmps31
    go_wp2_with (first
    | (with_reducible refine at_wpP ?_; refine wpList_boxG rfl 25 _ rfl (trV gs) [ptr gs] rfl rfl ?_; intro g4 w4 hg4 b4 f4 s4; have l4 := b4.lt; have z4 := f4.size)
    | (go_at_call 45; go_must (refine (hO _ f4).mono ?_; rintro e w5 ⟨v, rfl, n5, o5, f5, q5⟩; have z5 := f5.size; have hv := NdS.sl n5; have hbl := NdS.bl n5; have B4 := b4.fr0 f5))
    | (with_reducible refine at_wpP ?_; have q := n5; refine wpList_allocN rfl rfl ?_; intro g10 w6 hg10 b10 f6 s6; have l6 := b10.lt; have z6 := f6.size)
    | (with_reducible refine at_wpP ?_; refine at_st 47 _ _ rfl ?_; have q := b10; go_must (refine wpList_stN rfl _ _ rfl g10 rfl 2 nb v rfl hbl.out hv 0 (zerB 16) nilS b10 (zerB_len 16) ?_; intro w7 b7 f7; have z7 := f7.size; have q7 := NdB.kind b7; have e7 := NdB.ents b7 hbl.out; have F7 := Fr.ownX f6 s6 f7; have N7 := n5.fr0 F7; have C4 := B4.fr0 F7))
    | (with_reducible refine at_wpP ?_; refine at_ld 25 _ rfl ?_; go_must (refine wpList_ldT rfl _ rfl g4 rfl gs b4 ?_))
    | (go_at_call 47; go_must (refine (at_any v nes key _ N7.1 (by omega)).mono ?_; rintro e w8 ⟨i, rfl, hi, f8⟩; have z8 := f8.size; obtain rfl := hAt i hi; have N8 := N7.fr0 f8; have b8 := b7.fr0 f8; have e8 := NdB.ents b8 hbl.out; have k8 := NdB.kind b8))
    | (with_reducible refine at_wpP ?_; refine at_idx 31 _ _ rfl ?_; have q := N8; go_must (refine wpList_idxR rfl 31 _ _ rfl 49 uE 2 en_size enC v nes rfl (NdS.slr N8) (by decide) .i64 (j : Int) j rfl rfl hj ?_; intro eb eo heb hec; rw [Hx.out] at hec))
    | (with_reducible refine at_wpP ?_; refine at_ld 49 _ rfl ?_; have q := hec; go_must (refine wpList_ldE rfl _ rfl eb eo rfl x hec ?_))
    | (with_reducible refine at_wpP ?_; refine wpList_allocE rfl rfl ?_; intro g13 w9 hg13 b13 f9 s9; have z9 := f9.size; have l13 := b13.lt)
    | (with_reducible refine at_wpP ?_; refine at_st 49 _ _ rfl ?_; go_must (refine wpList_stE rfl _ _ rfl g13 rfl (0, 0) x b13 rfl ?_; intro w10 b14 f10; have z10 := f10.size; have q14 := EnB.all b14; have F10 := Fr.ownX f9 s9 f10; have q10 := NdB.kind (b8.fr0 F10); have D4 := (C4.fr0 f8).fr0 F10)))
    go_ret2
    exact ⟨rfl, (((f4.thenN f5).thenN F7).thenN f8).thenN F10⟩
set_option maxRecDepth 100000 in
set_option maxHeartbeats 2000000 in
theorem find_atS {F : Nat → Prop} {gs gp : Nat} {X : DSt} {L : List Pg} {R : List Int} {T : List Nat} {m lv : Nat} (hI : InvT X L R T) (hm : m ≤ 100000) {p lo hi : Int} (k : okT X (lv + 1) p lo hi) (h0 : 0 ≤ p) (hp : 0 < cntT L T p.toNat) (key d : Int) (hd0 : 0 ≤ d) (hd : d < 8) (w : World) (h : Sto w F gs gp X L m) {j : Nat} (hj0 : j < (esX X p).length) (hAt0 : ∀ i, AtIs (esX X p) key i → i = (j : Int)) (V : Int)
    (hrec : ∀ W, Fr noB w W → Calls Try.prog 31 #[trV gs, .int .i64 (esX X p)[j].2, .int .i64 key, .int .i64 (d + 1)] W fun r w' => FindIs W w' V r) :
    Calls Try.prog 31 #[trV gs, .int .i64 p, .int .i64 key, .int .i64 d] w fun r w' => FindIs w w' V r := by
  have hO := fun W (f : Fr noB w W) => open_tree hI hm k h0 hp d hd (h.fr0 f)
  obtain ⟨x, Hx0⟩ : ∃ x : Int × Int, Hid ((esX X p)[j] = x) := ⟨(esX X p)[j], rfl⟩
  rw [Hx0.out] at hrec
  have hk2 : (rdN X p).1.k = 3 := k.kd
  obtain ⟨N, HN⟩ : ∃ N, Hid ((rdN X p).1 = N) := ⟨_, rfl⟩
  have hes : esX X p = N.es := by rw [← HN.out]; rfl
  rw [HN.out] at hO hk2
  have hl6 : N.es.length ≤ 6 := by rw [← hes]; exact k.es.2.2.1
  have hj : j < N.es.length := by rw [← hes]; exact hj0
  have Hx : Hid (N.es[j] = x) := by have := Hx0.out; simp only [hes] at this; exact this
  have hAt : ∀ i, AtIs N.es key i → i = (j : Int) := by rw [← hes]; exact hAt0
  clear hes Hx0 hAt0 hj0 HN
  obtain ⟨nk, nb, nes⟩ := N
  simp only at hk2 hl6 hj Hx hAt
  subst hk2
  have hj1 : ((j : Int) == -1) = false := beq_eq_false_iff_ne.2 (by omega)
  have hw1 : IntKind.i64.wrap (d + 1) = d + 1 := wrap_sm (by omega)
  go_enter Try.func31, Try.ntmps31
  go_wp2_with (first
    | (with_reducible refine at_wpP ?_; refine at_ld 25 _ rfl ?_; have q := D4; go_must (refine wpList_ldT rfl _ rfl g4 rfl gs D4 ?_))
    | (with_reducible refine at_wpP ?_; refine wpList_boxG rfl 25 _ rfl (trV gs) [ptr gs] rfl rfl ?_; intro g4 w4 hg4 b4 f4 s4; have l4 := b4.lt; have z4 := f4.size)
    | (go_at_call 45; go_must (refine (hO _ f4).mono ?_; rintro e w5 ⟨v, rfl, n5, o5, f5, q5⟩; have z5 := f5.size; have hv := NdS.sl n5; have hbl := NdS.bl n5; have B4 := b4.fr0 f5))
    | (with_reducible refine at_wpP ?_; have q := n5; refine wpList_allocN rfl rfl ?_; intro g10 w6 hg10 b10 f6 s6; have l6 := b10.lt; have z6 := f6.size)
    | (with_reducible refine at_wpP ?_; refine at_st 47 _ _ rfl ?_; have q := b10; go_must (refine wpList_stN rfl _ _ rfl g10 rfl 3 nb v rfl hbl.out hv 0 (zerB 16) nilS b10 (zerB_len 16) ?_; intro w7 b7 f7; have z7 := f7.size; have q7 := NdB.kind b7; have e7 := NdB.ents b7 hbl.out; have F7 := Fr.ownX f6 s6 f7; have N7 := n5.fr0 F7; have C4 := B4.fr0 F7))
    | (with_reducible refine at_wpP ?_; refine at_ld 25 _ rfl ?_; go_must (refine wpList_ldT rfl _ rfl g4 rfl gs b4 ?_))
    | (go_at_call 47; go_must (refine (at_any v nes key _ N7.1 (by omega)).mono ?_; rintro e w8 ⟨i, rfl, hi, f8⟩; have z8 := f8.size; obtain rfl := hAt i hi; have N8 := N7.fr0 f8; have b8 := b7.fr0 f8; have e8 := NdB.ents b8 hbl.out; have k8 := NdB.kind b8))
    | (with_reducible refine at_wpP ?_; refine at_idx 31 _ _ rfl ?_; have q := N8; go_must (refine wpList_idxR rfl 31 _ _ rfl 49 uE 2 en_size enC v nes rfl (NdS.slr N8) (by decide) .i64 (j : Int) j rfl rfl hj ?_; intro eb eo heb hec; rw [Hx.out] at hec))
    | (with_reducible refine at_wpP ?_; refine at_ld 49 _ rfl ?_; have q := hec; go_must (refine wpList_ldE rfl _ rfl eb eo rfl x hec ?_))
    | (with_reducible refine at_wpP ?_; refine wpList_allocE rfl rfl ?_; intro g13 w9 hg13 b13 f9 s9; have z9 := f9.size; have l13 := b13.lt)
    | (with_reducible refine at_wpP ?_; refine at_st 49 _ _ rfl ?_; go_must (refine wpList_stE rfl _ _ rfl g13 rfl (0, 0) x b13 rfl ?_; intro w10 b14 f10; have z10 := f10.size; have q14 := EnB.all b14; have F10 := Fr.ownX f9 s9 f10; have q10 := NdB.kind (b8.fr0 F10); have D4 := (C4.fr0 f8).fr0 F10))
    | (go_at_call 31; go_must (refine (hrec _ ((((f4.thenN f5).thenN F7).thenN f8).thenN F10)).mono ?_; rintro e w11 ⟨rfl, f11⟩)))
  go_ret2
  exact ⟨rfl, ((((f4.thenN f5).thenN F7).thenN f8).thenN F10).thenN f11⟩
/-- find of a tree. -/
theorem find_lv {F : Nat → Prop} {gs gp : Nat} {X : DSt} {L : List Pg} {R : List Int} {T : List Nat} {m : Nat} (hI : InvT X L R T) (hm : m ≤ 100000) (key : Int) : ∀ (lv : Nat) {p lo hi : Int} (d : Int) (w : World), okT X lv p lo hi → 0 ≤ p → 0 < cntT L T p.toNat → 0 ≤ d → d + lv < 8 → Sto w F gs gp X L m →
    Calls Try.prog 31 #[trV gs, .int .i64 p, .int .i64 key, .int .i64 d] w fun r w' => FindIs w w' (findL (lsT X lv p) key) r := by
  intro lv
  induction lv with
  | zero =>
    intro p lo hi d w k h0 hp hd0 hd h
    by_cases hn : ∀ y ∈ esX X p, key < y.1
    · rw [k.miss hn]
      exact find_miss hI hm k h0 hp key d (by omega) w h hn
    · obtain ⟨j, hj, hle, hgt⟩ := last_le k.es.1 hn
      have hA : AtIs (esX X p) key (j : Int) := at_of hj hle hgt k.es.1
      have e : findL (lsT X 0 p) key = if (esX X p)[j].1 = key then (esX X p)[j].2 else -1 := by
        rw [show lsT X 0 p = esX X p from rfl, find_leaf k.es.1 hA, if_neg (by omega), Int.toNat_natCast]
        simp [List.getD, hj]
      rw [e]
      exact find_at0 hI hm k h0 hp key d (by omega) w h hj (fun i hi => at_one hj hle hgt k.es.1 hi)
  | succ lv ih =>
    intro p lo hi d w k h0 hp hd0 hd h
    by_cases hn : ∀ y ∈ esX X p, key < y.1
    · rw [k.miss hn]
      exact find_miss hI hm k h0 hp key d (by omega) w h hn
    · obtain ⟨j, hj, hle, hgt⟩ := last_le k.es.1 hn
      have hl : esX X p = (esX X p).take j ++ (esX X p)[j] :: (esX X p).drop (j + 1) := by rw [List.getElem_cons_drop, List.take_append_drop]
      rw [k.find hj hl hle hgt]
      obtain ⟨b, hb⟩ := k.child (esX X p)[j] (by simp)
      have hkd := hI.kid h0 hp (esX X p)[j].2 (by unfold kids; exact List.mem_map_of_mem (by show (esX X p)[j] ∈ esX X p; simp))
      exact find_atS hI hm k h0 hp key d hd0 (by omega) w h hj (fun i hi => at_one hj hle hgt k.es.1 hi) _ (fun W f => ih (d + 1) W hb hkd.1 hkd.2.2 (by omega) (by omega) (h.fr0 f))
end Go.Proofs.Ytkhdniccnefdhaa
/- Put below a page, as a function, plain; no condition. -/
namespace Go.Proofs.Ytkhdniccnefdhaa
open Go.RowKit Go.Proofs.U
set_option linter.unusedSimpArgs false
set_option linter.unusedVariables false
theorem okT.rises {X : DSt} {lv : Nat} {p lo hi : Int} (h : okT X lv p lo hi) : rises (-1) (esX X p) = true := by
  have hk := h.kd
  exact (right_tree (rdN_right h.rd) (by rw [hk]; unfold kdL; split <;> decide)).2.2.2.2
end Go.Proofs.Ytkhdniccnefdhaa
/- Trees in memory: put; no condition. -/
namespace Go.Proofs.Ytkhdniccnefdhaa
open Go.RowKit Go.Proofs.U
set_option linter.unusedSimpArgs false
set_option linter.unusedVariables false
theorem SplitIs.pre {w0 w w' : World} {F : Nat → Prop} {gs gp : Nat} {S : (DSt × List Pg) × List (Int × Int) × Int} {m m' : Nat} {r : Ending} (f : Fr noB w0 w) (h : SplitIs w w' F gs gp S m r) (hm : m ≤ m') : SplitIs w0 w' F gs gp S m' r := by
  obtain ⟨F', u, er, s, o, a⟩ := h
  exact ⟨F', u, er, (s.pre f).mono hm, o.rebase f.size, a⟩
theorem wfSm {x : Int} (h0 : -1 ≤ x) (h1 : x ≤ 300) : (Lit.int .i64 x).wf = true := by
  simp [Lit.wf, IntKind.min, IntKind.max, IntKind.signed, IntKind.bits]; omega
theorem mem_withL {l : List (Int × Int)} {x : Int × Int} {i : Int} : ∀ z ∈ withL l x i, z = x ∨ z ∈ l := by
  intro z hz
  unfold withL at hz
  split at hz
  · rcases List.mem_or_eq_of_mem_set hz with h | h
    · exact Or.inr h
    · exact Or.inl h
  · rcases List.mem_append.1 hz with h | h
    · exact Or.inr (List.mem_of_mem_take h)
    · rcases List.mem_cons.1 h with h | h
      · exact Or.inl h
      · exact Or.inr (List.mem_of_mem_drop h)
theorem withL_len (l : List (Int × Int)) (x : Int × Int) (i : Int) : (withL l x i).length ≤ l.length + 1 := by
  unfold withL
  split
  · rw [List.length_set]; omega
  · rw [List.length_append, List.length_cons, List.length_take, List.length_drop]; omega
theorem cellsE {w : World} {g : Nat} {x : Int × Int} (h : EnB w g x) : ∀ q u, (enC x)[q]? = some u → w.cell? ⟨g, 0 + q, none⟩ = some u := fun q u hq => by rw [Nat.zero_add]; exact (h.cell q u hq).1
theorem OwnR.slx {α : Type} {ec : α → List Value} {sz : Nat} {e : TypeId} {w : World} {base : Nat} {v : Value} {l : List α} (h : OwnR ec sz e w base v l) : ∃ a n c, v = .slice a n c := by
  obtain ⟨a, c, hv⟩ := h.opn
  exact ⟨a, _, c, hv⟩
/-- A node's entries are put. -/
theorem NdB.setE {w : World} {g : Nat} {k : Int} {b : List Int} {v : Value} (h : NdB w g k b v) (hb : b.length = 16) (v' : Value) : NdB (w.setCell ⟨g, 17, none⟩ v') g k b v' := by
  have h1 := h.set 17 v'
  have e : (ndL k b v).set 17 v' = ndL k b v' := by
    unfold ndL
    rw [List.set_cons_succ, List.set_append_right _ _ (by rw [pgv_len, hb]; omega), pgv_len, hb]
    rfl
  rw [e] at h1
  exact h1
theorem wpList_stEnt {w : World} {ops : Array Oper} {rest : List Oper} {o : Oper} {a : Act} {Q : Exit → Act → World → Prop} (hgd : Region.wanted o (yielded ops a.tmps) = true) (y z : Operand) (ho : o.op = .store 31 y z) (g : Nat) (hy : a.eval y = .pointer (some ⟨g, 17, none⟩)) (v' : Value) (hz : a.eval z = v') (hv : ∃ a n c, v' = .slice a n c) (k : Int) (b : List Int) (v : Value) (hB : NdB w g k b v) (hb : b.length = 16)
    (h : ∀ w', NdB w' g k b v' → Fr (onB1 g) w w' → wpList Try.prog ops Q rest (a.put o.dst undef) w') : wpList Try.prog ops Q (o :: rest) a w := by
  refine wpList_wanted hgd fun K hK => ?_
  have hr := run_st1 (P := Try.prog) 31 sE_size v' (sl_one hv) 47 (ndL k b v) hB (off := 17) (by rw [ndL_len k b v hb]; decide)
  have hrun : (execOp a.eval o).run Try.prog w = .ok .skip (w.setCell ⟨g, 17, none⟩ v') := by
    simp only [execOp, ho]
    simp [hy, hz, hr, Result.andThen]
  unfold Oper.wp
  rw [hrun]
  refine hK _ _ (h _ (hB.setE hb v') ?_)
  exact (Fr.refl _ w).setCell ⟨g, 17, none⟩ v' (fun _ => rfl)
end Go.Proofs.Ytkhdniccnefdhaa
/- Trees in memory: Put, Swap; no condition. -/
namespace Go.Proofs.Ytkhdniccnefdhaa
open Go.RowKit Go.Proofs.U
set_option linter.unusedSimpArgs false
set_option linter.unusedVariables false
set_option maxRecDepth 100000 in
set_option maxHeartbeats 2000000 in
theorem put_n1 {F : Nat → Prop} {gs gp : Nat} {X : DSt} {L : List Pg} {m : Nat} (hm : m ≤ 90000) (x : Int × Int) (hwx : (Lit.int .i64 x.1).wf = true ∧ (Lit.int .i64 x.2).wf = true) (d : Int) (w : World) (h : Sto w F gs gp X L m) :
    Calls Try.prog 28 #[trV gs, .int .i64 (-1), enV x, .int .i64 d] w fun r w' => SplitIs w w' F gs gp (splF (X, L) 2 [x]) (m + 2) r := by
  have hO := fun W (f : Fr noB w W) => open_none gs d W
  have hpl : ∀ i, AtIs ([] : List (Int × Int)) x.1 i → splF (X, L) 2 (withL [] x i) = splF (X, L) 2 [x] := fun i hi' => by
    have : i = -1 := by have h0 := hi'.1; have h1 := hi'.2.1; simp at h1; omega
    rw [this]; rfl
  obtain ⟨S, HS⟩ : ∃ S, Hid (splF (X, L) 2 [x] = S) := ⟨_, rfl⟩
  rw [HS.out] at hpl ⊢
  unfold leaf0 at hO
  obtain ⟨nb, HB⟩ : ∃ nb, Hid (zerB 16 = nb) := ⟨_, rfl⟩
  obtain ⟨nes, HE⟩ : ∃ nes : List (Int × Int), Hid (([] : List (Int × Int)) = nes) := ⟨_, rfl⟩
  rw [HB.out, HE.out] at hO
  rw [HE.out] at hpl
  have hl6 : nes.length ≤ 6 := by rw [← HE.out]; simp
  have hFt := h.ft
  have hgs := h.lts
  have hgp := h.ltp
  go_enter Try.func28, Try.ntmps28
  go_upto_region 6 with (first
    | (with_reducible refine at_wpP ?_; refine wpList_boxG rfl 25 _ rfl (trV gs) [ptr gs] rfl rfl ?_; intro g4 w4 hg4 b4 f4 s4; have l4 := b4.lt; have z4 := f4.size)
    | (go_at_call 45; go_must (refine (hO _ (f4.thenN f2)).mono ?_; rintro e w5 ⟨v, rfl, n5, o5, f5, q5⟩; have z5 := f5.size; have hv := NdS.sl n5; have hbl := NdS.bl n5; have B4 := (b4.fr0 f2).fr0 f5; have B6 := c6.fr0 f5))
    | (with_reducible refine at_wpP ?_; have q := n5; refine wpList_allocN rfl rfl ?_; intro g10 w6 hg10 b10 f6 s6; have l6 := b10.lt; have z6 := f6.size)
    | (with_reducible refine at_wpP ?_; refine at_st 47 _ _ rfl ?_; have q := b10; go_must (refine wpList_stN rfl _ _ rfl g10 rfl 2 nb v rfl hbl.out hv 0 (zerB 16) nilS b10 (zerB_len 16) ?_; intro w7 b7 f7; have z7 := f7.size; have q7 := NdB.kind b7; have e7 := NdB.ents b7 hbl.out; have F7 := Fr.ownX f6 s6 f7; have N7 := n5.fr0 F7; have D4 := B4.fr0 F7; have D6 := B6.fr0 F7; have r6 := EnB.all D6; have C6 := cellsE D6))
    | (with_reducible refine at_wpP ?_; refine at_ld 25 _ rfl ?_; have q := E4; go_must (refine wpList_ldT rfl _ rfl g4 rfl gs E4 ?_))
    | (with_reducible refine at_wpP ?_; refine at_ld 25 _ rfl ?_; have q := D4; go_must (refine wpList_ldT rfl _ rfl g4 rfl gs D4 ?_))
    | (with_reducible refine at_wpP ?_; refine at_ld 25 _ rfl ?_; go_must (refine wpList_ldT rfl _ rfl g4 rfl gs (b4.fr0 f2) ?_))
    | (with_reducible refine at_wpP ?_; refine wpList_boxG rfl 49 _ rfl (enV x) (enC x) rfl rfl ?_; intro g6 w2 hg6 c6 f2 s2; have l66 := c6.lt; have z2 := f2.size)
    | (with_reducible refine at_wpP ?_; refine at_ld 49 _ rfl ?_; have q := C6; go_must (refine wpList_ldE rfl _ rfl g6 0 rfl x C6 ?_))
    | (go_at_call 46; go_must (refine (with_any (base := w2.heap.size) (l := nes) (v := v) x (by omega) (q5.fr0 F7) N7.1.2 (by omega)).mono ?_; rintro e w8 ⟨i, hi8, v8, rfl, o8, f8, p8⟩; have z8 := f8.size; have B10 := b7.fr f8 (fun q => by have := o5 _ q; have := (q5.newB _ q).2; omega); have hv8 := OwnR.slx o8))
    | (with_reducible refine at_wpP ?_; refine at_st 31 _ _ rfl ?_; go_must (refine wpList_stEnt rfl _ _ rfl g10 rfl v8 rfl hv8 2 nb v B10 hbl.out ?_; intro w9 b9 f9; have z9 := f9.size)))
  have hvb : ∀ q, v.ownBlock = some q → w2.heap.size ≤ q ∧ q < w5.heap.size := fun q hq => ⟨o5 q hq, (q5.newB q hq).2⟩
  have F25 : Fr noB w w7 := ((f4.thenN f2).thenN f5).thenN F7
  have F8 : Fr noB w w8 := F25.thenT f8 (fun i hi q => by have := hvb i q; omega)
  have F9 : Fr noB w w9 := F8.thenT f9 (fun i hi q => by unfold onB1 at q; omega)
  have E4 := (D4.fr f8 (fun q => by have := hvb _ q; omega)).fr f9 (fun q => by unfold onB1 at q; omega)
  have o8b : ∀ q, v8.ownBlock = some q → (w2.heap.size ≤ q ∧ q < w5.heap.size) ∨ w7.heap.size ≤ q := fun q hq => (p8 q hq).imp (hvb q) id
  have o9 : EnO w9 w2.heap.size v8 (withL nes x i) := o8.fr f9 (fun q hq hq' => by
    unfold onB1 at hq'
    subst hq'
    rcases o8b _ hq with h | h <;> omega)
  have H9 := h.fr0 F9
  have hmem := mem_withL (l := nes) (x := x) (i := i)
  have n9 : NdS w9 v8 ⟨2, nb, withL nes x i⟩ := ⟨⟨o9.sl, fun z hz => (hmem z hz).elim (fun e => by rw [e]; exact hwx) (fun e => N7.1.2 z e)⟩, n5.2.1, by have := withL_len nes x i; show (withL nes x i).length ≤ 1000; omega, rfl⟩
  have hS := hpl i hi8
  have hSp := split_any 2 nb (withL nes x i) v8 w9 H9 (by omega) n9 (fun q hq => by
    have h1 := (o9.newB q hq)
    exact ⟨fun q' => by have := hFt q q'; omega, by omega, h1.2⟩)
  rw [hS] at hSp
  clear hpl hS
  go_wp2_with (first
    | (with_reducible refine at_wpP ?_; refine at_ld 25 _ rfl ?_; go_must (refine wpList_ldT rfl _ rfl g4 rfl gs E4 ?_))
    | (with_reducible refine at_wpP ?_; refine at_ld 47 _ rfl ?_; go_must (refine wpList_ldN rfl _ rfl g10 rfl 2 nb v8 b9 hbl.out ?_))
    | (go_at_call 19; go_must (refine hSp.mono ?_; intro e w10 hq; obtain ⟨F', u, he, s10, o10, a10⟩ := hq; subst he)))
  go_ret2
  exact SplitIs.pre F9 ⟨F', u, rfl, s10, o10, a10⟩ (Nat.le_refl _)
/-- What Put and Build hand back. -/
def TopIs (w w' : World) (F : Nat → Prop) (gs gp : Nat) (S : DSt × List Pg) (p e : Int) (m : Nat) (r : Ending) : Prop := ∃ F', r = .returned (.tuple #[.int .i64 p, .int .i64 e]) ∧ StT w w' F F' gs gp S m
set_option maxRecDepth 100000 in
set_option maxHeartbeats 2000000 in
theorem Put_no {F : Nat → Prop} {gs gp : Nat} {X : DSt} {L : List Pg} {m : Nat} (root key page : Int) (hk : key < 0 ∨ 64 ≤ key) (w : World) (h : Sto w F gs gp X L m) :
    Calls Try.prog 9 #[trV gs, .int .i64 root, .int .i64 key, .int .i64 page] w fun r w' => TopIs w w' F gs gp (X, L) (-1) 101 m r := by
  by_cases h0 : key < 0
  · have h0' : decide (key < (0 : Int)) = true := by simpa using h0
    go_enter Try.func9, Try.ntmps9
    go_wp2_with (first
      | (with_reducible refine at_wpP ?_; refine wpList_boxG rfl 25 _ rfl (trV gs) [ptr gs] rfl rfl ?_; intro g4 w4 hg4 b4 f4 s4; have l4 := b4.lt; have z4 := f4.size))
    go_ret2
    exact ⟨F, rfl, (StT.start h).fr0 f4⟩
  · have h0' : decide (key < (0 : Int)) = false := by simpa using h0
    have h1' : decide ((64 : Int) ≤ key) = true := by simp; omega
    go_enter Try.func9, Try.ntmps9
    go_wp2_with (first
      | (with_reducible refine at_wpP ?_; refine wpList_boxG rfl 25 _ rfl (trV gs) [ptr gs] rfl rfl ?_; intro g4 w4 hg4 b4 f4 s4; have l4 := b4.lt; have z4 := f4.size))
    go_ret2
    exact ⟨F, rfl, (StT.start h).fr0 f4⟩
set_option maxRecDepth 100000 in
set_option maxHeartbeats 2000000 in
theorem Put_one {F : Nat → Prop} {gs gp : Nat} {X : DSt} {L : List Pg} {m m1 : Nat} (root key page : Int) (hk : 0 ≤ key ∧ key ≤ 63) (w : World) (h : Sto w F gs gp X L m) (S : (DSt × List Pg) × List (Int × Int) × Int) (hl : S.2.1.length ≤ 1) (h1 : S.2.2 = 0 → S.2.1.length = 1)
    (hP : ∀ W, Sto W F gs gp X L m → Calls Try.prog 28 #[trV gs, .int .i64 root, enV (key, page), .int .i64 0] W fun r w' => SplitIs W w' F gs gp S m1 r) :
    Calls Try.prog 9 #[trV gs, .int .i64 root, .int .i64 key, .int .i64 page] w fun r w' => TopIs w w' F gs gp S.1 (if S.2.2 = 0 then (S.2.1.getD 0 (0, 0)).2 else -1) S.2.2 m1 r := by
  obtain ⟨S1, tops, e⟩ := S
  simp only at hl h1 hP ⊢
  have h0' : decide (key < (0 : Int)) = false := by simp; omega
  have h1' : decide ((64 : Int) ≤ key) = false := by simp; omega
  have hl' : decide ((1 : Int) < (tops.length : Int)) = false := by simp; omega
  by_cases he : e = 0
  · subst he
    have hlen := h1 rfl
    rw [if_pos rfl]
    obtain ⟨t0, ht0⟩ : ∃ t0, tops = [t0] := List.length_eq_one_iff.1 hlen
    subst ht0
    simp only [List.getD_cons_zero]
    clear h1 hl hlen
    go_enter Try.func9, Try.ntmps9
    go_wp2_with (first
      | (with_reducible refine at_wpP ?_; refine wpList_boxG rfl 25 _ rfl (trV gs) [ptr gs] rfl rfl ?_; intro g4 w4 hg4 b4 f4 s4; have l4 := b4.lt; have z4 := f4.size)
      | (with_reducible refine at_wpP ?_; refine at_ld 25 _ rfl ?_; go_must (refine wpList_ldT rfl _ rfl g4 rfl gs b4 ?_))
      | (with_reducible refine at_wpP ?_; refine wpList_bldE rfl _ _ rfl key page rfl rfl ?_)
      | (go_at_call 28; go_must (refine (hP _ (h.fr0 f4)).mono ?_; rintro e1 w5 ⟨F1, u, he1, s5, o5, a5⟩; subst he1; obtain ⟨ua, uc, hu⟩ := o5.opn; subst hu; have q5 : SlR enC 2 w5 (.slice ua 1 uc) [t0] := OwnR.sl o5))
      | (with_reducible refine at_wpP ?_; refine at_idx 31 _ _ rfl ?_; have q := q5; go_must (refine wpList_idxR rfl 31 _ _ rfl 49 uE 2 en_size enC (.slice ua 1 uc) [t0] rfl q5 (by decide) .i64 0 0 rfl rfl (by simp) ?_; intro eb eo heb hec; have hec1 := hec 1 _ rfl)))
    go_ret2
    exact ⟨F1, rfl, StT.pre f4 s5⟩
  · rw [if_neg he]
    go_enter Try.func9, Try.ntmps9
    go_wp2_with (first
      | (with_reducible refine at_wpP ?_; refine wpList_boxG rfl 25 _ rfl (trV gs) [ptr gs] rfl rfl ?_; intro g4 w4 hg4 b4 f4 s4; have l4 := b4.lt; have z4 := f4.size)
      | (with_reducible refine at_wpP ?_; refine at_ld 25 _ rfl ?_; go_must (refine wpList_ldT rfl _ rfl g4 rfl gs b4 ?_))
      | (with_reducible refine at_wpP ?_; refine wpList_bldE rfl _ _ rfl key page rfl rfl ?_)
      | (go_at_call 28; go_must (refine (hP _ (h.fr0 f4)).mono ?_; rintro e1 w5 ⟨F1, u, he1, s5, o5, a5⟩; subst he1; obtain ⟨ua, uc, hu⟩ := o5.opn; subst hu)))
    go_ret2
    exact ⟨F1, rfl, StT.pre f4 s5⟩
/-- Put into None. -/
theorem Put_empty {F : Nat → Prop} {gs gp : Nat} {X : DSt} {L : List Pg} {R : List Int} {T : List Nat} {Q : List Nat → Prop} {m : Nat} (hI : InvT X L R T) (hm : m ≤ 80000) (key page : Int) (hk : 0 ≤ key ∧ key ≤ 63) (hpg : 0 ≤ page ∧ 0 < cntT L T page.toNat) (w : World) (h : Sto w F gs gp X L m) :
    Calls Try.prog 9 #[trV gs, .int .i64 (-1), .int .i64 key, .int .i64 page] w fun r w' => ∃ X' L' p' e, TopIs w w' F gs gp (X', L') p' e (m + 20) r ∧ PutR X L R T Q 0 [(key, page)] X' L' p' e := by
  obtain ⟨X', L', tops, e, es, hup, hl, h1, hR⟩ := put_none (Q := Q) hI h.up (z := (key, page)) hk hpg
  have hlow := hI.low hpg.2
  have hPc := fun W (s : Sto W F gs gp X L m) => put_n1 (by omega) (key, page) ⟨wfSm (by show -1 ≤ key; omega) (by show key ≤ 300; omega), wfSm (by show -1 ≤ page; omega) (by show page ≤ 300; omega)⟩ 0 W s
  rw [es] at hPc
  refine (Put_one (-1) key page hk w h ((X', L'), tops, e) hl h1 hPc).mono ?_
  rintro r w' ⟨F', er, s⟩
  exact ⟨X', L', _, e, ⟨F', er, s.mono (by omega)⟩, hR⟩
/-- Swap. -/
def swF (X : DSt) (L : List Pg) (old next : Int) : List Pg × Int :=
  if (plHold L next).2 = 0 then (if old = -1 then ((plHold L next).1, 0) else dropF X (muL (plHold L next).1 + 1) (plHold L next).1 old) else plHold L next
set_option maxRecDepth 100000 in
set_option maxHeartbeats 2000000 in
theorem Swap_any {F : Nat → Prop} {gs gp : Nat} {X : DSt} {L : List Pg} {m : Nat} (old next : Int) (hn : ¬ next = -1) (hm : m ≤ 90000) (w : World) (h : Sto w F gs gp X L m) :
    Calls Try.prog 16 #[trV gs, .int .i64 old, .int .i64 next] w fun r w' => r = .returned (.int .i64 (swF X L old next).2) ∧ Sto w' F gs gp X (swF X L old next).1 m ∧ Fr (onB1 gp) w w' := by
  have hn1 : (next == -1) = false := by simpa using hn
  unfold swF
  have hH := fun W (s : Sto W F gs gp X L m) => nhold_any next W s
  have hgs := h.lts
  have hgp := h.ltp
  obtain ⟨H, HH⟩ : ∃ H, Hid (plHold L next = H) := ⟨_, rfl⟩
  rw [HH.out] at hH ⊢
  obtain ⟨L1, e1⟩ := H
  simp only at hH ⊢
  by_cases he : e1 = 0
  · subst he
    rw [if_pos rfl]
    by_cases ho : old = -1
    · have ho1 : (old == -1) = true := by simpa using ho
      rw [if_pos ho]
      go_enter Try.func16, Try.ntmps16
      go_wp2_with (first
        | (with_reducible refine at_wpP ?_; refine wpList_boxG rfl 25 _ rfl (trV gs) [ptr gs] rfl rfl ?_; intro g4 w4 hg4 b4 f4 s4; have l4 := b4.lt; have z4 := f4.size; have c4 := tr_cell b4)
        | (go_at_call 27; go_must (refine (hH _ (h.fr0 f4)).mono ?_; rintro e5 w5 ⟨rfl, s5, f5⟩; have z5 := f5.size)))
      go_ret
      exact ⟨rfl, s5, (f4.mono (fun _ _ q => q.elim)).thenT f5 (fun _ _ q => q)⟩
    · have ho1 : (old == -1) = false := by simpa using ho
      rw [if_neg ho]
      have hD := fun W (s : Sto W F gs gp X L1 m) => ndrop_any (by omega) (muL L1 + 1) L1 old W (Nat.lt_succ_self _) s
      obtain ⟨D, HD⟩ : ∃ D, Hid (dropF X (muL L1 + 1) L1 old = D) := ⟨_, rfl⟩
      rw [HD.out] at hD ⊢
      go_enter Try.func16, Try.ntmps16
      go_wp2_with (first
        | (with_reducible refine at_wpP ?_; refine wpList_boxG rfl 25 _ rfl (trV gs) [ptr gs] rfl rfl ?_; intro g4 w4 hg4 b4 f4 s4; have l4 := b4.lt; have z4 := f4.size; have c4 := tr_cell b4)
        | (go_at_call 27; go_must (refine (hH _ (h.fr0 f4)).mono ?_; rintro e5 w5 ⟨rfl, s5, f5⟩; have z5 := f5.size; have c5 := tr_cell (b4.ne f5 (by omega))))
        | (go_at_call 34; go_must (refine (hD _ s5).mono ?_; rintro e6 w6 ⟨rfl, s6, f6⟩; have z6 := f6.size)))
      go_ret
      exact ⟨rfl, s6, ((f4.mono (fun _ _ q => q.elim)).thenT f5 (fun _ _ q => q)).thenT f6 (fun _ _ q => q)⟩
  · rw [if_neg he]
    go_enter Try.func16, Try.ntmps16
    go_wp2_with (first
      | (with_reducible refine at_wpP ?_; refine wpList_boxG rfl 25 _ rfl (trV gs) [ptr gs] rfl rfl ?_; intro g4 w4 hg4 b4 f4 s4; have l4 := b4.lt; have z4 := f4.size; have c4 := tr_cell b4)
      | (go_at_call 27; go_must (refine (hH _ (h.fr0 f4)).mono ?_; rintro e5 w5 ⟨rfl, s5, f5⟩; have z5 := f5.size)))
    go_ret
    exact ⟨rfl, s5, (f4.mono (fun _ _ q => q.elim)).thenT f5 (fun _ _ q => q)⟩
end Go.Proofs.Ytkhdniccnefdhaa
