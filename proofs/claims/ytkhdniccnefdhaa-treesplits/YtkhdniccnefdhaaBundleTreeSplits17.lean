/- Texts JH, JP, JK, JL, JN, JQ, JR, TG0 of the proof of TreeSplits, one behind the other. -/
import Derived.Test.YtkhdniccnefdhaaBundleTreeSplits1
import Derived.Test.YtkhdniccnefdhaaBundleTreeSplits2
import Derived.Test.YtkhdniccnefdhaaBundleTreeSplits3
import Derived.Test.YtkhdniccnefdhaaBundleTreeSplits4
import Derived.Test.YtkhdniccnefdhaaBundleTreeSplits5
import Derived.Test.YtkhdniccnefdhaaBundleTreeSplits6
import Derived.Test.YtkhdniccnefdhaaBundleTreeSplits7
import Derived.Test.YtkhdniccnefdhaaBundleTreeSplits8
import Derived.Test.YtkhdniccnefdhaaBundleTreeSplits9
import Derived.Test.YtkhdniccnefdhaaBundleTreeSplits10
import Derived.Test.YtkhdniccnefdhaaBundleTreeSplits11
import Derived.Test.YtkhdniccnefdhaaBundleTreeSplits12
import Derived.Test.YtkhdniccnefdhaaBundleTreeSplits13
import Derived.Test.YtkhdniccnefdhaaBundleTreeSplits14
import Derived.Test.YtkhdniccnefdhaaBundleTreeSplits15
import Derived.Test.YtkhdniccnefdhaaBundleTreeSplits16
/- Trees in memory: find; no condition. -/
namespace Go.Proofs.Ytkhdniccnefdhaa
open Go.RowKit Go.Proofs.U
set_option linter.unusedSimpArgs false
set_option linter.unusedVariables false
theorem NdS.slr {w : World} {v : Value} {n : Nd} (h : NdS w v n) : SlR enC 2 w v n.es := h.1.1
/-- A tree's page, as open hands it back. -/
theorem open_tree {F : Nat → Prop} {gs gp : Nat} {X : DSt} {L : List Pg} {R : List Int} {T : List Nat} {m : Nat} (hI : InvT X L R T) (hm : m ≤ 100000) {lv : Nat} {p lo hi : Int} (k : okT X lv p lo hi) (h0 : 0 ≤ p) (hp : 0 < cntT L T p.toNat) (d : Int) (hd : d < 8) {w : World} (h : Sto w F gs gp X L m) :
    Calls Try.prog 45 #[trV gs, .int .i64 p, .int .i64 d] w fun r w' => NOpenO w w' ((rdN X p).1, 0) r := by
  refine open_at p d w h hm (by omega) hd ?_ ?_
  · unfold getF
    rw [hI.held h0 hp, if_pos rfl]
    have := k.rd
    cases hx : rdN X p with
    | mk a b => rw [hx] at this; simp only at this; rw [this]
  · rw [k.kd]; unfold kdL; split <;> decide
theorem at_none_eq {l : List (Int × Int)} {key i : Int} (hb : ∀ y ∈ l, key < y.1) (h : AtIs l key i) : i = -1 := by
  by_cases hi : i = -1
  · exact hi
  · obtain ⟨k, hk, rfl, _, hle, _⟩ := h.some hi
    have := hb l[k] (by simp)
    omega
/-- The last entry whose key isn't above. -/
theorem last_le : ∀ {l : List (Int × Int)} {key : Int}, KeysUp l → (¬ ∀ y ∈ l, key < y.1) → ∃ (j : Nat) (hj : j < l.length), l[j].1 ≤ key ∧ ∀ y ∈ l.drop (j + 1), key < y.1
  | [], key, _, h => absurd (by simp) h
  | x :: l, key, hu, h => by
    by_cases hl : ∀ y ∈ l, key < y.1
    · refine ⟨0, by simp, ?_, hl⟩
      rcases Int.lt_or_le key x.1 with q | q
      · exact absurd (fun y hy => by
          rcases List.mem_cons.1 hy with rfl | hy
          · exact q
          · exact hl y hy) h
      · exact q
    · obtain ⟨j, hj, h1, h2⟩ := last_le hu.tail hl
      exact ⟨j + 1, by simpa using hj, h1, h2⟩
theorem at_of {l : List (Int × Int)} {key : Int} {k : Nat} (hk : k < l.length) (hle : l[k].1 ≤ key) (hgt : ∀ y ∈ l.drop (k + 1), key < y.1) (hu : KeysUp l) : AtIs l key (k : Int) := by
  refine ⟨by omega, by omega, fun j hj => ⟨fun q => ?_, fun q => ?_⟩⟩
  · refine hgt l[j] ?_
    rw [List.mem_drop_iff_getElem]
    exact ⟨j - (k + 1), by omega, by congr 1; omega⟩
  · have : j = k := by omega
    subst this; exact hle
/-- Find below a page. -/
def FindIs (w w' : World) (x : Int) (r : Ending) : Prop := r = .returned (.tuple #[.int .i64 x, .int .i64 0]) ∧ Fr noB w w'
set_option maxRecDepth 100000 in
set_option maxHeartbeats 2000000 in
theorem find_miss {F : Nat → Prop} {gs gp : Nat} {X : DSt} {L : List Pg} {R : List Int} {T : List Nat} {m : Nat} (hI : InvT X L R T) (hm : m ≤ 100000) {lv : Nat} {p lo hi : Int} (k : okT X lv p lo hi) (h0 : 0 ≤ p) (hp : 0 < cntT L T p.toNat) (key d : Int) (hd : d < 8) (w : World) (h : Sto w F gs gp X L m) (hb : ∀ y ∈ esX X p, key < y.1) :
    Calls Try.prog 31 #[trV gs, .int .i64 p, .int .i64 key, .int .i64 d] w fun r w' => FindIs w w' (-1) r := by
  have hO := fun W (f : Fr noB w W) => open_tree hI hm k h0 hp d hd (h.fr0 f)
  obtain ⟨N, HN⟩ : ∃ N, Hid ((rdN X p).1 = N) := ⟨_, rfl⟩
  have hes : Hid (esX X p = N.es) := by show _ = _; rw [← HN.out]; rfl
  rw [HN.out] at hO
  have hb' : ∀ y ∈ N.es, key < y.1 := by rw [← hes.out]; exact hb
  have hl6 : N.es.length ≤ 6 := by rw [← hes.out]; exact k.es.2.2.1
  go_enter Try.func31, Try.ntmps31
  go_wp2_with (first
    | (with_reducible refine at_wpP ?_; refine wpList_boxG rfl 25 _ rfl (trV gs) [ptr gs] rfl rfl ?_; intro g4 w4 hg4 b4 f4 s4; have l4 := b4.lt; have z4 := f4.size)
    | (go_at_call 45; go_must (refine (hO _ f4).mono ?_; rintro e w5 ⟨v, rfl, n5, o5, f5, q5⟩; have z5 := f5.size; have hv := NdS.sl n5; have hbl := NdS.bl n5; have B4 := b4.fr0 f5))
    | (with_reducible refine at_wpP ?_; have q := n5; refine wpList_allocN rfl rfl ?_; intro g10 w6 hg10 b10 f6 s6; have l6 := b10.lt; have z6 := f6.size)
    | (with_reducible refine at_wpP ?_; refine at_st 47 _ _ rfl ?_; have q := b10; go_must (refine wpList_stN rfl _ _ rfl g10 rfl N.k N.b v rfl hbl.out hv 0 (zerB 16) nilS b10 (zerB_len 16) ?_; intro w7 b7 f7; have z7 := f7.size; have q7 := NdB.kind b7; have e7 := NdB.ents b7 hbl.out; have F7 := Fr.ownX f6 s6 f7; have N7 := n5.fr0 F7; have C4 := B4.fr0 F7))
    | (with_reducible refine at_wpP ?_; refine at_ld 25 _ rfl ?_; go_must (refine wpList_ldT rfl _ rfl g4 rfl gs b4 ?_))
    | (go_at_call 47; go_must (refine (at_any v N.es key _ N7.1 (by omega)).mono ?_; rintro e w8 ⟨i, rfl, hi, f8⟩; have hi1 : i = -1 := (at_none_eq hb' hi); subst hi1)))
  go_ret2
  exact ⟨rfl, (((f4.thenN f5).thenN F7).thenN f8)⟩
theorem at_one {l : List (Int × Int)} {key i : Int} {k : Nat} (hk : k < l.length) (hle : l[k].1 ≤ key) (hgt : ∀ y ∈ l.drop (k + 1), key < y.1) (hu : KeysUp l) (h : AtIs l key i) : i = (k : Int) := by
  obtain ⟨h0, h1, h2⟩ := h
  rcases Int.lt_trichotomy i (k : Int) with q | q | q
  · have := (h2 k hk).1 q; omega
  · exact q
  · have hj : i.toNat < l.length := by omega
    have h3 := (h2 i.toNat hj).2 (by omega)
    have h4 := hgt l[i.toNat] (by
      rw [List.mem_drop_iff_getElem]
      exact ⟨i.toNat - (k + 1), by omega, by congr 1; omega⟩)
    omega
set_option maxRecDepth 100000 in
set_option maxHeartbeats 2000000 in
theorem find_at0 {F : Nat → Prop} {gs gp : Nat} {X : DSt} {L : List Pg} {R : List Int} {T : List Nat} {m : Nat} (hI : InvT X L R T) (hm : m ≤ 100000) {p lo hi : Int} (k : okT X 0 p lo hi) (h0 : 0 ≤ p) (hp : 0 < cntT L T p.toNat) (key d : Int) (hd : d < 8) (w : World) (h : Sto w F gs gp X L m) {j : Nat} (hj0 : j < (esX X p).length) (hAt0 : ∀ i, AtIs (esX X p) key i → i = (j : Int)) :
    Calls Try.prog 31 #[trV gs, .int .i64 p, .int .i64 key, .int .i64 d] w fun r w' => FindIs w w' (if (esX X p)[j].1 = key then (esX X p)[j].2 else -1) r := by
  have hO := fun W (f : Fr noB w W) => open_tree hI hm k h0 hp d hd (h.fr0 f)
  obtain ⟨x, Hx0⟩ : ∃ x : Int × Int, Hid ((esX X p)[j] = x) := ⟨(esX X p)[j], rfl⟩
  rw [Hx0.out]
  have hk2 : (rdN X p).1.k = 2 := k.kd
  obtain ⟨N, HN⟩ : ∃ N, Hid ((rdN X p).1 = N) := ⟨_, rfl⟩
  have hes : esX X p = N.es := by rw [← HN.out]; rfl
  rw [HN.out] at hO hk2
  have hl6 : N.es.length ≤ 6 := by rw [← hes]; exact k.es.2.2.1
  have hj : j < N.es.length := by rw [← hes]; exact hj0
  have Hx : Hid (N.es[j] = x) := by have := Hx0.out; simp only [hes] at this; exact this
  have hAt : ∀ i, AtIs N.es key i → i = (j : Int) := by rw [← hes]; exact hAt0
  clear hes Hx0 hAt0 hj0 HN
  obtain ⟨nk, nb, nes⟩ := N
  simp only at hk2 hl6 hj Hx hAt
  subst hk2
  have hj1 : ((j : Int) == -1) = false := beq_eq_false_iff_ne.2 (by omega)
  by_cases he : x.1 = key
  · have he1 : (x.1 == key) = true := by simpa using he
    rw [if_pos he]
    go_enter Try.func31, Try.ntmps31
    go_wp2_with (first
    | (with_reducible refine at_wpP ?_; refine wpList_boxG rfl 25 _ rfl (trV gs) [ptr gs] rfl rfl ?_; intro g4 w4 hg4 b4 f4 s4; have l4 := b4.lt; have z4 := f4.size)
    | (go_at_call 45; go_must (refine (hO _ f4).mono ?_; rintro e w5 ⟨v, rfl, n5, o5, f5, q5⟩; have z5 := f5.size; have hv := NdS.sl n5; have hbl := NdS.bl n5; have B4 := b4.fr0 f5))
    | (with_reducible refine at_wpP ?_; have q := n5; refine wpList_allocN rfl rfl ?_; intro g10 w6 hg10 b10 f6 s6; have l6 := b10.lt; have z6 := f6.size)
    | (with_reducible refine at_wpP ?_; refine at_st 47 _ _ rfl ?_; have q := b10; go_must (refine wpList_stN rfl _ _ rfl g10 rfl 2 nb v rfl hbl.out hv 0 (zerB 16) nilS b10 (zerB_len 16) ?_; intro w7 b7 f7; have z7 := f7.size; have q7 := NdB.kind b7; have e7 := NdB.ents b7 hbl.out; have F7 := Fr.ownX f6 s6 f7; have N7 := n5.fr0 F7; have C4 := B4.fr0 F7))
    | (with_reducible refine at_wpP ?_; refine at_ld 25 _ rfl ?_; go_must (refine wpList_ldT rfl _ rfl g4 rfl gs b4 ?_))
    | (go_at_call 47; go_must (refine (at_any v nes key _ N7.1 (by omega)).mono ?_; rintro e w8 ⟨i, rfl, hi, f8⟩; have z8 := f8.size; obtain rfl := hAt i hi; have N8 := N7.fr0 f8; have b8 := b7.fr0 f8; have e8 := NdB.ents b8 hbl.out; have k8 := NdB.kind b8))
    | (with_reducible refine at_wpP ?_; refine at_idx 31 _ _ rfl ?_; have q := N8; go_must (refine wpList_idxR rfl 31 _ _ rfl 49 uE 2 en_size enC v nes rfl (NdS.slr N8) (by decide) .i64 (j : Int) j rfl rfl hj ?_; intro eb eo heb hec; rw [Hx.out] at hec))
    | (with_reducible refine at_wpP ?_; refine at_ld 49 _ rfl ?_; have q := hec; go_must (refine wpList_ldE rfl _ rfl eb eo rfl x hec ?_))
    | (with_reducible refine at_wpP ?_; refine wpList_allocE rfl rfl ?_; intro g13 w9 hg13 b13 f9 s9; have z9 := f9.size; have l13 := b13.lt)
    | (with_reducible refine at_wpP ?_; refine at_st 49 _ _ rfl ?_; go_must (refine wpList_stE rfl _ _ rfl g13 rfl (0, 0) x b13 rfl ?_; intro w10 b14 f10; have z10 := f10.size; have q14 := EnB.all b14; have F10 := Fr.ownX f9 s9 f10; have q10 := NdB.kind (b8.fr0 F10); have D4 := (C4.fr0 f8).fr0 F10)))
    go_ret2
    exact ⟨rfl, (((f4.thenN f5).thenN F7).thenN f8).thenN F10⟩
  · have he1 : (x.1 == key) = false := by simpa using he
    rw [if_neg he]
    go_enter Try.func31, Try.ntmps31
    go_wp2_with (first
    | (with_reducible refine at_wpP ?_; refine wpList_boxG rfl 25 _ rfl (trV gs) [ptr gs] rfl rfl ?_; intro g4 w4 hg4 b4 f4 s4; have l4 := b4.lt; have z4 := f4.size)
    | (go_at_call 45; go_must (refine (hO _ f4).mono ?_; rintro e w5 ⟨v, rfl, n5, o5, f5, q5⟩; have z5 := f5.size; have hv := NdS.sl n5; have hbl := NdS.bl n5; have B4 := b4.fr0 f5))
    | (with_reducible refine at_wpP ?_; have q := n5; refine wpList_allocN rfl rfl ?_; intro g10 w6 hg10 b10 f6 s6; have l6 := b10.lt; have z6 := f6.size)
    | (with_reducible refine at_wpP ?_; refine at_st 47 _ _ rfl ?_; have q := b10; go_must (refine wpList_stN rfl _ _ rfl g10 rfl 2 nb v rfl hbl.out hv 0 (zerB 16) nilS b10 (zerB_len 16) ?_; intro w7 b7 f7; have z7 := f7.size; have q7 := NdB.kind b7; have e7 := NdB.ents b7 hbl.out; have F7 := Fr.ownX f6 s6 f7; have N7 := n5.fr0 F7; have C4 := B4.fr0 F7))
    | (with_reducible refine at_wpP ?_; refine at_ld 25 _ rfl ?_; go_must (refine wpList_ldT rfl _ rfl g4 rfl gs b4 ?_))
    | (go_at_call 47; go_must (refine (at_any v nes key _ N7.1 (by omega)).mono ?_; rintro e w8 ⟨i, rfl, hi, f8⟩; have z8 := f8.size; obtain rfl := hAt i hi; have N8 := N7.fr0 f8; have b8 := b7.fr0 f8; have e8 := NdB.ents b8 hbl.out; have k8 := NdB.kind b8))
    | (with_reducible refine at_wpP ?_; refine at_idx 31 _ _ rfl ?_; have q := N8; go_must (refine wpList_idxR rfl 31 _ _ rfl 49 uE 2 en_size enC v nes rfl (NdS.slr N8) (by decide) .i64 (j : Int) j rfl rfl hj ?_; intro eb eo heb hec; rw [Hx.out] at hec))
    | (with_reducible refine at_wpP ?_; refine at_ld 49 _ rfl ?_; have q := hec; go_must (refine wpList_ldE rfl _ rfl eb eo rfl x hec ?_))
    | (with_reducible refine at_wpP ?_; refine wpList_allocE rfl rfl ?_; intro g13 w9 hg13 b13 f9 s9; have z9 := f9.size; have l13 := b13.lt)
    | (with_reducible refine at_wpP ?_; refine at_st 49 _ _ rfl ?_; go_must (refine wpList_stE rfl _ _ rfl g13 rfl (0, 0) x b13 rfl ?_; intro w10 b14 f10; have z10 := f10.size; have q14 := EnB.all b14; have F10 := Fr.ownX f9 s9 f10; have q10 := NdB.kind (b8.fr0 F10); have D4 := (C4.fr0 f8).fr0 F10)))
    go_ret2
    exact ⟨rfl, (((f4.thenN f5).thenN F7).thenN f8).thenN F10⟩
set_option maxRecDepth 100000 in
set_option maxHeartbeats 2000000 in
theorem find_atS {F : Nat → Prop} {gs gp : Nat} {X : DSt} {L : List Pg} {R : List Int} {T : List Nat} {m lv : Nat} (hI : InvT X L R T) (hm : m ≤ 100000) {p lo hi : Int} (k : okT X (lv + 1) p lo hi) (h0 : 0 ≤ p) (hp : 0 < cntT L T p.toNat) (key d : Int) (hd0 : 0 ≤ d) (hd : d < 8) (w : World) (h : Sto w F gs gp X L m) {j : Nat} (hj0 : j < (esX X p).length) (hAt0 : ∀ i, AtIs (esX X p) key i → i = (j : Int)) (V : Int)
    (hrec : ∀ W, Fr noB w W → Calls Try.prog 31 #[trV gs, .int .i64 (esX X p)[j].2, .int .i64 key, .int .i64 (d + 1)] W fun r w' => FindIs W w' V r) :
    Calls Try.prog 31 #[trV gs, .int .i64 p, .int .i64 key, .int .i64 d] w fun r w' => FindIs w w' V r := by
  have hO := fun W (f : Fr noB w W) => open_tree hI hm k h0 hp d hd (h.fr0 f)
  obtain ⟨x, Hx0⟩ : ∃ x : Int × Int, Hid ((esX X p)[j] = x) := ⟨(esX X p)[j], rfl⟩
  rw [Hx0.out] at hrec
  have hk2 : (rdN X p).1.k = 3 := k.kd
  obtain ⟨N, HN⟩ : ∃ N, Hid ((rdN X p).1 = N) := ⟨_, rfl⟩
  have hes : esX X p = N.es := by rw [← HN.out]; rfl
  rw [HN.out] at hO hk2
  have hl6 : N.es.length ≤ 6 := by rw [← hes]; exact k.es.2.2.1
  have hj : j < N.es.length := by rw [← hes]; exact hj0
  have Hx : Hid (N.es[j] = x) := by have := Hx0.out; simp only [hes] at this; exact this
  have hAt : ∀ i, AtIs N.es key i → i = (j : Int) := by rw [← hes]; exact hAt0
  clear hes Hx0 hAt0 hj0 HN
  obtain ⟨nk, nb, nes⟩ := N
  simp only at hk2 hl6 hj Hx hAt
  subst hk2
  have hj1 : ((j : Int) == -1) = false := beq_eq_false_iff_ne.2 (by omega)
  have hw1 : IntKind.i64.wrap (d + 1) = d + 1 := wrap_sm (by omega)
  go_enter Try.func31, Try.ntmps31
  go_wp2_with (first
    | (with_reducible refine at_wpP ?_; refine at_ld 25 _ rfl ?_; have q := D4; go_must (refine wpList_ldT rfl _ rfl g4 rfl gs D4 ?_))
    | (with_reducible refine at_wpP ?_; refine wpList_boxG rfl 25 _ rfl (trV gs) [ptr gs] rfl rfl ?_; intro g4 w4 hg4 b4 f4 s4; have l4 := b4.lt; have z4 := f4.size)
    | (go_at_call 45; go_must (refine (hO _ f4).mono ?_; rintro e w5 ⟨v, rfl, n5, o5, f5, q5⟩; have z5 := f5.size; have hv := NdS.sl n5; have hbl := NdS.bl n5; have B4 := b4.fr0 f5))
    | (with_reducible refine at_wpP ?_; have q := n5; refine wpList_allocN rfl rfl ?_; intro g10 w6 hg10 b10 f6 s6; have l6 := b10.lt; have z6 := f6.size)
    | (with_reducible refine at_wpP ?_; refine at_st 47 _ _ rfl ?_; have q := b10; go_must (refine wpList_stN rfl _ _ rfl g10 rfl 3 nb v rfl hbl.out hv 0 (zerB 16) nilS b10 (zerB_len 16) ?_; intro w7 b7 f7; have z7 := f7.size; have q7 := NdB.kind b7; have e7 := NdB.ents b7 hbl.out; have F7 := Fr.ownX f6 s6 f7; have N7 := n5.fr0 F7; have C4 := B4.fr0 F7))
    | (with_reducible refine at_wpP ?_; refine at_ld 25 _ rfl ?_; go_must (refine wpList_ldT rfl _ rfl g4 rfl gs b4 ?_))
    | (go_at_call 47; go_must (refine (at_any v nes key _ N7.1 (by omega)).mono ?_; rintro e w8 ⟨i, rfl, hi, f8⟩; have z8 := f8.size; obtain rfl := hAt i hi; have N8 := N7.fr0 f8; have b8 := b7.fr0 f8; have e8 := NdB.ents b8 hbl.out; have k8 := NdB.kind b8))
    | (with_reducible refine at_wpP ?_; refine at_idx 31 _ _ rfl ?_; have q := N8; go_must (refine wpList_idxR rfl 31 _ _ rfl 49 uE 2 en_size enC v nes rfl (NdS.slr N8) (by decide) .i64 (j : Int) j rfl rfl hj ?_; intro eb eo heb hec; rw [Hx.out] at hec))
    | (with_reducible refine at_wpP ?_; refine at_ld 49 _ rfl ?_; have q := hec; go_must (refine wpList_ldE rfl _ rfl eb eo rfl x hec ?_))
    | (with_reducible refine at_wpP ?_; refine wpList_allocE rfl rfl ?_; intro g13 w9 hg13 b13 f9 s9; have z9 := f9.size; have l13 := b13.lt)
    | (with_reducible refine at_wpP ?_; refine at_st 49 _ _ rfl ?_; go_must (refine wpList_stE rfl _ _ rfl g13 rfl (0, 0) x b13 rfl ?_; intro w10 b14 f10; have z10 := f10.size; have q14 := EnB.all b14; have F10 := Fr.ownX f9 s9 f10; have q10 := NdB.kind (b8.fr0 F10); have D4 := (C4.fr0 f8).fr0 F10))
    | (go_at_call 31; go_must (refine (hrec _ ((((f4.thenN f5).thenN F7).thenN f8).thenN F10)).mono ?_; rintro e w11 ⟨rfl, f11⟩)))
  go_ret2
  exact ⟨rfl, ((((f4.thenN f5).thenN F7).thenN f8).thenN F10).thenN f11⟩
/-- find of a tree. -/
theorem find_lv {F : Nat → Prop} {gs gp : Nat} {X : DSt} {L : List Pg} {R : List Int} {T : List Nat} {m : Nat} (hI : InvT X L R T) (hm : m ≤ 100000) (key : Int) : ∀ (lv : Nat) {p lo hi : Int} (d : Int) (w : World), okT X lv p lo hi → 0 ≤ p → 0 < cntT L T p.toNat → 0 ≤ d → d + lv < 8 → Sto w F gs gp X L m →
    Calls Try.prog 31 #[trV gs, .int .i64 p, .int .i64 key, .int .i64 d] w fun r w' => FindIs w w' (findL (lsT X lv p) key) r := by
  intro lv
  induction lv with
  | zero =>
    intro p lo hi d w k h0 hp hd0 hd h
    by_cases hn : ∀ y ∈ esX X p, key < y.1
    · rw [k.miss hn]
      exact find_miss hI hm k h0 hp key d (by omega) w h hn
    · obtain ⟨j, hj, hle, hgt⟩ := last_le k.es.1 hn
      have hA : AtIs (esX X p) key (j : Int) := at_of hj hle hgt k.es.1
      have e : findL (lsT X 0 p) key = if (esX X p)[j].1 = key then (esX X p)[j].2 else -1 := by
        rw [show lsT X 0 p = esX X p from rfl, find_leaf k.es.1 hA, if_neg (by omega), Int.toNat_natCast]
        simp [List.getD, hj]
      rw [e]
      exact find_at0 hI hm k h0 hp key d (by omega) w h hj (fun i hi => at_one hj hle hgt k.es.1 hi)
  | succ lv ih =>
    intro p lo hi d w k h0 hp hd0 hd h
    by_cases hn : ∀ y ∈ esX X p, key < y.1
    · rw [k.miss hn]
      exact find_miss hI hm k h0 hp key d (by omega) w h hn
    · obtain ⟨j, hj, hle, hgt⟩ := last_le k.es.1 hn
      have hl : esX X p = (esX X p).take j ++ (esX X p)[j] :: (esX X p).drop (j + 1) := by rw [List.getElem_cons_drop, List.take_append_drop]
      rw [k.find hj hl hle hgt]
      obtain ⟨b, hb⟩ := k.child (esX X p)[j] (by simp)
      have hkd := hI.kid h0 hp (esX X p)[j].2 (by unfold kids; exact List.mem_map_of_mem (by show (esX X p)[j] ∈ esX X p; simp))
      exact find_atS hI hm k h0 hp key d hd0 (by omega) w h hj (fun i hi => at_one hj hle hgt k.es.1 hi) _ (fun W f => ih (d + 1) W hb hkd.1 hkd.2.2 (by omega) (by omega) (h.fr0 f))
end Go.Proofs.Ytkhdniccnefdhaa
/- Put below a page, as a function, plain; no condition. -/
namespace Go.Proofs.Ytkhdniccnefdhaa
open Go.RowKit Go.Proofs.U
set_option linter.unusedSimpArgs false
set_option linter.unusedVariables false
theorem okT.rises {X : DSt} {lv : Nat} {p lo hi : Int} (h : okT X lv p lo hi) : rises (-1) (esX X p) = true := by
  have hk := h.kd
  exact (right_tree (rdN_right h.rd) (by rw [hk]; unfold kdL; split <;> decide)).2.2.2.2
end Go.Proofs.Ytkhdniccnefdhaa
/- Trees in memory: put; no condition. -/
namespace Go.Proofs.Ytkhdniccnefdhaa
open Go.RowKit Go.Proofs.U
set_option linter.unusedSimpArgs false
set_option linter.unusedVariables false
theorem SplitIs.pre {w0 w w' : World} {F : Nat → Prop} {gs gp : Nat} {S : (DSt × List Pg) × List (Int × Int) × Int} {m m' : Nat} {r : Ending} (f : Fr noB w0 w) (h : SplitIs w w' F gs gp S m r) (hm : m ≤ m') : SplitIs w0 w' F gs gp S m' r := by
  obtain ⟨F', u, er, s, o, a⟩ := h
  exact ⟨F', u, er, (s.pre f).mono hm, o.rebase f.size, a⟩
theorem wfSm {x : Int} (h0 : -1 ≤ x) (h1 : x ≤ 300) : (Lit.int .i64 x).wf = true := by
  simp [Lit.wf, IntKind.min, IntKind.max, IntKind.signed, IntKind.bits]; omega
theorem mem_withL {l : List (Int × Int)} {x : Int × Int} {i : Int} : ∀ z ∈ withL l x i, z = x ∨ z ∈ l := by
  intro z hz
  unfold withL at hz
  split at hz
  · rcases List.mem_or_eq_of_mem_set hz with h | h
    · exact Or.inr h
    · exact Or.inl h
  · rcases List.mem_append.1 hz with h | h
    · exact Or.inr (List.mem_of_mem_take h)
    · rcases List.mem_cons.1 h with h | h
      · exact Or.inl h
      · exact Or.inr (List.mem_of_mem_drop h)
theorem withL_len (l : List (Int × Int)) (x : Int × Int) (i : Int) : (withL l x i).length ≤ l.length + 1 := by
  unfold withL
  split
  · rw [List.length_set]; omega
  · rw [List.length_append, List.length_cons, List.length_take, List.length_drop]; omega
theorem cellsE {w : World} {g : Nat} {x : Int × Int} (h : EnB w g x) : ∀ q u, (enC x)[q]? = some u → w.cell? ⟨g, 0 + q, none⟩ = some u := fun q u hq => by rw [Nat.zero_add]; exact (h.cell q u hq).1
theorem OwnR.slx {α : Type} {ec : α → List Value} {sz : Nat} {e : TypeId} {w : World} {base : Nat} {v : Value} {l : List α} (h : OwnR ec sz e w base v l) : ∃ a n c, v = .slice a n c := by
  obtain ⟨a, c, hv⟩ := h.opn
  exact ⟨a, _, c, hv⟩
/-- A node's entries are put. -/
theorem NdB.setE {w : World} {g : Nat} {k : Int} {b : List Int} {v : Value} (h : NdB w g k b v) (hb : b.length = 16) (v' : Value) : NdB (w.setCell ⟨g, 17, none⟩ v') g k b v' := by
  have h1 := h.set 17 v'
  have e : (ndL k b v).set 17 v' = ndL k b v' := by
    unfold ndL
    rw [List.set_cons_succ, List.set_append_right _ _ (by rw [pgv_len, hb]; omega), pgv_len, hb]
    rfl
  rw [e] at h1
  exact h1
theorem wpList_stEnt {w : World} {ops : Array Oper} {rest : List Oper} {o : Oper} {a : Act} {Q : Exit → Act → World → Prop} (hgd : Region.wanted o (yielded ops a.tmps) = true) (y z : Operand) (ho : o.op = .store 31 y z) (g : Nat) (hy : a.eval y = .pointer (some ⟨g, 17, none⟩)) (v' : Value) (hz : a.eval z = v') (hv : ∃ a n c, v' = .slice a n c) (k : Int) (b : List Int) (v : Value) (hB : NdB w g k b v) (hb : b.length = 16)
    (h : ∀ w', NdB w' g k b v' → Fr (onB1 g) w w' → wpList Try.prog ops Q rest (a.put o.dst undef) w') : wpList Try.prog ops Q (o :: rest) a w := by
  refine wpList_wanted hgd fun K hK => ?_
  have hr := run_st1 (P := Try.prog) 31 sE_size v' (sl_one hv) 47 (ndL k b v) hB (off := 17) (by rw [ndL_len k b v hb]; decide)
  have hrun : (execOp a.eval o).run Try.prog w = .ok .skip (w.setCell ⟨g, 17, none⟩ v') := by
    simp only [execOp, ho]
    simp [hy, hz, hr, Result.andThen]
  unfold Oper.wp
  rw [hrun]
  refine hK _ _ (h _ (hB.setE hb v') ?_)
  exact (Fr.refl _ w).setCell ⟨g, 17, none⟩ v' (fun _ => rfl)
end Go.Proofs.Ytkhdniccnefdhaa
/- Trees in memory: Put, Swap; no condition. -/
namespace Go.Proofs.Ytkhdniccnefdhaa
open Go.RowKit Go.Proofs.U
set_option linter.unusedSimpArgs false
set_option linter.unusedVariables false
set_option maxRecDepth 100000 in
set_option maxHeartbeats 2000000 in
theorem put_n1 {F : Nat → Prop} {gs gp : Nat} {X : DSt} {L : List Pg} {m : Nat} (hm : m ≤ 90000) (x : Int × Int) (hwx : (Lit.int .i64 x.1).wf = true ∧ (Lit.int .i64 x.2).wf = true) (d : Int) (w : World) (h : Sto w F gs gp X L m) :
    Calls Try.prog 28 #[trV gs, .int .i64 (-1), enV x, .int .i64 d] w fun r w' => SplitIs w w' F gs gp (splF (X, L) 2 [x]) (m + 2) r := by
  have hO := fun W (f : Fr noB w W) => open_none gs d W
  have hpl : ∀ i, AtIs ([] : List (Int × Int)) x.1 i → splF (X, L) 2 (withL [] x i) = splF (X, L) 2 [x] := fun i hi' => by
    have : i = -1 := by have h0 := hi'.1; have h1 := hi'.2.1; simp at h1; omega
    rw [this]; rfl
  obtain ⟨S, HS⟩ : ∃ S, Hid (splF (X, L) 2 [x] = S) := ⟨_, rfl⟩
  rw [HS.out] at hpl ⊢
  unfold leaf0 at hO
  obtain ⟨nb, HB⟩ : ∃ nb, Hid (zerB 16 = nb) := ⟨_, rfl⟩
  obtain ⟨nes, HE⟩ : ∃ nes : List (Int × Int), Hid (([] : List (Int × Int)) = nes) := ⟨_, rfl⟩
  rw [HB.out, HE.out] at hO
  rw [HE.out] at hpl
  have hl6 : nes.length ≤ 6 := by rw [← HE.out]; simp
  have hFt := h.ft
  have hgs := h.lts
  have hgp := h.ltp
  go_enter Try.func28, Try.ntmps28
  go_upto_region 6 with (first
    | (with_reducible refine at_wpP ?_; refine wpList_boxG rfl 25 _ rfl (trV gs) [ptr gs] rfl rfl ?_; intro g4 w4 hg4 b4 f4 s4; have l4 := b4.lt; have z4 := f4.size)
    | (go_at_call 45; go_must (refine (hO _ (f4.thenN f2)).mono ?_; rintro e w5 ⟨v, rfl, n5, o5, f5, q5⟩; have z5 := f5.size; have hv := NdS.sl n5; have hbl := NdS.bl n5; have B4 := (b4.fr0 f2).fr0 f5; have B6 := c6.fr0 f5))
    | (with_reducible refine at_wpP ?_; have q := n5; refine wpList_allocN rfl rfl ?_; intro g10 w6 hg10 b10 f6 s6; have l6 := b10.lt; have z6 := f6.size)
    | (with_reducible refine at_wpP ?_; refine at_st 47 _ _ rfl ?_; have q := b10; go_must (refine wpList_stN rfl _ _ rfl g10 rfl 2 nb v rfl hbl.out hv 0 (zerB 16) nilS b10 (zerB_len 16) ?_; intro w7 b7 f7; have z7 := f7.size; have q7 := NdB.kind b7; have e7 := NdB.ents b7 hbl.out; have F7 := Fr.ownX f6 s6 f7; have N7 := n5.fr0 F7; have D4 := B4.fr0 F7; have D6 := B6.fr0 F7; have r6 := EnB.all D6; have C6 := cellsE D6))
    | (with_reducible refine at_wpP ?_; refine at_ld 25 _ rfl ?_; have q := E4; go_must (refine wpList_ldT rfl _ rfl g4 rfl gs E4 ?_))
    | (with_reducible refine at_wpP ?_; refine at_ld 25 _ rfl ?_; have q := D4; go_must (refine wpList_ldT rfl _ rfl g4 rfl gs D4 ?_))
    | (with_reducible refine at_wpP ?_; refine at_ld 25 _ rfl ?_; go_must (refine wpList_ldT rfl _ rfl g4 rfl gs (b4.fr0 f2) ?_))
    | (with_reducible refine at_wpP ?_; refine wpList_boxG rfl 49 _ rfl (enV x) (enC x) rfl rfl ?_; intro g6 w2 hg6 c6 f2 s2; have l66 := c6.lt; have z2 := f2.size)
    | (with_reducible refine at_wpP ?_; refine at_ld 49 _ rfl ?_; have q := C6; go_must (refine wpList_ldE rfl _ rfl g6 0 rfl x C6 ?_))
    | (go_at_call 46; go_must (refine (with_any (base := w2.heap.size) (l := nes) (v := v) x (by omega) (q5.fr0 F7) N7.1.2 (by omega)).mono ?_; rintro e w8 ⟨i, hi8, v8, rfl, o8, f8, p8⟩; have z8 := f8.size; have B10 := b7.fr f8 (fun q => by have := o5 _ q; have := (q5.newB _ q).2; omega); have hv8 := OwnR.slx o8))
    | (with_reducible refine at_wpP ?_; refine at_st 31 _ _ rfl ?_; go_must (refine wpList_stEnt rfl _ _ rfl g10 rfl v8 rfl hv8 2 nb v B10 hbl.out ?_; intro w9 b9 f9; have z9 := f9.size)))
  have hvb : ∀ q, v.ownBlock = some q → w2.heap.size ≤ q ∧ q < w5.heap.size := fun q hq => ⟨o5 q hq, (q5.newB q hq).2⟩
  have F25 : Fr noB w w7 := ((f4.thenN f2).thenN f5).thenN F7
  have F8 : Fr noB w w8 := F25.thenT f8 (fun i hi q => by have := hvb i q; omega)
  have F9 : Fr noB w w9 := F8.thenT f9 (fun i hi q => by unfold onB1 at q; omega)
  have E4 := (D4.fr f8 (fun q => by have := hvb _ q; omega)).fr f9 (fun q => by unfold onB1 at q; omega)
  have o8b : ∀ q, v8.ownBlock = some q → (w2.heap.size ≤ q ∧ q < w5.heap.size) ∨ w7.heap.size ≤ q := fun q hq => (p8 q hq).imp (hvb q) id
  have o9 : EnO w9 w2.heap.size v8 (withL nes x i) := o8.fr f9 (fun q hq hq' => by
    unfold onB1 at hq'
    subst hq'
    rcases o8b _ hq with h | h <;> omega)
  have H9 := h.fr0 F9
  have hmem := mem_withL (l := nes) (x := x) (i := i)
  have n9 : NdS w9 v8 ⟨2, nb, withL nes x i⟩ := ⟨⟨o9.sl, fun z hz => (hmem z hz).elim (fun e => by rw [e]; exact hwx) (fun e => N7.1.2 z e)⟩, n5.2.1, by have := withL_len nes x i; show (withL nes x i).length ≤ 1000; omega, rfl⟩
  have hS := hpl i hi8
  have hSp := split_any 2 nb (withL nes x i) v8 w9 H9 (by omega) n9 (fun q hq => by
    have h1 := (o9.newB q hq)
    exact ⟨fun q' => by have := hFt q q'; omega, by omega, h1.2⟩)
  rw [hS] at hSp
  clear hpl hS
  go_wp2_with (first
    | (with_reducible refine at_wpP ?_; refine at_ld 25 _ rfl ?_; go_must (refine wpList_ldT rfl _ rfl g4 rfl gs E4 ?_))
    | (with_reducible refine at_wpP ?_; refine at_ld 47 _ rfl ?_; go_must (refine wpList_ldN rfl _ rfl g10 rfl 2 nb v8 b9 hbl.out ?_))
    | (go_at_call 19; go_must (refine hSp.mono ?_; intro e w10 hq; obtain ⟨F', u, he, s10, o10, a10⟩ := hq; subst he)))
  go_ret2
  exact SplitIs.pre F9 ⟨F', u, rfl, s10, o10, a10⟩ (Nat.le_refl _)
/-- What Put and Build hand back. -/
def TopIs (w w' : World) (F : Nat → Prop) (gs gp : Nat) (S : DSt × List Pg) (p e : Int) (m : Nat) (r : Ending) : Prop := ∃ F', r = .returned (.tuple #[.int .i64 p, .int .i64 e]) ∧ StT w w' F F' gs gp S m
set_option maxRecDepth 100000 in
set_option maxHeartbeats 2000000 in
theorem Put_one {F : Nat → Prop} {gs gp : Nat} {X : DSt} {L : List Pg} {m m1 : Nat} (root key page : Int) (hk : 0 ≤ key ∧ key ≤ 63) (w : World) (h : Sto w F gs gp X L m) (S : (DSt × List Pg) × List (Int × Int) × Int) (hl : S.2.1.length ≤ 1) (h1 : S.2.2 = 0 → S.2.1.length = 1)
    (hP : ∀ W, Sto W F gs gp X L m → Calls Try.prog 28 #[trV gs, .int .i64 root, enV (key, page), .int .i64 0] W fun r w' => SplitIs W w' F gs gp S m1 r) :
    Calls Try.prog 9 #[trV gs, .int .i64 root, .int .i64 key, .int .i64 page] w fun r w' => TopIs w w' F gs gp S.1 (if S.2.2 = 0 then (S.2.1.getD 0 (0, 0)).2 else -1) S.2.2 m1 r := by
  obtain ⟨S1, tops, e⟩ := S
  simp only at hl h1 hP ⊢
  have h0' : decide (key < (0 : Int)) = false := by simp; omega
  have h1' : decide ((64 : Int) ≤ key) = false := by simp; omega
  have hl' : decide ((1 : Int) < (tops.length : Int)) = false := by simp; omega
  by_cases he : e = 0
  · subst he
    have hlen := h1 rfl
    rw [if_pos rfl]
    obtain ⟨t0, ht0⟩ : ∃ t0, tops = [t0] := List.length_eq_one_iff.1 hlen
    subst ht0
    simp only [List.getD_cons_zero]
    clear h1 hl hlen
    go_enter Try.func9, Try.ntmps9
    go_wp2_with (first
      | (with_reducible refine at_wpP ?_; refine wpList_boxG rfl 25 _ rfl (trV gs) [ptr gs] rfl rfl ?_; intro g4 w4 hg4 b4 f4 s4; have l4 := b4.lt; have z4 := f4.size)
      | (with_reducible refine at_wpP ?_; refine at_ld 25 _ rfl ?_; go_must (refine wpList_ldT rfl _ rfl g4 rfl gs b4 ?_))
      | (with_reducible refine at_wpP ?_; refine wpList_bldE rfl _ _ rfl key page rfl rfl ?_)
      | (go_at_call 28; go_must (refine (hP _ (h.fr0 f4)).mono ?_; rintro e1 w5 ⟨F1, u, he1, s5, o5, a5⟩; subst he1; obtain ⟨ua, uc, hu⟩ := o5.opn; subst hu; have q5 : SlR enC 2 w5 (.slice ua 1 uc) [t0] := OwnR.sl o5))
      | (with_reducible refine at_wpP ?_; refine at_idx 31 _ _ rfl ?_; have q := q5; go_must (refine wpList_idxR rfl 31 _ _ rfl 49 uE 2 en_size enC (.slice ua 1 uc) [t0] rfl q5 (by decide) .i64 0 0 rfl rfl (by simp) ?_; intro eb eo heb hec; have hec1 := hec 1 _ rfl)))
    go_ret2
    exact ⟨F1, rfl, StT.pre f4 s5⟩
  · rw [if_neg he]
    go_enter Try.func9, Try.ntmps9
    go_wp2_with (first
      | (with_reducible refine at_wpP ?_; refine wpList_boxG rfl 25 _ rfl (trV gs) [ptr gs] rfl rfl ?_; intro g4 w4 hg4 b4 f4 s4; have l4 := b4.lt; have z4 := f4.size)
      | (with_reducible refine at_wpP ?_; refine at_ld 25 _ rfl ?_; go_must (refine wpList_ldT rfl _ rfl g4 rfl gs b4 ?_))
      | (with_reducible refine at_wpP ?_; refine wpList_bldE rfl _ _ rfl key page rfl rfl ?_)
      | (go_at_call 28; go_must (refine (hP _ (h.fr0 f4)).mono ?_; rintro e1 w5 ⟨F1, u, he1, s5, o5, a5⟩; subst he1; obtain ⟨ua, uc, hu⟩ := o5.opn; subst hu)))
    go_ret2
    exact ⟨F1, rfl, StT.pre f4 s5⟩
/-- Put into None. -/
theorem Put_empty {F : Nat → Prop} {gs gp : Nat} {X : DSt} {L : List Pg} {R : List Int} {T : List Nat} {Q : List Nat → Prop} {m : Nat} (hI : InvT X L R T) (hm : m ≤ 80000) (key page : Int) (hk : 0 ≤ key ∧ key ≤ 63) (hpg : 0 ≤ page ∧ 0 < cntT L T page.toNat) (w : World) (h : Sto w F gs gp X L m) :
    Calls Try.prog 9 #[trV gs, .int .i64 (-1), .int .i64 key, .int .i64 page] w fun r w' => ∃ X' L' p' e, TopIs w w' F gs gp (X', L') p' e (m + 20) r ∧ PutR X L R T Q 0 [(key, page)] X' L' p' e := by
  obtain ⟨X', L', tops, e, es, hup, hl, h1, hR⟩ := put_none (Q := Q) hI h.up (z := (key, page)) hk hpg
  have hlow := hI.low hpg.2
  have hPc := fun W (s : Sto W F gs gp X L m) => put_n1 (by omega) (key, page) ⟨wfSm (by show -1 ≤ key; omega) (by show key ≤ 300; omega), wfSm (by show -1 ≤ page; omega) (by show page ≤ 300; omega)⟩ 0 W s
  rw [es] at hPc
  refine (Put_one (-1) key page hk w h ((X', L'), tops, e) hl h1 hPc).mono ?_
  rintro r w' ⟨F', er, s⟩
  exact ⟨X', L', _, e, ⟨F', er, s.mono (by omega)⟩, hR⟩
/-- Swap. -/
def swF (X : DSt) (L : List Pg) (old next : Int) : List Pg × Int :=
  if (plHold L next).2 = 0 then (if old = -1 then ((plHold L next).1, 0) else dropF X (muL (plHold L next).1 + 1) (plHold L next).1 old) else plHold L next
set_option maxRecDepth 100000 in
set_option maxHeartbeats 2000000 in
theorem Swap_any {F : Nat → Prop} {gs gp : Nat} {X : DSt} {L : List Pg} {m : Nat} (old next : Int) (hn : ¬ next = -1) (hm : m ≤ 90000) (w : World) (h : Sto w F gs gp X L m) :
    Calls Try.prog 16 #[trV gs, .int .i64 old, .int .i64 next] w fun r w' => r = .returned (.int .i64 (swF X L old next).2) ∧ Sto w' F gs gp X (swF X L old next).1 m ∧ Fr (onB1 gp) w w' := by
  have hn1 : (next == -1) = false := by simpa using hn
  unfold swF
  have hH := fun W (s : Sto W F gs gp X L m) => nhold_any next W s
  have hgs := h.lts
  have hgp := h.ltp
  obtain ⟨H, HH⟩ : ∃ H, Hid (plHold L next = H) := ⟨_, rfl⟩
  rw [HH.out] at hH ⊢
  obtain ⟨L1, e1⟩ := H
  simp only at hH ⊢
  by_cases he : e1 = 0
  · subst he
    rw [if_pos rfl]
    by_cases ho : old = -1
    · have ho1 : (old == -1) = true := by simpa using ho
      rw [if_pos ho]
      go_enter Try.func16, Try.ntmps16
      go_wp2_with (first
        | (with_reducible refine at_wpP ?_; refine wpList_boxG rfl 25 _ rfl (trV gs) [ptr gs] rfl rfl ?_; intro g4 w4 hg4 b4 f4 s4; have l4 := b4.lt; have z4 := f4.size; have c4 := tr_cell b4)
        | (go_at_call 27; go_must (refine (hH _ (h.fr0 f4)).mono ?_; rintro e5 w5 ⟨rfl, s5, f5⟩; have z5 := f5.size)))
      go_ret
      exact ⟨rfl, s5, (f4.mono (fun _ _ q => q.elim)).thenT f5 (fun _ _ q => q)⟩
    · have ho1 : (old == -1) = false := by simpa using ho
      rw [if_neg ho]
      have hD := fun W (s : Sto W F gs gp X L1 m) => ndrop_any (by omega) (muL L1 + 1) L1 old W (Nat.lt_succ_self _) s
      obtain ⟨D, HD⟩ : ∃ D, Hid (dropF X (muL L1 + 1) L1 old = D) := ⟨_, rfl⟩
      rw [HD.out] at hD ⊢
      go_enter Try.func16, Try.ntmps16
      go_wp2_with (first
        | (with_reducible refine at_wpP ?_; refine wpList_boxG rfl 25 _ rfl (trV gs) [ptr gs] rfl rfl ?_; intro g4 w4 hg4 b4 f4 s4; have l4 := b4.lt; have z4 := f4.size; have c4 := tr_cell b4)
        | (go_at_call 27; go_must (refine (hH _ (h.fr0 f4)).mono ?_; rintro e5 w5 ⟨rfl, s5, f5⟩; have z5 := f5.size; have c5 := tr_cell (b4.ne f5 (by omega))))
        | (go_at_call 34; go_must (refine (hD _ s5).mono ?_; rintro e6 w6 ⟨rfl, s6, f6⟩; have z6 := f6.size)))
      go_ret
      exact ⟨rfl, s6, ((f4.mono (fun _ _ q => q.elim)).thenT f5 (fun _ _ q => q)).thenT f6 (fun _ _ q => q)⟩
  · rw [if_neg he]
    go_enter Try.func16, Try.ntmps16
    go_wp2_with (first
      | (with_reducible refine at_wpP ?_; refine wpList_boxG rfl 25 _ rfl (trV gs) [ptr gs] rfl rfl ?_; intro g4 w4 hg4 b4 f4 s4; have l4 := b4.lt; have z4 := f4.size; have c4 := tr_cell b4)
      | (go_at_call 27; go_must (refine (hH _ (h.fr0 f4)).mono ?_; rintro e5 w5 ⟨rfl, s5, f5⟩; have z5 := f5.size)))
    go_ret
    exact ⟨rfl, s5, (f4.mono (fun _ _ q => q.elim)).thenT f5 (fun _ _ q => q)⟩
end Go.Proofs.Ytkhdniccnefdhaa
/- Trees in memory: List, Find, Height of a root; no condition. -/
namespace Go.Proofs.Ytkhdniccnefdhaa
open Go.RowKit Go.Proofs.U
set_option linter.unusedSimpArgs false
set_option linter.unusedVariables false
/-- A root: None, or a tree that is there. -/
def RtAt (X : DSt) (L : List Pg) (T : List Nat) (Q : List Nat → Prop) (lv : Nat) (root : Int) (l : List (Int × Int)) : Prop :=
  (root = -1 ∧ l = []) ∨ (0 ≤ root ∧ 0 < cntT L T root.toNat ∧ lv < 8 ∧ TreeAt X Q lv root l)
theorem RtAt.up {X : DSt} {L : List Pg} {T : List Nat} {Q : List Nat → Prop} {lv : Nat} {root : Int} {l : List (Int × Int)} (h : RtAt X L T Q lv root l) : KeysUp l ∧ ∀ z ∈ l, 0 ≤ z.1 ∧ z.1 ≤ 63 := by
  rcases h with ⟨_, rfl⟩ | ⟨_, _, _, t⟩
  · exact ⟨List.Pairwise.nil, by simp⟩
  · rw [← t.ls]
    exact ⟨lsT_up t.ok, fun z hz => by have := lsT_rng t.ok z hz; omega⟩
theorem RtAt.len {X : DSt} {L : List Pg} {T : List Nat} {Q : List Nat → Prop} {lv : Nat} {root : Int} {l : List (Int × Int)} (h : RtAt X L T Q lv root l) : l.length ≤ 64 := by
  have := KeysUp.len h.up.1 (a := 0) (b := 63) (by decide) (fun z hz => h.up.2 z hz)
  omega
set_option maxRecDepth 100000 in
set_option maxHeartbeats 2000000 in
theorem fnd_none {gs : Nat} (key d : Int) (w : World) :
    Calls Try.prog 31 #[trV gs, .int .i64 (-1), .int .i64 key, .int .i64 d] w fun r w' => FindIs w w' (-1) r := by
  have hO := fun W => open_none gs d W
  unfold leaf0 at hO
  obtain ⟨nb, HB⟩ : ∃ nb, Hid (zerB 16 = nb) := ⟨_, rfl⟩
  obtain ⟨nes, HE⟩ : ∃ nes : List (Int × Int), Hid (([] : List (Int × Int)) = nes) := ⟨_, rfl⟩
  rw [HB.out, HE.out] at hO
  have hb' : ∀ y ∈ nes, key < y.1 := by rw [← HE.out]; simp
  have hl6 : nes.length ≤ 6 := by rw [← HE.out]; simp
  go_enter Try.func31, Try.ntmps31
  go_wp2_with (first
    | (with_reducible refine at_wpP ?_; refine wpList_boxG rfl 25 _ rfl (trV gs) [ptr gs] rfl rfl ?_; intro g4 w4 hg4 b4 f4 s4; have l4 := b4.lt; have z4 := f4.size)
    | (go_at_call 45; go_must (refine (hO _).mono ?_; rintro e w5 ⟨v, rfl, n5, o5, f5, q5⟩; have z5 := f5.size; have hv := NdS.sl n5; have hbl := NdS.bl n5; have B4 := b4.fr0 f5))
    | (with_reducible refine at_wpP ?_; have q := n5; refine wpList_allocN rfl rfl ?_; intro g10 w6 hg10 b10 f6 s6; have l6 := b10.lt; have z6 := f6.size)
    | (with_reducible refine at_wpP ?_; refine at_st 47 _ _ rfl ?_; have q := b10; go_must (refine wpList_stN rfl _ _ rfl g10 rfl 2 nb v rfl hbl.out hv 0 (zerB 16) nilS b10 (zerB_len 16) ?_; intro w7 b7 f7; have z7 := f7.size; have q7 := NdB.kind b7; have e7 := NdB.ents b7 hbl.out; have F7 := Fr.ownX f6 s6 f7; have N7 := n5.fr0 F7; have C4 := B4.fr0 F7))
    | (with_reducible refine at_wpP ?_; refine at_ld 25 _ rfl ?_; go_must (refine wpList_ldT rfl _ rfl g4 rfl gs b4 ?_))
    | (go_at_call 47; go_must (refine (at_any v nes key _ N7.1 (by omega)).mono ?_; rintro e w8 ⟨i, rfl, hi, f8⟩; have hi1 : i = -1 := (at_none_eq hb' hi); subst hi1)))
  go_ret2
  exact ⟨rfl, (((f4.thenN f5).thenN F7).thenN f8)⟩
set_option maxRecDepth 100000 in
set_option maxHeartbeats 2000000 in
theorem Find_any {F : Nat → Prop} {gs gp : Nat} {X : DSt} {L : List Pg} {R : List Int} {T : List Nat} {Q : List Nat → Prop} {m lv : Nat} {root : Int} {l : List (Int × Int)} (hI : InvT X L R T) (hm : m ≤ 100000) (hr : RtAt X L T Q lv root l) (key : Int) (w : World) (h : Sto w F gs gp X L m) :
    Calls Try.prog 12 #[trV gs, .int .i64 root, .int .i64 key] w fun r w' => FindIs w w' (findL l key) r := by
  have hF : ∀ W, Fr noB w W → Calls Try.prog 31 #[trV gs, .int .i64 root, .int .i64 key, .int .i64 0] W fun r w' => FindIs W w' (findL l key) r := by
    intro W f
    rcases hr with ⟨rfl, rfl⟩ | ⟨h0, hp, hlv, t⟩
    · exact fnd_none key 0 W
    · rw [← t.ls]
      exact find_lv hI hm key lv 0 W t.ok h0 hp (Int.le_refl _) (by omega) (h.fr0 f)
  go_enter Try.func12, Try.ntmps12
  go_wp2_with (first
    | (with_reducible refine at_wpP ?_; refine wpList_boxG rfl 25 _ rfl (trV gs) [ptr gs] rfl rfl ?_; intro g4 w4 hg4 b4 f4 s4; have l4 := b4.lt; have z4 := f4.size)
    | (with_reducible refine at_wpP ?_; refine at_ld 25 _ rfl ?_; go_must (refine wpList_ldT rfl _ rfl g4 rfl gs b4 ?_))
    | (go_at_call 31; go_must (refine (hF _ f4).mono ?_; rintro e w5 ⟨rfl, f5⟩)))
  go_ret2
  exact ⟨rfl, f4.thenN f5⟩
end Go.Proofs.Ytkhdniccnefdhaa
/- Roots of trees and of blocks in a store, plain: a block is made, a key is put and the root swapped; no condition. -/
namespace Go.Proofs.Ytkhdniccnefdhaa
open Go.RowKit Go.Proofs.U
set_option linter.unusedSimpArgs false
set_option linter.unusedVariables false
theorem data_right (b : List Int) : (Nd.mk 1 b []).right = true := by unfold Nd.right; rfl
/-- A block is made and held. -/
structure BlkIs (X : DSt) (L : List Pg) (R : List Int) (b : List Int) (X' : DSt) (L1 : List Pg) (p : Int) (L2 : List Pg) (m : Nat) : Prop where
  em : makeF X L ⟨1, b, []⟩ = ((X', L1), p, 0)
  hd : plHold L1 p = (L2, 0)
  iv : Inv X' L2 (R ++ [p])
  up : Up X' L2.length (m + 1)
  fr : plFree L2 + 1 = plFree L
  rd : rdN X' p = (⟨1, b, []⟩, 0)
  p0 : 0 ≤ p
  pf : (plAt L p.toNat).free = true
  ln : L2.length = L.length
  kp : ∀ q : Nat, 0 < cntL L q → rdN X' (q : Int) = rdN X (q : Int)
  yg : PlY L → PlY L2
  ct : ∀ q : Nat, cntL L2 q = cntL L q + if p = (q : Int) then 1 else 0
theorem hold_yg {L L' : List Pg} {t : Int} (hL : ∀ i, plAt L' i = ⟨(plAt L i).c + (if t = (i : Int) then 1 else 0), (plAt L i).s⟩) (hf : (plAt L t.toNat).frsh = true) (h0 : 0 ≤ t) (y : PlY L) : PlY L' := by
  intro i
  rw [hL i]
  simp only
  rcases y i with y | ⟨ys, yc⟩
  · exact Or.inl y
  · split
    · rename_i e
      have : t.toNat = i := by omega
      rw [this] at hf
      unfold Pg.frsh at hf
      rw [ys] at hf
      simp at hf
    · exact Or.inr ⟨ys, by omega⟩
theorem hold_free {L L' : List Pg} {t : Int} (hl : L'.length = L.length) (hok : plOk L) (hL : ∀ i, plAt L' i = ⟨(plAt L i).c + (if t = (i : Int) then 1 else 0), (plAt L i).s⟩) (hf : (plAt L t.toNat).frsh = true) (h0 : 0 ≤ t) : plFree L' = plFree L := by
  unfold plFree
  have key : ∀ (A B : List Pg), A.length = B.length → (∀ i, (plAt A i).free = (plAt B i).free) → A.countP Pg.free = B.countP Pg.free := by
    intro A
    induction A with
    | nil => intro B hl _; have : B = [] := List.eq_nil_of_length_eq_zero (by simpa using hl.symm); rw [this]
    | cons a A ih =>
      intro B hl hi
      cases B with
      | nil => simp at hl
      | cons b B =>
        have h00 : a.free = b.free := hi 0
        rw [List.countP_cons, List.countP_cons, h00, ih B (by simpa using hl) (fun i => hi (i + 1))]
  refine key _ _ hl fun i => ?_
  rw [hL i]
  by_cases e : t = (i : Int)
  · have : t.toNat = i := by omega
    rw [this] at hf
    rw [free_frsh hf]
    unfold Pg.frsh at hf
    unfold Pg.free
    simp only [Bool.or_eq_true, beq_iff_eq] at hf
    rcases hf with hf | hf <;> rw [hf] <;> simp
  · rw [if_neg e]; simp
theorem Inv.block {X : DSt} {L : List Pg} {R : List Int} {m : Nat} {b : List Int} (h : Inv X L R) (hU : Up X L.length m) (hb : b.length = 16) (hby : Byt b) (hf : ¬ plFree L = 0) (hc : ∀ q, cntL L q ≤ 254) : ∃ X' L1 p L2, BlkIs X L R b X' L1 p L2 m := by
  obtain ⟨X', L1, p, e, em, hx, hup, he, h71, h72, h0⟩ := h.toT.make (n := ⟨1, b, []⟩) hU (data_right b) ⟨hb, hby⟩ (by simp [kids])
  have e0 : e = 0 := by
    rcases he with e | e | e
    · exact e
    · exact absurd (h71 e) hf
    · refine absurd (fun q => ?_) (h72 e)
      have := hc q
      simp [kids]; omega
  subst e0
  obtain ⟨p0, p1, pf, prd, piv, pfr, pct⟩ := h0 rfl
  have hct : ∀ q : Nat, cntL L1 q = cntL L q := fun q => by rw [pct q]; simp [kids]
  obtain ⟨L2, hh, iv2, hat, hln⟩ := piv.hold p0 (by rw [hct]; have := hc p.toNat; omega)
  have hfr := piv.tf p.toNat (by simp)
  refine ⟨X', L1, p, L2, em, hh, iv2.toI, by rw [hln]; exact hup, ?_, prd, p0, pf, by rw [hln, hx.ln], fun q hq => ?_, fun y => hold_yg hat hfr p0 (hx.yg y), fun q => ?_⟩
  · rw [hold_free hln piv.ok hat hfr p0]; exact pfr
  · have hlv := h.toT.live (q := q) (by rw [cntT_nil]; exact hq)
    exact (hx.kp q hlv.1).1
  · rw [← hct q]
    unfold cntL
    rw [hat q]
    have := (piv.ok.2 q).1
    simp only
    split <;> omega
theorem swap_first {X : DSt} {L : List Pg} {R : List Int} {next : Int} (h : InvT X L R [next.toNat]) (h0 : 0 ≤ next) (hc : cntL L next.toNat < 255) :
    ∃ L', swF X L (-1) next = (L', 0) ∧ Inv X L' (R ++ [next]) ∧ L'.length = L.length ∧ (PlY L → PlY L') := by
  obtain ⟨L1, hh, iv1, hat, hln⟩ := h.hold h0 hc
  unfold swF
  rw [hh]
  simp only [if_true]
  exact ⟨L1, rfl, iv1.toI, hln, fun y => hold_yg hat (h.tf _ (by simp)) h0 y⟩
end Go.Proofs.Ytkhdniccnefdhaa
/- Stage 10's laws: made; no condition. -/
namespace Go.Proofs.Ytkhdniccnefdhaa
open Go.RowKit Go.Proofs.U
set_option linter.unusedSimpArgs false
set_option linter.unusedVariables false
def bk9 : List Int := 9 :: zerB 15
theorem bk9_len : bk9.length = 16 := rfl
theorem bk9_byt : Byt bk9 := by
  intro x hx
  rcases List.mem_cons.1 hx with rfl | hx
  · decide
  · exact zerB_byt 15 x hx
theorem built_bk9 : Try.prog.built 45 [(0, .int .u8 9)] = some (pgv bk9).toArray := by kernel_rfl
/-- A store with one block, held once. -/
structure Base1 (X : DSt) (L : List Pg) (pg : Int) (N : Nat) : Prop where
  iv : Inv X L [pg]
  fr : plFree L + 1 = N
  ln : L.length = N
  yg : PlY L
  rd : rdN X pg = (⟨1, bk9, []⟩, 0)
  p0 : 0 ≤ pg
  ct : ∀ q, cntL L q ≤ 1
theorem free_new (n : Int) : plFree (plNew n) = plN n := by
  unfold plFree plNew
  rw [List.countP_replicate]
  rfl
theorem cnt_new (n : Int) (q : Nat) : cntL (plNew n) q = 0 := by
  unfold cntL plNew plAt
  simp only [List.getD, List.getElem?_replicate]
  split <;> rfl
theorem young_new (n : Int) : PlY (plNew n) := by
  intro i
  unfold plNew plAt
  simp only [List.getD, List.getElem?_replicate]
  split <;> exact Or.inr ⟨rfl, rfl⟩
theorem base1 {n : Int} (hn : 5 ≤ n) : ∃ X' L1 p L2, makeF (newD n) (plNew (sizeN n)) ⟨1, bk9, []⟩ = ((X', L1), p, 0) ∧ plHold L1 p = (L2, 0) ∧ Base1 X' L2 p (plN (sizeN n)) := by
  have hU := Up.new (n := n) (by omega)
  rw [← plNew_len] at hU
  have hN : 0 < plN (sizeN n) := by unfold plN sizeN; omega
  obtain ⟨X', L1, p, L2, B⟩ := (Inv.new (sizeN n) (newD n)).block hU bk9_len bk9_byt (by rw [free_new]; omega) (fun q => by rw [cnt_new]; omega)
  refine ⟨X', L1, p, L2, B.em, B.hd, B.iv, by rw [B.fr, free_new], by rw [B.ln, plNew_len], B.yg (young_new _), B.rd, B.p0, fun q => ?_⟩
  rw [B.ct q, cnt_new]
  split <;> omega
/-- What lies above a world. -/
structure Above (w w' : World) (F : Nat → Prop) (gs gp : Nat) : Prop where
  f : ∀ k, F k → w.heap.size ≤ k
  s : w.heap.size ≤ gs
  p : w.heap.size ≤ gp
  fr : Fr noB w w'
theorem tr_zero : (Try.prog.info? 25).map (·.zero) = some (some (.agg #[.pointer none])) := by kernel_rfl
theorem built_tr (g : Nat) : Try.prog.built 25 [(0, ptr g)] = some #[ptr g] := by
  have hp : (Try.prog.fieldsOf 25).toList.mapM (fun f => (Try.prog.info? f.type).map fun i => (f.offset, i.size)) = some [(0, 1)] := by kernel_rfl
  rw [built_struct _ _ tr_struct _ tr_zero _ hp]
  rfl
theorem results_tr2 {fn : Func} {q u : Tmp} (h : fn.results = #[.cell q 25, .tmp u]) (tmps : Array Value) (w : World) (g gs : Nat) (hq : tmps.getD q undef = .pointer (some ⟨g, 0, none⟩)) (hB : BxV w g 25 [ptr gs]) :
    (results fn tmps).run Try.prog w = .ok (.tuple #[trV gs, tmps.getD u undef]) w := by
  rw [results_cell_tmp h, hq]
  have hr := run_loadVar_mid (P := Try.prog) w g 0 25 [ptr gs] _ (hB.range 0 _ rfl) tr_struct rfl tr_size
  simp only [asAddr, Sem.run_pure, Result.andThen_ok, hr]
theorem wpList_bldT {w : World} {ops : Array Oper} {rest : List Oper} {o : Oper} {a : Act} {Q : Exit → Act → World → Prop} (hgd : Region.wanted o (yielded ops a.tmps) = true) (y : Operand) (ho : o.op = .build 25 #[(0, y)]) (g : Nat) (hy : a.eval y = ptr g)
    (h : wpList Try.prog ops Q rest (a.put o.dst (trV g)) w) : wpList Try.prog ops Q (o :: rest) a w := by
  refine wpList_wanted hgd fun K hK => ?_
  have hrun := run_build (P := Try.prog) w 25 #[(0, ptr g)] _ (built_tr g)
  unfold Oper.wp
  simp [execOp, ho, hy, hrun, Result.andThen]
  exact hK _ _ h
theorem wpList_stT {w : World} {ops : Array Oper} {rest : List Oper} {o : Oper} {a : Act} {Q : Exit → Act → World → Prop} (hgd : o.guard = none) (y z : Operand) (ho : o.op = .store 25 y z) (g : Nat) (hy : a.eval y = .pointer (some ⟨g, 0, none⟩)) (gs : Nat) (hz : a.eval z = trV gs) (v0 : Value) (hB : BxV w g 25 [v0])
    (h : ∀ w', BxV w' g 25 [ptr gs] → Fr (onB1 g) w w' → wpList Try.prog ops Q rest (a.put o.dst undef) w') : wpList Try.prog ops Q (o :: rest) a w := by
  refine wpList_storeV hgd _ y z ho g 0 hy [ptr gs] hz _ [v0] hB tr_size (Nat.le_refl _) (by intro u hu; simp at hu; subst hu; rfl) ?_
  intro w' h1 h2
  rw [putAt_all [v0] [ptr gs] rfl] at h1
  exact h w' h1 h2
set_option maxRecDepth 100000 in
set_option maxHeartbeats 2000000 in
theorem made_T (n : Int) (hn : 5 ≤ n ∧ n ≤ 1000) (w : World) :
    Calls Try.prog 8 #[.int .i64 n] w fun r w' => ∃ gs gp F X L pg, r = .returned (.tuple #[trV gs, .int .i64 pg]) ∧ Sto w' F gs gp X L 1 ∧ Above w w' F gs gp ∧ Base1 X L pg (plN (sizeN n)) := by
  obtain ⟨X', L1, p, L2, em, eh, hB1⟩ := base1 hn.1
  have hU := Up.new (n := n) (by omega)
  have hok := plNew_ok (sizeN n)
  rw [← plNew_len] at hU
  have hd := fun W => new_any n (by omega) W
  have hp := fun W => pnew_any (sizeN n) W
  have hz := fun W => nsize_any n W
  obtain ⟨D, HD⟩ : ∃ D, Hid (newD n = D) := ⟨_, rfl⟩
  obtain ⟨P, HP⟩ : ∃ P, Hid (plNew (sizeN n) = P) := ⟨_, rfl⟩
  obtain ⟨s, HS⟩ : ∃ s, Hid (sizeN n = s) := ⟨_, rfl⟩
  rw [HD.out] at hU hd em
  rw [HP.out] at hU hp hok em
  rw [HS.out] at hz hp hB1 ⊢
  obtain ⟨B9, HB9⟩ : ∃ B9, Hid (bk9 = B9) := ⟨_, rfl⟩
  have hb9 := show Hid _ from built_bk9
  have hl9 := show Hid _ from bk9_len
  have hby9 := bk9_byt
  rw [HB9.out] at hb9 hl9 hby9 em
  have hbn := show Hid _ from built_ndB 1 B9 hl9.out
  have em' := show Hid _ from em
  have eh' := show Hid _ from eh
  clear em eh
  go_enter Try.func8, Try.ntmps8
  go_upto_region 4 with (first
    | (with_reducible refine at_wpP ?_; refine wpList_allocG rfl 25 rfl (.agg #[.pointer none]) [.pointer none] tr_zero rfl ?_; intro g2 w0 hg2 b2 f0 s0; have l2 := b2.lt; have z0 := f0.size)
    | (go_at_call 23; go_must (refine (hd _).mono ?_; rintro e w1 ⟨gd, rfl, d1, f1⟩; have z1 := f1.size; have t1 := d1.tight))
    | (go_at_call 25; go_must (refine (hz _).mono ?_; rintro e w2 ⟨rfl, rfl⟩))
    | (go_at_call 24; go_must (refine (hp _).mono ?_; rintro e w3 ⟨gp, rfl, s3, b3, f3⟩; have z3 := f3.size; have l3 := b3.lt))
    | (go_at_call 22; go_must (refine (nnew_any gd gp _).mono ?_; rintro e w4 ⟨gs, rfl, s4, b4, f4⟩; have z4 := f4.size; have l4 := b4.lt)))
  have st : Sto w4 _ gs gp D P 0 := ⟨⟨gd, b4, (t1.fr0 f3).fr0 f4⟩, b3.fr0 f4, hok, hU, (by intro q; omega), (by intro q; omega), by omega, (by intro k hk; omega)⟩
  have F4 : Fr noB w w4 := ((f0.thenN f1).thenN f3).thenN f4
  have b2' := (((b2.fr0 f1).fr0 f3).fr0 f4)
  have hS4 : ∀ k, stB (fun k => w0.heap.size ≤ k ∧ k < w1.heap.size) gp k → w0.heap.size ≤ k ∧ ¬ k = g2 := fun k q => by
    rcases q with q | q
    · exact ⟨q.1, by omega⟩
    · exact ⟨by omega, by omega⟩
  go_wp2_with (first
    | (with_reducible refine at_wpP ?_; refine wpList_blkC rfl rfl B9 hb9.out ?_)
    | (with_reducible refine at_wpP ?_; refine wpList_bldN rfl _ rfl 1 B9 nilS [(0, .int .i64 1), (1, pgV B9)] rfl hbn.out ?_)
    | (go_at_call 26; go_must (refine (make_F (⟨1, B9, []⟩ : Nd) nilS st (by omega) ⟨⟨⟨by simp, Sl.nil _ 2⟩, by simp⟩, ⟨hl9.out, hby9⟩, by simp, rfl⟩ em'.out).mono ?_; rintro e w5 ⟨rfl, F5, st5, ft5, fr5⟩; have z5 := fr5.size; have b25 := b2'.fr fr5 (fun q => (hS4 _ q).2 rfl)))
    | (go_at_call 27; go_must (refine (hold_F p st5 eh'.out).mono ?_; rintro e w6 ⟨rfl, st6, f6⟩; have z6 := f6.size; have b26 := b25.ne f6 (by omega)))
    | (with_reducible refine at_wpP ?_; refine wpList_bldT rfl _ rfl gs rfl ?_)
    | (with_reducible refine at_wpP ?_; refine at_st 25 _ _ rfl ?_; go_must (refine wpList_stT rfl _ _ rfl g2 rfl gs rfl (.pointer none) b26 ?_; intro w7 b7 f7)))
  have hF5 : ∀ k, F5 k → w0.heap.size ≤ k ∧ ¬ k = g2 := fun k q => by
    rcases (ft5 k q).1 with q | q
    · exact ⟨q.1, by omega⟩
    · exact ⟨by omega, by omega⟩
  have st7 : Sto w7 F5 gs gp X' L2 1 := st6.fr f7 (fun k _ q h => by
    unfold onB1 at h
    subst h
    rcases q with q | q | q
    · exact (hF5 _ q).2 rfl
    · omega
    · omega)
  refine bodyPost_ret (results_tr2 Try.results8 _ w7 g2 gs rfl b7) rfl ⟨gs, gp, F5, X', L2, p, rfl, st7, ⟨fun k q => by have := (hF5 k q).1; omega, by omega, by omega, ?_⟩, hB1⟩
  exact ((F4.thenT fr5 (fun k hk q => by have := (hS4 k q).1; omega)).thenT f6 (fun k hk q => by unfold onB1 at q; omega)).thenT f7 (fun k hk q => by unfold onB1 at q; omega)
end Go.Proofs.Ytkhdniccnefdhaa
/- Entries that are split over nodes, each read back, plain; no condition. -/
namespace Go.Proofs.Ytkhdniccnefdhaa
open Go.RowKit Go.Proofs.U
set_option linter.unusedSimpArgs false
set_option linter.unusedVariables false
/-- Entries in order with one page, the last key. -/
structure UpF (pg : Int) (es : List (Int × Int)) (last : Int) : Prop where
  up : KeysUp es
  at' : ∀ x ∈ es, (0 ≤ x.1 ∧ x.1 ≤ 63) ∧ x.2 = pg ∧ x.1 ≤ last
  lo : -1 ≤ last
  hi : last ≤ 63
theorem UpF.nil (pg : Int) : UpF pg [] (-1) := ⟨List.Pairwise.nil, by simp, by omega, by omega⟩
theorem UpF.snoc {pg : Int} {es : List (Int × Int)} {last x : Int} (h : UpF pg es last) (h0 : last < x) (h1 : x < 64) : UpF pg (es ++ [(x, pg)]) x := by
  refine ⟨?_, fun y hy => ?_, by have := h.lo; omega, by omega⟩
  · refine List.pairwise_append.2 ⟨h.up, by simp, fun a ha b hb => ?_⟩
    obtain rfl := List.mem_singleton.1 hb
    have := (h.at' a ha).2.2
    show a.1 < x
    omega
  · rcases List.mem_append.1 hy with q | q
    · have := h.at' y q
      exact ⟨this.1, this.2.1, by have := this.2.2; omega⟩
    · obtain rfl := List.mem_singleton.1 q
      have := h.lo
      exact ⟨⟨by show 0 ≤ x; omega, by show x ≤ 63; omega⟩, rfl, Int.le_refl _⟩
theorem partsL_flat (es : List (Int × Int)) : (partsL es).flatten = es := by
  unfold partsL
  split
  · rename_i h; rw [List.eq_nil_of_length_eq_zero h]; rfl
  · split
    · simp
    · simp
theorem part_len {es : List (Int × Int)} : (partsL es).length = if es.length = 0 then 0 else if es.length ≤ 6 then 1 else 2 := by
  unfold partsL
  split
  · rfl
  · split <;> rfl
theorem split_ok {X : DSt} {L : List Pg} {pg : Int} {N m : Nat} (B1 : Base1 X L pg N) (hN : 10 ≤ N) (hU : Up X L.length m) {es : List (Int × Int)} {last : Int} (hu : UpF pg es last) (hl : es.length ≤ 12) :
    ∃ X' L' tops, splF (X, L) 2 es = ((X', L'), tops, 0) ∧ tops.length = (partsL es).length ∧ ∀ (i : Nat) (h : i < tops.length) (h' : i < (partsL es).length), getF X' L' tops[i].2 = (⟨2, zerB 16, (partsL es)[i]⟩, 0) ∧ tops[i].1 = key0 (partsL es)[i] := by
  by_cases h0 : es.length = 0
  · obtain rfl := List.eq_nil_of_length_eq_zero h0
    exact ⟨X, L, [], rfl, rfl, fun i h => absurd h (by simp)⟩
  · have hI := B1.iv.toT
    have hpg := hI.root (show pg ∈ [pg] by simp)
    have hlow := hI.low hpg.2
    obtain ⟨X', L', tops, e, em, hx, up, he, h71, h72, hno, hys⟩ := split_T (k := 2) hI hU (Or.inl rfl) (by omega) hl hu.up (fun x hx => by
      obtain ⟨a, b, _⟩ := hu.at' x hx
      rw [b]
      exact ⟨⟨a.1, a.2, hpg.1, by omega⟩, hpg.2⟩)
    have e0 : e = 0 := by
      rcases he with q | q | q
      · exact q
      · have := (h71 q).1; have := B1.fr; omega
      · exfalso
        exact h72 q fun r => by have := B1.ct r; omega
    subst e0
    have S := hys rfl
    refine ⟨X', L', tops, em, ?_⟩
    have key : ∀ {p : Int} {l : List (Int × Int)}, p.toNat ∈ pgsT tops → NewN X' L p 2 l → getF X' L' p = (⟨2, zerB 16, l⟩, 0) := fun {p l} hm n => by
      have hp := S.iv.mem (t := p.toNat) (List.mem_append_left _ hm)
      unfold getF
      rw [if_pos (S.iv.held n.p0 hp)]
      exact n.rd
    rcases S.ways with ⟨h6, p, rfl, n, _⟩ | ⟨h6, p, q, rfl, n1, n2⟩
    · have ep : partsL es = [es] := by unfold partsL; rw [if_neg h0, if_pos h6]
      rw [ep]
      refine ⟨rfl, fun i h h' => ?_⟩
      obtain rfl : i = 0 := by simp at h; omega
      exact ⟨key (by simp [pgsT]) n, rfl⟩
    · have ep : partsL es = [es.take (es.length / 2), es.drop (es.length / 2)] := by unfold partsL; rw [if_neg h0, if_neg (by omega)]
      rw [ep]
      refine ⟨rfl, fun i h h' => ?_⟩
      have : i = 0 ∨ i = 1 := by simp at h; omega
      rcases this with rfl | rfl
      · exact ⟨key (by simp [pgsT]) n1, rfl⟩
      · exact ⟨key (by simp [pgsT]) n2, rfl⟩
theorem key0_at {es : List (Int × Int)} (h : 0 < es.length) : key0 es = es[0].1 := by
  cases es with
  | nil => simp at h
  | cons a l => rfl
theorem take_flat {P : List (List (Int × Int))} (k : Nat) : ((P.take k).flatten).length ≤ P.flatten.length := by
  conv => rhs; rw [← List.take_append_drop k P, List.flatten_append, List.length_append]
  omega
theorem take_flat1 {P : List (List (Int × Int))} (k : Nat) (h : k < P.length) : (P.take (k + 1)).flatten = (P.take k).flatten ++ P[k] := by
  rw [List.take_succ_eq_append_getElem h, List.flatten_append]
  simp
end Go.Proofs.Ytkhdniccnefdhaa
