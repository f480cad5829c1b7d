/- Texts JM, JN, JQ, JR, JS, JU, JV, JX, TK0, JY of the proof of PruneTrims, one behind the other. -/
import Derived.Test.YtmkinaijkgkgiaaGreatBundlePruneTrims1
import Derived.Test.YtmkinaijkgkgiaaGreatBundlePruneTrims2
import Derived.Test.YtmkinaijkgkgiaaGreatBundlePruneTrims3
import Derived.Test.YtmkinaijkgkgiaaGreatBundlePruneTrims4
import Derived.Test.YtmkinaijkgkgiaaGreatBundlePruneTrims5
import Derived.Test.YtmkinaijkgkgiaaGreatBundlePruneTrims6
import Derived.Test.YtmkinaijkgkgiaaGreatBundlePruneTrims7
import Derived.Test.YtmkinaijkgkgiaaGreatBundlePruneTrims8
import Derived.Test.YtmkinaijkgkgiaaGreatBundlePruneTrims9
import Derived.Test.YtmkinaijkgkgiaaGreatBundlePruneTrims10
import Derived.Test.YtmkinaijkgkgiaaGreatBundlePruneTrims11
import Derived.Test.YtmkinaijkgkgiaaGreatBundlePruneTrims12
import Derived.Test.YtmkinaijkgkgiaaGreatBundlePruneTrims13
import Derived.Test.YtmkinaijkgkgiaaGreatBundlePruneTrims14
import Derived.Test.YtmkinaijkgkgiaaGreatBundlePruneTrims15
import Derived.Test.YtmkinaijkgkgiaaGreatBundlePruneTrims16
import Derived.Test.YtmkinaijkgkgiaaGreatBundlePruneTrims17
import Derived.Test.YtmkinaijkgkgiaaGreatBundlePruneTrims18
import Derived.Test.YtmkinaijkgkgiaaGreatBundlePruneTrims19
import Derived.Test.YtmkinaijkgkgiaaGreatBundlePruneTrims20
/- Trees in memory: height, list; no condition. -/
namespace Go.Proofs.YtmkinaijkgkgiaaGreat
open Go.RowKit Go.Proofs.U
set_option linter.unusedSimpArgs false
set_option linter.unusedVariables false
/-- Each child's keys lie where the row's lie. -/
theorem okC_rng {f : Int → Int → Int → Prop} {hi : Int} : ∀ {l : List (Int × Int)}, okC f l hi → (∀ x ∈ l, 0 ≤ x.1) → (∀ x ∈ l, x.1 ≤ 64 ∧ hi ≤ 64) → ∀ c ∈ l, ∃ lo' hi', f c.2 lo' hi' ∧ 0 ≤ lo' ∧ hi' ≤ 64
  | [x], h, h0, h1, c, hc => by simp at hc; subst hc; exact ⟨_, _, h, h0 c (by simp), (h1 c (by simp)).2⟩
  | x :: y :: r, h, h0, h1, c, hc => by
    rcases List.mem_cons.1 hc with rfl | hc
    · exact ⟨_, _, h.1, h0 c (by simp), (h1 y (by simp)).1⟩
    · exact okC_rng h.2 (fun z hz => h0 z (by simp [hz])) (fun z hz => h1 z (by simp [hz])) c hc
theorem kids_at (k : Int) (b : List Int) (es : List (Int × Int)) (j : Nat) (hj : j < es.length) (hj' : j < (kids ⟨k, b, es⟩).length) : (kids ⟨k, b, es⟩)[j] = es[j].2 := by
  have e : (kids ⟨k, b, es⟩)[j]? = some es[j].2 := by
    show (es.map (·.2))[j]? = _
    rw [List.getElem?_map, List.getElem?_eq_getElem hj]
    rfl
  rw [List.getElem?_eq_getElem hj'] at e
  exact Option.some.inj e
/-- What list hands back. -/
def LstIs (w w' : World) (l : List (Int × Int)) (r : Ending) : Prop := ∃ u, r = .returned (.tuple #[u, .int .i64 0]) ∧ EnO w' w.heap.size u l ∧ Fr noB w w'
set_option maxRecDepth 100000 in
set_option maxHeartbeats 2000000 in
theorem lst_at0 {F : Nat → Prop} {gs gp : Nat} {X : DSt} {L : List Pg} {R : List Int} {T : List Nat} {m : Nat} (hI : InvT X L R T) (hm : m ≤ 100000) {p lo hi : Int} (k : okT X 0 p lo hi) (h0 : 0 ≤ p) (hp : 0 < cntT L T p.toNat) (d : Int) (hd0 : 0 ≤ d) (hd : d < 8) (w : World) (h : Sto w F gs gp X L m) :
    Calls Tryz.prog 35 #[trV gs, .int .i64 p, .int .i64 d] w fun r w' => LstIs w w' (esX X p) r := by
  have hO := fun W (f : Fr noB w W) => open_tree hI hm k h0 hp d hd (h.fr0 f)
  have hk2 : (rdN X p).1.k = 2 := k.kd
  obtain ⟨N, HN⟩ : ∃ N, Hid ((rdN X p).1 = N) := ⟨_, rfl⟩
  have hes : esX X p = N.es := by rw [← HN.out]; rfl
  rw [HN.out] at hO hk2
  rw [hes]
  clear HN hes
  obtain ⟨nk, nb, nes⟩ := N
  simp only at hk2 ⊢
  subst hk2
  go_enter Tryz.func35, Tryz.ntmps35
  go_wp2_with (first
    | (with_reducible refine at_wpP ?_; refine wpList_boxG rfl 26 _ rfl (trV gs) [ptr gs] rfl rfl ?_; intro g3 w3 hg3 b3 f3 s3; have l3 := b3.lt; have z3 := f3.size)
    | (go_at_call 52; go_must (refine (hO _ f3).mono ?_; rintro e w5 ⟨v, rfl, n5, o5, f5, q5⟩; have z5 := f5.size; have hv := NdS.sl n5; have hbl := NdS.bl n5; have B3 := b3.fr0 f5))
    | (with_reducible refine at_wpP ?_; have q := n5; refine wpList_allocN rfl rfl ?_; intro g8 w6 hg8 b8 f6 s6; have l6 := b8.lt; have z6 := f6.size)
    | (with_reducible refine at_wpP ?_; refine at_st 72 _ _ rfl ?_; have q := b8; go_must (refine wpList_stN rfl _ _ rfl g8 rfl 2 nb v rfl hbl.out hv 0 (zerB 16) nilS b8 (zerB_len 16) ?_; intro w7 b7 f7; have z7 := f7.size; have q7 := NdB.kind b7; have e7 := NdB.ents b7 hbl.out; have F7 := Fr.ownX f6 s6 f7; have N7 := n5.fr0 F7; have C3 := B3.fr0 F7))
    | (with_reducible refine at_wpP ?_; refine at_ld 26 _ rfl ?_; have q := E3; go_must (refine wpList_ldT rfl _ rfl g3 rfl gs E3 ?_))
    | (with_reducible refine at_wpP ?_; refine at_ld 26 _ rfl ?_; have q := b3; go_must (refine wpList_ldT rfl _ rfl g3 rfl gs b3 ?_)))
  go_ret2
  exact ⟨v, rfl, (q5.fr0 F7).rebase (by omega), (f3.thenN f5).thenN F7⟩
set_option maxRecDepth 100000 in
set_option maxHeartbeats 2000000 in
theorem lst_none {F : Nat → Prop} {gs gp : Nat} (d : Int) (w : World) :
    Calls Tryz.prog 35 #[trV gs, .int .i64 (-1), .int .i64 d] w fun r w' => LstIs w w' [] r := by
  have hO := fun W (f : Fr noB w W) => open_none gs d W
  unfold leaf0 at hO
  obtain ⟨nb, HB⟩ : ∃ nb, Hid (zerB 16 = nb) := ⟨_, rfl⟩
  obtain ⟨nes, HE⟩ : ∃ nes : List (Int × Int), Hid (([] : List (Int × Int)) = nes) := ⟨_, rfl⟩
  rw [HB.out, HE.out] at hO
  rw [HE.out]
  go_enter Tryz.func35, Tryz.ntmps35
  go_wp2_with (first
    | (with_reducible refine at_wpP ?_; refine wpList_boxG rfl 26 _ rfl (trV gs) [ptr gs] rfl rfl ?_; intro g3 w3 hg3 b3 f3 s3; have l3 := b3.lt; have z3 := f3.size)
    | (go_at_call 52; go_must (refine (hO _ f3).mono ?_; rintro e w5 ⟨v, rfl, n5, o5, f5, q5⟩; have z5 := f5.size; have hv := NdS.sl n5; have hbl := NdS.bl n5; have B3 := b3.fr0 f5))
    | (with_reducible refine at_wpP ?_; have q := n5; refine wpList_allocN rfl rfl ?_; intro g8 w6 hg8 b8 f6 s6; have l6 := b8.lt; have z6 := f6.size)
    | (with_reducible refine at_wpP ?_; refine at_st 72 _ _ rfl ?_; have q := b8; go_must (refine wpList_stN rfl _ _ rfl g8 rfl 2 nb v rfl hbl.out hv 0 (zerB 16) nilS b8 (zerB_len 16) ?_; intro w7 b7 f7; have z7 := f7.size; have q7 := NdB.kind b7; have e7 := NdB.ents b7 hbl.out; have F7 := Fr.ownX f6 s6 f7; have N7 := n5.fr0 F7; have C3 := B3.fr0 F7))
    | (with_reducible refine at_wpP ?_; refine at_ld 26 _ rfl ?_; have q := E3; go_must (refine wpList_ldT rfl _ rfl g3 rfl gs E3 ?_))
    | (with_reducible refine at_wpP ?_; refine at_ld 26 _ rfl ?_; have q := b3; go_must (refine wpList_ldT rfl _ rfl g3 rfl gs b3 ?_)))
  go_ret2
  exact ⟨v, rfl, (q5.fr0 F7).rebase (by omega), (f3.thenN f5).thenN F7⟩
set_option maxRecDepth 100000 in
set_option maxHeartbeats 4000000 in
theorem lst_atS {F : Nat → Prop} {gs gp : Nat} {X : DSt} {L : List Pg} {R : List Int} {T : List Nat} {m lv : Nat} (hI : InvT X L R T) (hm : m ≤ 100000) {p lo hi : Int} (k : okT X (lv + 1) p lo hi) (h0 : 0 ≤ p) (hp : 0 < cntT L T p.toNat) (hlo : 0 ≤ lo) (hhi : hi ≤ 64) (d : Int) (hd0 : 0 ≤ d) (hd : d < 8) (w : World) (h : Sto w F gs gp X L m)
    (hrec : ∀ c ∈ esX X p, ∀ W, Fr noB w W → Calls Tryz.prog 35 #[trV gs, .int .i64 c.2, .int .i64 (d + 1)] W fun r w' => LstIs W w' (lsT X lv c.2) r) :
    Calls Tryz.prog 35 #[trV gs, .int .i64 p, .int .i64 d] w fun r w' => LstIs w w' (lsT X (lv + 1) p) r := by
  have hO := fun W (f : Fr noB w W) => open_tree hI hm k h0 hp d hd (h.fr0 f)
  have hk2 : (rdN X p).1.k = 3 := k.kd
  have hl6 := k.es.2.2.1
  have h64 : (lsT X (lv + 1) p).length ≤ 64 := by
    have := KeysUp.len (lsT_up k) (a := 0) (b := 63) (by decide) (fun z hz => by have := lsT_rng k z hz; omega)
    omega
  have hone : ∀ c ∈ esX X p, 1 ≤ (lsT X lv c.2).length := fun c hc => by
    obtain ⟨b, hb⟩ := k.child c hc
    exact lsT_len hb
  unfold lsT at h64 ⊢
  obtain ⟨g, hg⟩ : ∃ g : Int → List (Int × Int), Hid (lsT X lv = g) := ⟨_, rfl⟩
  rw [hg.out] at hrec h64 hone ⊢
  obtain ⟨N, HN⟩ : ∃ N, Hid ((rdN X p).1 = N) := ⟨_, rfl⟩
  have hes : esX X p = N.es := by rw [← HN.out]; rfl
  rw [HN.out] at hO hk2
  rw [hes] at hl6 hrec h64 hone ⊢
  clear HN hes
  obtain ⟨nk, nb, nes⟩ := N
  simp only at hk2 hl6 hrec h64 hone ⊢
  subst hk2
  obtain ⟨all, hall⟩ : ∃ all, Hid ((nes.flatMap fun x => g x.2) = all) := ⟨_, rfl⟩
  rw [hall.out] at h64 ⊢
  have h64 := show Hid _ from h64
  have hw1 : IntKind.i64.wrap (d + 1) = d + 1 := wrap_sm (by omega)
  have hCh := fun v w N => children_any (⟨3, nb, nes⟩ : Nd) v w N
  have hkk : ∀ (j : Nat) (hj : j < nes.length) (hj' : j < (kids ⟨3, nb, nes⟩).length), (kids ⟨3, nb, nes⟩)[j] = nes[j].2 := fun j hj hj' => kids_at 3 nb nes j hj hj'
  have hkl : Hid ((kids ⟨3, nb, nes⟩).length = nes.length) := by show _ = _; unfold kids; simp
  obtain ⟨ks, Hks⟩ : ∃ ks, Hid (kids ⟨3, nb, nes⟩ = ks) := ⟨_, rfl⟩
  rw [Hks.out] at hkl
  simp only [Hks.out] at hCh hkk
  go_enter Tryz.func35, Tryz.ntmps35
  go_wp2_with (first
    | (with_reducible refine at_wpP ?_; refine wpList_boxG rfl 26 _ rfl (trV gs) [ptr gs] rfl rfl ?_; intro g3 w3 hg3 b3 f3 s3; have l3 := b3.lt; have z3 := f3.size)
    | (go_at_call 52; go_must (refine (hO _ f3).mono ?_; rintro e w5 ⟨v, rfl, n5, o5, f5, q5⟩; have z5 := f5.size; have hv := NdS.sl n5; have hbl := NdS.bl n5; have B3 := b3.fr0 f5))
    | (with_reducible refine at_wpP ?_; have q := n5; refine wpList_allocN rfl rfl ?_; intro g8 w6 hg8 b8 f6 s6; have l6 := b8.lt; have z6 := f6.size)
    | (with_reducible refine at_wpP ?_; refine at_st 72 _ _ rfl ?_; have q := b8; go_must (refine wpList_stN rfl _ _ rfl g8 rfl 3 nb v rfl hbl.out hv 0 (zerB 16) nilS b8 (zerB_len 16) ?_; intro w7 b7 f7; have z7 := f7.size; have q7 := NdB.kind b7; have e7 := NdB.ents b7 hbl.out; have F7 := Fr.ownX f6 s6 f7; have N7 := n5.fr0 F7; have C3 := B3.fr0 F7))
    | (with_reducible refine at_wpP ?_; refine at_ld 26 _ rfl ?_; have q := E3; go_must (refine wpList_ldT rfl _ rfl g3 rfl gs E3 ?_))
    | (with_reducible refine at_wpP ?_; refine at_ld 26 _ rfl ?_; have q := b3; go_must (refine wpList_ldT rfl _ rfl g3 rfl gs b3 ?_))
    | (with_reducible refine at_wpP ?_; refine at_ld 72 _ rfl ?_; have q := b7; go_must (refine wpList_ldN rfl _ rfl g8 rfl 3 nb v b7 hbl.out ?_))
    | (go_at_call 46; go_must (refine (hCh v _ N7).mono ?_; rintro e w9 ⟨cu, rfl, co, cs, f9⟩; have z9 := f9.size; have E3 := C3.fr0 f9; obtain ⟨ca, cc, rfl, hcc⟩ := cs.opn)))
  have F9 : Fr noB w w9 := ((f3.thenN f5).thenN F7).thenN f9
  go_loopw [35, 10] (fun i u wr => ∃ (j : Nat), j ≤ nes.length ∧ i = .int .i64 (j : Int) ∧ EnO wr w9.heap.size u ((nes.take j).flatMap fun x => g x.2) ∧ Fr noB w9 wr) (fun i _ _ => nes.length - (intOf i).toNat)
  case atStart => exact ⟨0, Nat.zero_le _, rfl, OwnR.none _ _, Fr.refl _ _⟩
  case round =>
    obtain ⟨j, hj, rfl, ho, fr⟩ := hrel
    by_cases hlt : j < nes.length
    · have hjk : j < ks.length := by have := hkl.out; omega
      have hlt' : (j : Int) < (ks.length : Int) := by omega
      have hck := hkk j hlt hjk
      have hmem : nes[j] ∈ nes := by simp
      have hsuc : (nes.take (j + 1)).flatMap (fun x => g x.2) = (nes.take j).flatMap (fun x => g x.2) ++ g nes[j].2 := by
        rw [List.take_succ_eq_append_getElem hlt, List.flatMap_append]
        simp
      have htot : ((nes.take (j + 1)).flatMap fun x => g x.2).length ≤ 64 := by
        have h1 : all = (nes.take (j + 1)).flatMap (fun x => g x.2) ++ (nes.drop (j + 1)).flatMap fun x => g x.2 := by rw [← List.flatMap_append, List.take_append_drop, hall.out]
        have := h64.out
        rw [h1, List.length_append] at this
        omega
      have hRc := hrec nes[j] hmem wr (F9.thenN fr)
      have hoc := hone nes[j] hmem
      obtain ⟨c, Hc⟩ : ∃ c : Int × Int, Hid (nes[j] = c) := ⟨nes[j], rfl⟩
      rw [Hc.out] at hck hsuc hRc hoc
      have Hx : Hid (ks[j] = c.2) := hck
      obtain ⟨B, HB⟩ : ∃ B, Hid ((nes.take j).flatMap (fun x => g x.2) = B) := ⟨_, rfl⟩
      obtain ⟨G, HG⟩ : ∃ G, Hid (g c.2 = G) := ⟨_, rfl⟩
      rw [HB.out] at ho hsuc
      rw [HG.out] at hsuc hRc hoc
      rw [hsuc, List.length_append] at htot
      have hBG := show Hid _ from hsuc
      clear hck hsuc
      have cs' := (cs.fr0 fr).1
      have E3' := E3.fr0 fr
      have hnt : decide ((64 : Int) < ((B.length + G.length : Nat) : Int)) = false := by simp; omega
      go_wp2_with (first
        | (with_reducible refine at_wpP ?_; refine at_idx 52 _ _ rfl ?_; go_must (refine wpList_idx1 rfl 52 _ _ rfl 3 Tryz.underlying52 int_size1 (.slice ca ks.length cc) _ _ rfl cs' .i64 (j : Int) j rfl rfl hjk ?_; intro pp u hu hcu; obtain rfl := getX hu hjk Hx.out))
        | (with_reducible refine at_wpP ?_; refine at_ld 26 _ rfl ?_; go_must (refine wpList_ldT rfl _ rfl g3 rfl gs E3' ?_))
        | (go_at_call 35; go_must (refine hRc.mono ?_; rintro e w11 ⟨u2, rfl, o2, f11⟩; have z11 := f11.size; have hu2 := OwnR.slx o2))
        | (at_builtin; go_must (refine wpList_appM rfl _ _ 31 rfl _ 16 uE en_info rfl (by decide) u10 rfl (ho.fr0 f11) u2 G rfl o2.sl hoc (fun y _ => en_one y) ?hq1 ?hq2 ?hq3 ?_; rotate_left 3; intro u12 w12 o12 f12 p12; obtain ⟨a12, c12, hu12⟩ := o12.opn; rw [List.length_append] at hu12; subst hu12)))
      case hq1 => unfold maxLen; omega
      case hq2 => omega
      case hq3 => have := fr.size; omega
      go_roundw
      case rel =>
        refine ⟨j + 1, by omega, by go_num, ?_, ?_⟩
        · rw [hBG.out]; exact o12
        · exact (fr.thenN f11).thenT f12 (fun q hq h => by have := (ho.newB q h).1; omega)
      case measure => simp [intOf]; omega
    · have hjj : j = nes.length := by omega
      subst hjj
      have hlt' : ¬ (nes.length : Int) < (ks.length : Int) := by have := hkl.out; omega
      rw [List.take_length, hall.out] at ho
      obtain ⟨ua, uc, hu⟩ := ho.opn
      subst hu
      go_wp2
      go_ret2
      exact ⟨_, rfl, ho.rebase (by have := F9.size; omega), F9.thenN fr⟩
/-- list of a tree. -/
theorem lst_lv {F : Nat → Prop} {gs gp : Nat} {X : DSt} {L : List Pg} {R : List Int} {T : List Nat} {m : Nat} (hI : InvT X L R T) (hm : m ≤ 100000) : ∀ (lv : Nat) {p lo hi : Int} (d : Int) (w : World), okT X lv p lo hi → 0 ≤ p → 0 < cntT L T p.toNat → 0 ≤ lo → hi ≤ 64 → 0 ≤ d → d + lv < 8 → Sto w F gs gp X L m →
    Calls Tryz.prog 35 #[trV gs, .int .i64 p, .int .i64 d] w fun r w' => LstIs w w' (lsT X lv p) r := by
  intro lv
  induction lv with
  | zero =>
    intro p lo hi d w k h0 hp hlo hhi hd0 hd h
    exact lst_at0 hI hm k h0 hp d hd0 (by omega) w h
  | succ lv ih =>
    intro p lo hi d w k h0 hp hlo hhi hd0 hd h
    refine lst_atS hI hm k h0 hp hlo hhi d hd0 (by omega) w h fun c hc W f => ?_
    obtain ⟨lo', hi', hb, h1, h2⟩ := okC_rng k.2.2.2 (fun x hx => by have := k.2.2.1 x hx; omega) (fun x hx => by have := k.2.2.1 x hx; omega) c hc
    have hkd := hI.kid h0 hp c.2 (by unfold kids; exact List.mem_map_of_mem (f := fun x : Int × Int => x.2) hc)
    exact ih (d + 1) W hb hkd.1 hkd.2.2 h1 h2 (by omega) (by omega) (h.fr0 f)
end Go.Proofs.YtmkinaijkgkgiaaGreat
/- Trees in memory: List, Find, Height of a root; no condition. -/
namespace Go.Proofs.YtmkinaijkgkgiaaGreat
open Go.RowKit Go.Proofs.U
set_option linter.unusedSimpArgs false
set_option linter.unusedVariables false
/-- A root: None, or a tree that is there. -/
def RtAt (X : DSt) (L : List Pg) (T : List Nat) (Q : List Nat → Prop) (lv : Nat) (root : Int) (l : List (Int × Int)) : Prop :=
  (root = -1 ∧ l = []) ∨ (0 ≤ root ∧ 0 < cntT L T root.toNat ∧ lv < 8 ∧ TreeAt X Q lv root l)
theorem RtAt.up {X : DSt} {L : List Pg} {T : List Nat} {Q : List Nat → Prop} {lv : Nat} {root : Int} {l : List (Int × Int)} (h : RtAt X L T Q lv root l) : KeysUp l ∧ ∀ z ∈ l, 0 ≤ z.1 ∧ z.1 ≤ 63 := by
  rcases h with ⟨_, rfl⟩ | ⟨_, _, _, t⟩
  · exact ⟨List.Pairwise.nil, by simp⟩
  · rw [← t.ls]
    exact ⟨lsT_up t.ok, fun z hz => by have := lsT_rng t.ok z hz; omega⟩
theorem RtAt.len {X : DSt} {L : List Pg} {T : List Nat} {Q : List Nat → Prop} {lv : Nat} {root : Int} {l : List (Int × Int)} (h : RtAt X L T Q lv root l) : l.length ≤ 64 := by
  have := KeysUp.len h.up.1 (a := 0) (b := 63) (by decide) (fun z hz => h.up.2 z hz)
  omega
set_option maxRecDepth 100000 in
set_option maxHeartbeats 2000000 in
theorem fnd_none {gs : Nat} (key d : Int) (w : World) :
    Calls Tryz.prog 44 #[trV gs, .int .i64 (-1), .int .i64 key, .int .i64 d] w fun r w' => FindIs w w' (-1) r := by
  have hO := fun W => open_none gs d W
  unfold leaf0 at hO
  obtain ⟨nb, HB⟩ : ∃ nb, Hid (zerB 16 = nb) := ⟨_, rfl⟩
  obtain ⟨nes, HE⟩ : ∃ nes : List (Int × Int), Hid (([] : List (Int × Int)) = nes) := ⟨_, rfl⟩
  rw [HB.out, HE.out] at hO
  have hb' : ∀ y ∈ nes, key < y.1 := by rw [← HE.out]; simp
  have hl6 : nes.length ≤ 6 := by rw [← HE.out]; simp
  go_enter Tryz.func44, Tryz.ntmps44
  go_wp2_with (first
    | (with_reducible refine at_wpP ?_; refine wpList_boxG rfl 26 _ rfl (trV gs) [ptr gs] rfl rfl ?_; intro g4 w4 hg4 b4 f4 s4; have l4 := b4.lt; have z4 := f4.size)
    | (go_at_call 52; go_must (refine (hO _).mono ?_; rintro e w5 ⟨v, rfl, n5, o5, f5, q5⟩; have z5 := f5.size; have hv := NdS.sl n5; have hbl := NdS.bl n5; have B4 := b4.fr0 f5))
    | (with_reducible refine at_wpP ?_; have q := n5; refine wpList_allocN rfl rfl ?_; intro g10 w6 hg10 b10 f6 s6; have l6 := b10.lt; have z6 := f6.size)
    | (with_reducible refine at_wpP ?_; refine at_st 72 _ _ rfl ?_; have q := b10; go_must (refine wpList_stN rfl _ _ rfl g10 rfl 2 nb v rfl hbl.out hv 0 (zerB 16) nilS b10 (zerB_len 16) ?_; intro w7 b7 f7; have z7 := f7.size; have q7 := NdB.kind b7; have e7 := NdB.ents b7 hbl.out; have F7 := Fr.ownX f6 s6 f7; have N7 := n5.fr0 F7; have C4 := B4.fr0 F7))
    | (with_reducible refine at_wpP ?_; refine at_ld 26 _ rfl ?_; go_must (refine wpList_ldT rfl _ rfl g4 rfl gs b4 ?_))
    | (go_at_call 54; go_must (refine (at_any v nes key _ N7.1 (by omega)).mono ?_; rintro e w8 ⟨i, rfl, hi, f8⟩; have hi1 : i = -1 := (at_none_eq hb' hi); subst hi1)))
  go_ret2
  exact ⟨rfl, (((f4.thenN f5).thenN F7).thenN f8)⟩
end Go.Proofs.YtmkinaijkgkgiaaGreat
/- Roots of trees and of blocks in a store, plain: a block is made, a key is put and the root swapped; no condition. -/
namespace Go.Proofs.YtmkinaijkgkgiaaGreat
open Go.RowKit Go.Proofs.U
set_option linter.unusedSimpArgs false
set_option linter.unusedVariables false
theorem data_right (b : List Int) : (Nd.mk 1 b []).right = true := by unfold Nd.right; rfl
/-- A block is made and held. -/
structure BlkIs (X : DSt) (L : List Pg) (R : List Int) (b : List Int) (X' : DSt) (L1 : List Pg) (p : Int) (L2 : List Pg) (m : Nat) : Prop where
  em : makeF X L ⟨1, b, []⟩ = ((X', L1), p, 0)
  hd : plHold L1 p = (L2, 0)
  iv : Inv X' L2 (R ++ [p])
  up : Up X' L2.length (m + 1)
  fr : plFree L2 + 1 = plFree L
  rd : rdN X' p = (⟨1, b, []⟩, 0)
  p0 : 0 ≤ p
  pf : (plAt L p.toNat).free = true
  ln : L2.length = L.length
  kp : ∀ q : Nat, 0 < cntL L q → rdN X' (q : Int) = rdN X (q : Int)
  yg : PlY L → PlY L2
  ct : ∀ q : Nat, cntL L2 q = cntL L q + if p = (q : Int) then 1 else 0
theorem hold_yg {L L' : List Pg} {t : Int} (hL : ∀ i, plAt L' i = ⟨(plAt L i).c + (if t = (i : Int) then 1 else 0), (plAt L i).s⟩) (hf : (plAt L t.toNat).frsh = true) (h0 : 0 ≤ t) (y : PlY L) : PlY L' := by
  intro i
  rw [hL i]
  simp only
  rcases y i with y | ⟨ys, yc⟩
  · exact Or.inl y
  · split
    · rename_i e
      have : t.toNat = i := by omega
      rw [this] at hf
      unfold Pg.frsh at hf
      rw [ys] at hf
      simp at hf
    · exact Or.inr ⟨ys, by omega⟩
theorem hold_free {L L' : List Pg} {t : Int} (hl : L'.length = L.length) (hok : plOk L) (hL : ∀ i, plAt L' i = ⟨(plAt L i).c + (if t = (i : Int) then 1 else 0), (plAt L i).s⟩) (hf : (plAt L t.toNat).frsh = true) (h0 : 0 ≤ t) : plFree L' = plFree L := by
  unfold plFree
  have key : ∀ (A B : List Pg), A.length = B.length → (∀ i, (plAt A i).free = (plAt B i).free) → A.countP Pg.free = B.countP Pg.free := by
    intro A
    induction A with
    | nil => intro B hl _; have : B = [] := List.eq_nil_of_length_eq_zero (by simpa using hl.symm); rw [this]
    | cons a A ih =>
      intro B hl hi
      cases B with
      | nil => simp at hl
      | cons b B =>
        have h00 : a.free = b.free := hi 0
        rw [List.countP_cons, List.countP_cons, h00, ih B (by simpa using hl) (fun i => hi (i + 1))]
  refine key _ _ hl fun i => ?_
  rw [hL i]
  by_cases e : t = (i : Int)
  · have : t.toNat = i := by omega
    rw [this] at hf
    rw [free_frsh hf]
    unfold Pg.frsh at hf
    unfold Pg.free
    simp only [Bool.or_eq_true, beq_iff_eq] at hf
    rcases hf with hf | hf <;> rw [hf] <;> simp
  · rw [if_neg e]; simp
theorem Inv.block {X : DSt} {L : List Pg} {R : List Int} {m : Nat} {b : List Int} (h : Inv X L R) (hU : Up X L.length m) (hb : b.length = 16) (hby : Byt b) (hf : ¬ plFree L = 0) (hc : ∀ q, cntL L q ≤ 254) : ∃ X' L1 p L2, BlkIs X L R b X' L1 p L2 m := by
  obtain ⟨X', L1, p, e, em, hx, hup, he, h71, h72, h0⟩ := h.toT.make (n := ⟨1, b, []⟩) hU (data_right b) ⟨hb, hby⟩ (by simp [kids])
  have e0 : e = 0 := by
    rcases he with e | e | e
    · exact e
    · exact absurd (h71 e) hf
    · refine absurd (fun q => ?_) (h72 e)
      have := hc q
      simp [kids]; omega
  subst e0
  obtain ⟨p0, p1, pf, prd, piv, pfr, pct⟩ := h0 rfl
  have hct : ∀ q : Nat, cntL L1 q = cntL L q := fun q => by rw [pct q]; simp [kids]
  obtain ⟨L2, hh, iv2, hat, hln⟩ := piv.hold p0 (by rw [hct]; have := hc p.toNat; omega)
  have hfr := piv.tf p.toNat (by simp)
  refine ⟨X', L1, p, L2, em, hh, iv2.toI, by rw [hln]; exact hup, ?_, prd, p0, pf, by rw [hln, hx.ln], fun q hq => ?_, fun y => hold_yg hat hfr p0 (hx.yg y), fun q => ?_⟩
  · rw [hold_free hln piv.ok hat hfr p0]; exact pfr
  · have hlv := h.toT.live (q := q) (by rw [cntT_nil]; exact hq)
    exact (hx.kp q hlv.1).1
  · rw [← hct q]
    unfold cntL
    rw [hat q]
    have := (piv.ok.2 q).1
    simp only
    split <;> omega
/-- A new root is held and the elder one dropped: the last of the roots is turned. -/
theorem swap_in {X : DSt} {L : List Pg} {R : List Int} {old next : Int} (h : InvT X L (R ++ [old]) [next.toNat]) (h0 : 0 ≤ next) (ho : ¬ old = -1) (hc : cntL L next.toNat < 255) :
    ∃ L', swF X L old next = (L', 0) ∧ Inv X L' (R ++ [next]) ∧ L'.length = L.length ∧ (PlY L → PlY L') := by
  obtain ⟨L1, hh, iv1, hat, hln⟩ := h.hold h0 hc
  have hi := iv1.toI
  have hk : R.length < (R ++ [old] ++ [next]).length := by simp
  obtain ⟨d1, d2⟩ := hi.drop R.length hk
  have e1 : (R ++ [old] ++ [next])[R.length] = old := by simp
  have e2 : (R ++ [old] ++ [next]).take R.length ++ (R ++ [old] ++ [next]).drop (R.length + 1) = R ++ [next] := by
    rw [List.append_assoc]
    simp [List.take_append, List.drop_append]
  rw [e1] at d1 d2
  rw [e2] at d2
  unfold swF
  rw [hh]
  simp only [if_true, if_neg ho]
  refine ⟨(dropF X (muL L1 + 1) L1 old).1, ?_, d2, ?_, fun y => PlY.drop _ _ (hold_yg hat (h.tf _ (by simp)) h0 y)⟩
  · rw [← d1]
  · rw [dropF_len, hln]
theorem swap_first {X : DSt} {L : List Pg} {R : List Int} {next : Int} (h : InvT X L R [next.toNat]) (h0 : 0 ≤ next) (hc : cntL L next.toNat < 255) :
    ∃ L', swF X L (-1) next = (L', 0) ∧ Inv X L' (R ++ [next]) ∧ L'.length = L.length ∧ (PlY L → PlY L') := by
  obtain ⟨L1, hh, iv1, hat, hln⟩ := h.hold h0 hc
  unfold swF
  rw [hh]
  simp only [if_true]
  exact ⟨L1, rfl, iv1.toI, hln, fun y => hold_yg hat (h.tf _ (by simp)) h0 y⟩
end Go.Proofs.YtmkinaijkgkgiaaGreat
/- Stage 10's laws: made; no condition. -/
namespace Go.Proofs.YtmkinaijkgkgiaaGreat
open Go.RowKit Go.Proofs.U
set_option linter.unusedSimpArgs false
set_option linter.unusedVariables false
def bk9 : List Int := 9 :: zerB 15
theorem bk9_len : bk9.length = 16 := rfl
theorem bk9_byt : Byt bk9 := by
  intro x hx
  rcases List.mem_cons.1 hx with rfl | hx
  · decide
  · exact zerB_byt 15 x hx
theorem built_bk9 : Tryz.prog.built 70 [(0, .int .u8 9)] = some (pgv bk9).toArray := by kernel_rfl
/-- A store with one block, held once. -/
structure Base1 (X : DSt) (L : List Pg) (pg : Int) (N : Nat) : Prop where
  iv : Inv X L [pg]
  fr : plFree L + 1 = N
  ln : L.length = N
  yg : PlY L
  rd : rdN X pg = (⟨1, bk9, []⟩, 0)
  p0 : 0 ≤ pg
  ct : ∀ q, cntL L q ≤ 1
theorem free_new (n : Int) : plFree (plNew n) = plN n := by
  unfold plFree plNew
  rw [List.countP_replicate]
  rfl
theorem cnt_new (n : Int) (q : Nat) : cntL (plNew n) q = 0 := by
  unfold cntL plNew plAt
  simp only [List.getD, List.getElem?_replicate]
  split <;> rfl
theorem young_new (n : Int) : PlY (plNew n) := by
  intro i
  unfold plNew plAt
  simp only [List.getD, List.getElem?_replicate]
  split <;> exact Or.inr ⟨rfl, rfl⟩
theorem base1 {n : Int} (hn : 5 ≤ n) : ∃ X' L1 p L2, makeF (newD n) (plNew (sizeN n)) ⟨1, bk9, []⟩ = ((X', L1), p, 0) ∧ plHold L1 p = (L2, 0) ∧ Base1 X' L2 p (plN (sizeN n)) := by
  have hU := Up.new (n := n) (by omega)
  rw [← plNew_len] at hU
  have hN : 0 < plN (sizeN n) := by unfold plN sizeN; omega
  obtain ⟨X', L1, p, L2, B⟩ := (Inv.new (sizeN n) (newD n)).block hU bk9_len bk9_byt (by rw [free_new]; omega) (fun q => by rw [cnt_new]; omega)
  refine ⟨X', L1, p, L2, B.em, B.hd, B.iv, by rw [B.fr, free_new], by rw [B.ln, plNew_len], B.yg (young_new _), B.rd, B.p0, fun q => ?_⟩
  rw [B.ct q, cnt_new]
  split <;> omega
/-- What lies above a world. -/
structure Above (w w' : World) (F : Nat → Prop) (gs gp : Nat) : Prop where
  f : ∀ k, F k → w.heap.size ≤ k
  s : w.heap.size ≤ gs
  p : w.heap.size ≤ gp
  fr : Fr noB w w'
theorem tr_zero : (Tryz.prog.info? 26).map (·.zero) = some (some (.agg #[.pointer none])) := by kernel_rfl
theorem built_tr (g : Nat) : Tryz.prog.built 26 [(0, ptr g)] = some #[ptr g] := by
  have hp : (Tryz.prog.fieldsOf 26).toList.mapM (fun f => (Tryz.prog.info? f.type).map fun i => (f.offset, i.size)) = some [(0, 1)] := by kernel_rfl
  rw [built_struct _ _ tr_struct _ tr_zero _ hp]
  rfl
theorem wpList_bldT {w : World} {ops : Array Oper} {rest : List Oper} {o : Oper} {a : Act} {Q : Exit → Act → World → Prop} (hgd : Region.wanted o (yielded ops a.tmps) = true) (y : Operand) (ho : o.op = .build 26 #[(0, y)]) (g : Nat) (hy : a.eval y = ptr g)
    (h : wpList Tryz.prog ops Q rest (a.put o.dst (trV g)) w) : wpList Tryz.prog ops Q (o :: rest) a w := by
  refine wpList_wanted hgd fun K hK => ?_
  have hrun := run_build (P := Tryz.prog) w 26 #[(0, ptr g)] _ (built_tr g)
  unfold Oper.wp
  simp [execOp, ho, hy, hrun, Result.andThen]
  exact hK _ _ h
end Go.Proofs.YtmkinaijkgkgiaaGreat
/- Stage 10's laws: treeAlive; TreeNames; no condition. -/
namespace Go.Proofs.YtmkinaijkgkgiaaGreat
open Go.RowKit Go.Proofs.U
set_option linter.unusedSimpArgs false
set_option linter.unusedVariables false
/-- Each child has at least two entries. -/
def Q2 (l : List Nat) : Prop := ∀ c ∈ l, 2 ≤ c
theorem Q2_ok : QOk Q2 := by
  refine ⟨fun a c b h hc x hx => ?_, fun a b h x hx => ?_, fun l h hl => ⟨fun x hx => h x (List.mem_of_mem_take hx), fun x hx => h x (List.mem_of_mem_drop hx)⟩⟩
  · have hc2 := h c (by simp)
    rcases List.mem_append.1 hx with hx | hx
    · exact h x (by simp [hx])
    · rcases List.mem_cons.1 hx with rfl | hx
      · omega
      · exact h x (by simp [hx])
  · rcases List.mem_append.1 hx with hx | hx
    · exact h x (by simp [hx])
    · simp only [List.mem_cons] at hx
      rcases hx with rfl | rfl | hx
      · omega
      · omega
      · exact h x (by simp [hx])
theorem Q2_34 : Q2 [3, 4] := by intro c hc; simp at hc; omega
theorem Above.st {w0 w w' : World} {F F' : Nat → Prop} {gs gp : Nat} {S : DSt × List Pg} {m : Nat} (h : Above w0 w F gs gp) (s : StT w w' F F' gs gp S m) : Above w0 w' F' gs gp :=
  ⟨fun k hk => by
    rcases (s.ft k hk).1 with q | q
    · exact h.f k q
    · have := h.fr.size; omega, h.s, h.p, h.fr.thenT s.fr fun k hk q => by
    rcases q with q | q
    · have := h.f k q; omega
    · have := h.p; omega⟩
theorem Above.fr0 {w0 w w' : World} {F : Nat → Prop} {gs gp : Nat} (h : Above w0 w F gs gp) (f : Fr noB w w') : Above w0 w' F gs gp := ⟨h.f, h.s, h.p, h.fr.thenN f⟩
theorem Above.pool {w0 w w' : World} {F : Nat → Prop} {gs gp : Nat} (h : Above w0 w F gs gp) (f : Fr (onB1 gp) w w') : Above w0 w' F gs gp := ⟨h.f, h.s, h.p, h.fr.thenT f fun k hk q => by unfold onB1 at q; have := h.p; omega⟩
theorem Above.own {w0 w w1 w' : World} {F : Nat → Prop} {gs gp g : Nat} (h : Above w0 w F gs gp) (f : Fr noB w w1) (hg : w.heap.size ≤ g) (k : Fr (onB1 g) w1 w') : Above w0 w' F gs gp := h.fr0 (Fr.ownX f hg k)
theorem PutR.good {X : DSt} {L : List Pg} {R : List Int} {T : List Nat} {Q : List Nat → Prop} {h : Nat} {l : List (Int × Int)} {X' : DSt} {L' : List Pg} {p' e : Int} (r : PutR X L R T Q h l X' L' p' e) (hf : 2 * h + 1 ≤ plFree L) (hc : ∀ q, cntL L q + (7 * h + 7) ≤ 255) : e = 0 := by
  rcases r.er with q | q | q
  · exact q
  · have := r.e71 q; omega
  · exact absurd hc (r.e72 q)
theorem Swap_F {F : Nat → Prop} {gs gp : Nat} {X : DSt} {L L2 : List Pg} {m : Nat} {old next e : Int} (hn : ¬ next = -1) (hm : m ≤ 90000) {w : World} (h : Sto w F gs gp X L m) (hs : swF X L old next = (L2, e)) :
    Calls Tryz.prog 14 #[trV gs, .int .i64 old, .int .i64 next] w fun r w' => r = .returned (.int .i64 e) ∧ Sto w' F gs gp X L2 m ∧ Fr (onB1 gp) w w' := by
  have := Swap_any old next hn hm w h
  rw [hs] at this
  exact this
end Go.Proofs.YtmkinaijkgkgiaaGreat
/- How often pages are held, and how many, by the trees that there are, plain; no condition. -/
namespace Go.Proofs.YtmkinaijkgkgiaaGreat
open Go.RowKit Go.Proofs.U
set_option linter.unusedSimpArgs false
set_option linter.unusedVariables false
theorem sum_app (a b : List Nat) : (a ++ b).sum = a.sum + b.sum := by induction a with
  | nil => simp
  | cons x a ih => simp only [List.cons_append, List.sum_cons, ih]; omega
theorem sum_sub {f : Nat → Nat} : ∀ {l W : List Nat}, l.Nodup → (∀ x ∈ l, x ∈ W) → (l.map f).sum ≤ (W.map f).sum
  | [], W, _, _ => by simp
  | x :: l, W, hn, h => by
    obtain ⟨hx, hn'⟩ := List.nodup_cons.1 hn
    have hp := List.perm_cons_erase (h x (by simp))
    have e := (hp.map f).sum_nat
    rw [List.map_cons, List.sum_cons] at e
    rw [e, List.map_cons, List.sum_cons]
    have := sum_sub (l := l) (W := W.erase x) (f := f) hn' fun y hy => by
      have hne : y ≠ x := fun e => hx (by rw [← e]; exact hy)
      exact (List.mem_erase_of_ne hne).2 (h y (by simp [hy]))
    omega
theorem sum_one {α : Type} : ∀ l : List α, (l.map fun _ => 1).sum = l.length
  | [] => rfl
  | x :: l => by rw [List.map_cons, List.sum_cons, sum_one l, List.length_cons]; omega
theorem len_sub {l W : List Nat} (hn : l.Nodup) (h : ∀ x ∈ l, x ∈ W) : l.length ≤ W.length := by
  have := sum_sub (f := fun _ => 1) hn h
  rwa [sum_one, sum_one] at this
theorem occ_cons (X : DSt) (lv : Nat) (p : Int) : occT X lv p = p :: (occT X lv p).tail := by cases lv <;> rfl
theorem kids_sum {X : DSt} (q : Int) : ∀ {lv : Nat} {p lo hi : Int}, okT X lv p lo hi → ((occT X lv p).map fun r => (kids (rdN X r).1).count q).sum = (occT X lv p).tail.count q + ((lsT X lv p).map (·.2)).count q
  | 0, p, lo, hi, h => by
    unfold occT lsT
    simp only [List.map_cons, List.map_nil, List.sum_cons, List.sum_nil, List.tail_cons, List.count_nil]
    show ((esX X p).map (·.2)).count q + 0 = 0 + _
    omega
  | lv + 1, p, lo, hi, h => by
    have hc := h.child
    have key : ∀ es : List (Int × Int), (∀ x ∈ es, ∃ b, okT X lv x.2 x.1 b) → (es.map (·.2)).count q + ((es.flatMap fun x => occT X lv x.2).map fun r => (kids (rdN X r).1).count q).sum = (es.flatMap fun x => occT X lv x.2).count q + ((es.flatMap fun x => lsT X lv x.2).map (·.2)).count q := by
      intro es
      induction es with
      | nil => intro _; simp
      | cons x es ih =>
        intro hh
        obtain ⟨b, hb⟩ := hh x (by simp)
        have h1 := kids_sum q hb
        have h2 := ih fun y hy => hh y (by simp [hy])
        have h3 : (occT X lv x.2).count q = (if x.2 == q then 1 else 0) + (occT X lv x.2).tail.count q := by
          conv => lhs; rw [occ_cons X lv x.2]
          rw [List.count_cons]
          omega
        simp only [List.flatMap_cons, List.map_append, List.map_cons, List.count_append, List.count_cons, sum_app]
        rw [h1, h3]
        omega
    unfold occT lsT
    simp only [List.map_cons, List.sum_cons, List.tail_cons]
    exact key _ hc
/-- A tree's nodes are as many as its entries at most, where each child has at least two entries. -/
theorem occ_len {X : DSt} {Q : List Nat → Prop} (hQ : ∀ l, Q l → ∀ c ∈ l, 2 ≤ c) : ∀ {lv : Nat} {p lo hi : Int}, okT X lv p lo hi → fitT X Q lv p → 2 ≤ szX X p → (occT X lv p).length + 1 ≤ (lsT X lv p).length
  | 0, p, lo, hi, h, _, hs => by unfold occT lsT; unfold szX at hs; simp; omega
  | lv + 1, p, lo, hi, h, hf, hs => by
    have hc := h.child
    have hf' := (show Q ((esX X p).map fun x => szX X x.2) ∧ ∀ x ∈ esX X p, fitT X Q lv x.2 from hf)
    have h2 := hQ _ hf'.1
    have key : ∀ es : List (Int × Int), (∀ x ∈ es, ∃ b, okT X lv x.2 x.1 b) → (∀ x ∈ es, fitT X Q lv x.2) → (∀ x ∈ es, 2 ≤ szX X x.2) → (es.flatMap fun x => occT X lv x.2).length + es.length ≤ (es.flatMap fun x => lsT X lv x.2).length := by
      intro es
      induction es with
      | nil => intro _ _ _; simp
      | cons x es ih =>
        intro h1 h2 h3
        obtain ⟨b, hb⟩ := h1 x (by simp)
        have := occ_len hQ hb (h2 x (by simp)) (h3 x (by simp))
        have := ih (fun y hy => h1 y (by simp [hy])) (fun y hy => h2 y (by simp [hy])) (fun y hy => h3 y (by simp [hy]))
        simp only [List.flatMap_cons, List.length_append, List.length_cons]
        omega
    have := key _ hc hf'.2 fun x hx => h2 _ (List.mem_map_of_mem (f := fun x : Int × Int => szX X x.2) hx)
    unfold occT lsT
    unfold szX at hs
    simp only [List.length_cons]
    omega
/-- .. and so many entries are below so many levels. -/
theorem pow_len {X : DSt} {Q : List Nat → Prop} (hQ : ∀ l, Q l → ∀ c ∈ l, 2 ≤ c) : ∀ {lv : Nat} {p lo hi : Int}, okT X lv p lo hi → fitT X Q lv p → 2 ≤ szX X p → 2 ^ (lv + 1) ≤ (lsT X lv p).length
  | 0, p, lo, hi, h, _, hs => by unfold lsT; unfold szX at hs; simpa using hs
  | lv + 1, p, lo, hi, h, hf, hs => by
    have hc := h.child
    have hf' := (show Q ((esX X p).map fun x => szX X x.2) ∧ ∀ x ∈ esX X p, fitT X Q lv x.2 from hf)
    have h2 := hQ _ hf'.1
    have key : ∀ es : List (Int × Int), (∀ x ∈ es, ∃ b, okT X lv x.2 x.1 b) → (∀ x ∈ es, fitT X Q lv x.2) → (∀ x ∈ es, 2 ≤ szX X x.2) → es.length * 2 ^ (lv + 1) ≤ (es.flatMap fun x => lsT X lv x.2).length := by
      intro es
      induction es with
      | nil => intro _ _ _; simp
      | cons x es ih =>
        intro h1 h2 h3
        obtain ⟨b, hb⟩ := h1 x (by simp)
        have := pow_len hQ hb (h2 x (by simp)) (h3 x (by simp))
        have := ih (fun y hy => h1 y (by simp [hy])) (fun y hy => h2 y (by simp [hy])) (fun y hy => h3 y (by simp [hy]))
        simp only [List.flatMap_cons, List.length_append, List.length_cons, Nat.succ_mul]
        omega
    have := key _ hc hf'.2 fun x hx => h2 _ (List.mem_map_of_mem (f := fun x : Int × Int => szX X x.2) hx)
    unfold lsT
    have h3 : 2 * 2 ^ (lv + 1) ≤ (esX X p).length * 2 ^ (lv + 1) := Nat.mul_le_mul_right _ hs
    rw [Nat.pow_succ 2 (lv + 1)]
    omega
/-- The blocks and the trees that there are: all that is held is theirs. -/
structure Fam (X : DSt) (R : List Int) (Q : List Nat → Prop) (B : List Int) (Ts : List (Nat × Int)) : Prop where
  bl : ∀ b ∈ B, 0 ≤ b ∧ (rdN X b).1.k = 1 ∧ (rdN X b).1.es = []
  tr : ∀ t ∈ Ts, 0 ≤ t.2 ∧ TreeAt X Q t.1 t.2 (lsT X t.1 t.2) ∧ ∀ z ∈ lsT X t.1 t.2, z.2 ∈ B
  rt : ∀ r ∈ R, r ∈ B ∨ ∃ t ∈ Ts, t.2 = r
theorem occ_kids {X : DSt} {B : List Int} : ∀ {lv : Nat} {p lo hi : Int}, okT X lv p lo hi → (∀ z ∈ lsT X lv p, z.2 ∈ B) → ∀ q ∈ occT X lv p, ∀ x ∈ kids (rdN X q).1, x ∈ B ∨ x ∈ occT X lv p
  | 0, p, lo, hi, h, hb, q, hq, x, hx => by
    simp [occT] at hq
    subst hq
    obtain ⟨y, hy, rfl⟩ := List.mem_map.1 hx
    exact Or.inl (hb y hy)
  | lv + 1, p, lo, hi, h, hb, q, hq, x, hx => by
    unfold occT at hq
    rcases List.mem_cons.1 hq with rfl | hq
    · obtain ⟨y, hy, rfl⟩ := List.mem_map.1 hx
      refine Or.inr ?_
      unfold occT
      refine List.mem_cons_of_mem _ (List.mem_flatMap.2 ⟨y, hy, ?_⟩)
      rw [occ_cons]; simp
    · obtain ⟨y, hy, hq⟩ := List.mem_flatMap.1 hq
      obtain ⟨b, hbb⟩ := h.child y hy
      rcases occ_kids hbb (fun z hz => hb z (by unfold lsT; exact List.mem_flatMap.2 ⟨y, hy, hz⟩)) q hq x hx with h1 | h1
      · exact Or.inl h1
      · refine Or.inr ?_
        unfold occT
        exact List.mem_cons_of_mem _ (List.mem_flatMap.2 ⟨y, hy, h1⟩)
theorem occ_kd {X : DSt} : ∀ {lv : Nat} {p lo hi : Int}, okT X lv p lo hi → ∀ q ∈ occT X lv p, ¬ (rdN X q).1.k = 1
  | 0, p, lo, hi, h, q, hq => by
    simp [occT] at hq; subst hq; rw [h.2.1]; decide
  | lv + 1, p, lo, hi, h, q, hq => by
    unfold occT at hq
    rcases List.mem_cons.1 hq with rfl | hq
    · rw [h.2.1]; decide
    · obtain ⟨y, hy, hq⟩ := List.mem_flatMap.1 hq
      obtain ⟨b, hb⟩ := h.child y hy
      exact occ_kd hb q hq
def famP (X : DSt) (B : List Int) (Ts : List (Nat × Int)) : List Int := B ++ Ts.flatMap fun t => occT X t.1 t.2
theorem Fam.live {X : DSt} {L : List Pg} {R : List Int} {Q : List Nat → Prop} {B : List Int} {Ts : List (Nat × Int)} (f : Fam X R Q B Ts) (h : Inv X L R) {q : Nat} (hq : 0 < cntL L q) : (q : Int) ∈ famP X B Ts := by
  obtain ⟨rk, hfl⟩ := h.fl
  have hr := (Exact.live_iff h.di.ex hfl).1 hq
  clear hq
  induction hr with
  | root hm =>
    obtain ⟨r, hr, rfl⟩ := List.mem_map.1 hm
    rw [Int.toNat_of_nonneg (h.nn r hr)]
    unfold famP
    rcases f.rt r hr with hb | ⟨t, ht, rfl⟩
    · exact List.mem_append_left _ hb
    · refine List.mem_append_right _ (List.mem_flatMap.2 ⟨t, ht, ?_⟩)
      rw [occ_cons]; simp
  | child hq hm ih =>
    obtain ⟨x, hx, rfl⟩ := List.mem_map.1 hm
    unfold famP at ih ⊢
    rcases List.mem_append.1 ih with hb | ho
    · rw [show kids (rdN X _).1 = [] by unfold kids; rw [(f.bl _ hb).2.2]; rfl] at hx
      cases hx
    · obtain ⟨t, ht, ho⟩ := List.mem_flatMap.1 ho
      rcases occ_kids (f.tr t ht).2.1.ok (f.tr t ht).2.2 _ ho x hx with h1 | h1
      · rw [Int.toNat_of_nonneg (f.bl x h1).1]
        exact List.mem_append_left _ h1
      · have h2 := h.di.kid (Exact.reached h.di.ex hq) x hx
        rw [Int.toNat_of_nonneg h2.1]
        exact List.mem_append_right _ (List.mem_flatMap.2 ⟨t, ht, h1⟩)
end Go.Proofs.YtmkinaijkgkgiaaGreat
/- Bounds of how often pages are held and of how many are free, plain; no condition. -/
namespace Go.Proofs.YtmkinaijkgkgiaaGreat
open Go.RowKit Go.Proofs.U
set_option linter.unusedSimpArgs false
set_option linter.unusedVariables false
theorem occ_nn {X : DSt} : ∀ {lv : Nat} {p lo hi : Int}, okT X lv p lo hi → 0 ≤ p → ∀ q ∈ occT X lv p, 0 ≤ q
  | 0, p, lo, hi, h, h0, q, hq => by simp [occT] at hq; subst hq; exact h0
  | lv + 1, p, lo, hi, h, h0, q, hq => by
    unfold occT at hq
    rcases List.mem_cons.1 hq with rfl | hq
    · exact h0
    · obtain ⟨y, hy, hq⟩ := List.mem_flatMap.1 hq
      obtain ⟨b, hb⟩ := h.child y hy
      exact occ_nn hb (h.es.2.2.2 y hy).2.2.1 q hq
theorem fam_nn {X : DSt} {R : List Int} {Q : List Nat → Prop} {B : List Int} {Ts : List (Nat × Int)} (f : Fam X R Q B Ts) : ∀ x ∈ famP X B Ts, 0 ≤ x := by
  intro x hx
  rcases List.mem_append.1 hx with h | h
  · exact (f.bl x h).1
  · obtain ⟨t, ht, h⟩ := List.mem_flatMap.1 h
    exact occ_nn (f.tr t ht).2.1.ok (f.tr t ht).1 x h
theorem sum_zero {α : Type} : ∀ l : List α, (l.map fun _ => 0).sum = 0
  | [] => rfl
  | x :: l => by rw [List.map_cons, List.sum_cons, sum_zero l]
theorem sum_le {α : Type} {f g : α → Nat} : ∀ {l : List α}, (∀ x ∈ l, f x ≤ g x) → (l.map f).sum ≤ (l.map g).sum
  | [], _ => by simp
  | x :: l, h => by
    rw [List.map_cons, List.map_cons, List.sum_cons, List.sum_cons]
    have := h x (by simp)
    have := sum_le (l := l) fun y hy => h y (by simp [hy])
    omega
theorem sum_flat {α β : Type} (f : β → Nat) (g : α → List β) : ∀ l : List α, ((l.flatMap g).map f).sum = (l.map fun x => ((g x).map f).sum).sum
  | [] => rfl
  | x :: l => by rw [List.flatMap_cons, List.map_append, sum_app, sum_flat f g l, List.map_cons, List.sum_cons]
/-- How often a page is held: as a root, and by as many nodes as there are entries at most. -/
theorem Fam.cnt {X : DSt} {L : List Pg} {R : List Int} {Q : List Nat → Prop} {B : List Int} {Ts : List (Nat × Int)} (f : Fam X R Q B Ts) (h : Inv X L R) (ho : ∀ t ∈ Ts, (occT X t.1 t.2).length ≤ (lsT X t.1 t.2).length) (q : Nat) :
    cntL L q ≤ R.count (q : Int) + (Ts.map fun t => (lsT X t.1 t.2).length).sum := by
  have e := h.di.ex.cnt q
  rw [count_toNat h.nn q] at e
  rw [e]
  refine Nat.add_le_add_left ?_ _
  unfold byCh
  have e1 : (U.live L.length (cntL L)).map (fun r => (chX X r).count q) = (U.live L.length (cntL L)).map fun r : Nat => (kids (rdN X (r : Int)).1).count (q : Int) := by
    refine List.map_congr_left fun r hr => ?_
    have hr := (mem_live.1 hr).2
    unfold chX
    exact count_toNat (fun x hx => (h.di.kid hr x hx).1) q
  rw [e1]
  have hnn := fam_nn f
  refine Nat.le_trans (sum_sub (W := (famP X B Ts).map Int.toNat) (live_nodup _ _) fun r hr => ?_) ?_
  · have := f.live h (mem_live.1 hr).2
    exact List.mem_map.2 ⟨(r : Int), this, by simp⟩
  · rw [List.map_map]
    have e2 : (famP X B Ts).map ((fun r : Nat => (kids (rdN X (r : Int)).1).count (q : Int)) ∘ Int.toNat) = (famP X B Ts).map fun x => (kids (rdN X x).1).count (q : Int) := by
      refine List.map_congr_left fun x hx => ?_
      show (kids (rdN X ((x.toNat : Nat) : Int)).1).count (q : Int) = _
      rw [Int.toNat_of_nonneg (hnn x hx)]
    rw [e2]
    unfold famP
    rw [List.map_append, sum_app, sum_flat]
    have hB : (B.map fun x => (kids (rdN X x).1).count (q : Int)).sum = 0 := by
      have : (B.map fun x => (kids (rdN X x).1).count (q : Int)) = B.map fun _ => 0 := List.map_congr_left fun x hx => by
        unfold kids
        rw [(f.bl x hx).2.2]
        rfl
      rw [this]
      exact sum_zero B
    rw [hB, Nat.zero_add]
    refine sum_le fun t ht => ?_
    obtain ⟨h0, ht2, hb⟩ := f.tr t ht
    rw [kids_sum (q : Int) ht2.ok]
    by_cases hq : (q : Int) ∈ B
    · have : (occT X t.1 t.2).tail.count (q : Int) = 0 := List.count_eq_zero.2 fun hm => by
        have := occ_kd ht2.ok _ (List.mem_of_mem_tail hm)
        exact this (f.bl _ hq).2.1
      rw [this]
      have := cnt_le (lsT X t.1 t.2) (q : Int)
      omega
    · have h1 : ((lsT X t.1 t.2).map (·.2)).count (q : Int) = 0 := List.count_eq_zero.2 fun hm => by
        obtain ⟨z, hz, e⟩ := List.mem_map.1 hm
        exact hq (by rw [← e]; exact hb z hz)
      rw [h1]
      have h2 := List.count_le_length (a := (q : Int)) (l := (occT X t.1 t.2).tail)
      have h3 := ho t ht
      have h4 : (occT X t.1 t.2).tail.length ≤ (occT X t.1 t.2).length := by rw [List.length_tail]; omega
      omega
/-- How many pages aren't free. -/
theorem Fam.used {X : DSt} {L : List Pg} {R : List Int} {Q : List Nat → Prop} {B : List Int} {Ts : List (Nat × Int)} (f : Fam X R Q B Ts) (h : Inv X L R) (y : PlY L) : L.length ≤ plFree L + (famP X B Ts).length := by
  have h1 : (U.live L.length (cntL L)).length ≤ (famP X B Ts).length := by
    have := len_sub (W := (famP X B Ts).map Int.toNat) (live_nodup L.length (cntL L)) fun r hr => by
      have := f.live h (mem_live.1 hr).2
      exact List.mem_map.2 ⟨(r : Int), this, by simp⟩
    rwa [List.length_map] at this
  have h2 : L.length ≤ plFree L + (U.live L.length (cntL L)).length := by
    have key : ∀ n, n ≤ L.length → n ≤ (L.take n).countP Pg.free + ((List.range n).filter fun q => decide (0 < cntL L q)).length := by
      intro n
      induction n with
      | zero => intro _; omega
      | succ n ih =>
        intro hn
        have := ih (by omega)
        rw [List.take_succ_eq_append_getElem (by omega), List.countP_append, List.range_succ, List.filter_append, List.length_append]
        have hx : 1 ≤ [L[n]].countP Pg.free + ([n].filter fun q => decide (0 < cntL L q)).length := by
          have hp : plAt L n = L[n] := plAt_get L n (by omega)
          rcases y n with hy | ⟨hs, hc⟩
          · have hf : (plAt L n).frsh = true := by unfold Pg.frsh; rw [hy]; rfl
            have hc := h.di.nf n hf
            have : 0 < cntL L n := (cnt_pos n).2 hc
            simp [List.filter, this]
          · have : L[n].free = true := by rw [← hp]; unfold Pg.free; rw [hs, hc]; rfl
            simp [List.countP_cons, this]
        omega
    have := key L.length (Nat.le_refl _)
    rw [List.take_length] at this
    exact this
  omega
end Go.Proofs.YtmkinaijkgkgiaaGreat
/- A tree over a store with blocks and other trees, plain; no condition. -/
namespace Go.Proofs.YtmkinaijkgkgiaaGreat
open Go.RowKit Go.Proofs.U
set_option linter.unusedSimpArgs false
set_option linter.unusedVariables false
/-- The roots: the blocks, and the tree's if there is one. -/
def rtsB (B : List Int) (root : Int) : List Int := if root = -1 then B else B ++ [root]
/-- What other trees are. -/
def OthT (X : DSt) (B : List Int) (O : List (Nat × Int)) : Prop := ∀ t ∈ O, 0 ≤ t.2 ∧ TreeAt X Q2 t.1 t.2 (lsT X t.1 t.2) ∧ (∀ z ∈ lsT X t.1 t.2, z.2 ∈ B) ∧ lsT X t.1 t.2 ≠ []
/-- One tree over a store: B are the pages of blocks, O are other trees. -/
structure OneT (X : DSt) (L : List Pg) (B : List Int) (O : List (Nat × Int)) (lv : Nat) (root : Int) (l : List (Int × Int)) : Prop where
  iv : Inv X L (rtsB (B ++ O.map (·.2)) root)
  ot : OthT X B O
  bl : ∀ b ∈ B, 0 ≤ b ∧ (rdN X b).1.k = 1 ∧ (rdN X b).1.es = []
  rt : RtAt X L [] Q2 lv root l
  pg : ∀ z ∈ l, z.2 ∈ B
  ne : ¬ root = -1 → l ≠ []
  nn : root = -1 ∨ 0 ≤ root
theorem rtsB_B {B : List Int} {root b : Int} (h : b ∈ B) : b ∈ rtsB B root := by
  unfold rtsB; split
  · exact h
  · exact List.mem_append_left _ h
def oneTs (O : List (Nat × Int)) (lv : Nat) (root : Int) : List (Nat × Int) := if root = -1 then O else O ++ [(lv, root)]
theorem OneT.tree {X : DSt} {L : List Pg} {B : List Int} {O : List (Nat × Int)} {lv : Nat} {root : Int} {l : List (Int × Int)} (o : OneT X L B O lv root l) (hr : ¬ root = -1) : 0 ≤ root ∧ lv < 8 ∧ TreeAt X Q2 lv root l := by
  rcases o.rt with ⟨q, _⟩ | ⟨h0, _, hl, t⟩
  · exact absurd q hr
  · exact ⟨h0, hl, t⟩
theorem oneTs_mem {O : List (Nat × Int)} {lv : Nat} {root : Int} {t : Nat × Int} (h : t ∈ oneTs O lv root) : t ∈ O ∨ (¬ root = -1 ∧ t = (lv, root)) := by
  unfold oneTs at h
  split at h
  · exact Or.inl h
  · rename_i e
    rcases List.mem_append.1 h with q | q
    · exact Or.inl q
    · simp at q; exact Or.inr ⟨e, q⟩
theorem OneT.fam {X : DSt} {L : List Pg} {B : List Int} {O : List (Nat × Int)} {lv : Nat} {root : Int} {l : List (Int × Int)} (o : OneT X L B O lv root l) : Fam X (rtsB (B ++ O.map (·.2)) root) Q2 B (oneTs O lv root) := by
  refine ⟨o.bl, fun t ht => ?_, fun r hr => ?_⟩
  · rcases oneTs_mem ht with h | ⟨h, rfl⟩
    · exact ⟨(o.ot t h).1, (o.ot t h).2.1, (o.ot t h).2.2.1⟩
    · obtain ⟨h0, _, t⟩ := o.tree h
      have e : lsT X lv root = l := t.ls
      exact ⟨h0, by show TreeAt X Q2 lv root (lsT X lv root); rw [e]; exact t, by show ∀ z ∈ lsT X lv root, z.2 ∈ B; rw [e]; exact o.pg⟩
  · have key : ∀ r ∈ B ++ O.map (·.2), r ∈ B ∨ ∃ t ∈ O, t.2 = r := by
      intro r hr
      rcases List.mem_append.1 hr with q | q
      · exact Or.inl q
      · obtain ⟨t, ht, e⟩ := List.mem_map.1 q
        exact Or.inr ⟨t, ht, e⟩
    unfold rtsB at hr
    unfold oneTs
    split at hr
    · rename_i h
      rw [if_pos h]
      exact key r hr
    · rename_i h
      rw [if_neg h]
      rcases List.mem_append.1 hr with q | q
      · rcases key r q with q | ⟨t, ht, e⟩
        · exact Or.inl q
        · exact Or.inr ⟨t, List.mem_append_left _ ht, e⟩
      · simp at q; exact Or.inr ⟨(lv, root), by simp, by simp [q]⟩
theorem OneT.len {X : DSt} {L : List Pg} {B : List Int} {O : List (Nat × Int)} {lv : Nat} {root : Int} {l : List (Int × Int)} (o : OneT X L B O lv root l) : l.length ≤ 64 := o.rt.len
theorem TreeAt.occ {X : DSt} {lv : Nat} {root : Int} {l : List (Int × Int)} (t : TreeAt X Q2 lv root l) (hn : l ≠ []) : (occT X lv root).length ≤ l.length := by
  have hp := List.length_pos_iff.2 hn
  cases lv with
  | zero => simp [occT]; omega
  | succ lv =>
    have h2 : 2 ≤ szX X root := by rcases t.rt with q | q; · omega
                                   · exact q
    have := occ_len (Q := Q2) (fun _ q => q) t.ok t.ft h2
    rw [t.ls] at this
    omega
theorem TreeAt.len {X : DSt} {lv : Nat} {root : Int} {l : List (Int × Int)} (t : TreeAt X Q2 lv root l) : l.length ≤ 64 := by
  rw [← t.ls]
  have := KeysUp.len (lsT_up t.ok) (a := 0) (b := 63) (by decide) (fun z hz => by have := lsT_rng t.ok z hz; omega)
  omega
theorem OneT.all {X : DSt} {L : List Pg} {B : List Int} {O : List (Nat × Int)} {lv : Nat} {root : Int} {l : List (Int × Int)} (o : OneT X L B O lv root l) : ∀ t ∈ oneTs O lv root, (occT X t.1 t.2).length ≤ (lsT X t.1 t.2).length ∧ (lsT X t.1 t.2).length ≤ 64 := by
  intro t ht
  rcases oneTs_mem ht with h | ⟨h, rfl⟩
  · exact ⟨(o.ot t h).2.1.occ (o.ot t h).2.2.2, (o.ot t h).2.1.len⟩
  · obtain ⟨_, _, t⟩ := o.tree h
    show (occT X lv root).length ≤ (lsT X lv root).length ∧ (lsT X lv root).length ≤ 64
    rw [t.ls]
    exact ⟨t.occ (o.ne h), o.len⟩
theorem sum_64 {α : Type} {f : α → Nat} (l : List α) (h : ∀ x ∈ l, f x ≤ 64) : (l.map f).sum ≤ 64 * l.length := by
  induction l with
  | nil => simp
  | cons x l ih =>
    have := ih fun y hy => h y (by simp [hy])
    have := h x (by simp)
    simp only [List.map_cons, List.sum_cons, List.length_cons]
    omega
theorem len_flat {α β : Type} (g : α → List β) (l : List α) : (l.flatMap g).length = (l.map fun x => (g x).length).sum := by
  induction l with
  | nil => rfl
  | cons x l ih => rw [List.flatMap_cons, List.length_append, ih, List.map_cons, List.sum_cons]
theorem oneTs_len (O : List (Nat × Int)) (lv : Nat) (root : Int) : (oneTs O lv root).length ≤ O.length + 1 := by
  unfold oneTs; split <;> simp
/-- How often a page is held. -/
theorem OneT.cnt {X : DSt} {L : List Pg} {B : List Int} {O : List (Nat × Int)} {lv : Nat} {root : Int} {l : List (Int × Int)} (o : OneT X L B O lv root l) (q : Nat) : cntL L q ≤ B.length + 65 * (O.length + 1) := by
  have h := o.fam.cnt o.iv (fun t ht => (o.all t ht).1) q
  have h1 : (rtsB (B ++ O.map (·.2)) root).count (q : Int) ≤ B.length + O.length + 1 := by
    refine Nat.le_trans (List.count_le_length) ?_
    unfold rtsB; split <;> simp <;> omega
  have h2 := sum_64 (f := fun t => (lsT X t.1 t.2).length) (oneTs O lv root) fun t ht => (o.all t ht).2
  have h3 := oneTs_len O lv root
  omega
/-- How many are free. -/
theorem OneT.free {X : DSt} {L : List Pg} {B : List Int} {O : List (Nat × Int)} {lv : Nat} {root : Int} {l : List (Int × Int)} (o : OneT X L B O lv root l) (y : PlY L) : L.length ≤ plFree L + (B.length + 64 * (O.length + 1)) := by
  have h := o.fam.used o.iv y
  have h2 := sum_64 (f := fun t => (occT X t.1 t.2).length) (oneTs O lv root) fun t ht => by have := o.all t ht; omega
  have h3 := oneTs_len O lv root
  have h1 : (famP X B (oneTs O lv root)).length ≤ B.length + 64 * (O.length + 1) := by
    unfold famP
    rw [List.length_append, len_flat]
    omega
  omega
theorem OneT.lv5 {X : DSt} {L : List Pg} {B : List Int} {O : List (Nat × Int)} {lv : Nat} {root : Int} {l : List (Int × Int)} (o : OneT X L B O lv root l) (hr : ¬ root = -1) : lv ≤ 5 := by
  obtain ⟨_, _, t⟩ := o.tree hr
  cases lv with
  | zero => omega
  | succ lv =>
    have h2 : 2 ≤ szX X root := by rcases t.rt with q | q; · omega
                                   · exact q
    have h := pow_len (Q := Q2) (fun _ q => q) t.ok t.ft h2
    rw [t.ls] at h
    have := o.len
    by_cases hl : lv + 1 ≤ 5
    · exact hl
    · have : 2 ^ 7 ≤ 2 ^ (lv + 1 + 1) := Nat.pow_le_pow_right (by decide) (by omega)
      omega
/-- Its height. -/
def hgt (lv : Nat) (root : Int) : Nat := if root = -1 then 0 else lv + 1
theorem putL_ne (l : List (Int × Int)) (x : Int × Int) : putL l x ≠ [] := by
  cases l with
  | nil => simp [putL]
  | cons y l => unfold putL; split <;> simp
theorem OthT.ext {X X' : DSt} {L L' : List Pg} {R : List Int} {B : List Int} {O : List (Nat × Int)} (h : Inv X L R) (hx : Ext X L X' L') (hr : ∀ t ∈ O, t.2 ∈ R) (o : OthT X B O) : OthT X' B O := by
  intro t ht
  obtain ⟨h0, k, hb, hn⟩ := o t ht
  have hp := (h.toT.root (hr t ht)).2
  obtain ⟨a1, a2, a3⟩ := okT.ext h.toT hx k.ok h0 hp
  have hf := fitT.ext h.toT hx k.ok h0 hp k.ft
  rw [a2]
  refine ⟨h0, ⟨a1, a2, ?_, hf⟩, hb, hn⟩
  rcases k.rt with q | q
  · exact Or.inl q
  · refine Or.inr ?_
    have e := (hx.kp t.2.toNat (h.toT.live hp).1).1
    have e2 : ((t.2.toNat : Nat) : Int) = t.2 := by omega
    rw [e2] at e
    unfold szX esX at q ⊢
    rw [e]
    exact q
/-- A key is put, the tree is swapped for the new one. -/
theorem OneT.put {X : DSt} {L : List Pg} {B : List Int} {O : List (Nat × Int)} {lv : Nat} {root : Int} {l : List (Int × Int)} (o : OneT X L B O lv root l) {x : Int × Int} (hx : x.2 ∈ B) {X' : DSt} {L' : List Pg} {p' : Int} (r : PutR X L (rtsB (B ++ O.map (·.2)) root) [] Q2 (hgt lv root) (putL l x) X' L' p' 0) (hc : B.length + 65 * O.length ≤ 135) :
    0 ≤ p' ∧ ∃ L2 lv', swF X' L' root p' = (L2, 0) ∧ L2.length = L.length ∧ (PlY L → PlY L2) ∧ OneT X' L2 B O lv' p' (putL l x) := by
  obtain ⟨lv', hlv, iv, t⟩ := r.ys rfl
  have h0 := r.p0 rfl
  have hh : hgt lv root ≤ 6 := by
    unfold hgt; split
    · omega
    · rename_i h; have := o.lv5 h; omega
  have hcc : cntL L' p'.toNat < 255 := by
    have := r.ct rfl p'.toNat
    have := o.cnt p'.toNat
    omega
  have hs : ∃ L2, swF X' L' root p' = (L2, 0) ∧ Inv X' L2 ((B ++ O.map (·.2)) ++ [p']) ∧ L2.length = L'.length ∧ (PlY L' → PlY L2) := by
    unfold rtsB at iv
    split at iv
    · rename_i e
      subst e
      exact swap_first iv h0 hcc
    · rename_i e
      exact swap_in iv h0 e hcc
  obtain ⟨L2, sw, iv2, ln, yg⟩ := hs
  have hp1 : ¬ p' = -1 := by omega
  have hR : rtsB (B ++ O.map (·.2)) p' = (B ++ O.map (·.2)) ++ [p'] := by unfold rtsB; rw [if_neg hp1]
  have hl := iv2.toT.root (r := p') (by simp)
  have hup := o.rt.up.1
  have hot : OthT X' B O := OthT.ext o.iv r.ext (fun t ht => rtsB_B (List.mem_append_right _ (List.mem_map_of_mem ht))) o.ot
  refine ⟨h0, L2, lv', sw, ln.trans r.ext.ln, fun y => yg (r.ext.yg y), ⟨by rw [hR]; exact iv2, hot, fun b hb => ?_, Or.inr ⟨h0, hl.2, by omega, t⟩, fun z hz => ?_, fun _ => putL_ne l x, Or.inr h0⟩⟩
  · obtain ⟨b0, bk, be⟩ := o.bl b hb
    have hb2 := o.iv.toT.root (rtsB_B (root := root) (List.mem_append_left _ hb))
    have hk := (r.ext.kp b.toNat (o.iv.toT.live hb2.2).1).1
    have e : ((b.toNat : Nat) : Int) = b := by omega
    rw [e] at hk
    rw [hk]
    exact ⟨b0, bk, be⟩
  · rcases (mem_putL hup).1 hz with rfl | ⟨q, _⟩
    · exact hx
    · exact o.pg z q
/-- With room, a key is put. -/
theorem OneT.good {X : DSt} {L : List Pg} {B : List Int} {O : List (Nat × Int)} {lv : Nat} {root : Int} {l l' : List (Int × Int)} (o : OneT X L B O lv root l) (y : PlY L) (hc : B.length + 65 * O.length ≤ 135) (hL : B.length + 64 * (O.length + 1) + 13 ≤ L.length) {X' : DSt} {L' : List Pg} {p' e : Int} (r : PutR X L (rtsB (B ++ O.map (·.2)) root) [] Q2 (hgt lv root) l' X' L' p' e) : e = 0 := by
  have hh : hgt lv root ≤ 6 := by
    unfold hgt; split
    · omega
    · rename_i h; have := o.lv5 h; omega
  refine r.good ?_ fun q => ?_
  · have := o.free y; omega
  · have := o.cnt q; omega
end Go.Proofs.YtmkinaijkgkgiaaGreat
/- How high a tree can be that lacks so much, plain; put in these words; no condition. -/
namespace Go.Proofs.YtmkinaijkgkgiaaGreat
open Go.RowKit Go.Proofs.U
set_option linter.unusedSimpArgs false
set_option linter.unusedVariables false
/-- What an entry counts at least, so many levels above the leaves. -/
def gT : Nat → Nat → Nat
  | 0, s => s
  | lv + 1, s => s * (4 * lv + 2)
theorem gT_step (lv s : Nat) (h : 1 ≤ s) : ((4 * lv + 2 : Nat) : Int) ≤ (gT lv s : Int) + 2 * lackZ s := by
  unfold lackZ
  cases lv with
  | zero =>
    have e : gT 0 s = s := rfl
    rw [e]
    omega
  | succ lv =>
    have e : gT (lv + 1) s = s * (4 * lv + 2) := rfl
    rw [e]
    rcases (by omega : s = 1 ∨ s = 2 ∨ s = 3 ∨ 4 ≤ s) with rfl | rfl | rfl | h4
    · omega
    · omega
    · omega
    · have : 4 * (4 * lv + 2) ≤ s * (4 * lv + 2) := Nat.mul_le_mul_right _ h4
      omega
theorem sum_const {α : Type} {f : α → Int} {c : Nat} : ∀ (l : List α), (∀ x ∈ l, (c : Int) ≤ f x) → ((l.length * c : Nat) : Int) ≤ (l.map f).sum
  | [], _ => by simp
  | x :: l, h => by
    have h1 := h x (by simp)
    have h2 := sum_const l (fun y hy => h y (by simp [hy]))
    rw [List.length_cons, List.map_cons, List.sum_cons, Nat.succ_mul]
    omega
theorem sum_mix {α : Type} (f : α → Nat) (g : α → Int) : ∀ (l : List α), (l.map fun x => (f x : Int) + 2 * g x).sum = (((l.map f).sum : Nat) : Int) + 2 * (l.map g).sum
  | [] => rfl
  | x :: l => by simp only [List.map_cons, List.sum_cons, sum_mix f g l]; omega
theorem dfT_low {X : DSt} : ∀ {lv : Nat} {p lo hi : Int}, okT X lv p lo hi → (gT lv (szX X p) : Int) ≤ ((lsT X lv p).length : Int) + 2 * dfT X lv p
  | 0, p, lo, hi, h => by show ((esX X p).length : Int) ≤ ((esX X p).length : Int) + 2 * 0; omega
  | lv + 1, p, lo, hi, h => by
    have key : ∀ x ∈ esX X p, ((4 * lv + 2 : Nat) : Int) ≤ (((lsT X lv x.2).length : Nat) : Int) + 2 * (lackZ (szX X x.2) + dfT X lv x.2) := fun x hx => by
      obtain ⟨b, hb⟩ := h.child x hx
      have h1 := dfT_low hb
      have h2 : 1 ≤ szX X x.2 := hb.es.2.1
      have h3 := gT_step lv (szX X x.2) h2
      omega
    have h4 := sum_const (esX X p) key
    rw [sum_mix] at h4
    have h5 : (lsT X (lv + 1) p).length = ((esX X p).map fun x => (lsT X lv x.2).length).sum := len_flat (fun x : Int × Int => lsT X lv x.2) (esX X p)
    rw [h5]
    exact h4
/-- A root of six entries, and one more put: not high. -/
theorem full_low {X : DSt} {lv : Nat} {n p lo hi : Int} (k : okT X lv p lo hi) (h6 : szX X p = 6) (hn : ((lsT X lv p).length : Int) + 2 * dfT X lv p ≤ n) (h120 : n ≤ 120) : lv ≤ 5 := by
  have h := dfT_low k
  rw [h6] at h
  cases lv with
  | zero => omega
  | succ lv =>
    have e : gT (lv + 1) 6 = 6 * (4 * lv + 2) := rfl
    rw [e] at h
    omega
end Go.Proofs.YtmkinaijkgkgiaaGreat
/- Build: entries put in one behind the other; no condition. -/
namespace Go.Proofs.YtmkinaijkgkgiaaGreat
open Go.RowKit Go.Proofs.U
set_option linter.unusedSimpArgs false
set_option linter.unusedVariables false
/-- .. behind what turned the pool. -/
theorem StT.pool {w w1 w2 : World} {F F' : Nat → Prop} {gs gp : Nat} {S : DSt × List Pg} {L2 : List Pg} {m : Nat} (h : StT w w1 F F' gs gp S m) (f : Fr (onB1 gp) w1 w2) (s : Sto w2 F' gs gp S.1 L2 m) : StT w w2 F F' gs gp (S.1, L2) m :=
  ⟨s, fun k hk => ⟨(h.ft k hk).1, s.ft k hk⟩, h.fr.thenT (f.mono (fun k _ q => Or.inr q)) (fun _ _ q => q)⟩
theorem OneT.start {X : DSt} {L : List Pg} {B : List Int} {O : List (Nat × Int)} (iv : Inv X L (B ++ O.map (·.2))) (ot : OthT X B O) (bl : ∀ b ∈ B, 0 ≤ b ∧ (rdN X b).1.k = 1 ∧ (rdN X b).1.es = []) : OneT X L B O 0 (-1) [] :=
  ⟨by unfold rtsB; rw [if_pos rfl]; exact iv, ot, bl, Or.inl ⟨rfl, rfl⟩, by simp, fun h => absurd rfl h, Or.inl rfl⟩
end Go.Proofs.YtmkinaijkgkgiaaGreat
