/- Texts TE, VR, VS, VT of the proof of PruneTrims, one behind the other. -/
import Derived.Test.YtmkinaijkgkgiaaGreatBundlePruneTrims1
import Derived.Test.YtmkinaijkgkgiaaGreatBundlePruneTrims2
import Derived.Test.YtmkinaijkgkgiaaGreatBundlePruneTrims3
import Derived.Test.YtmkinaijkgkgiaaGreatBundlePruneTrims4
import Derived.Test.YtmkinaijkgkgiaaGreatBundlePruneTrims5
import Derived.Test.YtmkinaijkgkgiaaGreatBundlePruneTrims6
import Derived.Test.YtmkinaijkgkgiaaGreatBundlePruneTrims7
import Derived.Test.YtmkinaijkgkgiaaGreatBundlePruneTrims8
import Derived.Test.YtmkinaijkgkgiaaGreatBundlePruneTrims9
import Derived.Test.YtmkinaijkgkgiaaGreatBundlePruneTrims10
import Derived.Test.YtmkinaijkgkgiaaGreatBundlePruneTrims11
import Derived.Test.YtmkinaijkgkgiaaGreatBundlePruneTrims12
import Derived.Test.YtmkinaijkgkgiaaGreatBundlePruneTrims13
import Derived.Test.YtmkinaijkgkgiaaGreatBundlePruneTrims14
import Derived.Test.YtmkinaijkgkgiaaGreatBundlePruneTrims15
import Derived.Test.YtmkinaijkgkgiaaGreatBundlePruneTrims16
import Derived.Test.YtmkinaijkgkgiaaGreatBundlePruneTrims17
import Derived.Test.YtmkinaijkgkgiaaGreatBundlePruneTrims18
import Derived.Test.YtmkinaijkgkgiaaGreatBundlePruneTrims19
import Derived.Test.YtmkinaijkgkgiaaGreatBundlePruneTrims20
import Derived.Test.YtmkinaijkgkgiaaGreatBundlePruneTrims21
import Derived.Test.YtmkinaijkgkgiaaGreatBundlePruneTrims22
import Derived.Test.YtmkinaijkgkgiaaGreatBundlePruneTrims23
import Derived.Test.YtmkinaijkgkgiaaGreatBundlePruneTrims24
import Derived.Test.YtmkinaijkgkgiaaGreatBundlePruneTrims25
import Derived.Test.YtmkinaijkgkgiaaGreatBundlePruneTrims26
import Derived.Test.YtmkinaijkgkgiaaGreatBundlePruneTrims27
import Derived.Test.YtmkinaijkgkgiaaGreatBundlePruneTrims28
import Derived.Test.YtmkinaijkgkgiaaGreatBundlePruneTrims29
import Derived.Test.YtmkinaijkgkgiaaGreatBundlePruneTrims30
/- A mark, and what is undone, plain; no condition. -/
namespace Go.Proofs.YtmkinaijkgkgiaaGreat
open Go.RowKit Go.Proofs.U
set_option linter.unusedSimpArgs false
set_option linter.unusedVariables false
theorem free_mark (L : List Pg) : plFree (plMark L) = plFree L := by
  unfold plFree plMark
  rw [List.countP_map]
  congr 1
  funext x
  show (markP x).free = x.free
  unfold markP Pg.free
  split
  · rename_i h; rw [h]; simp
  · rfl
theorem OneT.mark {X : DSt} {L : List Pg} {B : List Int} {O : List (Nat × Int)} {lv : Nat} {root : Int} {l : List (Int × Int)} (o : OneT X L B O lv root l) : OneT X (plMark L) B O lv root l := by
  refine ⟨o.iv.mark, o.ot, o.bl, ?_, o.pg, o.ne, o.nn⟩
  have h := o.rt
  unfold RtAt at h ⊢
  rw [cntT_nil, cntL_mark]
  rwa [cntT_nil] at h
theorem TreeAt.ext {X X' : DSt} {L L' : List Pg} {R : List Int} {T : List Nat} (h : InvT X L R T) (hx : Ext X L X' L') {lv : Nat} {p : Int} {l : List (Int × Int)} (t : TreeAt X Q2 lv p l) (h0 : 0 ≤ p) (hp : 0 < cntT L T p.toNat) : TreeAt X' Q2 lv p l := by
  obtain ⟨a1, a2, a3⟩ := okT.ext h hx t.ok h0 hp
  have hf := fitT.ext h hx t.ok h0 hp t.ft
  refine ⟨a1, a2.trans t.ls, ?_, hf⟩
  rcases t.rt with q | q
  · exact Or.inl q
  · refine Or.inr ?_
    have e := (hx.kp p.toNat (h.live hp).1).1
    rw [Int.toNat_of_nonneg h0] at e
    unfold szX esX at q ⊢
    rw [e]
    exact q
/-- What was done on pages that were free is undone. -/
theorem OneT.undo {X X' : DSt} {L L' : List Pg} {B : List Int} {O : List (Nat × Int)} {lv : Nat} {root : Int} {l : List (Int × Int)} (o : OneT X L B O lv root l) (hx : Ext X L X' L') : OneT X' L B O lv root l := by
  have hT := o.iv.toT
  refine ⟨o.iv.write fun q hq => (hx.kp q (hT.live (by rw [cntT_nil]; exact hq)).1).1, o.ot.ext o.iv hx (fun t ht => rtsB_B (List.mem_append_right _ (List.mem_map_of_mem ht))), fun b hb => ?_, ?_, o.pg, o.ne, o.nn⟩
  · obtain ⟨b0, b1, b2⟩ := o.bl b hb
    have hp := (hT.root (rtsB_B (root := root) (List.mem_append_left (O.map (·.2)) hb))).2
    have e := (hx.kp b.toNat (hT.live hp).1).1
    rw [Int.toNat_of_nonneg b0] at e
    rw [e]
    exact ⟨b0, b1, b2⟩
  · rcases o.rt with ⟨h1, h2⟩ | ⟨h0, hp, h8, t⟩
    · exact Or.inl ⟨h1, h2⟩
    · exact Or.inr ⟨h0, hp, h8, t.ext hT hx h0 hp⟩
end Go.Proofs.YtmkinaijkgkgiaaGreat
/- Keys trimmed behind a mark, and what is undone, plain; no condition. -/
namespace Go.Proofs.YtmkinaijkgkgiaaGreat
open Go.RowKit Go.Proofs.U
set_option linter.unusedSimpArgs false
set_option linter.unusedVariables false
theorem cutF_le (ks : List Int) : ∀ l : List (Int × Int), (ks.foldl cutL l).length ≤ l.length := by
  induction ks with
  | nil => intro l; exact Nat.le_refl _
  | cons k ks ih => intro l; exact Nat.le_trans (ih _) (List.length_filter_le _ _)
/-- A key of Trim. -/
theorem KT.tstep {S : BSt} {B : List Int} {l : List (Int × Int)} {d k m : Nat} (o : KT S.X S.L B S.lv S.root l d k) (hU : Up S.X S.L.length m) (hm : m ≤ 60000) (key : Int) (hk : 0 ≤ key ∧ key ≤ 63) (hB : B.length ≤ 4) (hd : l.length + d ≤ 64) (hr : 8 + (k + (B.length + 33)) ≤ S.L.length) :
    ∃ S' d', TStep m key S S' ∧ KT S'.X S'.L B S'.lv S'.root (cutL l key) d' k ∧ (cutL l key).length + d' ≤ l.length + d ∧ S'.L.length = S.L.length ∧ Up S'.X S'.L.length (m + 20) ∧ ∀ q : Nat, yng (plAt S.L q) = true → yng (plAt S'.L q) = true ∧ rdN S'.X (q : Int) = rdN S.X (q : Int) := by
  have hpn : ∀ z ∈ l, ¬ z.2 = -1 := fun z hz => by have := (o.bl _ (o.pg z hz)).1; omega
  by_cases hn : findL l key = -1
  · have hno : ∀ z ∈ l, ¬ z.1 = key := by
      intro z hz e
      unfold findL at hn
      split at hn
      · rename_i y hy
        exact hpn y (List.mem_of_find?_eq_some hy) hn
      · rename_i hy
        have := List.find?_eq_none.1 hy z hz
        simp at this
        exact this e
    have hc : cutL l key = l := List.filter_eq_self.2 fun z hz => by simpa using hno z hz
    rw [hc]
    exact ⟨S, d, Or.inl ⟨rfl, fun F gs gp w h => Cut_not o.iv.toT hm o.rk key hk hn w h⟩, o, Nat.le_refl _, rfl, hU.mono (by omega), fun q hq => ⟨hq, rfl⟩⟩
  · have hocc := o.occ
    obtain ⟨X', L', p', lv', L2, hC, K, _⟩ := o.cut hU hm key hk hn hB (by omega) (by omega)
    have hlt : (cutL l key).length < l.length := by
      unfold cutL
      refine List.length_filter_lt_length_iff_exists.2 ?_
      by_cases q : ∃ z ∈ l, z.1 = key
      · obtain ⟨z, hz, e⟩ := q; exact ⟨z, hz, by simpa using e⟩
      · exact absurd (findL_none fun z hz e => q ⟨z, hz, e⟩) hn
    exact ⟨⟨X', L2, lv', p'⟩, d + 1, Or.inr ⟨L', hC, K.sw⟩, K.kt, by omega, K.ln, K.up, K.kp⟩
/-- All of Trim's states. -/
theorem KT.trims {S0 : BSt} {B : List Int} {l : List (Int × Int)} {k m : Nat} (ks : List Int) (n : Nat) (hn : n ≤ ks.length) (o : KT S0.X S0.L B S0.lv S0.root l 0 k) (hm : m ≤ 10000) (he : ks.length ≤ 100) (hks : ∀ (i : Nat) (h : i < ks.length), i < n → 0 ≤ ks[i] ∧ ks[i] ≤ 63) (hU : Up S0.X S0.L.length m) (hB : B.length ≤ 4) (hL : 8 + (k + (B.length + 33)) ≤ S0.L.length) :
    ∃ s : Nat → BSt, s 0 = S0 ∧ (∀ (i : Nat) (hi : i < ks.length), i < n → TStep (m + 20 * i) ks[i] (s i) (s (i + 1))) ∧ ∀ i, i ≤ n → (∃ d, KT (s i).X (s i).L B (s i).lv (s i).root ((ks.take i).foldl cutL l) d k ∧ ((ks.take i).foldl cutL l).length + d ≤ 64) ∧ (s i).L.length = S0.L.length ∧ Up (s i).X (s i).L.length (m + 20 * i) ∧ ∀ q : Nat, yng (plAt S0.L q) = true → yng (plAt (s i).L q) = true ∧ rdN (s i).X (q : Int) = rdN S0.X (q : Int) := by
  have key : ∀ j, j ≤ n → ∃ s : Nat → BSt, s 0 = S0 ∧ (∀ (i : Nat) (hi : i < ks.length), i < j → TStep (m + 20 * i) ks[i] (s i) (s (i + 1))) ∧ ∀ i, i ≤ j → (∃ d, KT (s i).X (s i).L B (s i).lv (s i).root ((ks.take i).foldl cutL l) d k ∧ ((ks.take i).foldl cutL l).length + d ≤ 64) ∧ (s i).L.length = S0.L.length ∧ Up (s i).X (s i).L.length (m + 20 * i) ∧ ∀ q : Nat, yng (plAt S0.L q) = true → yng (plAt (s i).L q) = true ∧ rdN (s i).X (q : Int) = rdN S0.X (q : Int) := by
    intro j
    induction j with
    | zero =>
      intro _
      refine ⟨fun _ => S0, rfl, fun i _ hi => absurd hi (by omega), fun i hi => ?_⟩
      obtain rfl : i = 0 := by omega
      exact ⟨⟨0, o, o.up.2.2⟩, rfl, hU, fun q hq => ⟨hq, rfl⟩⟩
    | succ j ih =>
      intro hj
      obtain ⟨s, h0, h1, h2⟩ := ih (by omega)
      obtain ⟨⟨d, oj, hd⟩, lj, uj, kj⟩ := h2 j (Nat.le_refl _)
      have hjl : j < ks.length := by omega
      obtain ⟨S', d', st, o', hd', l', u', k'⟩ := oj.tstep uj (by omega) ks[j] (hks j hjl (by omega)) hB hd (by rw [lj]; exact hL)
      refine ⟨fun i => if i = j + 1 then S' else s i, by simp [h0], fun i hi hij => ?_, fun i hi => ?_⟩
      · by_cases e : i = j
        · subst e; simpa using st
        · have := h1 i hi (by omega)
          show TStep (m + 20 * i) ks[i] (if i = j + 1 then S' else s i) (if i + 1 = j + 1 then S' else s (i + 1))
          rw [if_neg (by omega), if_neg (by omega)]
          exact this
      · by_cases e : i = j + 1
        · subst e
          simp only [if_pos]
          rw [List.take_succ_eq_append_getElem hjl, List.foldl_append]
          exact ⟨⟨d', o', by show (cutL _ _).length + d' ≤ 64; omega⟩, l'.trans lj, by rw [show m + 20 * (j + 1) = m + 20 * j + 20 by omega]; exact u', fun q hq => by
            have a := kj q hq
            have b := k' q a.1
            exact ⟨b.1, b.2.trans a.2⟩⟩
        · have h3 := h2 i (by omega)
          simp only [if_neg e]
          exact h3
  exact key n (Nat.le_refl _)
theorem mark_free {L : List Pg} (y : PlY L) : (plMark L).countP yng + plFree L = L.length := by
  unfold plMark plFree
  rw [List.countP_map]
  have key : ∀ n, n ≤ L.length → (L.take n).countP (yng ∘ markP) + (L.take n).countP Pg.free = n := by
    intro n
    induction n with
    | zero => intro _; rfl
    | succ n ih =>
      intro hn
      have := ih (by omega)
      rw [List.take_succ_eq_append_getElem (by omega), List.countP_append, List.countP_append]
      have hp : plAt L n = L[n] := plAt_get L n (by omega)
      have hx : [L[n]].countP (yng ∘ markP) + [L[n]].countP Pg.free = 1 := by
        rcases y n with q | ⟨q, c⟩
        · rw [hp] at q
          have h1 : yng (markP L[n]) = true := by unfold markP yng; rw [if_pos q]; rfl
          have h2 : L[n].free = false := by unfold Pg.free; rw [q]; simp
          simp [List.countP_cons, h1, h2]
        · rw [hp] at q c
          have h1 : yng (markP L[n]) = false := by unfold markP yng; rw [if_neg (by omega), q]; rfl
          have h2 : L[n].free = true := by unfold Pg.free; rw [q, c]; rfl
          simp [List.countP_cons, h1, h2]
      omega
  have := key L.length (Nat.le_refl _)
  rwa [List.take_length] at this
theorem KT.mark {X : DSt} {L : List Pg} {B : List Int} {lv : Nat} {root : Int} {l : List (Int × Int)} {d : Nat} (o : KT X L B lv root l d 0) : KT X (plMark L) B lv root l d ((plMark L).countP yng) := by
  refine ⟨o.iv.mark, o.bl, o.rt, o.pg, fun i => ?_, rfl⟩
  have hm : (plAt (plMark L) i) = markP (plAt L i) := by unfold plMark; rw [plAt_map _ _ mark0]
  rw [hm]
  rcases o.pm.toY i with q | q
  · exact Or.inr (Or.inl (by unfold markP; rw [if_pos q]))
  · exact Or.inr (Or.inr (Or.inr (by unfold markP; rw [if_neg (by omega)]; exact q)))
theorem mark_yng {L : List Pg} (y : PlY L) (q : Nat) (h : (plAt (plMark L) q).free = false) : yng (plAt (plMark L) q) = true := by
  have hm : (plAt (plMark L) q) = markP (plAt L q) := by unfold plMark; rw [plAt_map _ _ mark0]
  rw [hm] at h ⊢
  rcases y q with r | ⟨r, c⟩
  · unfold markP yng; rw [if_pos r]; rfl
  · exfalso
    unfold markP Pg.free at h
    rw [if_neg (by omega), r, c] at h
    cases h
/-- What was done behind a mark is undone. -/
theorem KT.undo {X X' : DSt} {L : List Pg} {B : List Int} {lv : Nat} {root : Int} {l : List (Int × Int)} {d k : Nat} (o : KT X L B lv root l d k) (hx : ∀ q : Nat, (plAt L q).free = false → rdN X' (q : Int) = rdN X (q : Int)) : KT X' L B lv root l d k := by
  have hT := o.iv.toT
  have hlf : ∀ q : Nat, 0 < cntL L q → (plAt L q).free = false := fun q hq => (hT.live (by rw [cntT_nil]; exact hq)).1
  have hE : Ext X L X' L := ⟨rfl, o.iv.di.ok, fun y => y, fun q hq => ⟨hx q hq, hq, Nat.le_refl _⟩⟩
  refine ⟨o.iv.write fun q hq => hx q (hlf q hq), fun b hb => ?_, ?_, o.pg, o.pm⟩
  · obtain ⟨b0, b1, b2⟩ := o.bl b hb
    have hp := (hT.root (rtsB_B (root := root) hb)).2
    have e := hx b.toNat (hT.live hp).1
    rw [Int.toNat_of_nonneg b0] at e
    rw [e]
    exact ⟨b0, b1, b2⟩
  · rcases o.rt with h | ⟨h0, h6, t, e, hp⟩
    · exact Or.inl h
    · have hlv := o.live (by omega)
      obtain ⟨a1, a2, _⟩ := okT.ext hT hE t h0 hlv.2
      exact Or.inr ⟨h0, h6, a1, a2.trans e, by rw [absT.ext hT hE t h0 hlv.2]; exact hp⟩
end Go.Proofs.YtmkinaijkgkgiaaGreat
/- The document's Trim of layer 11; no condition. -/
namespace Go.Proofs.YtmkinaijkgkgiaaGreat
open Go.RowKit Go.Proofs.U
set_option linter.unusedSimpArgs false
set_option linter.unusedVariables false
set_option maxRecDepth 100000 in
set_option maxHeartbeats 8000000 in
theorem refTrim_any (v vk : Value) (la : List (Int × Int)) (ks : List Int) (n : Nat) (hn : n ≤ ks.length) (h1 : ∀ (i : Nat) (h : i < ks.length), i < n → 0 ≤ ks[i] ∧ ks[i] ≤ 63) (hb : ∀ hk : n < ks.length, ks[n] < 0 ∨ 63 < ks[n]) (w : World) (hv : SlR enC 2 w v la) (hk : SlI .i64 w vk ks) (hl : la.length ≤ 1000) (hkl : ks.length ≤ 1000) :
    Calls Tryz.prog 22 #[v, vk] w fun r w' => ∃ u, r = .returned (.tuple #[u, .int .i64 (if n = ks.length then 0 else 101)]) ∧ (n = ks.length → SlR enC 2 w' u (ks.foldl cutL la)) ∧ Fr noB w w' := by
  obtain ⟨a0, c0, hv0⟩ : ∃ a c, vk = .slice a ks.length c := ⟨_, _, hk.1.choose_spec.choose_spec.1⟩
  subst hv0
  have h1' := show Hid _ from h1
  have hb' := show Hid _ from hb
  clear h1 hb
  go_enter Tryz.func22, Tryz.ntmps22
  go_wp2
  go_loopw [10, 0] (fun i u wr => ∃ (k : Nat), k ≤ n ∧ i = .int .i64 (k : Int) ∧ SlR enC 2 wr u ((ks.take k).foldl cutL la) ∧ Fr noB w wr) (fun i _ _ => ks.length - (intOf i).toNat)
  case atStart => exact ⟨0, Nat.zero_le _, rfl, hv, Fr.refl _ _⟩
  case round =>
    obtain ⟨j, hj, rfl, hu, hf⟩ := hrel
    have hvj := (hk.fr0 hf).1
    have hle := cutF_le (ks.take j) la
    by_cases hlt : j < ks.length
    · obtain ⟨x, Hx⟩ : ∃ x, Hid (ks[j] = x) := ⟨ks[j], (rfl : ks[j] = ks[j])⟩
      have hlt' : (j : Int) < (ks.length : Int) := by omega
      by_cases hjn : j < n
      · have hr := h1'.out j hlt hjn
        rw [Hx.out] at hr
        have k1 : decide (x < (0 : Int)) = false := decide_eq_false (by omega)
        have k2 : decide ((63 : Int) < x) = false := decide_eq_false (by omega)
        have hs : Hid ((ks.take (j + 1)).foldl cutL la = cutL ((ks.take j).foldl cutL la) x) := by
          show _ = _
          rw [List.take_succ_eq_append_getElem hlt, List.foldl_append, Hx.out]; rfl
        generalize (ks.take j).foldl cutL la = lj at *
        obtain ⟨b, hbb⟩ : ∃ b, Hid (decide ((cutL lj x).length < lj.length) = b) := ⟨_, rfl⟩
        have hRC := fun W vv (h : SlR enC 2 W vv lj) => refCut_any vv lj x W h (by omega)
        rw [hbb.out] at hRC
        obtain ⟨aw, cw, hww, _⟩ := hu.opn
        subst hww
        go_wp2_with (first
          | (with_reducible refine at_wpP ?_; refine at_idx 52 _ _ rfl ?_; go_must (refine wpList_idx1 rfl 52 _ _ rfl 3 Tryz.underlying52 int_size1 (.slice a0 ks.length c0) _ _ rfl hvj .i64 (j : Int) j rfl rfl hlt ?_; intro pp u hu' hcu; obtain rfl := getX hu' hlt Hx.out))
          | (go_at_call 11; go_must (refine (hRC _ _ hu).mono ?_; rintro e w5 ⟨uv, rfl, ovv, f5⟩; have z5 := f5.size)))
        go_roundw
        case rel => exact ⟨j + 1, by omega, by go_num, by rw [hs.out]; exact ovv.sl, hf.thenN f5⟩
        case measure => simp [intOf]; omega
      · obtain rfl : j = n := by omega
        have hbx := hb'.out hlt
        rw [Hx.out] at hbx
        have hne : ¬ j = ks.length := by omega
        by_cases hx0 : x < 0
        · have k1 : decide (x < (0 : Int)) = true := decide_eq_true hx0
          clear hbx
          go_wp2_with (first
            | (with_reducible refine at_wpP ?_; refine at_idx 52 _ _ rfl ?_; go_must (refine wpList_idx1 rfl 52 _ _ rfl 3 Tryz.underlying52 int_size1 (.slice a0 ks.length c0) _ _ rfl hvj .i64 (j : Int) j rfl rfl hlt ?_; intro pp u hu' hcu; obtain rfl := getX hu' hlt Hx.out)))
          go_ret2
          exact ⟨⟨_, rfl⟩, hf⟩
        · have k1 : decide (x < (0 : Int)) = false := decide_eq_false hx0
          have k2 : decide ((63 : Int) < x) = true := decide_eq_true (by omega)
          clear hbx
          go_wp2_with (first
            | (with_reducible refine at_wpP ?_; refine at_idx 52 _ _ rfl ?_; go_must (refine wpList_idx1 rfl 52 _ _ rfl 3 Tryz.underlying52 int_size1 (.slice a0 ks.length c0) _ _ rfl hvj .i64 (j : Int) j rfl rfl hlt ?_; intro pp u hu' hcu; obtain rfl := getX hu' hlt Hx.out)))
          go_ret2
          exact ⟨⟨_, rfl⟩, hf⟩
    · obtain rfl : j = ks.length := by omega
      obtain rfl : ks.length = n := by omega
      rw [List.take_length] at hu
      go_wp2
      go_ret2
      exact ⟨_, rfl, hu, hf⟩
end Go.Proofs.YtmkinaijkgkgiaaGreat
/- PruneTrims. (Written by vt_gen.py.) -/
namespace Go.Proofs.YtmkinaijkgkgiaaGreat
open Go.RowKit Go.Proofs.U
set_option linter.unusedSimpArgs false
set_option linter.unusedVariables false
/-- The first key that there can't be, or none. -/
theorem first_bad (ks : List Int) : ∃ n, n ≤ ks.length ∧ (∀ (i : Nat) (h : i < ks.length), i < n → 0 ≤ ks[i] ∧ ks[i] ≤ 63) ∧ ∀ hk : n < ks.length, ks[n] < 0 ∨ 63 < ks[n] := by
  induction ks with
  | nil => exact ⟨0, Nat.le_refl _, fun i h => absurd h (by simp), fun h => absurd h (by simp)⟩
  | cons k ks ih =>
    obtain ⟨n, h0, h1, h2⟩ := ih
    by_cases hk : 0 ≤ k ∧ k ≤ 63
    · refine ⟨n + 1, by simp; omega, fun i h hi => ?_, fun h => ?_⟩
      · cases i with
        | zero => exact hk
        | succ i => exact h1 i (by simpa using h) (by omega)
      · exact h2 (by simpa using h)
    · exact ⟨0, by omega, fun i h hi => absurd hi (by omega), fun _ => by show k < 0 ∨ 63 < k; omega⟩
theorem trimR_ok {n : Nat} {root : Int} : trimR n n root = .tuple #[.int .i64 root, .int .i64 0] := by unfold trimR; rw [if_pos rfl]
theorem trimR_no {n k : Nat} (h : ¬ n = k) {root : Int} : trimR n k root = .tuple #[.int .i64 (-1), .int .i64 101] := by unfold trimR; rw [if_neg h]
theorem ownE_no {pg : Int} {ks : List Int} {k : Int} (h : ¬ (0 ≤ k ∧ k < 64)) : ownE pg (ks ++ [k]) = ownE pg ks := by
  rw [ownE_snoc, if_neg h, List.append_nil]
theorem SlI.blkLt {w : World} {v : Value} {l : List Int} (h : SlI .i64 w v l) (hl : 0 < l.length) : ∀ x, v.ownBlock = some x → x < w.heap.size := by
  obtain ⟨a, cap, rfl, h1, h2, h3, h4⟩ := h.1
  intro x hx
  cases a with
  | none => cases hx
  | some ad =>
    have hc := h4 ad rfl 0 (.int .i64 l[0]) (by simp [hl])
    have hb := World.block_lt_of_cell? w _ hc
    have e : x = ad.block := by
      simp [Value.ownBlock] at hx
      omega
    rw [e]
    exact hb
set_option maxRecDepth 100000 in
set_option maxHeartbeats 40000000 in
theorem ptrims_walk (v : Value) (ks : List Int) (vt : Value) (ts : List Int) (w : World) (hv : SlI .i64 w v ks) (ht : SlI .i64 w vt ts) :
    Calls Tryz.prog 4 #[v, vt] w fun r w' => r = .returned (.bool true) ∧ Below w.heap.size w w' := by
  obtain ⟨a0, c0, hv0⟩ : ∃ a c, v = .slice a ks.length c := ⟨_, _, hv.1.choose_spec.choose_spec.1⟩
  subst hv0
  obtain ⟨a1, c1, hv1⟩ : ∃ a c, vt = .slice a ts.length c := ⟨_, _, ht.1.choose_spec.choose_spec.1⟩
  subst hv1
  by_cases cc0 : (70 : Int) < (ks.length : Int)
  · have d0 : decide ((70 : Int) < (ks.length : Int)) = true := decide_eq_true cc0
    go_enter Tryz.func4, Tryz.ntmps4
    go_wp2_with (first
      | (go_at_call 6; go_must (refine (palive_any _).mono ?_; rintro e w0 ⟨rfl, f0⟩; have z0 := f0.size)))
    go_ret
    exact ⟨rfl, f0.below⟩
  · have d0 : decide ((70 : Int) < (ks.length : Int)) = false := decide_eq_false cc0
    by_cases cc1 : (70 : Int) < (ts.length : Int)
    · have d1 : decide ((70 : Int) < (ts.length : Int)) = true := decide_eq_true cc1
      go_enter Tryz.func4, Tryz.ntmps4
      go_wp2_with (first
        | (go_at_call 6; go_must (refine (palive_any _).mono ?_; rintro e w0 ⟨rfl, f0⟩; have z0 := f0.size)))
      go_ret
      exact ⟨rfl, f0.below⟩
    · have d1 : decide ((70 : Int) < (ts.length : Int)) = false := decide_eq_false cc1
      have hN : plN (sizeN 200) = 196 := by decide
      have hM := fun W => made_P 200 (by decide) W
      rw [hN] at hM
      clear hN
      go_enter Tryz.func4, Tryz.ntmps4
      go_wp2_with (first
        | (go_at_call 6; go_must (refine (palive_any _).mono ?_; rintro e w0 ⟨rfl, f0⟩; have z0 := f0.size))
        | (go_at_call 7; go_must (refine (hM _).mono ?_; rintro e w1 ⟨gs, gp, F, X, L, pg, rfl, st1, A1, B1⟩; have z1 := A1.fr.size))
        | (with_reducible refine at_wpP ?_; refine wpList_allocG rfl 28 rfl (.agg #[.pointer none]) [.pointer none] pr_zero rfl ?_; intro g2 w2 hg2 b2 f2 s2; have l2 := b2.lt; have z2 := f2.size)
        | (with_reducible refine at_wpP ?_; refine at_st 28 _ _ rfl ?_; go_must (refine wpList_stP rfl _ _ rfl g2 rfl gs rfl (.pointer none) b2 ?_; intro w3 b3 f3; have F3 := Fr.ownX f2 s2 f3; have z3 := f3.size; have l3 := b3.lt))
        | (with_reducible refine at_wpP ?_; have q := o6; refine wpList_mk0 enC 2 rfl 31 rfl 40 Tryz.underlying31 en_size ?_; intro g7 w7 o7 f7 s7 t7; have z7 := f7.size)
        | (with_reducible refine at_wpP ?_; refine wpList_mk0 enC 2 rfl 31 rfl 40 Tryz.underlying31 en_size ?_; intro g6 w6 o6 f6 s6 t6; have z6 := f6.size))
      have hgp := st1.ltp
      have hgs := st1.lts
      have hFt := st1.ft
      have A6 := (A1.fr0 F3)
      have st6 := (st1.fr0 F3)
      have b6 := b3
      have hv6 := (((hv.fr0 f0).fr0 A1.fr).fr0 F3)
      have ht6 := (((ht.fr0 f0).fr0 A1.fr).fr0 F3)
      have hpgw : (Lit.int .i64 pg).wf = true := by
        have h1 := B1.iv.toT.root (r := pg) (by simp)
        have h2 := B1.iv.toT.low h1.2
        exact wfSm (by omega) (by omega)
      have hpg0 := B1.p0
      have hln0 := show Hid _ from B1.ln
      have k0 := B1.kt
      clear B1
      go_loopw [48, 8, 9] (fun i v u wr => ∃ (k : Nat) (o l : List (Int × Int)), k ≤ ks.length ∧ i = .int .i64 (k : Int) ∧ OwnR enC 2 40 wr w3.heap.size v o ∧ OwnR enC 2 40 wr w3.heap.size u l ∧ (∀ q, v.ownBlock = some q → ¬ u.ownBlock = some q) ∧ Hid (o = ownE pg (ks.take k) ∧ l = o.foldl putL []) ∧ o.length ≤ k ∧ l.length ≤ k ∧ Fr noB w3 wr) (fun i _ _ _ => ks.length - (intOf i).toNat)
      case atStart =>
        refine ⟨0, [], [], Nat.zero_le _, rfl, o6.fr0 f7, o7.rebase (by omega), fun q h1 h2 => ?_, ⟨rfl, rfl⟩, by simp, by simp, f6.thenN f7⟩
        have h3 := (o6.newB q h1).2
        have h4 := (o7.newB q h2).1
        omega
      case round =>
        obtain ⟨j, o, l, hj, rfl, ho, hu0, hap, he, hol, hll, hf⟩ := hrel
        have zf := hf.size
        have hnb := ho.newB
        have hnu := hu0.newB
        obtain ⟨ao, co, rfl⟩ := ho.opn
        obtain ⟨aw, cw, rfl⟩ := hu0.opn
        have hvj := (hv6.fr0 hf).1
        by_cases hlt : j < ks.length
        · obtain ⟨y, Hx⟩ : ∃ y, Hid (ks[j] = y) := ⟨ks[j], (rfl : ks[j] = ks[j])⟩
          have hlt' : (j : Int) < (ks.length : Int) := by omega
          have hj70 : j ≤ 70 := by omega
          by_cases hy : 0 ≤ y ∧ y < 64
          · have hsn : Hid (o ++ [(y, pg)] = ownE pg (ks.take (j + 1)) ∧ putL l (y, pg) = (o ++ [(y, pg)]).foldl putL []) := by
              obtain ⟨e1, e2⟩ := he.out
              refine ⟨?_, ?_⟩
              · rw [List.take_succ_eq_append_getElem hlt, Hx.out, ownE_snoc, if_pos hy, ← e1]
              · rw [List.foldl_append, ← e2]; rfl
            have hrp := fun W vv (h : SlR enC 2 W vv l) => refPut_any vv l (y, pg) W h ⟨by show 0 ≤ y; omega, by show y ≤ 63; omega⟩ (by omega)
            have hpl := putL_le l (y, pg)
            clear he
            generalize putL l (y, pg) = l2 at *
            go_wp2_with (first
              | (with_reducible refine at_wpP ?_; refine at_idx 52 _ _ rfl ?_; go_must (refine wpList_idx1 rfl 52 _ _ rfl 3 Tryz.underlying52 int_size1 (.slice a0 ks.length c0) _ _ rfl hvj .i64 (j : Int) j rfl rfl hlt ?_; intro pp u hu hcu; obtain rfl := getX hu hlt Hx.out))
              | (with_reducible refine at_wpP ?_; refine wpList_bldE rfl _ _ rfl _ _ rfl rfl ?_)
              | (with_reducible refine at_wpP ?_; refine wpList_allocE rfl rfl ?_; intro gl w8 hgl b8 f8 sl; have l8 := b8.lt; have z8 := f8.size)
              | (with_reducible refine at_wpP ?_; refine at_st 40 _ _ rfl ?_; go_must (refine wpList_stE rfl _ _ rfl gl rfl (0, 0) (y, pg) b8 rfl ?_; intro w9 B9 f9; have F9 := Fr.ownX f8 sl f9; have z9 := f9.size; have ho9 := ho.fr0 F9; have hu9 := hu0.fr0 F9))
              | (with_reducible refine at_wpP ?_; refine at_ld 40 _ rfl ?_; have q := B9; go_must (first | refine wpList_ldE rfl _ rfl gl 0 rfl (y, pg) (bx_cells B10) ?_ | refine wpList_ldE rfl _ rfl gl 0 rfl (y, pg) (bx_cells B9) ?_))
              | (go_at_call 9; go_must (refine (hrp _ _ hu9.sl).mono ?_; rintro e w10 ⟨uv, rfl, ov, f10⟩; have z10 := f10.size; have B10 := B9.fr0 f10; have ho10 := ho9.fr0 f10))
              | (with_reducible refine at_wpP ?_; refine wpList_mkC rfl 31 _ rfl uE _ en_info2 (by decide) (by decide) (y, pg) (enV (y, pg)) rfl rfl rfl ?_; intro g11 w11 b11 f11 s11; have z11 := f11.size)
              | (at_builtin; have q := b11; go_must (refine wpList_appL rfl _ _ 31 rfl _ 16 uE en_info rfl (by decide) (.slice ao o.length co) rfl (ho10.fr0 f11) g11 rfl (y, pg) rfl _ b11 (en_one _) ?hq1 ?hq2 ?hq3 ?_; rotate_left 3; intro u12 w12 o12 f12 p12; have z12 := f12.size)))
            case hq1 => unfold maxLen; omega
            case hq2 => omega
            case hq3 => omega
            go_roundw
            case rel =>
              have ov12 := (ov.fr0 f11).fr f12 (fun k hk e => by
                have h1 := (ov.newB k hk).1
                have h2 := (hnb k e).2
                omega)
              refine ⟨j + 1, o ++ [(y, pg)], l2, by omega, by go_num, o12, ov12.rebase (by omega), fun q h1 h2 => ?_, hsn, by rw [List.length_append, List.length_singleton]; omega, by omega, ((hf.thenN F9).thenN f10).thenN f11 |>.thenT f12 (fun k hk e => by have := (hnb k e).1; omega)⟩
              have h3 := ov.newB q h2
              rcases p12 q h1 with r | r
              · have := (hnb q r).2; omega
              · omega
            case measure => simp [intOf]; omega
          · have hsn : Hid (o = ownE pg (ks.take (j + 1)) ∧ l = o.foldl putL []) := by
              obtain ⟨e1, e2⟩ := he.out
              exact ⟨by rw [List.take_succ_eq_append_getElem hlt, Hx.out, ownE_no hy]; exact e1, e2⟩
            clear he
            go_wp2_with (first
              | (with_reducible refine at_wpP ?_; refine at_idx 52 _ _ rfl ?_; go_must (refine wpList_idx1 rfl 52 _ _ rfl 3 Tryz.underlying52 int_size1 (.slice a0 ks.length c0) _ _ rfl hvj .i64 (j : Int) j rfl rfl hlt ?_; intro pp u hu hcu; obtain rfl := getX hu hlt Hx.out))
              | (with_reducible refine at_wpP ?_; refine wpList_bldE rfl _ _ rfl _ _ rfl rfl ?_)
              | (with_reducible refine at_wpP ?_; refine wpList_allocE rfl rfl ?_; intro gl w8 hgl b8 f8 sl; have l8 := b8.lt; have z8 := f8.size)
              | (with_reducible refine at_wpP ?_; refine at_st 40 _ _ rfl ?_; go_must (refine wpList_stE rfl _ _ rfl gl rfl (0, 0) (y, pg) b8 rfl ?_; intro w9 B9 f9; have F9 := Fr.ownX f8 sl f9; have z9 := f9.size; have ho9 := ho.fr0 F9; have hu9 := hu0.fr0 F9))
              | (with_reducible refine at_wpP ?_; refine at_ld 40 _ rfl ?_; have q := B9; go_must (refine wpList_ldE rfl _ rfl gl 0 rfl (y, pg) (bx_cells B9) ?_))
              | (go_at_call 9; go_must (refine (refPut_no _ (y, pg) _ (by show y < 0 ∨ 63 < y; omega)).mono ?_; rintro e w10 ⟨rfl, f10⟩; have z10 := f10.size)))
            go_roundw
            case rel => exact ⟨j + 1, o, l, by omega, by go_num, ho9.fr0 f10, hu9.fr0 f10, hap, hsn, by omega, by omega, (hf.thenN F9).thenN f10⟩
            case measure => simp [intOf]; omega
        · obtain rfl : j = ks.length := by omega
          obtain ⟨he1, he2⟩ := he.out
          rw [List.take_length] at he1
          have hmm : ∀ x ∈ o, (0 ≤ x.1 ∧ x.1 ≤ 63) ∧ x.2 ∈ [pg] := fun x hx => ownE_mem (by rw [← he1]; exact hx)
          clear he he1
          have Ar := A6.fr0 hf
          have str := st6.fr0 hf
          have br := b6.fr0 hf
          have lr := br.lt
          have htr := ht6.fr0 hf
          have hol70 : o.length ≤ 70 := by omega
          obtain ⟨s, s0, sS, sK⟩ := KT.steps (s0 := ⟨X, L, 0, -1⟩) o k0 (m := 1) (by decide) (by omega) hmm st1.up (by simp) (by have := hln0.out; show 17 + 1 + (o.length + 1) / 2 ≤ L.length; omega)
          obtain ⟨o4, ln4, up4⟩ := sK o.length (Nat.le_refl _)
          rw [List.take_length, ← he2] at o4
          have hB := fun W (st : Sto W F gs gp (s 0).X (s 0).L 1) (hS : SlR enC 2 W (.slice ao o.length co) o) (hvv : ∀ x, Value.ownBlock (.slice ao o.length co) = some x → ¬ F x ∧ x ≠ gp) => Build_steps s o (by rw [s0]) (fun k hk => (sS k hk).1) (by decide) (by omega) _ W st hS hvv
          rw [s0] at hB
          generalize s o.length = S4 at hB o4 ln4 up4
          clear sS sK s0 s he2
          have hL4 : Hid (S4.L.length = 196) := show _ from ln4.trans hln0.out
          clear ln4 hln0 k0
          obtain ⟨m4, Hm4⟩ : ∃ m4, 1 + 20 * o.length = m4 := ⟨_, rfl⟩
          rw [Hm4] at hB up4
          have hm4 : m4 ≤ 1401 := by omega
          clear Hm4
          have hup := o4.up
          have hocc := o4.occ
          have hfr4 := o4.free
          have hmf := mark_free o4.pm.toY
          have hB1l : [pg].length = 1 := rfl
          have oM := o4.mark
          have hyM := mark_yng o4.pm.toY
          have hokM := mark_ok o4.iv.di.ok
          have hlM : (plMark S4.L).length = 196 := by rw [mark_len]; exact hL4.out
          have hUM : Up S4.X (plMark S4.L).length m4 := by rw [mark_len]; exact up4
          have hfM := free_mark S4.L
          obtain ⟨fr, HF⟩ : ∃ f : Int, Hid (((plFree S4.L : Nat) : Int) = f) := ⟨_, rfl⟩
          have hL4' := hL4.out
          have hwf : ∀ z ∈ l, (Lit.int .i64 z.1).wf = true ∧ (Lit.int .i64 z.2).wf = true := fun z hz => by
            have h1 := hup.2.1 z hz
            have h2 := o4.pg z hz
            simp at h2
            exact ⟨wfSm (by omega) (by omega), by rw [h2]; exact hpgw⟩
          have hl64 := hup.2.2
          obtain ⟨M, HM⟩ : ∃ M, Hid (plMark S4.L = M) := ⟨_, rfl⟩
          rw [HM.out] at oM hyM hokM hlM hUM hfM hmf
          have HFM : Hid (((plFree M : Nat) : Int) = fr) := by show _ = _; rw [hfM]; exact HF.out
          obtain ⟨X4, L4, lv4, rt⟩ := S4
          simp only at hB o4 up4 oM hUM HM HF hL4 hfr4 hocc hL4' hmf hfM
          obtain ⟨n, hn, hgood, hbad⟩ := first_bad ts
          obtain ⟨s, s0, sS, sK⟩ := KT.trims (S0 := ⟨X4, M, lv4, rt⟩) ts n hn oM (m := m4) (by omega) (by omega) hgood hUM (by simp) (by show 8 + (M.countP yng + ([pg].length + 33)) ≤ M.length; omega)
          obtain ⟨⟨dn, on, hdn⟩, lnn, upn, kpn⟩ := sK n (Nat.le_refl _)
          have hTr := fun (F' : Nat → Prop) W (h : Sto W F' gs gp X4 M m4) (hv : SlI .i64 W (.slice a1 ts.length c1) ts) (hvF : 0 < ts.length → ∀ x, Value.ownBlock (.slice a1 ts.length c1) = some x → ¬ F' x ∧ x ≠ gp) => Trim_steps (F := F') (gs := gs) (gp := gp) (m := m4) s ts n hn sS hbad (by omega) (by omega) _ W (by rw [s0]; exact h) hv hvF
          rw [s0] at hTr
          simp only at hTr
          have hRT := fun W vv (h : SlR enC 2 W vv l) (hv : SlI .i64 W (.slice a1 ts.length c1) ts) => refTrim_any vv (.slice a1 ts.length c1) l ts n hn hgood hbad W h hv (by omega) (by omega)
          have hsn := sK n (Nat.le_refl _)
          generalize s n = Sn at hTr on lnn upn kpn
          obtain ⟨Xn, Ln, lvn, rtn⟩ := Sn
          simp only at hTr on lnn upn kpn
          clear sS sK s0 s hsn hgood hbad
          have oU := oM.undo (X' := Xn) (fun q hq => (kpn q (hyM q hq)).2)
          clear kpn hyM upn
          obtain ⟨mn, Hmn⟩ : ∃ x, m4 + 20 * n = x := ⟨_, rfl⟩
          rw [Hmn] at hTr
          have hmn : mn ≤ 100000 := by omega
          clear Hmn
          have hnBr : ∀ q, w1.heap.size ≤ q → ¬ stB F gp q := fun q hq s => by
            rcases s with s | s
            · have := hFt _ s; omega
            · omega
          have hvvr : ∀ x, Value.ownBlock (.slice ao o.length co) = some x → ¬ F x ∧ x ≠ gp := fun q hq => by
            have := (hnb q hq).1
            exact ⟨fun s => by have := hFt _ s; omega, by omega⟩
          have hgr := hnBr _ s2
          have hvt := SlI.blkLt ht
          have hLL : Hid ((l == l) = true) := by show _ = _; simp
          by_cases hnn : n = ts.length
          · subst hnn
            rw [List.take_length] at on hdn
            have hRT' : ∀ W vv, SlR enC 2 W vv l → SlI .i64 W (.slice a1 ts.length c1) ts → Calls Tryz.prog 22 #[vv, .slice a1 ts.length c1] W fun r w' => ∃ u, r = .returned (.tuple #[u, .int .i64 0]) ∧ SlR enC 2 w' u (ts.foldl cutL l) ∧ Fr noB W w' := fun W vv h hv => (hRT W vv h hv).mono (by
              rintro e w' ⟨u, rfl, h2, f⟩
              exact ⟨u, by rw [if_pos rfl], h2 rfl, f⟩)
            clear hRT
            have hupn := on.up
            generalize ts.foldl cutL l = ln at *
            have hwn : ∀ z ∈ ln, (Lit.int .i64 z.1).wf = true ∧ (Lit.int .i64 z.2).wf = true := fun z hz => by
              have h1 := hupn.2.1 z hz
              have h2 := on.pg z hz
              simp at h2
              exact ⟨wfSm (by omega) (by omega), by rw [h2]; exact hpgw⟩
            have hLn : Hid ((ln == ln) = true) := by show _ = _; simp
            have hln64 := hupn.2.2
            have hLz := fun (F' : Nat → Prop) W (s : Sto W F' gs gp Xn Ln mn) => List_ok on.iv.toT hmn on.rk W s
            go_upto_region 20 with (first
              | (with_reducible refine at_wpP ?_; refine at_ld 26 _ rfl ?_; have q := br; go_must (refine wpList_ldPT rfl _ rfl g2 rfl gs br ?_))
              | (go_at_call 17; go_must (refine (hB _ str ho.sl hvvr).mono ?_; rintro e w15 ⟨F5, rfl, T5⟩; have z15 := T5.fr.size)))
            have b15 := br.fr T5.fr hgr
            have g15 := T5.off hgr lr
            have A15 := Ar.st T5
            have l15 := b15.lt
            have hF5 := T5.st.ft
            have hgp5 := T5.st.ltp
            have c15 := pr_cell b15
            have hu15 := hu0.fr T5.fr (fun k hk q => by
              have := (hnu k hk).1
              rcases q with q | q
              · have := hFt _ q; omega
              · omega)
            have offu15 := T5.offR (v := .slice aw l.length cw) (fun k hk => ⟨fun q => by
              have := (hnu k hk).1
              rcases q with q | q
              · have := hFt _ q; omega
              · omega, (hnu k hk).2⟩)
            have offt : 0 < ts.length → ∀ x, Value.ownBlock (.slice a1 ts.length c1) = some x → ¬ F5 x ∧ x ≠ gp := fun h0 x hx => by
              have h1 := hvt h0 x hx
              refine ⟨fun q => ?_, by have := A1.p; omega⟩
              rcases (T5.ft _ q).1 with r | r
              · have := A1.f _ r; omega
              · omega
            go_upto_region 24 with (first
              | (go_at_call 18; go_must (refine (nmark_any _ T5.st).mono ?_; rw [HM.out]; rintro e w16 ⟨gm, rfl, hgm, pm16, s16, f16⟩; have z16 := f16.size; have lgm := pm16.lt; have b16 := b15.ne f16 (fun q => g15 (Or.inr q)); have c16 := pr_cell b16))
              | (go_at_call 19; have q := s16; go_must (refine (npool_any _ s16).mono ?_; rintro e w17 ⟨rfl, rfl⟩))
              | (go_at_call 20; have q := s16; go_must (refine (free_F s16 HFM.out).mono ?_; rintro e w17 ⟨rfl, rfl⟩)))
            have A16 := A15.pool f16
            have l16 := b16.lt
            have hu16 := hu15.fr f16 (fun k hk q => (offu15 k hk).1 (Or.inr q))
            have ht16 := (ht.fr0 f0).fr0 A16.fr
            go_upto_region 25 with (first
              | (with_reducible refine at_wpP ?_; refine at_ld 28 _ rfl ?_; have q := b16; go_must (refine wpList_ldP rfl _ rfl g2 rfl gs b16 ?_))
              | (go_at_call 21; go_must (refine (hTr _ _ s16 ht16 offt).mono ?_; rw [trimR_ok]; rintro e w18 ⟨F8, rfl, T8⟩; have z18 := T8.fr.size)))
            have b18 := b16.fr T8.fr g15
            have g18 := T8.off g15 l16
            have A18 := A16.st T8
            have c18 := pr_cell b18
            have hu18 := hu16.fr T8.fr (fun k hk => (offu15 k hk).1)
            have offu18 := T8.offR (v := .slice aw l.length cw) (fun k hk => ⟨(offu15 k hk).1, Nat.lt_of_lt_of_le (offu15 k hk).2 z16⟩)
            have ht18 := (ht.fr0 f0).fr0 A18.fr
            go_upto_region 26 with (first
              | (go_at_call 22; go_must (refine (hRT' _ _ hu18.sl ht18).mono ?_; rintro e w19 ⟨un, rfl, hun, f19⟩; have z19 := f19.size)))
            have c19 := pr_cell (b18.fr0 f19)
            obtain ⟨an, cn, hunn, _⟩ := hun.opn
            subst hunn
            go_upto_region 33 with (first
              | (with_reducible refine at_wpP ?_; refine at_ld 26 _ rfl ?_; have q := (b18.fr0 f19); go_must (refine wpList_ldPT rfl _ rfl g2 rfl gs (b18.fr0 f19) ?_))
              | (go_at_call 12; go_must (refine (hLz _ _ (T8.st.fr0 f19)).mono ?_; rintro e w20 ⟨uz, rfl, oz, f20⟩; have z20 := f20.size)))
            obtain ⟨az, cz, huz⟩ := oz.opn
            subst huz
            have b20 := (b18.fr0 f19).fr0 f20
            have hwz := EnO.slp oz hwn
            have hwu : SlP .i64 .i64 w20 (.slice an ln.length cn) ln := ⟨hun.fr0 f20, hwn⟩
            go_wp2_with (first
              | (go_at_call 13; go_must (refine (same10_any _ _ _ _ _ hwz hwu (by omega)).mono ?_; rw [hLn.out]; rintro e w21 ⟨rfl, f21⟩; have z21 := f21.size; have b21 := b20.fr0 f21))
              | (with_reducible refine at_wpP ?_; refine at_ld 28 _ rfl ?_; have q := b21; go_must (refine wpList_ldP rfl _ rfl g2 rfl gs b21 ?_))
              | (go_at_call 16; go_must (refine (exact_P on hmn _ (((T8.st.fr0 f19).fr0 f20).fr0 f21)).mono ?_; rintro e w22 ⟨rfl, f22⟩)))
            go_ret
            exact ⟨rfl, (f0.thenN ((((A18.fr0 f19).fr0 f20).fr0 f21).pool f22).fr).below⟩
          · skip
            have hRT' : ∀ W vv, SlR enC 2 W vv l → SlI .i64 W (.slice a1 ts.length c1) ts → Calls Tryz.prog 22 #[vv, .slice a1 ts.length c1] W fun r w' => ∃ u, r = .returned (.tuple #[u, .int .i64 101]) ∧ Fr noB W w' := fun W vv h hv => (hRT W vv h hv).mono (by
              rintro e w' ⟨u, rfl, h2, f⟩
              exact ⟨u, by rw [if_neg hnn], f⟩)
            clear hRT
            have hLz := fun (F' : Nat → Prop) W (s : Sto W F' gs gp Xn M mn) => List_ok oU.iv.toT hmn oU.rk W s
            have hlMn : Hid (M.length = Ln.length) := lnn.symm
            clear on hdn lnn
            go_upto_region 20 with (first
              | (with_reducible refine at_wpP ?_; refine at_ld 26 _ rfl ?_; have q := br; go_must (refine wpList_ldPT rfl _ rfl g2 rfl gs br ?_))
              | (go_at_call 17; go_must (refine (hB _ str ho.sl hvvr).mono ?_; rintro e w15 ⟨F5, rfl, T5⟩; have z15 := T5.fr.size)))
            have b15 := br.fr T5.fr hgr
            have g15 := T5.off hgr lr
            have A15 := Ar.st T5
            have l15 := b15.lt
            have hF5 := T5.st.ft
            have hgp5 := T5.st.ltp
            have c15 := pr_cell b15
            have hu15 := hu0.fr T5.fr (fun k hk q => by
              have := (hnu k hk).1
              rcases q with q | q
              · have := hFt _ q; omega
              · omega)
            have offu15 := T5.offR (v := .slice aw l.length cw) (fun k hk => ⟨fun q => by
              have := (hnu k hk).1
              rcases q with q | q
              · have := hFt _ q; omega
              · omega, (hnu k hk).2⟩)
            have offt : 0 < ts.length → ∀ x, Value.ownBlock (.slice a1 ts.length c1) = some x → ¬ F5 x ∧ x ≠ gp := fun h0 x hx => by
              have h1 := hvt h0 x hx
              refine ⟨fun q => ?_, by have := A1.p; omega⟩
              rcases (T5.ft _ q).1 with r | r
              · have := A1.f _ r; omega
              · omega
            go_upto_region 24 with (first
              | (go_at_call 18; go_must (refine (nmark_any _ T5.st).mono ?_; rw [HM.out]; rintro e w16 ⟨gm, rfl, hgm, pm16, s16, f16⟩; have z16 := f16.size; have lgm := pm16.lt; have b16 := b15.ne f16 (fun q => g15 (Or.inr q)); have c16 := pr_cell b16))
              | (go_at_call 19; have q := s16; go_must (refine (npool_any _ s16).mono ?_; rintro e w17 ⟨rfl, rfl⟩))
              | (go_at_call 20; have q := s16; go_must (refine (free_F s16 HFM.out).mono ?_; rintro e w17 ⟨rfl, rfl⟩)))
            have A16 := A15.pool f16
            have l16 := b16.lt
            have hu16 := hu15.fr f16 (fun k hk q => (offu15 k hk).1 (Or.inr q))
            have ht16 := (ht.fr0 f0).fr0 A16.fr
            go_upto_region 25 with (first
              | (with_reducible refine at_wpP ?_; refine at_ld 28 _ rfl ?_; have q := b16; go_must (refine wpList_ldP rfl _ rfl g2 rfl gs b16 ?_))
              | (go_at_call 21; go_must (refine (hTr _ _ s16 ht16 offt).mono ?_; rw [trimR_no hnn]; rintro e w18 ⟨F8, rfl, T8⟩; have z18 := T8.fr.size)))
            have b18 := b16.fr T8.fr g15
            have g18 := T8.off g15 l16
            have A18 := A16.st T8
            have c18 := pr_cell b18
            have hu18 := hu16.fr T8.fr (fun k hk => (offu15 k hk).1)
            have offu18 := T8.offR (v := .slice aw l.length cw) (fun k hk => ⟨(offu15 k hk).1, Nat.lt_of_lt_of_le (offu15 k hk).2 z16⟩)
            have ht18 := (ht.fr0 f0).fr0 A18.fr
            go_upto_region 26 with (first
              | (go_at_call 22; go_must (refine (hRT' _ _ hu18.sl ht18).mono ?_; rintro e w19 ⟨un, rfl, f19⟩; have z19 := f19.size)))
            have c19 := pr_cell (b18.fr0 f19)
            have pm19 := ((pm16.fr T8.fr (fun q => by
              rcases q with q | q
              · have := hF5 _ q; omega
              · omega)).fr0 f19)
            have b19 := b18.fr0 f19
            go_upto_region 30 with (first
              | (go_at_call 23; go_must (refine (nundo_any _ (T8.st.fr0 f19) pm19 hokM hlMn.out).mono ?_; rintro e w20 ⟨rfl, s20, f20⟩; have z20 := f20.size; have b20 := b19.ne f20 (fun q => g18 (Or.inr q)))))
            have c20 := pr_cell b20
            have hu20 := (hu18.fr0 f19).fr f20 (fun k hk q => (offu18 k hk).1 (Or.inr q))
            go_upto_region 31 with (first
              | (with_reducible refine at_wpP ?_; refine at_ld 26 _ rfl ?_; have q := b20; go_must (refine wpList_ldPT rfl _ rfl g2 rfl gs b20 ?_))
              | (go_at_call 12; go_must (refine (hLz _ _ s20).mono ?_; rintro e w21 ⟨uz, rfl, oz, f21⟩; have z21 := f21.size)))
            obtain ⟨az, cz, huz⟩ := oz.opn
            subst huz
            have b21 := b20.fr0 f21
            have hwz := EnO.slp oz hwf
            have hwu := EnO.slp (hu20.fr0 f21) hwf
            go_wp2_with (first
              | (go_at_call 13; go_must (refine (same10_any _ _ _ _ _ hwz hwu (by omega)).mono ?_; rw [hLL.out]; rintro e w22 ⟨rfl, f22⟩; have z22 := f22.size; have b22 := b21.fr0 f22; have c22 := pr_cell b22; have s22 := (s20.fr0 f21).fr0 f22))
              | (go_at_call 19; have q := s22; go_must (refine (npool_any _ s22).mono ?_; rintro e w23 ⟨rfl, rfl⟩))
              | (go_at_call 20; have q := s22; go_must (refine (free_F s22 HFM.out).mono ?_; rintro e w23 ⟨rfl, rfl⟩))
              | (with_reducible refine at_wpP ?_; refine at_ld 28 _ rfl ?_; have q := b22; go_must (refine wpList_ldP rfl _ rfl g2 rfl gs b22 ?_))
              | (go_at_call 16; go_must (refine (exact_P oU hmn _ s22).mono ?_; rintro e w24 ⟨rfl, f24⟩)))
            go_ret
            exact ⟨rfl, (f0.thenN (((((A18.fr0 f19).pool f20).fr0 f21).fr0 f22).pool f24).fr).below⟩
end Go.Proofs.YtmkinaijkgkgiaaGreat
