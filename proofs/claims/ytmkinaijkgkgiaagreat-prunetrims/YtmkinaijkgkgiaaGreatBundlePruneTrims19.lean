/- Texts JG, JH, JP of the proof of PruneTrims, one behind the other. -/
import Derived.Test.YtmkinaijkgkgiaaGreatBundlePruneTrims1
import Derived.Test.YtmkinaijkgkgiaaGreatBundlePruneTrims2
import Derived.Test.YtmkinaijkgkgiaaGreatBundlePruneTrims3
import Derived.Test.YtmkinaijkgkgiaaGreatBundlePruneTrims4
import Derived.Test.YtmkinaijkgkgiaaGreatBundlePruneTrims5
import Derived.Test.YtmkinaijkgkgiaaGreatBundlePruneTrims6
import Derived.Test.YtmkinaijkgkgiaaGreatBundlePruneTrims7
import Derived.Test.YtmkinaijkgkgiaaGreatBundlePruneTrims8
import Derived.Test.YtmkinaijkgkgiaaGreatBundlePruneTrims9
import Derived.Test.YtmkinaijkgkgiaaGreatBundlePruneTrims10
import Derived.Test.YtmkinaijkgkgiaaGreatBundlePruneTrims11
import Derived.Test.YtmkinaijkgkgiaaGreatBundlePruneTrims12
import Derived.Test.YtmkinaijkgkgiaaGreatBundlePruneTrims13
import Derived.Test.YtmkinaijkgkgiaaGreatBundlePruneTrims14
import Derived.Test.YtmkinaijkgkgiaaGreatBundlePruneTrims15
import Derived.Test.YtmkinaijkgkgiaaGreatBundlePruneTrims16
import Derived.Test.YtmkinaijkgkgiaaGreatBundlePruneTrims17
import Derived.Test.YtmkinaijkgkgiaaGreatBundlePruneTrims18
/- Trees in memory: Split; no condition. -/
namespace Go.Proofs.YtmkinaijkgkgiaaGreat
open Go.RowKit Go.Proofs.U
set_option linter.unusedSimpArgs false
set_option linter.unusedVariables false
/-- The store, behind what turned it: its disk in F'. -/
structure StT (w w' : World) (F F' : Nat → Prop) (gs gp : Nat) (S : DSt × List Pg) (m : Nat) : Prop where
  st : Sto w' F' gs gp S.1 S.2 m
  ft : ∀ k, F' k → (F k ∨ w.heap.size ≤ k) ∧ k < w'.heap.size
  fr : Fr (stB F gp) w w'
theorem StT.fr0 {w w1 w2 : World} {F F' : Nat → Prop} {gs gp : Nat} {S : DSt × List Pg} {m : Nat} (h : StT w w1 F F' gs gp S m) (f : Fr noB w1 w2) : StT w w2 F F' gs gp S m :=
  ⟨h.st.fr0 f, fun k hk => ⟨(h.ft k hk).1, Nat.lt_of_lt_of_le (h.ft k hk).2 f.size⟩, h.fr.thenN f⟩
theorem StT.trans {w w1 w2 : World} {F F1 F2 : Nat → Prop} {gs gp : Nat} {S S2 : DSt × List Pg} {m m2 : Nat} (hF : ∀ k, F k → k < w.heap.size) (h : StT w w1 F F1 gs gp S m) (k : StT w1 w2 F1 F2 gs gp S2 m2) : StT w w2 F F2 gs gp S2 m2 :=
  ⟨k.st, fun x hx => ⟨by
    rcases (k.ft x hx).1 with q | q
    · exact (h.ft x q).1
    · exact Or.inr (Nat.le_trans h.fr.size q), (k.ft x hx).2⟩,
   h.fr.thenT k.fr fun i hi q => by
    rcases q with q | q
    · rcases (h.ft i q).1 with q | q
      · exact Or.inl q
      · omega
    · exact Or.inr q⟩
theorem StT.pre {w0 w w1 : World} {F F' : Nat → Prop} {gs gp : Nat} {S : DSt × List Pg} {m : Nat} (f : Fr noB w0 w) (h : StT w w1 F F' gs gp S m) : StT w0 w1 F F' gs gp S m :=
  ⟨h.st, fun k hk => ⟨(h.ft k hk).1.imp id (fun q => Nat.le_trans f.size q), (h.ft k hk).2⟩, (f.mono (fun _ _ q => q.elim)).thenT h.fr (fun _ _ q => q)⟩
theorem StT.mono {w w1 : World} {F F' : Nat → Prop} {gs gp : Nat} {S : DSt × List Pg} {m m' : Nat} (h : StT w w1 F F' gs gp S m) (hm : m ≤ m') : StT w w1 F F' gs gp S m' := ⟨h.st.mono hm, h.ft, h.fr⟩
theorem StT.start {w : World} {F : Nat → Prop} {gs gp : Nat} {X : DSt} {L : List Pg} {m : Nat} (h : Sto w F gs gp X L m) : StT w w F F gs gp (X, L) m := ⟨h, fun k hk => ⟨Or.inl hk, h.ft k hk⟩, Fr.refl _ _⟩
/-- .. behind what turned a block of one's own. -/
theorem StT.own {w w1 w2 : World} {F F' : Nat → Prop} {gs gp : Nat} {S : DSt × List Pg} {m : Nat} {B : Nat → Prop} (h : StT w w1 F F' gs gp S m) (f : Fr B w1 w2) (hs : ∀ k, B k → ¬ F' k ∧ k ≠ gp ∧ k ≠ gs ∧ w.heap.size ≤ k) : StT w w2 F F' gs gp S m :=
  ⟨h.st.fr f (fun k _ q b => by
    obtain ⟨h1, h2, h3, _⟩ := hs k b
    rcases q with q | q | q
    · exact h1 q
    · exact h2 q
    · exact h3 q), fun k hk => ⟨(h.ft k hk).1, Nat.lt_of_lt_of_le (h.ft k hk).2 f.size⟩, h.fr.thenT f (fun i hi b => by have := (hs i b).2.2.2; omega)⟩
/-- A row of entries and an error's number that are handed back by what turned the store. -/
def SplitIs (w w' : World) (F : Nat → Prop) (gs gp : Nat) (R : (DSt × List Pg) × List (Int × Int) × Int) (m : Nat) (r : Ending) : Prop :=
  ∃ F' u, r = .returned (.tuple #[u, .int .i64 R.2.2]) ∧ StT w w' F F' gs gp R.1 m ∧ EnO w' w.heap.size u R.2.1 ∧ ∀ k, u.ownBlock = some k → ¬ F' k
theorem parts_len {es : List (Int × Int)} (h : es.length ≤ 12) : (partsL es).length ≤ 2 ∧ ∀ p ∈ partsL es, 1 ≤ p.length ∧ p.length ≤ 6 ∧ ∀ x ∈ p, x ∈ es := by
  unfold partsL
  split
  · exact ⟨by simp, by simp⟩
  · split
    · exact ⟨by simp, fun p hp => by simp at hp; subst hp; exact ⟨by omega, by omega, fun x hx => hx⟩⟩
    · refine ⟨by simp, fun p hp => ?_⟩
      simp at hp
      rcases hp with rfl | rfl
      · exact ⟨by rw [List.length_take]; omega, by rw [List.length_take]; omega, fun x hx => List.mem_of_mem_take hx⟩
      · exact ⟨by rw [List.length_drop]; omega, by rw [List.length_drop]; omega, fun x hx => List.mem_of_mem_drop hx⟩
theorem key0_get {p : List (Int × Int)} (h : 0 < p.length) : key0 p = p[0].1 := by
  cases p with
  | nil => simp at h
  | cons x r => rfl
set_option maxRecDepth 100000 in
set_option maxHeartbeats 4000000 in
theorem split_no {F : Nat → Prop} {gs gp : Nat} {X : DSt} {L : List Pg} {m : Nat} (k : Int) (b : List Int) (es : List (Int × Int)) (v : Value) (w : World) (h : Sto w F gs gp X L m) (hn : NdS w v ⟨k, b, es⟩) (hl : 12 < es.length) :
    Calls Tryz.prog 32 #[trV gs, ndV k b v] w fun r w' => SplitIs w w' F gs gp (splF (X, L) k es) m r := by
  unfold splF
  rw [if_pos hl]
  have hb : b.length = 16 := hn.2.1.1
  have Hb : Hid (b.length = 16) := hb
  clear hb
  obtain ⟨a, cap, hv, hcap⟩ := hn.1.1.opn
  subst hv
  simp only at hn
  have hl' : decide ((12 : Int) < (es.length : Int)) = true := by simp; omega
  go_enter Tryz.func32, Tryz.ntmps32
  go_wp2_with (first
    | (with_reducible refine at_wpP ?_; refine wpList_boxG rfl 26 _ rfl (trV gs) [ptr gs] rfl rfl ?_; intro g2 w2 hg2 b2 f2 s2; have l2 := b2.lt; have z2 := f2.size)
    | (with_reducible refine at_wpP ?_; refine wpList_boxN rfl _ rfl k b _ rfl ?_; intro g3 w3 hg3 b3 f3 s3; have l3 := b3.lt; have z3 := f3.size; have q3 := NdB.ents b3 Hb.out))
  go_ret2
  exact ⟨F, _, rfl, (StT.start h).fr0 (f2.thenN f3), OwnR.none _ _, fun k hk => by cases hk⟩
theorem sE_size : (Tryz.prog.info? 31).map (·.size) = some 1 := by kernel_rfl
/-- Between two rounds of Split. -/
structure SplR (w5 W : World) (F F' : Nat → Prop) (gs gp : Nat) (k : Int) (es : List (Int × Int)) (R : (DSt × List Pg) × List (Int × Int) × Int) (m j : Nat) (S : DSt × List Pg) (tp : List (Int × Int)) (u : Value) : Prop where
  st : StT w5 W F F' gs gp S (m + j)
  ow : EnO W w5.heap.size u tp
  ap : ∀ x, u.ownBlock = some x → ¬ F' x
  tl : tp.length = j
  eq : splA k S tp ((partsL es).drop j) = R
set_option maxRecDepth 100000 in
set_option maxHeartbeats 4000000 in
theorem split_yes {F : Nat → Prop} {gs gp : Nat} {X : DSt} {L : List Pg} {m : Nat} (k : Int) (b : List Int) (es : List (Int × Int)) (v : Value) (w : World) (h : Sto w F gs gp X L m) (hm : m ≤ 99000) (hn : NdS w v ⟨k, b, es⟩) (hvF : ∀ x, v.ownBlock = some x → ¬ F x ∧ x ≠ gp ∧ x < w.heap.size) (hl : es.length ≤ 12) :
    Calls Tryz.prog 32 #[trV gs, ndV k b v] w fun r w' => SplitIs w w' F gs gp (splF (X, L) k es) (m + 2) r := by
  unfold splF
  rw [if_neg (by omega)]
  have hb : b.length = 16 := hn.2.1.1
  have Hb : Hid (b.length = 16) := hb
  clear hb
  obtain ⟨a, cap, hv, hcap⟩ := hn.1.1.opn
  obtain ⟨hpl, hpp⟩ := parts_len hl
  obtain ⟨R, HR⟩ : ∃ R, Hid (splA k (X, L) [] (partsL es) = R) := ⟨_, rfl⟩
  rw [HR.out]
  have hS := hn.1.1
  have hwf := hn.1.2
  have hkw := hn.2.2.2
  subst hv
  simp only at hn hS hwf hkw hcap
  have hl' : decide ((12 : Int) < (es.length : Int)) = false := by simp; omega
  have hP := fun W (f : Fr noB w W) => parts_any (hS.fr0 f) (by omega)
  have hFt := h.ft
  have hgs := h.lts
  have hgp := h.ltp
  go_enter Tryz.func32, Tryz.ntmps32
  go_wp2_with (first
    | (with_reducible refine at_wpP ?_; refine wpList_boxG rfl 26 _ rfl (trV gs) [ptr gs] rfl rfl ?_; intro g2 w2 hg2 b2 f2 s2; have l2 := b2.lt; have z2 := f2.size)
    | (with_reducible refine at_wpP ?_; refine wpList_boxN rfl _ rfl k b _ rfl ?_; intro g3 w3 hg3 b3 f3 s3; have l3 := b3.lt; have z3 := f3.size; have q3 := NdB.ents b3 Hb.out)
    | (go_at_call 56; go_must (refine (hP _ (f2.thenN f3)).mono ?_; rintro e w5 ⟨pu, vs, rfl, op, pl, pv, f5⟩; have z5 := f5.size; have pl' := show Hid _ from pl; clear pl; obtain ⟨pa, pc, hpu⟩ := op.opn; subst hpu)))
  have F5 : Fr noB w w5 := (f2.thenN f3).thenN f5
  have H5 := h.fr0 F5
  have b2' := (b2.fr0 f3).fr0 f5
  have b3' := b3.fr0 f5
  have hvb : ∀ x, (Value.slice a es.length cap).ownBlock = some x → ¬ stB F gp x ∧ x < w5.heap.size := fun x hx => by
    obtain ⟨h1, h2, h3⟩ := hvF x hx
    exact ⟨fun q => q.elim h1 h2, by omega⟩
  have hnew : ∀ x, w.heap.size ≤ x → ¬ stB F gp x := fun x hx q => by
    rcases q with q | q
    · have := hFt x q; omega
    · omega
  have T0 : SplR w5 w5 F F gs gp k es R m 0 (X, L) [] nilS := ⟨StT.start H5, OwnR.none _ _, (fun x hx => by cases hx), rfl, by rw [List.drop_zero]; exact HR.out⟩
  go_loopw [19, 6] (fun i u wr => ∃ (j : Nat) (F' : Nat → Prop) (S : DSt × List Pg) (tp : List (Int × Int)), j ≤ vs.length ∧ i = .int .i64 (j : Int) ∧ SplR w5 wr F F' gs gp k es R m j S tp u) (fun i _ _ => vs.length - (intOf i).toNat)
  case atStart => exact ⟨0, F, (X, L), [], Nat.zero_le _, rfl, T0⟩
  case round =>
    obtain ⟨j, F', S, tp, hj, rfl, T⟩ := hrel
    clear T0
    have zr := T.st.fr.size
    have B2 := b2'.fr T.st.fr (hnew g2 (by omega))
    have B3 := b3'.fr T.st.fr (hnew g3 (by omega))
    have OP := op.fr T.st.fr (fun x hx => hnew x (by have := (op.newB x hx).1; omega))
    by_cases hlt : j < vs.length
    · have hlt' : (j : Int) < (vs.length : Int) := by omega
      have hjp : j < (partsL es).length := by have := pl'.out; omega
      obtain ⟨P, HP⟩ : ∃ P : List (Int × Int), Hid ((partsL es)[j] = P) := ⟨(partsL es)[j], rfl⟩
      have hPm := hpp (partsL es)[j] (by simp)
      have hPv := pv j hlt hjp
      have hd : (partsL es).drop j = P :: (partsL es).drop (j + 1) := by rw [← HP.out]; exact List.drop_eq_getElem_cons hjp
      rw [HP.out] at hPm hPv
      have hT := T.eq
      rw [hd] at hT
      obtain ⟨V, HV⟩ : ∃ V : Value, Hid (vs[j] = V) := ⟨vs[j], rfl⟩
      rw [HV.out] at hPv
      obtain ⟨va, vc, hV, _⟩ := hPv.1.opn
      subst hV
      have hPS : SlR enC 2 wr (.slice va P.length vc) P := hPv.1.fr T.st.fr (fun x hx => (hvb x (hPv.2 x hx)).1)
      have hnP : NdS wr (.slice va P.length vc) ⟨k, zerB 16, P⟩ := ⟨⟨hPS, fun x hx => hwf x (hPm.2.2 x hx)⟩, ⟨zerB_len 16, zerB_byt 16⟩, by show P.length ≤ 1000; omega, hkw⟩
      have hMk := make_any (gs := gs) (gp := gp) (⟨k, zerB 16, P⟩ : Nd) (.slice va P.length vc) wr T.st.st (by omega) hnP
      obtain ⟨M, HM⟩ : ∃ M, Hid (makeF S.1 S.2 ⟨k, zerB 16, P⟩ = M) := ⟨_, rfl⟩
      rw [HM.out] at hMk
      obtain ⟨S', pg, e⟩ := M
      simp only at hMk
      have kB3 := NdB.kind B3
      have eB3 := NdB.ents B3 Hb.out
      have cB2 := tr_cell B2
      by_cases he : e = 0
      · subst he
        have hT2 : splA k S' (tp ++ [(key0 P, pg)]) ((partsL es).drop (j + 1)) = R := by rw [← hT, splA_cons0 HM.out]
        clear hT
        have hub := fun x hx => (T.ow.newB x hx)
        have hP0 : 0 < P.length := hPm.1
        have hkey := key0_get hP0
        obtain ⟨K0, HK0⟩ : ∃ x : Int, Hid (key0 P = x) := ⟨_, rfl⟩
        rw [HK0.out] at hT2 hkey
        obtain ⟨x0, Hx0⟩ : ∃ x : Int × Int, Hid (P[0] = x) := ⟨P[0], rfl⟩
        rw [Hx0.out] at hkey
        have hx0 := show Hid _ from hkey
        clear hkey
        have hPF : ∀ W, Fr (stB F' gp) wr W → SlR enC 2 W (.slice va P.length vc) P := fun W f => hPS.fr f (fun x hx q => by
          have h1 := hvb x (hPv.2 x hx)
          rcases q with q | q
          · exact (T.st.ft x q).1.elim (fun q => h1.1 (Or.inl q)) (fun q => by omega)
          · exact h1.1 (Or.inr q))
        have how : ∀ W W', Fr (stB F' gp) wr W → Fr noB W W' → EnO W' w5.heap.size u6 tp := fun W W' f f' => (T.ow.fr f (fun x hx q => by
          rcases q with q | q
          · exact T.ap x hx q
          · have := (hub x hx).1; omega)).fr0 f'
        go_wp2_with (first
        | (with_reducible refine at_wpP ?_; refine at_idx 31 _ _ rfl ?_; have q := fr6; go_must (refine wpList_idxR rfl 31 _ _ rfl 40 uE 2 en_size enC (.slice va P.length vc) P rfl (hPF _ fr6) (by decide) .i64 0 0 rfl rfl hP0 ?_; intro eb eo heb hec; have hec0 := hec 0 _ rfl; rw [Hx0.out, Nat.add_zero] at hec0))
        |(with_reducible refine at_wpP ?_; refine at_idx 107 _ _ rfl ?_; go_must (refine wpList_idxR rfl 107 _ _ rfl 31 uS 1 sE_size en1 (.slice pa vs.length pc) vs rfl OP.sl (by decide) .i64 (j : Int) j rfl rfl hlt ?_; intro pb po hpb hpc; have hpc0 := hpc 0 _ rfl; rw [HV.out, Nat.add_zero] at hpc0))
        | (with_reducible refine at_wpP ?_; refine wpList_bldN rfl _ rfl k (zerB 16) (.slice va P.length vc) [(0, .int .i64 k), (2, .slice va P.length vc)] rfl (built_ndE k _ ⟨_, _, _, rfl⟩) ?_)
        | (go_at_call 29; go_must (refine hMk.mono ?_; rintro e1 w6 ⟨rfl, F2, sto6, ft6, fr6⟩; have z6 := fr6.size))
        | (with_reducible refine at_wpP ?_; refine wpList_bldE rfl _ _ rfl x0.1 pg rfl rfl ?_)
        | (with_reducible refine at_wpP ?_; refine wpList_mkC rfl 31 _ rfl uE _ en_info2 (by decide) (by decide) (x0.1, pg) (enV (x0.1, pg)) rfl rfl rfl ?_; intro g7 w7 b7 f7 s7; have z7 := f7.size)
        | (at_builtin; go_must (refine wpList_appL rfl _ _ 31 rfl _ 16 uE en_info rfl (by decide) u6 rfl (how _ _ fr6 f7) g7 rfl (x0.1, pg) rfl _ b7 (en_one _) ?hq1 ?hq2 ?hq3 ?_; rotate_left 3; intro u8 w8 o8 f8 p8)))
        case hq1 => have := T.tl; have := pl'.out; unfold maxLen; omega
        case hq2 => have := T.tl; have := pl'.out; omega
        case hq3 => omega
        have U6 : StT w5 w6 F F2 gs gp S' (m + j + 1) := T.st.trans (fun x hx => by have := hFt x hx; omega) ⟨sto6, ft6, fr6⟩
        have U8 : StT w5 w8 F F2 gs gp S' (m + (j + 1)) := ((U6.fr0 f7).own f8 (fun x hx => by
          have h1 := hub x hx
          refine ⟨fun q => ?_, by omega, by omega, by omega⟩
          rcases (ft6 x q).1 with q | q
          · exact T.ap x hx q
          · omega)).mono (by omega)
        go_roundw
        case rel =>
          refine ⟨j + 1, F2, S', tp ++ [(K0, pg)], by omega, by go_num, U8, ?_, fun x hx q => ?_, by rw [List.length_append, T.tl]; rfl, hT2⟩
          · rw [hx0.out]; exact o8
          · rcases p8 x hx with hx | hx
            · rcases (ft6 x q).1 with q | q
              · exact T.ap x hx q
              · have := (hub x hx).2; omega
            · have := (ft6 x q).2; omega
        case measure => simp [intOf]; omega
      · have hT2 : ((S', [], e) : (DSt × List Pg) × List (Int × Int) × Int) = R := by rw [← hT, splA_cons1 HM.out he]
        clear hT
        go_wp2_with (first
        | (with_reducible refine at_wpP ?_; refine at_idx 107 _ _ rfl ?_; go_must (refine wpList_idxR rfl 107 _ _ rfl 31 uS 1 sE_size en1 (.slice pa vs.length pc) vs rfl OP.sl (by decide) .i64 (j : Int) j rfl rfl hlt ?_; intro pb po hpb hpc; have hpc0 := hpc 0 _ rfl; rw [HV.out, Nat.add_zero] at hpc0))
        | (with_reducible refine at_wpP ?_; refine wpList_bldN rfl _ rfl k (zerB 16) (.slice va P.length vc) [(0, .int .i64 k), (2, .slice va P.length vc)] rfl (built_ndE k _ ⟨_, _, _, rfl⟩) ?_)
        | (go_at_call 29; go_must (refine hMk.mono ?_; rintro e1 w6 ⟨rfl, F2, sto6, ft6, fr6⟩; have z6 := fr6.size)))
        go_ret2
        have U6 : StT w5 w6 F F2 gs gp S' (m + j + 1) := T.st.trans (fun x hx => by have := hFt x hx; omega) ⟨sto6, ft6, fr6⟩
        subst hT2
        refine ⟨F2, nilS, rfl, ?_, OwnR.none _ _, fun x hx => by cases hx⟩
        exact (StT.pre F5 U6).mono (by have := pl'.out; omega)
    · have hjj : j = vs.length := by omega
      have hT2 : ((S, tp, 0) : (DSt × List Pg) × List (Int × Int) × Int) = R := by
        have := T.eq
        rw [hjj, pl'.out, List.drop_length] at this
        exact this
      have hlt' : ¬ (j : Int) < (vs.length : Int) := by omega
      obtain ⟨ua, uc, hu6⟩ := T.ow.opn
      subst hu6
      go_wp2
      go_ret2
      subst hT2
      refine ⟨F', _, rfl, ?_, T.ow.rebase (by omega), T.ap⟩
      exact (StT.pre F5 T.st).mono (by have := pl'.out; omega)
/-- Split. -/
theorem split_any {F : Nat → Prop} {gs gp : Nat} {X : DSt} {L : List Pg} {m : Nat} (k : Int) (b : List Int) (es : List (Int × Int)) (v : Value) (w : World) (h : Sto w F gs gp X L m) (hm : m ≤ 99000) (hn : NdS w v ⟨k, b, es⟩) (hvF : ∀ x, v.ownBlock = some x → ¬ F x ∧ x ≠ gp ∧ x < w.heap.size) :
    Calls Tryz.prog 32 #[trV gs, ndV k b v] w fun r w' => SplitIs w w' F gs gp (splF (X, L) k es) (m + 2) r := by
  by_cases hl : es.length ≤ 12
  · exact split_yes k b es v w h hm hn hvF hl
  · refine (split_no k b es v w h hn (by omega)).mono ?_
    rintro r w' ⟨F', u, e, s, o, a⟩
    exact ⟨F', u, e, s.mono (by omega), o, a⟩
end Go.Proofs.YtmkinaijkgkgiaaGreat
/- Trees in memory: find; no condition. -/
namespace Go.Proofs.YtmkinaijkgkgiaaGreat
open Go.RowKit Go.Proofs.U
set_option linter.unusedSimpArgs false
set_option linter.unusedVariables false
theorem NdS.slr {w : World} {v : Value} {n : Nd} (h : NdS w v n) : SlR enC 2 w v n.es := h.1.1
/-- A tree's page, as open hands it back. -/
theorem open_tree {F : Nat → Prop} {gs gp : Nat} {X : DSt} {L : List Pg} {R : List Int} {T : List Nat} {m : Nat} (hI : InvT X L R T) (hm : m ≤ 100000) {lv : Nat} {p lo hi : Int} (k : okT X lv p lo hi) (h0 : 0 ≤ p) (hp : 0 < cntT L T p.toNat) (d : Int) (hd : d < 8) {w : World} (h : Sto w F gs gp X L m) :
    Calls Tryz.prog 52 #[trV gs, .int .i64 p, .int .i64 d] w fun r w' => NOpenO w w' ((rdN X p).1, 0) r := by
  refine open_at p d w h hm (by omega) hd ?_ ?_
  · unfold getF
    rw [hI.held h0 hp, if_pos rfl]
    have := k.rd
    cases hx : rdN X p with
    | mk a b => rw [hx] at this; simp only at this; rw [this]
  · rw [k.kd]; unfold kdL; split <;> decide
theorem at_none_eq {l : List (Int × Int)} {key i : Int} (hb : ∀ y ∈ l, key < y.1) (h : AtIs l key i) : i = -1 := by
  by_cases hi : i = -1
  · exact hi
  · obtain ⟨k, hk, rfl, _, hle, _⟩ := h.some hi
    have := hb l[k] (by simp)
    omega
/-- The last entry whose key isn't above. -/
theorem last_le : ∀ {l : List (Int × Int)} {key : Int}, KeysUp l → (¬ ∀ y ∈ l, key < y.1) → ∃ (j : Nat) (hj : j < l.length), l[j].1 ≤ key ∧ ∀ y ∈ l.drop (j + 1), key < y.1
  | [], key, _, h => absurd (by simp) h
  | x :: l, key, hu, h => by
    by_cases hl : ∀ y ∈ l, key < y.1
    · refine ⟨0, by simp, ?_, hl⟩
      rcases Int.lt_or_le key x.1 with q | q
      · exact absurd (fun y hy => by
          rcases List.mem_cons.1 hy with rfl | hy
          · exact q
          · exact hl y hy) h
      · exact q
    · obtain ⟨j, hj, h1, h2⟩ := last_le hu.tail hl
      exact ⟨j + 1, by simpa using hj, h1, h2⟩
theorem at_of {l : List (Int × Int)} {key : Int} {k : Nat} (hk : k < l.length) (hle : l[k].1 ≤ key) (hgt : ∀ y ∈ l.drop (k + 1), key < y.1) (hu : KeysUp l) : AtIs l key (k : Int) := by
  refine ⟨by omega, by omega, fun j hj => ⟨fun q => ?_, fun q => ?_⟩⟩
  · refine hgt l[j] ?_
    rw [List.mem_drop_iff_getElem]
    exact ⟨j - (k + 1), by omega, by congr 1; omega⟩
  · have : j = k := by omega
    subst this; exact hle
/-- Find below a page. -/
def FindIs (w w' : World) (x : Int) (r : Ending) : Prop := r = .returned (.tuple #[.int .i64 x, .int .i64 0]) ∧ Fr noB w w'
set_option maxRecDepth 100000 in
set_option maxHeartbeats 2000000 in
theorem find_miss {F : Nat → Prop} {gs gp : Nat} {X : DSt} {L : List Pg} {R : List Int} {T : List Nat} {m : Nat} (hI : InvT X L R T) (hm : m ≤ 100000) {lv : Nat} {p lo hi : Int} (k : okT X lv p lo hi) (h0 : 0 ≤ p) (hp : 0 < cntT L T p.toNat) (key d : Int) (hd : d < 8) (w : World) (h : Sto w F gs gp X L m) (hb : ∀ y ∈ esX X p, key < y.1) :
    Calls Tryz.prog 44 #[trV gs, .int .i64 p, .int .i64 key, .int .i64 d] w fun r w' => FindIs w w' (-1) r := by
  have hO := fun W (f : Fr noB w W) => open_tree hI hm k h0 hp d hd (h.fr0 f)
  obtain ⟨N, HN⟩ : ∃ N, Hid ((rdN X p).1 = N) := ⟨_, rfl⟩
  have hes : Hid (esX X p = N.es) := by show _ = _; rw [← HN.out]; rfl
  rw [HN.out] at hO
  have hb' : ∀ y ∈ N.es, key < y.1 := by rw [← hes.out]; exact hb
  have hl6 : N.es.length ≤ 6 := by rw [← hes.out]; exact k.es.2.2.1
  go_enter Tryz.func44, Tryz.ntmps44
  go_wp2_with (first
    | (with_reducible refine at_wpP ?_; refine wpList_boxG rfl 26 _ rfl (trV gs) [ptr gs] rfl rfl ?_; intro g4 w4 hg4 b4 f4 s4; have l4 := b4.lt; have z4 := f4.size)
    | (go_at_call 52; go_must (refine (hO _ f4).mono ?_; rintro e w5 ⟨v, rfl, n5, o5, f5, q5⟩; have z5 := f5.size; have hv := NdS.sl n5; have hbl := NdS.bl n5; have B4 := b4.fr0 f5))
    | (with_reducible refine at_wpP ?_; have q := n5; refine wpList_allocN rfl rfl ?_; intro g10 w6 hg10 b10 f6 s6; have l6 := b10.lt; have z6 := f6.size)
    | (with_reducible refine at_wpP ?_; refine at_st 72 _ _ rfl ?_; have q := b10; go_must (refine wpList_stN rfl _ _ rfl g10 rfl N.k N.b v rfl hbl.out hv 0 (zerB 16) nilS b10 (zerB_len 16) ?_; intro w7 b7 f7; have z7 := f7.size; have q7 := NdB.kind b7; have e7 := NdB.ents b7 hbl.out; have F7 := Fr.ownX f6 s6 f7; have N7 := n5.fr0 F7; have C4 := B4.fr0 F7))
    | (with_reducible refine at_wpP ?_; refine at_ld 26 _ rfl ?_; go_must (refine wpList_ldT rfl _ rfl g4 rfl gs b4 ?_))
    | (go_at_call 54; go_must (refine (at_any v N.es key _ N7.1 (by omega)).mono ?_; rintro e w8 ⟨i, rfl, hi, f8⟩; have hi1 : i = -1 := (at_none_eq hb' hi); subst hi1)))
  go_ret2
  exact ⟨rfl, (((f4.thenN f5).thenN F7).thenN f8)⟩
theorem at_one {l : List (Int × Int)} {key i : Int} {k : Nat} (hk : k < l.length) (hle : l[k].1 ≤ key) (hgt : ∀ y ∈ l.drop (k + 1), key < y.1) (hu : KeysUp l) (h : AtIs l key i) : i = (k : Int) := by
  obtain ⟨h0, h1, h2⟩ := h
  rcases Int.lt_trichotomy i (k : Int) with q | q | q
  · have := (h2 k hk).1 q; omega
  · exact q
  · have hj : i.toNat < l.length := by omega
    have h3 := (h2 i.toNat hj).2 (by omega)
    have h4 := hgt l[i.toNat] (by
      rw [List.mem_drop_iff_getElem]
      exact ⟨i.toNat - (k + 1), by omega, by congr 1; omega⟩)
    omega
set_option maxRecDepth 100000 in
set_option maxHeartbeats 2000000 in
theorem find_at0 {F : Nat → Prop} {gs gp : Nat} {X : DSt} {L : List Pg} {R : List Int} {T : List Nat} {m : Nat} (hI : InvT X L R T) (hm : m ≤ 100000) {p lo hi : Int} (k : okT X 0 p lo hi) (h0 : 0 ≤ p) (hp : 0 < cntT L T p.toNat) (key d : Int) (hd : d < 8) (w : World) (h : Sto w F gs gp X L m) {j : Nat} (hj0 : j < (esX X p).length) (hAt0 : ∀ i, AtIs (esX X p) key i → i = (j : Int)) :
    Calls Tryz.prog 44 #[trV gs, .int .i64 p, .int .i64 key, .int .i64 d] w fun r w' => FindIs w w' (if (esX X p)[j].1 = key then (esX X p)[j].2 else -1) r := by
  have hO := fun W (f : Fr noB w W) => open_tree hI hm k h0 hp d hd (h.fr0 f)
  obtain ⟨x, Hx0⟩ : ∃ x : Int × Int, Hid ((esX X p)[j] = x) := ⟨(esX X p)[j], rfl⟩
  rw [Hx0.out]
  have hk2 : (rdN X p).1.k = 2 := k.kd
  obtain ⟨N, HN⟩ : ∃ N, Hid ((rdN X p).1 = N) := ⟨_, rfl⟩
  have hes : esX X p = N.es := by rw [← HN.out]; rfl
  rw [HN.out] at hO hk2
  have hl6 : N.es.length ≤ 6 := by rw [← hes]; exact k.es.2.2.1
  have hj : j < N.es.length := by rw [← hes]; exact hj0
  have Hx : Hid (N.es[j] = x) := by have := Hx0.out; simp only [hes] at this; exact this
  have hAt : ∀ i, AtIs N.es key i → i = (j : Int) := by rw [← hes]; exact hAt0
  clear hes Hx0 hAt0 hj0 HN
  obtain ⟨nk, nb, nes⟩ := N
  simp only at hk2 hl6 hj Hx hAt
  subst hk2
  have hj1 : ((j : Int) == -1) = false := beq_eq_false_iff_ne.2 (by omega)
  by_cases he : x.1 = key
  · have he1 : (x.1 == key) = true := by simpa using he
    rw [if_pos he]
    go_enter Tryz.func44, Tryz.ntmps44
    go_wp2_with (first
    | (with_reducible refine at_wpP ?_; refine wpList_boxG rfl 26 _ rfl (trV gs) [ptr gs] rfl rfl ?_; intro g4 w4 hg4 b4 f4 s4; have l4 := b4.lt; have z4 := f4.size)
    | (go_at_call 52; go_must (refine (hO _ f4).mono ?_; rintro e w5 ⟨v, rfl, n5, o5, f5, q5⟩; have z5 := f5.size; have hv := NdS.sl n5; have hbl := NdS.bl n5; have B4 := b4.fr0 f5))
    | (with_reducible refine at_wpP ?_; have q := n5; refine wpList_allocN rfl rfl ?_; intro g10 w6 hg10 b10 f6 s6; have l6 := b10.lt; have z6 := f6.size)
    | (with_reducible refine at_wpP ?_; refine at_st 72 _ _ rfl ?_; have q := b10; go_must (refine wpList_stN rfl _ _ rfl g10 rfl 2 nb v rfl hbl.out hv 0 (zerB 16) nilS b10 (zerB_len 16) ?_; intro w7 b7 f7; have z7 := f7.size; have q7 := NdB.kind b7; have e7 := NdB.ents b7 hbl.out; have F7 := Fr.ownX f6 s6 f7; have N7 := n5.fr0 F7; have C4 := B4.fr0 F7))
    | (with_reducible refine at_wpP ?_; refine at_ld 26 _ rfl ?_; go_must (refine wpList_ldT rfl _ rfl g4 rfl gs b4 ?_))
    | (go_at_call 54; go_must (refine (at_any v nes key _ N7.1 (by omega)).mono ?_; rintro e w8 ⟨i, rfl, hi, f8⟩; have z8 := f8.size; obtain rfl := hAt i hi; have N8 := N7.fr0 f8; have b8 := b7.fr0 f8; have e8 := NdB.ents b8 hbl.out; have k8 := NdB.kind b8))
    | (with_reducible refine at_wpP ?_; refine at_idx 31 _ _ rfl ?_; have q := N8; go_must (refine wpList_idxR rfl 31 _ _ rfl 40 uE 2 en_size enC v nes rfl (NdS.slr N8) (by decide) .i64 (j : Int) j rfl rfl hj ?_; intro eb eo heb hec; rw [Hx.out] at hec))
    | (with_reducible refine at_wpP ?_; refine at_ld 40 _ rfl ?_; have q := hec; go_must (refine wpList_ldE rfl _ rfl eb eo rfl x hec ?_))
    | (with_reducible refine at_wpP ?_; refine wpList_allocE rfl rfl ?_; intro g13 w9 hg13 b13 f9 s9; have z9 := f9.size; have l13 := b13.lt)
    | (with_reducible refine at_wpP ?_; refine at_st 40 _ _ rfl ?_; go_must (refine wpList_stE rfl _ _ rfl g13 rfl (0, 0) x b13 rfl ?_; intro w10 b14 f10; have z10 := f10.size; have q14 := EnB.all b14; have F10 := Fr.ownX f9 s9 f10; have q10 := NdB.kind (b8.fr0 F10); have D4 := (C4.fr0 f8).fr0 F10)))
    go_ret2
    exact ⟨rfl, (((f4.thenN f5).thenN F7).thenN f8).thenN F10⟩
  · have he1 : (x.1 == key) = false := by simpa using he
    rw [if_neg he]
    go_enter Tryz.func44, Tryz.ntmps44
    go_wp2_with (first
    | (with_reducible refine at_wpP ?_; refine wpList_boxG rfl 26 _ rfl (trV gs) [ptr gs] rfl rfl ?_; intro g4 w4 hg4 b4 f4 s4; have l4 := b4.lt; have z4 := f4.size)
    | (go_at_call 52; go_must (refine (hO _ f4).mono ?_; rintro e w5 ⟨v, rfl, n5, o5, f5, q5⟩; have z5 := f5.size; have hv := NdS.sl n5; have hbl := NdS.bl n5; have B4 := b4.fr0 f5))
    | (with_reducible refine at_wpP ?_; have q := n5; refine wpList_allocN rfl rfl ?_; intro g10 w6 hg10 b10 f6 s6; have l6 := b10.lt; have z6 := f6.size)
    | (with_reducible refine at_wpP ?_; refine at_st 72 _ _ rfl ?_; have q := b10; go_must (refine wpList_stN rfl _ _ rfl g10 rfl 2 nb v rfl hbl.out hv 0 (zerB 16) nilS b10 (zerB_len 16) ?_; intro w7 b7 f7; have z7 := f7.size; have q7 := NdB.kind b7; have e7 := NdB.ents b7 hbl.out; have F7 := Fr.ownX f6 s6 f7; have N7 := n5.fr0 F7; have C4 := B4.fr0 F7))
    | (with_reducible refine at_wpP ?_; refine at_ld 26 _ rfl ?_; go_must (refine wpList_ldT rfl _ rfl g4 rfl gs b4 ?_))
    | (go_at_call 54; go_must (refine (at_any v nes key _ N7.1 (by omega)).mono ?_; rintro e w8 ⟨i, rfl, hi, f8⟩; have z8 := f8.size; obtain rfl := hAt i hi; have N8 := N7.fr0 f8; have b8 := b7.fr0 f8; have e8 := NdB.ents b8 hbl.out; have k8 := NdB.kind b8))
    | (with_reducible refine at_wpP ?_; refine at_idx 31 _ _ rfl ?_; have q := N8; go_must (refine wpList_idxR rfl 31 _ _ rfl 40 uE 2 en_size enC v nes rfl (NdS.slr N8) (by decide) .i64 (j : Int) j rfl rfl hj ?_; intro eb eo heb hec; rw [Hx.out] at hec))
    | (with_reducible refine at_wpP ?_; refine at_ld 40 _ rfl ?_; have q := hec; go_must (refine wpList_ldE rfl _ rfl eb eo rfl x hec ?_))
    | (with_reducible refine at_wpP ?_; refine wpList_allocE rfl rfl ?_; intro g13 w9 hg13 b13 f9 s9; have z9 := f9.size; have l13 := b13.lt)
    | (with_reducible refine at_wpP ?_; refine at_st 40 _ _ rfl ?_; go_must (refine wpList_stE rfl _ _ rfl g13 rfl (0, 0) x b13 rfl ?_; intro w10 b14 f10; have z10 := f10.size; have q14 := EnB.all b14; have F10 := Fr.ownX f9 s9 f10; have q10 := NdB.kind (b8.fr0 F10); have D4 := (C4.fr0 f8).fr0 F10)))
    go_ret2
    exact ⟨rfl, (((f4.thenN f5).thenN F7).thenN f8).thenN F10⟩
set_option maxRecDepth 100000 in
set_option maxHeartbeats 2000000 in
theorem find_atS {F : Nat → Prop} {gs gp : Nat} {X : DSt} {L : List Pg} {R : List Int} {T : List Nat} {m lv : Nat} (hI : InvT X L R T) (hm : m ≤ 100000) {p lo hi : Int} (k : okT X (lv + 1) p lo hi) (h0 : 0 ≤ p) (hp : 0 < cntT L T p.toNat) (key d : Int) (hd0 : 0 ≤ d) (hd : d < 8) (w : World) (h : Sto w F gs gp X L m) {j : Nat} (hj0 : j < (esX X p).length) (hAt0 : ∀ i, AtIs (esX X p) key i → i = (j : Int)) (V : Int)
    (hrec : ∀ W, Fr noB w W → Calls Tryz.prog 44 #[trV gs, .int .i64 (esX X p)[j].2, .int .i64 key, .int .i64 (d + 1)] W fun r w' => FindIs W w' V r) :
    Calls Tryz.prog 44 #[trV gs, .int .i64 p, .int .i64 key, .int .i64 d] w fun r w' => FindIs w w' V r := by
  have hO := fun W (f : Fr noB w W) => open_tree hI hm k h0 hp d hd (h.fr0 f)
  obtain ⟨x, Hx0⟩ : ∃ x : Int × Int, Hid ((esX X p)[j] = x) := ⟨(esX X p)[j], rfl⟩
  rw [Hx0.out] at hrec
  have hk2 : (rdN X p).1.k = 3 := k.kd
  obtain ⟨N, HN⟩ : ∃ N, Hid ((rdN X p).1 = N) := ⟨_, rfl⟩
  have hes : esX X p = N.es := by rw [← HN.out]; rfl
  rw [HN.out] at hO hk2
  have hl6 : N.es.length ≤ 6 := by rw [← hes]; exact k.es.2.2.1
  have hj : j < N.es.length := by rw [← hes]; exact hj0
  have Hx : Hid (N.es[j] = x) := by have := Hx0.out; simp only [hes] at this; exact this
  have hAt : ∀ i, AtIs N.es key i → i = (j : Int) := by rw [← hes]; exact hAt0
  clear hes Hx0 hAt0 hj0 HN
  obtain ⟨nk, nb, nes⟩ := N
  simp only at hk2 hl6 hj Hx hAt
  subst hk2
  have hj1 : ((j : Int) == -1) = false := beq_eq_false_iff_ne.2 (by omega)
  have hw1 : IntKind.i64.wrap (d + 1) = d + 1 := wrap_sm (by omega)
  go_enter Tryz.func44, Tryz.ntmps44
  go_wp2_with (first
    | (with_reducible refine at_wpP ?_; refine at_ld 26 _ rfl ?_; have q := D4; go_must (refine wpList_ldT rfl _ rfl g4 rfl gs D4 ?_))
    | (with_reducible refine at_wpP ?_; refine wpList_boxG rfl 26 _ rfl (trV gs) [ptr gs] rfl rfl ?_; intro g4 w4 hg4 b4 f4 s4; have l4 := b4.lt; have z4 := f4.size)
    | (go_at_call 52; go_must (refine (hO _ f4).mono ?_; rintro e w5 ⟨v, rfl, n5, o5, f5, q5⟩; have z5 := f5.size; have hv := NdS.sl n5; have hbl := NdS.bl n5; have B4 := b4.fr0 f5))
    | (with_reducible refine at_wpP ?_; have q := n5; refine wpList_allocN rfl rfl ?_; intro g10 w6 hg10 b10 f6 s6; have l6 := b10.lt; have z6 := f6.size)
    | (with_reducible refine at_wpP ?_; refine at_st 72 _ _ rfl ?_; have q := b10; go_must (refine wpList_stN rfl _ _ rfl g10 rfl 3 nb v rfl hbl.out hv 0 (zerB 16) nilS b10 (zerB_len 16) ?_; intro w7 b7 f7; have z7 := f7.size; have q7 := NdB.kind b7; have e7 := NdB.ents b7 hbl.out; have F7 := Fr.ownX f6 s6 f7; have N7 := n5.fr0 F7; have C4 := B4.fr0 F7))
    | (with_reducible refine at_wpP ?_; refine at_ld 26 _ rfl ?_; go_must (refine wpList_ldT rfl _ rfl g4 rfl gs b4 ?_))
    | (go_at_call 54; go_must (refine (at_any v nes key _ N7.1 (by omega)).mono ?_; rintro e w8 ⟨i, rfl, hi, f8⟩; have z8 := f8.size; obtain rfl := hAt i hi; have N8 := N7.fr0 f8; have b8 := b7.fr0 f8; have e8 := NdB.ents b8 hbl.out; have k8 := NdB.kind b8))
    | (with_reducible refine at_wpP ?_; refine at_idx 31 _ _ rfl ?_; have q := N8; go_must (refine wpList_idxR rfl 31 _ _ rfl 40 uE 2 en_size enC v nes rfl (NdS.slr N8) (by decide) .i64 (j : Int) j rfl rfl hj ?_; intro eb eo heb hec; rw [Hx.out] at hec))
    | (with_reducible refine at_wpP ?_; refine at_ld 40 _ rfl ?_; have q := hec; go_must (refine wpList_ldE rfl _ rfl eb eo rfl x hec ?_))
    | (with_reducible refine at_wpP ?_; refine wpList_allocE rfl rfl ?_; intro g13 w9 hg13 b13 f9 s9; have z9 := f9.size; have l13 := b13.lt)
    | (with_reducible refine at_wpP ?_; refine at_st 40 _ _ rfl ?_; go_must (refine wpList_stE rfl _ _ rfl g13 rfl (0, 0) x b13 rfl ?_; intro w10 b14 f10; have z10 := f10.size; have q14 := EnB.all b14; have F10 := Fr.ownX f9 s9 f10; have q10 := NdB.kind (b8.fr0 F10); have D4 := (C4.fr0 f8).fr0 F10))
    | (go_at_call 44; go_must (refine (hrec _ ((((f4.thenN f5).thenN F7).thenN f8).thenN F10)).mono ?_; rintro e w11 ⟨rfl, f11⟩)))
  go_ret2
  exact ⟨rfl, ((((f4.thenN f5).thenN F7).thenN f8).thenN F10).thenN f11⟩
/-- find of a tree. -/
theorem find_lv {F : Nat → Prop} {gs gp : Nat} {X : DSt} {L : List Pg} {R : List Int} {T : List Nat} {m : Nat} (hI : InvT X L R T) (hm : m ≤ 100000) (key : Int) : ∀ (lv : Nat) {p lo hi : Int} (d : Int) (w : World), okT X lv p lo hi → 0 ≤ p → 0 < cntT L T p.toNat → 0 ≤ d → d + lv < 8 → Sto w F gs gp X L m →
    Calls Tryz.prog 44 #[trV gs, .int .i64 p, .int .i64 key, .int .i64 d] w fun r w' => FindIs w w' (findL (lsT X lv p) key) r := by
  intro lv
  induction lv with
  | zero =>
    intro p lo hi d w k h0 hp hd0 hd h
    by_cases hn : ∀ y ∈ esX X p, key < y.1
    · rw [k.miss hn]
      exact find_miss hI hm k h0 hp key d (by omega) w h hn
    · obtain ⟨j, hj, hle, hgt⟩ := last_le k.es.1 hn
      have hA : AtIs (esX X p) key (j : Int) := at_of hj hle hgt k.es.1
      have e : findL (lsT X 0 p) key = if (esX X p)[j].1 = key then (esX X p)[j].2 else -1 := by
        rw [show lsT X 0 p = esX X p from rfl, find_leaf k.es.1 hA, if_neg (by omega), Int.toNat_natCast]
        simp [List.getD, hj]
      rw [e]
      exact find_at0 hI hm k h0 hp key d (by omega) w h hj (fun i hi => at_one hj hle hgt k.es.1 hi)
  | succ lv ih =>
    intro p lo hi d w k h0 hp hd0 hd h
    by_cases hn : ∀ y ∈ esX X p, key < y.1
    · rw [k.miss hn]
      exact find_miss hI hm k h0 hp key d (by omega) w h hn
    · obtain ⟨j, hj, hle, hgt⟩ := last_le k.es.1 hn
      have hl : esX X p = (esX X p).take j ++ (esX X p)[j] :: (esX X p).drop (j + 1) := by rw [List.getElem_cons_drop, List.take_append_drop]
      rw [k.find hj hl hle hgt]
      obtain ⟨b, hb⟩ := k.child (esX X p)[j] (by simp)
      have hkd := hI.kid h0 hp (esX X p)[j].2 (by unfold kids; exact List.mem_map_of_mem (by show (esX X p)[j] ∈ esX X p; simp))
      exact find_atS hI hm k h0 hp key d hd0 (by omega) w h hj (fun i hi => at_one hj hle hgt k.es.1 hi) _ (fun W f => ih (d + 1) W hb hkd.1 hkd.2.2 (by omega) (by omega) (h.fr0 f))
end Go.Proofs.YtmkinaijkgkgiaaGreat
/- Put below a page, as a function, plain; no condition. -/
namespace Go.Proofs.YtmkinaijkgkgiaaGreat
open Go.RowKit Go.Proofs.U
set_option linter.unusedSimpArgs false
set_option linter.unusedVariables false
/-- Which child a key goes into. -/
def pickX (l : List (Int × Int)) (key : Int) : Nat := (max (atN l key) 0).toNat
theorem at_eq {l : List (Int × Int)} {last key i : Int} (h : rises last l = true) (hi : AtIs l key i) : i = atN l key := by
  obtain ⟨h0, h1, h2⟩ := hi
  obtain ⟨a0, a1⟩ := atN_le l key
  rcases Int.lt_trichotomy i (atN l key) with q | q | q
  · have hj : (atN l key).toNat < l.length := by omega
    have h3 := (h2 (atN l key).toNat hj).1 (by omega)
    have h4 := (atN_split h key (atN l key).toNat hj).1 (by omega)
    omega
  · exact q
  · have hj : i.toNat < l.length := by omega
    have h3 := (h2 i.toNat hj).2 (by omega)
    have h4 := (atN_split h key i.toNat hj).2 h3
    omega
theorem at_is {l : List (Int × Int)} {last : Int} (key : Int) (h : rises last l = true) : AtIs l key (atN l key) := by
  obtain ⟨a0, a1⟩ := atN_le l key
  refine ⟨a0, a1, fun j hj => ⟨fun q => ?_, fun q => ?_⟩⟩
  · rcases Int.lt_or_le key l[j].1 with q' | q'
    · exact q'
    · have := (atN_split h key j hj).2 q'; omega
  · exact (atN_split h key j hj).1 (by omega)
theorem pick_is {l : List (Int × Int)} {last key : Int} (h : rises last l = true) (h1 : 1 ≤ l.length) : ∃ (hj : pickX l key < l.length), l = l.take (pickX l key) ++ l[pickX l key] :: l.drop (pickX l key + 1) ∧ (l.take (pickX l key) ≠ [] → l[pickX l key].1 ≤ key) ∧ ∀ y ∈ l.drop (pickX l key + 1), key < y.1 := by
  have hA := at_is key h
  unfold pickX
  by_cases hi : atN l key = -1
  · rw [hi] at hA ⊢
    refine ⟨h1, by rw [List.getElem_cons_drop, List.take_append_drop], fun q => absurd (by simp; exact Or.inl (by decide)) q, fun y hy => hA.none y (List.mem_of_mem_drop hy)⟩
  · obtain ⟨k, hk, e, hl, hle, hgt⟩ := hA.some hi
    have e2 : (max (atN l key) 0).toNat = k := by omega
    rw [e2]
    exact ⟨hk, hl, fun _ => hle, hgt⟩
/-- Put below a page. -/
def putF (X : DSt) (L : List Pg) : Nat → Int → Int × Int → (DSt × List Pg) × List (Int × Int) × Int
  | 0, p, x => splF (X, L) 2 (putL (esX X p) x)
  | lv + 1, p, x =>
    if (putF X L lv ((esX X p).getD (pickX (esX X p) x.1) (0, 0)).2 x).2.2 = 0 then
      splF (putF X L lv ((esX X p).getD (pickX (esX X p) x.1) (0, 0)).2 x).1 3 ((esX X p).take (pickX (esX X p) x.1) ++ ((putF X L lv ((esX X p).getD (pickX (esX X p) x.1) (0, 0)).2 x).2.1 ++ (esX X p).drop (pickX (esX X p) x.1 + 1)))
    else ((putF X L lv ((esX X p).getD (pickX (esX X p) x.1) (0, 0)).2 x).1, [], (putF X L lv ((esX X p).getD (pickX (esX X p) x.1) (0, 0)).2 x).2.2)
theorem okT.rises {X : DSt} {lv : Nat} {p lo hi : Int} (h : okT X lv p lo hi) : rises (-1) (esX X p) = true := by
  have hk := h.kd
  exact (right_tree (rdN_right h.rd) (by rw [hk]; unfold kdL; split <;> decide)).2.2.2.2
theorem putF_E {X : DSt} {L : List Pg} {R : List Int} {T : List Nat} (hI : InvT X L R T) {x : Int × Int} (hx : 0 ≤ x.1 ∧ x.1 ≤ 63) (hz2 : 0 ≤ x.2 ∧ 0 < cntT L T x.2.toNat) : ∀ (lv : Nat) {m : Nat} {p lo hi : Int}, Up X L.length m → okT X lv p lo hi → 0 ≤ p → 0 < cntT L T p.toNat → 0 ≤ lo → hi ≤ 64 → lo ≤ x.1 → x.1 < hi →
    Up (putF X L lv p x).1.1 (putF X L lv p x).1.2.length (m + 2 * (lv + 1)) ∧ PutE X L R T lv p lo hi x (putF X L lv p x).1.1 (putF X L lv p x).1.2 (putF X L lv p x).2.1 (putF X L lv p x).2.2
  | 0, m, p, lo, hi, hU, k, h0, hp, hlo, hhi, h1, h2 => by
    obtain ⟨X', L', tops, e, es, hup, hE⟩ := put_leaf hI hU k h0 hp (at_is x.1 k.rises) ⟨hx.1, hx.2, h1, h2⟩ hz2
    rw [with_put k.es.1 (at_is x.1 k.rises)] at es
    unfold putF
    rw [es]
    exact ⟨hup, hE⟩
  | lv + 1, m, p, lo, hi, hU, k, h0, hp, hlo, hhi, h1, h2 => by
    obtain ⟨hj, hsp, hca, hcb⟩ := pick_is (key := x.1) k.rises k.es.2.1
    unfold putF
    generalize pickX (esX X p) x.1 = j at *
    have hgd : (esX X p).getD j (0, 0) = (esX X p)[j] := by simp [List.getD, hj]
    rw [hgd]
    have hmem : (esX X p)[j] ∈ esX X p := by simp
    have hrng := k.2.2.1 _ hmem
    have hkd := hI.kid h0 hp (esX X p)[j].2 (by unfold kids; exact List.mem_map_of_mem hmem)
    have hC := k.2.2.2
    rw [hsp] at hC
    have hf := (row_parts (f := okT X lv) (g := lsT X lv) (fun p a b k => lsT_rng k) (by rw [← hsp]; exact k.es.1) (by rw [← hsp]; exact fun y hy => (k.2.2.1 y hy).2) hC).2.2.2
    have hnx : nxt ((esX X p).drop (j + 1)) hi ≤ 64 ∧ x.1 < nxt ((esX X p).drop (j + 1)) hi := by
      cases hd : (esX X p).drop (j + 1) with
      | nil => exact ⟨hhi, h2⟩
      | cons y r =>
        have hy : y ∈ esX X p := List.mem_of_mem_drop (i := j + 1) (by rw [hd]; simp)
        have := k.2.2.1 y hy
        have := hcb y (by rw [hd]; simp)
        exact ⟨by simp only [nxt]; omega, by simp only [nxt]; omega⟩
    have hclo : (if (esX X p).take j = [] then lo else (esX X p)[j].1) ≤ (esX X p)[j].1 ∧ 0 ≤ (if (esX X p).take j = [] then lo else (esX X p)[j].1) ∧ (if (esX X p).take j = [] then lo else (esX X p)[j].1) ≤ x.1 := by
      split
      · omega
      · rename_i hne
        have := hca hne
        omega
    have ih := putF_E hI hx hz2 lv hU (okT_mono hf hclo.1 (Int.le_refl _)) hkd.1 hkd.2.2 hclo.2.1 hnx.1 hclo.2.2 hnx.2
    generalize putF X L lv (esX X p)[j].2 x = S at *
    obtain ⟨⟨X1, L1⟩, below, e⟩ := S
    simp only at ih ⊢
    by_cases he : e = 0
    · subst he
      rw [if_pos rfl]
      have s := ih.2.ys rfl
      have r := put_row hI k h0 hp hsp hlo hhi hca hcb ⟨h1, h2⟩ ih.2.ext s
      obtain ⟨X2, L2, tops, e2, es, hup, hE⟩ := put_inner (m := m + 2 * (lv + 1)) k ih.2.ext ih.1 s r
      rw [es]
      exact ⟨by rw [show m + 2 * (lv + 1 + 1) = m + 2 * (lv + 1) + 2 by omega]; exact hup, hE⟩
    · rw [if_neg he]
      exact ⟨ih.1.mono (by omega), ih.2.fail he⟩
/-- .. what is made below an inner node. -/
theorem putF_len {X : DSt} {L : List Pg} {R : List Int} {T : List Nat} (hI : InvT X L R T) {x : Int × Int} (hx : 0 ≤ x.1 ∧ x.1 ≤ 63) (hz2 : 0 ≤ x.2 ∧ 0 < cntT L T x.2.toNat) (lv : Nat) {m : Nat} {p lo hi : Int} (hU : Up X L.length m) (k : okT X (lv + 1) p lo hi) (h0 : 0 ≤ p) (hp : 0 < cntT L T p.toNat) (hlo : 0 ≤ lo) (hhi : hi ≤ 64) (h1 : lo ≤ x.1) (h2 : x.1 < hi) :
    (putF X L lv ((esX X p).getD (pickX (esX X p) x.1) (0, 0)).2 x).2.1.length ≤ 2 ∧
    ((putF X L lv ((esX X p).getD (pickX (esX X p) x.1) (0, 0)).2 x).2.2 = 0 → 1 ≤ (putF X L lv ((esX X p).getD (pickX (esX X p) x.1) (0, 0)).2 x).2.1.length) ∧
    ∀ y ∈ (putF X L lv ((esX X p).getD (pickX (esX X p) x.1) (0, 0)).2 x).2.1, (0 ≤ y.1 ∧ y.1 ≤ 63) ∧ 0 ≤ y.2 ∧ y.2 ≤ 239 := by
  obtain ⟨hj, hsp, hca, hcb⟩ := pick_is (key := x.1) k.rises k.es.2.1
  generalize pickX (esX X p) x.1 = j at *
  have hgd : (esX X p).getD j (0, 0) = (esX X p)[j] := by simp [List.getD, hj]
  rw [hgd]
  have hmem : (esX X p)[j] ∈ esX X p := by simp
  have hrng := k.2.2.1 _ hmem
  have hkd := hI.kid h0 hp (esX X p)[j].2 (by unfold kids; exact List.mem_map_of_mem hmem)
  have hC := k.2.2.2
  rw [hsp] at hC
  have hf := (row_parts (f := okT X lv) (g := lsT X lv) (fun p a b k => lsT_rng k) (by rw [← hsp]; exact k.es.1) (by rw [← hsp]; exact fun y hy => (k.2.2.1 y hy).2) hC).2.2.2
  have hnx : nxt ((esX X p).drop (j + 1)) hi ≤ 64 ∧ x.1 < nxt ((esX X p).drop (j + 1)) hi := by
    cases hd : (esX X p).drop (j + 1) with
    | nil => exact ⟨hhi, h2⟩
    | cons y r =>
      have hy : y ∈ esX X p := List.mem_of_mem_drop (i := j + 1) (by rw [hd]; simp)
      have := k.2.2.1 y hy
      have := hcb y (by rw [hd]; simp)
      exact ⟨by simp only [nxt]; omega, by simp only [nxt]; omega⟩
  have hclo : (if (esX X p).take j = [] then lo else (esX X p)[j].1) ≤ (esX X p)[j].1 ∧ 0 ≤ (if (esX X p).take j = [] then lo else (esX X p)[j].1) ∧ (if (esX X p).take j = [] then lo else (esX X p)[j].1) ≤ x.1 := by
    split
    · omega
    · rename_i hne
      have := hca hne
      omega
  have ih := (putF_E hI hx hz2 lv hU (okT_mono hf hclo.1 (Int.le_refl _)) hkd.1 hkd.2.2 hclo.2.1 hnx.1 hclo.2.2 hnx.2).2
  by_cases he : (putF X L lv (esX X p)[j].2 x).2.2 = 0
  · have s := ih.ys he
    refine ⟨by rcases s.len with q | q <;> omega, fun _ => by rcases s.len with q | q <;> omega, fun y hy => ?_⟩
    have h3 := s.ok.1 y hy
    have h4 := s.pg y hy
    omega
  · rw [ih.no he]
    exact ⟨by simp, fun q => absurd q he, by simp⟩
end Go.Proofs.YtmkinaijkgkgiaaGreat
