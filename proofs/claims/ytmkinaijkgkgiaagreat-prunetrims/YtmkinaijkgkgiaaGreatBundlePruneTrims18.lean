/- Texts J8, JD, JE, JF of the proof of PruneTrims, one behind the other. -/
import Derived.Test.YtmkinaijkgkgiaaGreatBundlePruneTrims1
import Derived.Test.YtmkinaijkgkgiaaGreatBundlePruneTrims2
import Derived.Test.YtmkinaijkgkgiaaGreatBundlePruneTrims3
import Derived.Test.YtmkinaijkgkgiaaGreatBundlePruneTrims4
import Derived.Test.YtmkinaijkgkgiaaGreatBundlePruneTrims5
import Derived.Test.YtmkinaijkgkgiaaGreatBundlePruneTrims6
import Derived.Test.YtmkinaijkgkgiaaGreatBundlePruneTrims7
import Derived.Test.YtmkinaijkgkgiaaGreatBundlePruneTrims8
import Derived.Test.YtmkinaijkgkgiaaGreatBundlePruneTrims9
import Derived.Test.YtmkinaijkgkgiaaGreatBundlePruneTrims10
import Derived.Test.YtmkinaijkgkgiaaGreatBundlePruneTrims11
import Derived.Test.YtmkinaijkgkgiaaGreatBundlePruneTrims12
import Derived.Test.YtmkinaijkgkgiaaGreatBundlePruneTrims13
import Derived.Test.YtmkinaijkgkgiaaGreatBundlePruneTrims14
import Derived.Test.YtmkinaijkgkgiaaGreatBundlePruneTrims15
import Derived.Test.YtmkinaijkgkgiaaGreatBundlePruneTrims16
import Derived.Test.YtmkinaijkgkgiaaGreatBundlePruneTrims17
/- Put of an inner node and of a root; Swap; plain, no condition. -/
namespace Go.Proofs.YtmkinaijkgkgiaaGreat
open Go.RowKit Go.Proofs.U
set_option linter.unusedSimpArgs false
set_option linter.unusedVariables false
theorem cnt_le (l : List (Int × Int)) (q : Int) : (l.map (·.2)).count q ≤ l.length := by
  have := List.count_le_length (a := q) (l := l.map (·.2)); rwa [List.length_map] at this
theorem PutE.fail {X : DSt} {L : List Pg} {R : List Int} {T : List Nat} {lv : Nat} {p lo hi c clo chi : Int} {z : Int × Int} {X' : DSt} {L' : List Pg} {tops : List (Int × Int)} {e : Int} (h : PutE X L R T lv c clo chi z X' L' tops e) (he : ¬ e = 0) : PutE X L R T (lv + 1) p lo hi z X' L' [] e :=
  ⟨h.ext, h.er, fun q => by have := h.e71 q; omega, fun q hc => h.e72 q fun x => by have := hc x; omega, fun _ => rfl, fun q => absurd q he⟩
theorem put_inner {X : DSt} {L : List Pg} {R : List Int} {T : List Nat} {m lv : Nat} {p lo hi clo chi c : Int} {z : Int × Int} {X1 : DSt} {L1 : List Pg} {below es : List (Int × Int)} (k : okT X (lv + 1) p lo hi) (hx : Ext X L X1 L1) (hU : Up X1 L1.length m) (s : PutIs X L R T lv c clo chi z X1 L1 below) (r : InnerIs X L T lv p lo hi z X1 L1 below es) :
    ∃ X2 L2 tops e, splF (X1, L1) 3 es = ((X2, L2), tops, e) ∧ Up X2 L2.length (m + 2) ∧ PutE X L R T (lv + 1) p lo hi z X2 L2 tops e := by
  have h6 : szX X p ≤ 6 := k.es.2.2.1
  have h1 : 1 ≤ szX X p := k.es.2.1
  have hln := r.ln
  obtain ⟨X2, L2, tops, e, em, hx2, hup, he, h71, h72, hno, hys⟩ := split_T s.iv hU (Or.inr rfl) (by omega) (by omega) r.up r.mem
  refine ⟨X2, L2, tops, e, em, hup, hx.trans hx2, he, fun q => ?_, fun q hc => h72 q fun x => ?_, hno, fun q => ?_⟩
  · have := (h71 q).1; have := s.fr; omega
  · have := hc x; have := s.ct x; omega
  · have sp := hys q
    have w := split_row (lv := lv + 1) s.iv hx2 sp r.up r.ok (by omega) (by omega) (fun _ x hx' => ⟨(r.mem x hx').1.2.2.1, (r.mem x hx').2⟩)
    refine ⟨?_, w.up, w.ok, w.ls.trans r.ls, w.pg, by have := sp.fr; have := s.fr; omega, fun x => ?_, ?_, fun Q hQ hf t ht => w.ft Q hQ (r.ft Q hQ hf) t ht, by have := w.df; have := r.df; omega⟩
    · refine InvT.lessL (S := pgsT below) (InvT.swap sp.iv) fun t ht => ?_
      obtain ⟨x, hx', rfl⟩ := List.mem_map.1 ht
      rw [sp.ct x.2.toNat]
      have hp0 := (s.pg x hx').1
      have : 0 < (es.map (·.2)).count ((x.2.toNat : Nat) : Int) := List.count_pos_iff.2 (by
        rw [Int.toNat_of_nonneg hp0]
        exact List.mem_map_of_mem (f := fun x : Int × Int => x.2) (r.sub x hx'))
      omega
    · rw [sp.ct x]
      have := cnt_le es (x : Int)
      have := s.ct x
      omega
    · rcases w.sz with ⟨t, rfl, hs, h6'⟩ | ⟨t, u, rfl, h7, hs, hs'⟩
      · exact Or.inl ⟨t, rfl, by omega⟩
      · exact Or.inr ⟨t, u, rfl, by omega, hs, hs'⟩
/-- A tree with what is in it, its root any page that is a tree of all keys. -/
structure TreeAt (X : DSt) (Q : List Nat → Prop) (lv : Nat) (p : Int) (l : List (Int × Int)) : Prop where
  ok : okT X lv p 0 64
  ls : lsT X lv p = l
  rt : lv = 0 ∨ 2 ≤ szX X p
  ft : fitT X Q lv p
/-- What comes of Put: h is the elder tree's height. -/
structure PutR (X : DSt) (L : List Pg) (R : List Int) (T : List Nat) (Q : List Nat → Prop) (h : Nat) (l : List (Int × Int)) (X' : DSt) (L' : List Pg) (p' e : Int) : Prop where
  ext : Ext X L X' L'
  er : e = 0 ∨ e = 71 ∨ e = 72
  e71 : e = 71 → plFree L < 2 * h + 1
  e72 : e = 72 → ¬ ∀ q, cntL L q + (7 * h + 7) ≤ 255
  no : ¬ e = 0 → p' = -1
  p0 : e = 0 → 0 ≤ p'
  ys : e = 0 → ∃ lv, lv ≤ h ∧ InvT X' L' R (p'.toNat :: T) ∧ TreeAt X' Q lv p' l
  fr : e = 0 → plFree L ≤ plFree L' + (2 * h + 1)
  ct : e = 0 → ∀ q, cntL L' q ≤ cntL L q + (7 * h + 7)
/-- Of None. -/
theorem put_none {X : DSt} {L : List Pg} {R : List Int} {T : List Nat} {m : Nat} {Q : List Nat → Prop} {z : Int × Int} (h : InvT X L R T) (hU : Up X L.length m) (hz : 0 ≤ z.1 ∧ z.1 ≤ 63) (hz2 : 0 ≤ z.2 ∧ 0 < cntT L T z.2.toNat) :
    ∃ X' L' tops e, splF (X, L) 2 [z] = ((X', L'), tops, e) ∧ Up X' L'.length (m + 2) ∧ tops.length ≤ 1 ∧ (e = 0 → tops.length = 1) ∧ PutR X L R T Q 0 [z] X' L' (if e = 0 then (tops.getD 0 (0, 0)).2 else -1) e := by
  have hz239 : z.2 ≤ 239 := by have := h.low hz2.2; omega
  obtain ⟨X', L', tops, e, em, hx, hup, he, h71, h72, hno, hys⟩ := split_T (es := [z]) h hU (Or.inl rfl) (by simp) (by simp) (by simp [KeysUp]) (by
    intro x hx; simp at hx; subst hx
    exact ⟨⟨hz.1, hz.2, hz2.1, hz239⟩, hz2.2⟩)
  by_cases e0 : e = 0
  · subst e0
    have s := hys rfl
    rcases s.ways with ⟨_, p, rfl, hN, hfr⟩ | ⟨h6, _⟩
    · have hn : okN X' 0 [z] 0 64 := by intro x hx; simp at hx; subst hx; omega
      obtain ⟨tr, te⟩ := NewN.tree (lv := 0) hN hn (by simp [KeysUp])
      refine ⟨X', L', _, 0, em, hup, by simp, fun _ => rfl, ?_⟩
      rw [if_pos rfl]
      refine ⟨hx, he, fun q => absurd q (by decide), fun q => absurd q (by decide), fun q => absurd rfl q, fun _ => hN.p0, fun _ => ⟨0, Nat.le_refl _, s.iv, okT_mono tr hz.1 (Int.le_refl _), te, Or.inl rfl, trivial⟩, fun _ => by omega, fun _ q => ?_⟩
      rw [s.ct q]
      have := cnt_le [z] (q : Int)
      simp only [List.length_cons, List.length_nil] at this
      omega
    · simp at h6
  · have := hno e0
    subst this
    refine ⟨X', L', [], e, em, hup, by simp, fun q => absurd q e0, ?_⟩
    rw [if_neg e0]
    refine ⟨hx, he, fun q => ?_, fun q hc => h72 q fun x => ?_, fun _ => rfl, fun q => absurd q e0, fun q => absurd q e0, fun q => absurd q e0, fun q => absurd q e0⟩
    · have := (h71 q).2 (by simp); omega
    · have := hc x; simp only [List.length_cons, List.length_nil]; omega
theorem TreeAt.put1 {X : DSt} {L : List Pg} {R : List Int} {T : List Nat} {Q : List Nat → Prop} (hQ : QOk Q) {lv : Nat} {p : Int} {l : List (Int × Int)} {z : Int × Int} (t : TreeAt X Q lv p l) {X1 : DSt} {L1 : List Pg} {tops : List (Int × Int)} {e : Int} (s : PutE X L R T lv p 0 64 z X1 L1 tops e) (hl : ¬ 1 < tops.length) :
    (e = 0 → tops.length = 1) ∧ PutR X L R T Q (lv + 1) (putL l z) X1 L1 (if e = 0 then (tops.getD 0 (0, 0)).2 else -1) e := by
  by_cases e0 : e = 0
  · subst e0
    have i := s.ys rfl
    rcases i.sz with ⟨x, rfl, hs⟩ | ⟨x, u, rfl, _⟩
    · rw [if_pos rfl]
      have hok : okT X1 lv x.2 x.1 64 := i.ok.2
      have hx0 := i.ok.1 x (by simp)
      refine ⟨fun _ => rfl, s.ext, s.er, fun q => absurd q (by decide), fun q => absurd q (by decide), fun q => absurd rfl q, fun _ => (i.pg x (by simp)).1, fun _ => ⟨lv, by omega, i.iv, okT_mono hok hx0.1 (Int.le_refl _), ?_, ?_, i.ft Q hQ t.ft x (by simp)⟩, fun _ => by have := i.fr; omega, fun _ q => by have := i.ct q; omega⟩
      · have := i.ls
        rw [t.ls] at this
        simpa [lsN] using this
      · have := t.rt
        simp only [List.getD_cons_zero]
        omega
    · simp at hl
  · rw [if_neg e0]
    exact ⟨fun q => absurd q e0, s.ext, s.er, fun q => by have := s.e71 q; omega, fun q hc => s.e72 q fun x => by have := hc x; omega, fun _ => rfl, fun q => absurd q e0, fun q => absurd q e0, fun q => absurd q e0, fun q => absurd q e0⟩
theorem TreeAt.put2 {X : DSt} {L : List Pg} {R : List Int} {T : List Nat} {m : Nat} {Q : List Nat → Prop} (hQ : QOk Q) (hQ34 : Q [3, 4]) {lv : Nat} {p : Int} {l : List (Int × Int)} {z : Int × Int} (t : TreeAt X Q lv p l) {X1 : DSt} {L1 : List Pg} {tops : List (Int × Int)} {e : Int} (s : PutE X L R T lv p 0 64 z X1 L1 tops e) (hU : Up X1 L1.length m) (hl : 1 < tops.length) :
    e = 0 ∧ tops.length ≤ 2 ∧ ∃ X2 L2 tops2 e2, splF (X1, L1) 3 tops = ((X2, L2), tops2, e2) ∧ Up X2 L2.length (m + 2) ∧ (e2 = 0 → tops2.length = 1) ∧ PutR X L R T Q (lv + 1) (putL l z) X2 L2 (if e2 = 0 then (tops2.getD 0 (0, 0)).2 else -1) e2 := by
  have e0 : e = 0 := by
    by_cases e0 : e = 0
    · exact e0
    · have := s.no e0; rw [this] at hl; simp at hl
  subst e0
  have i := s.ys rfl
  have hlen := i.len
  have hl2 : tops.length = 2 := by omega
  refine ⟨rfl, by omega, ?_⟩
  have hmem : ∀ x ∈ tops, (0 ≤ x.1 ∧ x.1 ≤ 63 ∧ 0 ≤ x.2 ∧ x.2 ≤ 239) ∧ 0 < cntT L1 (pgsT tops ++ T) x.2.toNat := fun x hx => by
    have h1 := i.ok.1 x hx
    have h2 := i.pg x hx
    exact ⟨by omega, i.iv.mem (List.mem_append_left _ (List.mem_map_of_mem (f := fun x : Int × Int => x.2.toNat) hx))⟩
  obtain ⟨X2, L2, tops2, e2, em, hx2, hup, he, h71, h72, hno, hys⟩ := split_T i.iv hU (Or.inr rfl) (by omega) (by omega) i.up hmem
  by_cases e0 : e2 = 0
  · subst e0
    have sp := hys rfl
    have w := split_row (lv := lv + 1) i.iv hx2 sp i.up i.ok (by omega) (by omega) (fun _ x hx' => ⟨(hmem x hx').1.2.2.1, (hmem x hx').2⟩)
    rcases w.sz with ⟨x, rfl, hs, _⟩ | ⟨_, _, _, h7, _⟩
    · have hok : okT X2 (lv + 1) x.2 x.1 64 := w.ok.2
      have hx0 := w.ok.1 x (by simp)
      refine ⟨X2, L2, _, 0, em, hup, fun _ => rfl, ?_⟩
      rw [if_pos rfl]
      refine ⟨s.ext.trans hx2, Or.inl rfl, fun q => absurd q (by decide), fun q => absurd q (by decide), fun q => absurd rfl q, fun _ => (w.pg x (by simp)).1, fun _ => ⟨lv + 1, Nat.le_refl _, ?_, okT_mono hok hx0.1 (Int.le_refl _), ?_, ?_, ?_⟩, fun _ => ?_, fun _ q => ?_⟩
      · refine InvT.lessL (S := pgsT tops) (T := x.2.toNat :: T) ?_ fun y hy => ?_
        · have := InvT.swap sp.iv
          exact this
        · obtain ⟨x', hx', rfl⟩ := List.mem_map.1 hy
          rw [sp.ct x'.2.toNat]
          have hp0 := (i.pg x' hx').1
          have : 0 < (tops.map (·.2)).count ((x'.2.toNat : Nat) : Int) := List.count_pos_iff.2 (by
            rw [Int.toNat_of_nonneg hp0]
            exact List.mem_map_of_mem (f := fun x : Int × Int => x.2) hx')
          omega
      · have h1 := w.ls
        have h2 := i.ls
        rw [h2, t.ls] at h1
        simpa [lsN] using h1
      · refine Or.inr ?_
        simp only [List.getD_cons_zero]
        omega
      · refine w.ft Q hQ ?_ x (by simp)
        rcases i.sz with ⟨y, rfl, _⟩ | ⟨y, u, rfl, _, hs3, hs4⟩
        · simp at hl2
        · refine ⟨?_, fun y' hy' => i.ft Q hQ t.ft y' hy'⟩
          simp only [List.map_cons, List.map_nil]
          rw [hs3, hs4]
          exact hQ34
      · rcases sp.ways with ⟨_, p', _, _, hf⟩ | ⟨h6, _⟩
        · have := i.fr; omega
        · omega
      · rw [sp.ct q]
        have := cnt_le tops (q : Int)
        have := i.ct q
        omega
    · omega
  · refine ⟨X2, L2, tops2, e2, em, hup, fun q => absurd q e0, ?_⟩
    rw [if_neg e0]
    refine ⟨s.ext.trans hx2, he, fun q => ?_, fun q hc => h72 q fun x => ?_, fun _ => rfl, fun q => absurd q e0, fun q => absurd q e0, fun q => absurd q e0, fun q => absurd q e0⟩
    · have := (h71 q).2 (by omega); have := i.fr; omega
    · have := hc x; have := i.ct x; omega
theorem PlY.drop {X : DSt} (n : Nat) {L : List Pg} (p : Int) (h : PlY L) : PlY (dropF X n L p).1 := by
  refine dropF_inv (I := PlY) (fun M q y => ?_) n L p h
  cases hh : plHeld M q with
  | false => rw [plDrop_not hh]; exact y
  | true =>
    obtain ⟨j, rfl, hj⟩ := plHeld_in hh
    intro i
    by_cases hc : 1 < (plAt M j).c
    · rw [plDrop_less hh hc]
      simp only
      rw [plAt_set _ _ _ _ hj]
      split
      · rename_i e; subst e
        rcases y i with y | ⟨_, yc⟩
        · exact Or.inl y
        · omega
      · exact y i
    · rw [plDrop_up hh hc]
      simp only
      rw [plAt_set _ _ _ _ hj]
      split
      · rename_i e; subst e
        rcases y i with y | ⟨ys, yc⟩
        · refine Or.inr ⟨?_, rfl⟩; simp only; rw [y]; rfl
        · unfold plHeld Pg.held at hh
          rw [Int.toNat_natCast, ys, yc] at hh
          simp at hh
      · exact y i
end Go.Proofs.YtmkinaijkgkgiaaGreat
/- Trees in memory: open, with, parts; no condition. -/
namespace Go.Proofs.YtmkinaijkgkgiaaGreat
open Go.RowKit Go.Proofs.U
set_option linter.unusedSimpArgs false
set_option linter.unusedVariables false
/-- A tree's receiver: its store. -/
abbrev trV (gs : Nat) : Value := .agg #[ptr gs]
def leaf0 : Nd := ⟨2, zerB 16, []⟩
theorem tr_cell {w : World} {g gs : Nat} (h : BxV w g 26 [ptr gs]) : w.cell? ⟨g, 0, none⟩ = some (ptr gs) := (h.cell 0 _ rfl).1
theorem tr_size : (Tryz.prog.info? 26).map (·.size) = some 1 := by kernel_rfl
theorem tr_struct : Tryz.prog.underlying 26 = some (.struct (Tryz.prog.fieldsOf 26)) := by kernel_rfl
theorem run_ldT {w : World} {g gs : Nat} (h : BxV w g 26 [ptr gs]) : (Instr.loadAt 26 (.pointer (some ⟨g, 0, none⟩))).run Tryz.prog w = .ok (trV gs) w := by
  have := run_loadVar_mid (P := Tryz.prog) w g 0 26 [ptr gs] _ (h.range 0 _ rfl) tr_struct rfl tr_size
  simpa [Instr.loadAt, Instr.sureAddr, Result.andThen, trV] using this
theorem wpList_ldT {w : World} {ops : Array Oper} {rest : List Oper} {o : Oper} {a : Act} {Q : Exit → Act → World → Prop} (hgd : Region.wanted o (yielded ops a.tmps) = true) (y : Operand) (ho : o.op = .load 26 y) (g : Nat) (hy : a.eval y = .pointer (some ⟨g, 0, none⟩)) (gs : Nat) (hB : BxV w g 26 [ptr gs])
    (h : wpList Tryz.prog ops Q rest (a.put o.dst (trV gs)) w) : wpList Tryz.prog ops Q (o :: rest) a w := by
  refine wpList_wanted hgd fun K hK => ?_
  have hr := run_ldT hB
  unfold Oper.wp
  simp [execOp, ho, hy, hr, Result.andThen]
  exact hK _ _ h
set_option maxRecDepth 100000 in
set_option maxHeartbeats 1000000 in
theorem open_none (gs : Nat) (d : Int) (w : World) :
    Calls Tryz.prog 52 #[trV gs, .int .i64 (-1), .int .i64 d] w fun r w' => NOpenO w w' (leaf0, 0) r := by
  go_enter Tryz.func52, Tryz.ntmps52
  go_wp2_with (first
    | (with_reducible refine at_wpP ?_; refine wpList_boxG rfl 26 _ rfl (trV gs) [ptr gs] rfl rfl ?_; intro g3 w3 hg3 b3 f3 s3; have l3 := b3.lt; have z3 := f3.size)
    | (with_reducible refine at_wpP ?_; refine wpList_allocN rfl rfl ?_; intro g6 w6 hg6 b6 f6 s6; have l6 := b6.lt; have z6 := f6.size)
    | (with_reducible refine at_wpP ?_; refine wpList_bldN rfl _ rfl 2 (zerB 16) nilS [(0, .int .i64 2)] rfl (built_ndK 2) ?_)
    | (with_reducible refine at_wpP ?_; refine at_st 72 _ _ rfl ?_; go_must (refine wpList_stN rfl _ _ rfl g6 rfl 2 (zerB 16) nilS rfl (zerB_len 16) ⟨_, _, _, rfl⟩ 0 (zerB 16) nilS b6 (zerB_len 16) ?_; intro w7 b7 f7)))
  have F7 : Fr noB w w7 := (f3.thenN f6).thenT f7 (fun i hi q => by unfold onB1 at q; omega)
  exact bodyPost_ret (results_nd2 Tryz.results52 _ w7 g6 2 (zerB 16) nilS rfl b7 (zerB_len 16)) rfl ⟨nilS, rfl, ⟨⟨⟨by simp [leaf0], Sl.nil w7 2⟩, by simp [leaf0]⟩, ⟨zerB_len 16, zerB_byt 16⟩, by simp [leaf0], rfl⟩, (fun k hk => by cases hk), F7, OwnR.none _ _⟩
set_option maxRecDepth 100000 in
set_option maxHeartbeats 1000000 in
theorem open_at {F : Nat → Prop} {gs gp : Nat} {X : DSt} {L : List Pg} {m : Nat} {N : Nd} (p d : Int) (w : World) (h : Sto w F gs gp X L m) (hm : m ≤ 100000) (hp : ¬ p = -1) (hd : d < 8) (he : getF X L p = (N, 0)) (hk : ¬ N.k = 1) :
    Calls Tryz.prog 52 #[trV gs, .int .i64 p, .int .i64 d] w fun r w' => NOpenO w w' (N, 0) r := by
  have hG := fun W (f : Fr noB w W) => nget_own p W (h.fr0 f) hm
  rw [he] at hG
  have hp1 : (p == -1) = false := by simpa using hp
  have hd1 : decide ((8 : Int) ≤ d) = false := by simp; omega
  have hk1 : (N.k == 1) = false := by simpa using hk
  go_enter Tryz.func52, Tryz.ntmps52
  go_wp2_with (first
    | (with_reducible refine at_wpP ?_; refine wpList_boxG rfl 26 _ rfl (trV gs) [ptr gs] rfl rfl ?_; intro g3 w3 hg3 b3 f3 s3; have l3 := b3.lt; have z3 := f3.size)
    | (with_reducible refine at_wpP ?_; have q := n7; refine wpList_allocN rfl rfl ?_; intro g8 w8 hg8 b8 f8 s8; have l8 := b8.lt; have z8 := f8.size)
    | (with_reducible refine at_wpP ?_; refine wpList_allocN rfl rfl ?_; intro g6 w6 hg6 b6 f6 s6; have l6 := b6.lt; have z6 := f6.size; have q3 := tr_cell (b3.fr0 f6))
    | (go_at_call 40; go_must (refine (hG _ (f3.thenN f6)).mono ?_; rintro e w7 ⟨v, rfl, n7, o7, f7, q7⟩; have z7 := f7.size; have hv := NdS.sl n7; have hbl := NdS.bl n7; have b6' := b6.fr0 f7))
    | (with_reducible refine at_wpP ?_; refine at_st 72 _ _ rfl ?_; have q := b9; go_must (refine wpList_stN rfl _ _ rfl g6 rfl N.k N.b v rfl hbl.out hv 0 (zerB 16) nilS ((b6'.fr0 f8).fr f9 (fun q => by unfold onB1 at q; omega)) (zerB_len 16) ?_; intro w10 b10 f10))
    | (with_reducible refine at_wpP ?_; refine at_st 72 _ _ rfl ?_; have q := b8; go_must (refine wpList_stN rfl _ _ rfl g8 rfl N.k N.b v rfl hbl.out hv 0 (zerB 16) nilS b8 (zerB_len 16) ?_; intro w9 b9 f9; have z9 := f9.size; have q9 := NdB.kind b9))
    | (with_reducible refine at_wpP ?_; refine at_ld 72 _ rfl ?_; have q := b9; go_must (refine wpList_ldN rfl _ rfl g8 rfl N.k N.b v b9 hbl.out ?_)))
  have F9 : Fr noB w7 w9 := Fr.ownX f8 s8 f9
  have F10 : Fr noB w w10 := (((f3.thenN f6).thenN f7).thenN F9).thenT f10 (fun i hi q => by unfold onB1 at q; omega)
  exact bodyPost_ret (results_nd2 Tryz.results52 _ w10 g6 N.k N.b v rfl b10 hbl.out) rfl ⟨v, rfl, (n7.fr0 F9).frS f10 (fun k hk q => by have := o7 k hk; unfold onB1 at q; omega), (fun k hk => by have := o7 k hk; omega), F10, ((q7.fr0 F9).fr f10 (fun k hk q => by have := o7 k hk; unfold onB1 at q; omega)).rebase (by omega)⟩
end Go.Proofs.YtmkinaijkgkgiaaGreat
/- Trees in memory: with, parts; no condition. -/
namespace Go.Proofs.YtmkinaijkgkgiaaGreat
open Go.RowKit Go.Proofs.U
set_option linter.unusedSimpArgs false
set_option linter.unusedVariables false
theorem EnO.slp {w : World} {base : Nat} {v : Value} {l : List (Int × Int)} (h : EnO w base v l) (hr : ∀ x ∈ l, (Lit.int .i64 x.1).wf = true ∧ (Lit.int .i64 x.2).wf = true) : SlP .i64 .i64 w v l := ⟨h.sl, hr⟩
theorem InsIs.pre {w0 w w' : World} {base : Nat} {v : Value} {l' : List (Int × Int)} {r : Ending} (f : Fr noB w0 w) (h : InsIs w w' base v l' r) : InsIs w0 w' base v l' r := by
  obtain ⟨v', e, o, fr, p⟩ := h
  exact ⟨v', e, o, (f.mono (fun _ _ q => q.elim)).thenT fr (fun _ _ q => q), fun k hk => (p k hk).imp id (fun q => Nat.le_trans f.size q)⟩
theorem one_own {w : World} {g : Nat} {x : Int × Int} (h : BxV w g 40 (enC x)) : EnO w g (.slice (some ⟨g, 0, none⟩) 1 1) [x] :=
  EnO.mk (Nat.le_refl _) h rfl (by simp) (by decide) rfl (by simp [enC, pairC])
set_option maxRecDepth 100000 in
set_option maxHeartbeats 2000000 in
theorem with_any {w : World} {base : Nat} {v : Value} {l : List (Int × Int)} (x : Int × Int) (hb : base ≤ w.heap.size) (hO : EnO w base v l) (hr : ∀ x ∈ l, (Lit.int .i64 x.1).wf = true ∧ (Lit.int .i64 x.2).wf = true) (hl : l.length ≤ 500) :
    Calls Tryz.prog 53 #[v, enV x] w fun r w' => ∃ i, AtIs l x.1 i ∧ InsIs w w' base v (withL l x i) r := by
  have hA := fun W (f : Fr noB w W) => at_any v l x.1 W (EnO.slp (hO.fr0 f) hr) (by omega)
  go_enter Tryz.func53, Tryz.ntmps53
  go_wp2_with (first
    | (with_reducible refine at_wpP ?_; refine wpList_boxG rfl 40 _ rfl (enV x) (enC x) rfl rfl ?_; intro g3 w3 hg3 b3 f3 s3; have l3 := b3.lt; have z3 := f3.size; have c3 := EnB.all b3)
    | (go_at_call 54; go_must (refine (hA _ f3).mono ?_; rintro e w4 ⟨i, rfl, hi, f4⟩; have z4 := f4.size; have b4 := b3.fr0 f4; have c4 := EnB.all b4)))
  have F4 := f3.thenN f4
  have O4 := hO.fr0 F4
  have hIns := fun (i : Nat) (hi : i ≤ l.length) (W : World) (g : Nat) (f : Fr noB w4 W) (hg : w4.heap.size ≤ g) (hB : BxV W g 40 (enC x)) => insE_any (i := i) (base := base) (by have := f.size; omega) (O4.fr0 f) (one_own hB) (fun k hk hk' => by
    have h1 := (O4.newB k hk).2
    simp [Value.ownBlock] at hk'
    omega) (by simp) (by simp; omega) hi
  by_cases hn : i = -1
  · subst hn
    have hw : withL l x (-1) = l.take 0 ++ ([x] ++ l.drop 0) := by unfold withL; rw [if_neg (fun q => q.1 rfl)]; rfl
    have hi0 : ∀ (W : World) (g : Nat), Fr noB w4 W → w4.heap.size ≤ g → BxV W g 40 (enC x) → Calls Tryz.prog 74 #[v, .int .i64 0, .slice (some ⟨g, 0, none⟩) 1 1] W fun r w' => InsIs W w' base v (l.take 0 ++ ([x] ++ l.drop 0)) r := hIns 0 (Nat.zero_le _)
    obtain ⟨w0, HW⟩ : ∃ w0, Hid (w4.drew = w0) := ⟨_, rfl⟩
    have f0 : Fr noB w4 w0 := by rw [← HW.out]; exact (Fr.refl _ _).drew
    have z0 := f0.size
    have b0 := b4.fr0 f0
    have O0 := O4.fr0 f0
    have c0 := EnB.all b0
    refine wp_region_chain_lay (by kernel_rfl) [] [none, none, none, none, none, none, none, none, none, none, none, none]
      [fun v => v = .int .i64 (-1), fun v => v = .bool false, fun v => v = .bool false, fun v => v = undef, fun v => v = undef, fun v => v = undef, fun v => v = undef, fun v => v = undef, fun v => v = undef, fun v => v = undef, fun v => v = undef, fun v => v = .bool false]
      (JQX w0) (HW.out) (by kernel_rfl) (by kernel_rfl) (by decide) ⟨?o0, ?o1, ?o2, ?o3, ?o4, ?o5, ?o6, ?o7, ?o8, ?o9, ?o10, ?o11, trivial⟩ ?oe
    case o0 =>
      intro A W hv hlen hJ hbase hdL hdH
      have e5 : A.eval (.tmp 5) = .int .i64 (-1) := hbase 5 (by kernel_rfl)
      have f5 : A.tmps[5]?.getD undef = .int .i64 (-1) := by simpa [Act.eval] using e5
      exact light_val rfl (v := .int .i64 (-1)) (by simp [execOp, e5, f5]) hJ rfl
    case o1 =>
      intro A W hv hlen hJ hbase hdL hdH
      have e10 : A.eval (.tmp 10) = .int .i64 (-1) := hdL 0 10 (by kernel_rfl) (by kernel_rfl) (by kernel_rfl)
      have f10 : A.tmps[10]?.getD undef = .int .i64 (-1) := by simpa [Act.eval] using e10
      exact light_val rfl (v := .bool false) (by simp [execOp, go_sem, e10, f10]) hJ rfl
    case o2 =>
      intro A W hv hlen hJ hbase hdL hdH
      have e11 : A.eval (.tmp 11) = .bool false := hdL 1 11 (by kernel_rfl) (by kernel_rfl) (by kernel_rfl)
      have f11 : A.tmps[11]?.getD undef = .bool false := by simpa [Act.eval] using e11
      exact light_val rfl (v := .bool false) (by simp [execOp, e11, f11]) hJ rfl
    case o3 =>
      intro A W hv hlen hJ hbase hdL hdH
      have eg : A.eval (.tmp 12) = .bool false := hdL 2 12 (by kernel_rfl) (by kernel_rfl) (by kernel_rfl)
      exact light_no (unwanted_of rfl (by kernel_rfl) eg) rfl
    case o4 =>
      intro A W hv hlen hJ hbase hdL hdH
      have eg : A.eval (.tmp 12) = .bool false := hdL 2 12 (by kernel_rfl) (by kernel_rfl) (by kernel_rfl)
      exact light_no (unwanted_of rfl (by kernel_rfl) eg) rfl
    case o5 =>
      intro A W hv hlen hJ hbase hdL hdH
      have eg : A.eval (.tmp 12) = .bool false := hdL 2 12 (by kernel_rfl) (by kernel_rfl) (by kernel_rfl)
      exact light_no (unwanted_of rfl (by kernel_rfl) eg) rfl
    case o6 =>
      intro A W hv hlen hJ hbase hdL hdH
      have eg : A.eval (.tmp 12) = .bool false := hdL 2 12 (by kernel_rfl) (by kernel_rfl) (by kernel_rfl)
      exact light_no (unwanted_of rfl (by kernel_rfl) eg) rfl
    case o7 =>
      intro A W hv hlen hJ hbase hdL hdH
      have eg : A.eval (.tmp 12) = .bool false := hdL 2 12 (by kernel_rfl) (by kernel_rfl) (by kernel_rfl)
      exact light_no (unwanted_of rfl (by kernel_rfl) eg) rfl
    case o8 =>
      intro A W hv hlen hJ hbase hdL hdH
      have eg : A.eval (.tmp 12) = .bool false := hdL 2 12 (by kernel_rfl) (by kernel_rfl) (by kernel_rfl)
      exact light_no (unwanted_of rfl (by kernel_rfl) eg) rfl
    case o9 =>
      intro A W hv hlen hJ hbase hdL hdH
      have eg : A.eval (.tmp 12) = .bool false := hdL 2 12 (by kernel_rfl) (by kernel_rfl) (by kernel_rfl)
      exact light_no (unwanted_of rfl (by kernel_rfl) eg) rfl
    case o10 =>
      intro A W hv hlen hJ hbase hdL hdH
      have eg : A.eval (.tmp 12) = .bool false := hdL 2 12 (by kernel_rfl) (by kernel_rfl) (by kernel_rfl)
      exact light_no (unwanted_of rfl (by kernel_rfl) eg) rfl
    case o11 =>
      intro A W hv hlen hJ hbase hdL hdH
      have e12 : A.eval (.tmp 12) = .bool false := hdL 2 12 (by kernel_rfl) (by kernel_rfl) (by kernel_rfl)
      have f12 : A.tmps[12]?.getD undef = .bool false := by simpa [Act.eval] using e12
      have e20 : A.eval (.tmp 20) = undef := hdL 10 20 (by kernel_rfl) (by kernel_rfl) (by kernel_rfl)
      have f20 : A.tmps[20]?.getD undef = undef := by simpa [Act.eval] using e20
      exact light_val rfl (v := .bool false) (by simp [execOp, go_sem, e12, f12, e20, f20]) hJ rfl
    case oe =>
      intro vs W' hv hlen hJ hL hH
      obtain rfl := (show W' = w0 from hJ)
      have x0 : vs 0 = .int .i64 (-1) := hL 0 (by kernel_rfl) (by kernel_rfl)
      have x1 : vs 1 = .bool false := hL 1 (by kernel_rfl) (by kernel_rfl)
      have x2 : vs 2 = .bool false := hL 2 (by kernel_rfl) (by kernel_rfl)
      have x3 : vs 3 = undef := hL 3 (by kernel_rfl) (by kernel_rfl)
      have x4 : vs 4 = undef := hL 4 (by kernel_rfl) (by kernel_rfl)
      have x5 : vs 5 = undef := hL 5 (by kernel_rfl) (by kernel_rfl)
      have x6 : vs 6 = undef := hL 6 (by kernel_rfl) (by kernel_rfl)
      have x7 : vs 7 = undef := hL 7 (by kernel_rfl) (by kernel_rfl)
      have x8 : vs 8 = undef := hL 8 (by kernel_rfl) (by kernel_rfl)
      have x9 : vs 9 = undef := hL 9 (by kernel_rfl) (by kernel_rfl)
      have x10 : vs 10 = undef := hL 10 (by kernel_rfl) (by kernel_rfl)
      have x11 : vs 11 = .bool false := hL 11 (by kernel_rfl) (by kernel_rfl)
      simp only [layL, Nat.reduceAdd, Act.put, List.setIfInBounds_toArray, List.set_cons_zero, List.set_cons_succ, x0, x1, x2, x3, x4, x5, x6, x7, x8, x9, x10, x11]
      clear x0 x1 x2 x3 x4 x5 x6 x7 x8 x9 x10 x11 hL hH
      have cE : ∀ q u, (enC x)[q]? = some u → W'.cell? ⟨g3, 0 + q, none⟩ = some u := fun q u hq => by rw [Nat.zero_add]; exact (b0.cell q u hq).1
      go_wp2_with (first
        | (with_reducible refine at_wpP ?_; refine at_ld 40 _ rfl ?_; go_must (refine wpList_ldE rfl _ rfl g3 0 rfl x cE ?_))
        | (with_reducible refine at_wpP ?_; refine wpList_mkC rfl 31 _ rfl uE _ en_info2 (by decide) (by decide) x (enV x) rfl rfl rfl ?_; intro g5 w5 b5 f5 s5)
        | (go_at_call 74; go_must (refine (hi0 _ g5 (f0.thenN f5) (by omega) b5).mono ?_; rintro e w6 ⟨v6, rfl, o6, f6, p6⟩)))
      go_ret
      refine ⟨-1, hi, v6, rfl, by rw [hw]; exact o6, ?_, fun k hk => (p6 k hk).imp id (fun q => ?_)⟩
      · exact (((F4.thenN f0).thenN f5).mono (fun _ _ q => q.elim)).thenT f6 (fun _ _ q => q)
      · have := f5.size; omega
  · obtain ⟨k, hk, rfl⟩ : ∃ (k : Nat), k < l.length ∧ i = (k : Int) := (hi.some hn).elim fun k h => h.elim fun hk h => ⟨k, hk, h.1⟩
    rcases hO.parts with ⟨_, rfl⟩ | ⟨g, cap, cur, rfl, hbg, hB, hnc, hcm, hcl, hct⟩
    · simp at hk
    obtain ⟨y, Hy⟩ : ∃ y : Int × Int, Hid (l[k] = y) := ⟨l[k], rfl⟩
    have hgd : l.getD ((k : Int).toNat) (0, 0) = l[k] := by rw [Int.toNat_natCast]; simp [List.getD, hk]
    have hk1 : ((k : Int) == -1) = false := by simp
    obtain ⟨w0, HW⟩ : ∃ w0, Hid (w4.drew = w0) := ⟨_, rfl⟩
    have f0 : Fr noB w4 w0 := by rw [← HW.out]; exact (Fr.refl _ _).drew
    have z0 := f0.size
    have b0 := b4.fr0 f0
    have O0 := O4.fr0 f0
    have c0 := EnB.all b0
    have hcy : w0.cell? ⟨g, k * 2, none⟩ = some (.int .i64 y.1) := by
      have hr := O0.rangeK k hk
      rw [Hy.out] at hr
      exact hr 0 _ rfl
    have off_E0 : ((⟨g, k * 2, none⟩ : Addr).add 0) = ⟨g, k * 2, none⟩ := rfl
    by_cases he : y.1 = x.1
    · have hyB : (y.1 == x.1) = true := by simpa using he
      have hw : withL l x (k : Int) = l.set k x := by
        unfold withL
        rw [hgd, Hy.out, if_pos ⟨hn, he⟩, Int.toNat_natCast]
      refine wp_region_chain_lay (by kernel_rfl) [] [none, none, none, none, none, none, none, none, none, none, none, none]
        [fun v => v = .int .i64 (k : Int), fun v => v = .bool true, fun v => v = .bool true, fun v => v = .slice (some ⟨g, 0, none⟩) l.length cap, fun v => v = .int .i64 (k : Int), fun v => v = .pointer (some ⟨g, k * 2, none⟩), fun v => v = .pointer (some ⟨g, k * 2, none⟩), fun v => v = .int .i64 y.1, fun v => v = .pointer (some ⟨g3, 0, none⟩), fun v => v = .int .i64 x.1, fun v => v = .bool true, fun v => v = .bool true]
        (JQX w0) (HW.out) (by kernel_rfl) (by kernel_rfl) (by decide) ⟨?o0, ?o1, ?o2, ?o3, ?o4, ?o5, ?o6, ?o7, ?o8, ?o9, ?o10, ?o11, trivial⟩ ?oe
      case o0 =>
        intro A W hv hlen hJ hbase hdL hdH
        have e5 : A.eval (.tmp 5) = .int .i64 (k : Int) := hbase 5 (by kernel_rfl)
        have f5 : A.tmps[5]?.getD undef = .int .i64 (k : Int) := by simpa [Act.eval] using e5
        exact light_val rfl (v := .int .i64 (k : Int)) (by simp [execOp, e5, f5]) hJ rfl
      case o1 =>
        intro A W hv hlen hJ hbase hdL hdH
        have e10 : A.eval (.tmp 10) = .int .i64 (k : Int) := hdL 0 10 (by kernel_rfl) (by kernel_rfl) (by kernel_rfl)
        have f10 : A.tmps[10]?.getD undef = .int .i64 (k : Int) := by simpa [Act.eval] using e10
        exact light_val rfl (v := .bool true) (by simp [execOp, go_sem, e10, f10, hk1]) hJ rfl
      case o2 =>
        intro A W hv hlen hJ hbase hdL hdH
        have e11 : A.eval (.tmp 11) = .bool true := hdL 1 11 (by kernel_rfl) (by kernel_rfl) (by kernel_rfl)
        have f11 : A.tmps[11]?.getD undef = .bool true := by simpa [Act.eval] using e11
        exact light_val rfl (v := .bool true) (by simp [execOp, e11, f11]) hJ rfl
      case o3 =>
        intro A W hv hlen hJ hbase hdL hdH
        have e0 : A.eval (.tmp 0) = .slice (some ⟨g, 0, none⟩) l.length cap := hbase 0 (by kernel_rfl)
        have f0 : A.tmps[0]?.getD undef = .slice (some ⟨g, 0, none⟩) l.length cap := by simpa [Act.eval] using e0
        have eg : A.eval (.tmp 12) = .bool true := hdL 2 12 (by kernel_rfl) (by kernel_rfl) (by kernel_rfl)
        exact light_val (wanted_of rfl (by kernel_rfl) eg) (v := .slice (some ⟨g, 0, none⟩) l.length cap) (by simp [execOp, e0, f0]) hJ rfl
      case o4 =>
        intro A W hv hlen hJ hbase hdL hdH
        have e5 : A.eval (.tmp 5) = .int .i64 (k : Int) := hbase 5 (by kernel_rfl)
        have f5 : A.tmps[5]?.getD undef = .int .i64 (k : Int) := by simpa [Act.eval] using e5
        have eg : A.eval (.tmp 12) = .bool true := hdL 2 12 (by kernel_rfl) (by kernel_rfl) (by kernel_rfl)
        exact light_val (wanted_of rfl (by kernel_rfl) eg) (v := .int .i64 (k : Int)) (by simp [execOp, e5, f5]) hJ rfl
      case o5 =>
        intro A W hv hlen hJ hbase hdL hdH
        have e13 : A.eval (.tmp 13) = .slice (some ⟨g, 0, none⟩) l.length cap := hdL 3 13 (by kernel_rfl) (by kernel_rfl) (by kernel_rfl)
        have f13 : A.tmps[13]?.getD undef = .slice (some ⟨g, 0, none⟩) l.length cap := by simpa [Act.eval] using e13
        have e14 : A.eval (.tmp 14) = .int .i64 (k : Int) := hdL 4 14 (by kernel_rfl) (by kernel_rfl) (by kernel_rfl)
        have f14 : A.tmps[14]?.getD undef = .int .i64 (k : Int) := by simpa [Act.eval] using e14
        have eg : A.eval (.tmp 12) = .bool true := hdL 2 12 (by kernel_rfl) (by kernel_rfl) (by kernel_rfl)
        have hr := run_idxO (P := Tryz.prog) (w := W) (sz := 2) 31 40 uE en_size g l.length cap .i64 k hk
        exact light_val (wanted_of rfl (by kernel_rfl) eg) (v := .pointer (some ⟨g, k * 2, none⟩)) (by simp [execOp, e13, e14, hr, Result.andThen]) hJ rfl
      case o6 =>
        intro A W hv hlen hJ hbase hdL hdH
        have e15 : A.eval (.tmp 15) = .pointer (some ⟨g, k * 2, none⟩) := hdL 5 15 (by kernel_rfl) (by kernel_rfl) (by kernel_rfl)
        have f15 : A.tmps[15]?.getD undef = .pointer (some ⟨g, k * 2, none⟩) := by simpa [Act.eval] using e15
        have eg : A.eval (.tmp 12) = .bool true := hdL 2 12 (by kernel_rfl) (by kernel_rfl) (by kernel_rfl)
        exact light_val (wanted_of rfl (by kernel_rfl) eg) (v := .pointer (some ⟨g, k * 2, none⟩)) (by simp [execOp, go_sem, e15, f15, off_E0]) hJ rfl
      case o7 =>
        intro A W hv hlen hJ hbase hdL hdH
        have e16 : A.eval (.tmp 16) = .pointer (some ⟨g, k * 2, none⟩) := hdL 6 16 (by kernel_rfl) (by kernel_rfl) (by kernel_rfl)
        have f16 : A.tmps[16]?.getD undef = .pointer (some ⟨g, k * 2, none⟩) := by simpa [Act.eval] using e16
        have eg : A.eval (.tmp 12) = .bool true := hdL 2 12 (by kernel_rfl) (by kernel_rfl) (by kernel_rfl)
        obtain rfl := (show W = w0 from hJ)
        exact light_val (wanted_of rfl (by kernel_rfl) eg) (v := .int .i64 y.1) (by simp [execOp, go_sem, e16, f16, hcy]) rfl rfl
      case o8 =>
        intro A W hv hlen hJ hbase hdL hdH
        have e3 : A.eval (.tmp 3) = .pointer (some ⟨g3, 0, none⟩) := hbase 3 (by kernel_rfl)
        have f3 : A.tmps[3]?.getD undef = .pointer (some ⟨g3, 0, none⟩) := by simpa [Act.eval] using e3
        have eg : A.eval (.tmp 12) = .bool true := hdL 2 12 (by kernel_rfl) (by kernel_rfl) (by kernel_rfl)
        exact light_val (wanted_of rfl (by kernel_rfl) eg) (v := .pointer (some ⟨g3, 0, none⟩)) (by simp [execOp, go_sem, e3, f3]) hJ rfl
      case o9 =>
        intro A W hv hlen hJ hbase hdL hdH
        have e18 : A.eval (.tmp 18) = .pointer (some ⟨g3, 0, none⟩) := hdL 8 18 (by kernel_rfl) (by kernel_rfl) (by kernel_rfl)
        have f18 : A.tmps[18]?.getD undef = .pointer (some ⟨g3, 0, none⟩) := by simpa [Act.eval] using e18
        have eg : A.eval (.tmp 12) = .bool true := hdL 2 12 (by kernel_rfl) (by kernel_rfl) (by kernel_rfl)
        obtain rfl := (show W = w0 from hJ)
        exact light_val (wanted_of rfl (by kernel_rfl) eg) (v := .int .i64 x.1) (by simp [execOp, go_sem, e18, f18, c0.1]) rfl rfl
      case o10 =>
        intro A W hv hlen hJ hbase hdL hdH
        have e17 : A.eval (.tmp 17) = .int .i64 y.1 := hdL 7 17 (by kernel_rfl) (by kernel_rfl) (by kernel_rfl)
        have f17 : A.tmps[17]?.getD undef = .int .i64 y.1 := by simpa [Act.eval] using e17
        have e19 : A.eval (.tmp 19) = .int .i64 x.1 := hdL 9 19 (by kernel_rfl) (by kernel_rfl) (by kernel_rfl)
        have f19 : A.tmps[19]?.getD undef = .int .i64 x.1 := by simpa [Act.eval] using e19
        have eg : A.eval (.tmp 12) = .bool true := hdL 2 12 (by kernel_rfl) (by kernel_rfl) (by kernel_rfl)
        exact light_val (wanted_of rfl (by kernel_rfl) eg) (v := .bool true) (by simp [execOp, go_sem, e17, f17, e19, f19, hyB]) hJ rfl
      case o11 =>
        intro A W hv hlen hJ hbase hdL hdH
        have e12 : A.eval (.tmp 12) = .bool true := hdL 2 12 (by kernel_rfl) (by kernel_rfl) (by kernel_rfl)
        have f12 : A.tmps[12]?.getD undef = .bool true := by simpa [Act.eval] using e12
        have e20 : A.eval (.tmp 20) = .bool true := hdL 10 20 (by kernel_rfl) (by kernel_rfl) (by kernel_rfl)
        have f20 : A.tmps[20]?.getD undef = .bool true := by simpa [Act.eval] using e20
        exact light_val rfl (v := .bool true) (by simp [execOp, go_sem, e12, f12, e20, f20]) hJ rfl
      case oe =>
        intro vs W' hv hlen hJ hL hH
        obtain rfl := (show W' = w0 from hJ)
        have x0 : vs 0 = .int .i64 (k : Int) := hL 0 (by kernel_rfl) (by kernel_rfl)
        have x1 : vs 1 = .bool true := hL 1 (by kernel_rfl) (by kernel_rfl)
        have x2 : vs 2 = .bool true := hL 2 (by kernel_rfl) (by kernel_rfl)
        have x3 : vs 3 = .slice (some ⟨g, 0, none⟩) l.length cap := hL 3 (by kernel_rfl) (by kernel_rfl)
        have x4 : vs 4 = .int .i64 (k : Int) := hL 4 (by kernel_rfl) (by kernel_rfl)
        have x5 : vs 5 = .pointer (some ⟨g, k * 2, none⟩) := hL 5 (by kernel_rfl) (by kernel_rfl)
        have x6 : vs 6 = .pointer (some ⟨g, k * 2, none⟩) := hL 6 (by kernel_rfl) (by kernel_rfl)
        have x7 : vs 7 = .int .i64 y.1 := hL 7 (by kernel_rfl) (by kernel_rfl)
        have x8 : vs 8 = .pointer (some ⟨g3, 0, none⟩) := hL 8 (by kernel_rfl) (by kernel_rfl)
        have x9 : vs 9 = .int .i64 x.1 := hL 9 (by kernel_rfl) (by kernel_rfl)
        have x10 : vs 10 = .bool true := hL 10 (by kernel_rfl) (by kernel_rfl)
        have x11 : vs 11 = .bool true := hL 11 (by kernel_rfl) (by kernel_rfl)
        simp only [layL, Nat.reduceAdd, Act.put, List.setIfInBounds_toArray, List.set_cons_zero, List.set_cons_succ, x0, x1, x2, x3, x4, x5, x6, x7, x8, x9, x10, x11]
        clear x0 x1 x2 x3 x4 x5 x6 x7 x8 x9 x10 x11 hL hH
        have cE : ∀ q u, (enC x)[q]? = some u → W'.cell? ⟨g3, 0 + q, none⟩ = some u := fun q u hq => by rw [Nat.zero_add]; exact (b0.cell q u hq).1
        go_wp2_with (first
          | (with_reducible refine at_wpP ?_; refine at_ld 40 _ rfl ?_; go_must (refine wpList_ldE rfl _ rfl g3 0 rfl x cE ?_))
          | (refine at_idx 31 _ _ rfl ?_; go_must (refine wpList_idxO rfl 31 _ _ rfl 40 uE en_size g l.length cap rfl .i64 (k : Int) k rfl rfl hk ?_))
          | (with_reducible refine at_wpP ?_; refine at_st 40 _ _ rfl ?_; go_must (refine wpList_stR rfl 40 _ _ rfl g l.length cap O0 k hk rfl x rfl rfl (en_one x) en_size ?_; intro w5 o5 f5)))
        go_ret
        refine ⟨(k : Int), hi, _, rfl, by rw [hw]; exact o5, ?_, fun q hq => Or.inl hq⟩
        exact ((F4.thenN f0).mono (fun _ _ q => q.elim)).thenT f5 (fun q _ hq => by unfold onB1 at hq; subst hq; rfl)
    · have hyB : (y.1 == x.1) = false := by simpa using he
      have hw : withL l x (k : Int) = l.take (k + 1) ++ ([x] ++ l.drop (k + 1)) := by
        unfold withL
        rw [hgd, Hy.out, if_neg (fun q => he q.2), show ((k : Int) + 1).toNat = k + 1 by omega]
        rfl
      refine wp_region_chain_lay (by kernel_rfl) [] [none, none, none, none, none, none, none, none, none, none, none, none]
        [fun v => v = .int .i64 (k : Int), fun v => v = .bool true, fun v => v = .bool true, fun v => v = .slice (some ⟨g, 0, none⟩) l.length cap, fun v => v = .int .i64 (k : Int), fun v => v = .pointer (some ⟨g, k * 2, none⟩), fun v => v = .pointer (some ⟨g, k * 2, none⟩), fun v => v = .int .i64 y.1, fun v => v = .pointer (some ⟨g3, 0, none⟩), fun v => v = .int .i64 x.1, fun v => v = .bool false, fun v => v = .bool false]
        (JQX w0) (HW.out) (by kernel_rfl) (by kernel_rfl) (by decide) ⟨?o0, ?o1, ?o2, ?o3, ?o4, ?o5, ?o6, ?o7, ?o8, ?o9, ?o10, ?o11, trivial⟩ ?oe
      case o0 =>
        intro A W hv hlen hJ hbase hdL hdH
        have e5 : A.eval (.tmp 5) = .int .i64 (k : Int) := hbase 5 (by kernel_rfl)
        have f5 : A.tmps[5]?.getD undef = .int .i64 (k : Int) := by simpa [Act.eval] using e5
        exact light_val rfl (v := .int .i64 (k : Int)) (by simp [execOp, e5, f5]) hJ rfl
      case o1 =>
        intro A W hv hlen hJ hbase hdL hdH
        have e10 : A.eval (.tmp 10) = .int .i64 (k : Int) := hdL 0 10 (by kernel_rfl) (by kernel_rfl) (by kernel_rfl)
        have f10 : A.tmps[10]?.getD undef = .int .i64 (k : Int) := by simpa [Act.eval] using e10
        exact light_val rfl (v := .bool true) (by simp [execOp, go_sem, e10, f10, hk1]) hJ rfl
      case o2 =>
        intro A W hv hlen hJ hbase hdL hdH
        have e11 : A.eval (.tmp 11) = .bool true := hdL 1 11 (by kernel_rfl) (by kernel_rfl) (by kernel_rfl)
        have f11 : A.tmps[11]?.getD undef = .bool true := by simpa [Act.eval] using e11
        exact light_val rfl (v := .bool true) (by simp [execOp, e11, f11]) hJ rfl
      case o3 =>
        intro A W hv hlen hJ hbase hdL hdH
        have e0 : A.eval (.tmp 0) = .slice (some ⟨g, 0, none⟩) l.length cap := hbase 0 (by kernel_rfl)
        have f0 : A.tmps[0]?.getD undef = .slice (some ⟨g, 0, none⟩) l.length cap := by simpa [Act.eval] using e0
        have eg : A.eval (.tmp 12) = .bool true := hdL 2 12 (by kernel_rfl) (by kernel_rfl) (by kernel_rfl)
        exact light_val (wanted_of rfl (by kernel_rfl) eg) (v := .slice (some ⟨g, 0, none⟩) l.length cap) (by simp [execOp, e0, f0]) hJ rfl
      case o4 =>
        intro A W hv hlen hJ hbase hdL hdH
        have e5 : A.eval (.tmp 5) = .int .i64 (k : Int) := hbase 5 (by kernel_rfl)
        have f5 : A.tmps[5]?.getD undef = .int .i64 (k : Int) := by simpa [Act.eval] using e5
        have eg : A.eval (.tmp 12) = .bool true := hdL 2 12 (by kernel_rfl) (by kernel_rfl) (by kernel_rfl)
        exact light_val (wanted_of rfl (by kernel_rfl) eg) (v := .int .i64 (k : Int)) (by simp [execOp, e5, f5]) hJ rfl
      case o5 =>
        intro A W hv hlen hJ hbase hdL hdH
        have e13 : A.eval (.tmp 13) = .slice (some ⟨g, 0, none⟩) l.length cap := hdL 3 13 (by kernel_rfl) (by kernel_rfl) (by kernel_rfl)
        have f13 : A.tmps[13]?.getD undef = .slice (some ⟨g, 0, none⟩) l.length cap := by simpa [Act.eval] using e13
        have e14 : A.eval (.tmp 14) = .int .i64 (k : Int) := hdL 4 14 (by kernel_rfl) (by kernel_rfl) (by kernel_rfl)
        have f14 : A.tmps[14]?.getD undef = .int .i64 (k : Int) := by simpa [Act.eval] using e14
        have eg : A.eval (.tmp 12) = .bool true := hdL 2 12 (by kernel_rfl) (by kernel_rfl) (by kernel_rfl)
        have hr := run_idxO (P := Tryz.prog) (w := W) (sz := 2) 31 40 uE en_size g l.length cap .i64 k hk
        exact light_val (wanted_of rfl (by kernel_rfl) eg) (v := .pointer (some ⟨g, k * 2, none⟩)) (by simp [execOp, e13, e14, hr, Result.andThen]) hJ rfl
      case o6 =>
        intro A W hv hlen hJ hbase hdL hdH
        have e15 : A.eval (.tmp 15) = .pointer (some ⟨g, k * 2, none⟩) := hdL 5 15 (by kernel_rfl) (by kernel_rfl) (by kernel_rfl)
        have f15 : A.tmps[15]?.getD undef = .pointer (some ⟨g, k * 2, none⟩) := by simpa [Act.eval] using e15
        have eg : A.eval (.tmp 12) = .bool true := hdL 2 12 (by kernel_rfl) (by kernel_rfl) (by kernel_rfl)
        exact light_val (wanted_of rfl (by kernel_rfl) eg) (v := .pointer (some ⟨g, k * 2, none⟩)) (by simp [execOp, go_sem, e15, f15, off_E0]) hJ rfl
      case o7 =>
        intro A W hv hlen hJ hbase hdL hdH
        have e16 : A.eval (.tmp 16) = .pointer (some ⟨g, k * 2, none⟩) := hdL 6 16 (by kernel_rfl) (by kernel_rfl) (by kernel_rfl)
        have f16 : A.tmps[16]?.getD undef = .pointer (some ⟨g, k * 2, none⟩) := by simpa [Act.eval] using e16
        have eg : A.eval (.tmp 12) = .bool true := hdL 2 12 (by kernel_rfl) (by kernel_rfl) (by kernel_rfl)
        obtain rfl := (show W = w0 from hJ)
        exact light_val (wanted_of rfl (by kernel_rfl) eg) (v := .int .i64 y.1) (by simp [execOp, go_sem, e16, f16, hcy]) rfl rfl
      case o8 =>
        intro A W hv hlen hJ hbase hdL hdH
        have e3 : A.eval (.tmp 3) = .pointer (some ⟨g3, 0, none⟩) := hbase 3 (by kernel_rfl)
        have f3 : A.tmps[3]?.getD undef = .pointer (some ⟨g3, 0, none⟩) := by simpa [Act.eval] using e3
        have eg : A.eval (.tmp 12) = .bool true := hdL 2 12 (by kernel_rfl) (by kernel_rfl) (by kernel_rfl)
        exact light_val (wanted_of rfl (by kernel_rfl) eg) (v := .pointer (some ⟨g3, 0, none⟩)) (by simp [execOp, go_sem, e3, f3]) hJ rfl
      case o9 =>
        intro A W hv hlen hJ hbase hdL hdH
        have e18 : A.eval (.tmp 18) = .pointer (some ⟨g3, 0, none⟩) := hdL 8 18 (by kernel_rfl) (by kernel_rfl) (by kernel_rfl)
        have f18 : A.tmps[18]?.getD undef = .pointer (some ⟨g3, 0, none⟩) := by simpa [Act.eval] using e18
        have eg : A.eval (.tmp 12) = .bool true := hdL 2 12 (by kernel_rfl) (by kernel_rfl) (by kernel_rfl)
        obtain rfl := (show W = w0 from hJ)
        exact light_val (wanted_of rfl (by kernel_rfl) eg) (v := .int .i64 x.1) (by simp [execOp, go_sem, e18, f18, c0.1]) rfl rfl
      case o10 =>
        intro A W hv hlen hJ hbase hdL hdH
        have e17 : A.eval (.tmp 17) = .int .i64 y.1 := hdL 7 17 (by kernel_rfl) (by kernel_rfl) (by kernel_rfl)
        have f17 : A.tmps[17]?.getD undef = .int .i64 y.1 := by simpa [Act.eval] using e17
        have e19 : A.eval (.tmp 19) = .int .i64 x.1 := hdL 9 19 (by kernel_rfl) (by kernel_rfl) (by kernel_rfl)
        have f19 : A.tmps[19]?.getD undef = .int .i64 x.1 := by simpa [Act.eval] using e19
        have eg : A.eval (.tmp 12) = .bool true := hdL 2 12 (by kernel_rfl) (by kernel_rfl) (by kernel_rfl)
        exact light_val (wanted_of rfl (by kernel_rfl) eg) (v := .bool false) (by simp [execOp, go_sem, e17, f17, e19, f19, hyB]) hJ rfl
      case o11 =>
        intro A W hv hlen hJ hbase hdL hdH
        have e12 : A.eval (.tmp 12) = .bool true := hdL 2 12 (by kernel_rfl) (by kernel_rfl) (by kernel_rfl)
        have f12 : A.tmps[12]?.getD undef = .bool true := by simpa [Act.eval] using e12
        have e20 : A.eval (.tmp 20) = .bool false := hdL 10 20 (by kernel_rfl) (by kernel_rfl) (by kernel_rfl)
        have f20 : A.tmps[20]?.getD undef = .bool false := by simpa [Act.eval] using e20
        exact light_val rfl (v := .bool false) (by simp [execOp, go_sem, e12, f12, e20, f20]) hJ rfl
      case oe =>
        intro vs W' hv hlen hJ hL hH
        obtain rfl := (show W' = w0 from hJ)
        have x0 : vs 0 = .int .i64 (k : Int) := hL 0 (by kernel_rfl) (by kernel_rfl)
        have x1 : vs 1 = .bool true := hL 1 (by kernel_rfl) (by kernel_rfl)
        have x2 : vs 2 = .bool true := hL 2 (by kernel_rfl) (by kernel_rfl)
        have x3 : vs 3 = .slice (some ⟨g, 0, none⟩) l.length cap := hL 3 (by kernel_rfl) (by kernel_rfl)
        have x4 : vs 4 = .int .i64 (k : Int) := hL 4 (by kernel_rfl) (by kernel_rfl)
        have x5 : vs 5 = .pointer (some ⟨g, k * 2, none⟩) := hL 5 (by kernel_rfl) (by kernel_rfl)
        have x6 : vs 6 = .pointer (some ⟨g, k * 2, none⟩) := hL 6 (by kernel_rfl) (by kernel_rfl)
        have x7 : vs 7 = .int .i64 y.1 := hL 7 (by kernel_rfl) (by kernel_rfl)
        have x8 : vs 8 = .pointer (some ⟨g3, 0, none⟩) := hL 8 (by kernel_rfl) (by kernel_rfl)
        have x9 : vs 9 = .int .i64 x.1 := hL 9 (by kernel_rfl) (by kernel_rfl)
        have x10 : vs 10 = .bool false := hL 10 (by kernel_rfl) (by kernel_rfl)
        have x11 : vs 11 = .bool false := hL 11 (by kernel_rfl) (by kernel_rfl)
        simp only [layL, Nat.reduceAdd, Act.put, List.setIfInBounds_toArray, List.set_cons_zero, List.set_cons_succ, x0, x1, x2, x3, x4, x5, x6, x7, x8, x9, x10, x11]
        clear x0 x1 x2 x3 x4 x5 x6 x7 x8 x9 x10 x11 hL hH
        have cE : ∀ q u, (enC x)[q]? = some u → W'.cell? ⟨g3, 0 + q, none⟩ = some u := fun q u hq => by rw [Nat.zero_add]; exact (b0.cell q u hq).1
        have hi1 : ∀ (W : World) (g' : Nat), Fr noB w4 W → w4.heap.size ≤ g' → BxV W g' 40 (enC x) → Calls Tryz.prog 74 #[.slice (some ⟨g, 0, none⟩) l.length cap, .int .i64 ((k : Int) + 1), .slice (some ⟨g', 0, none⟩) 1 1] W fun r w' => InsIs W w' base (.slice (some ⟨g, 0, none⟩) l.length cap) (l.take (k + 1) ++ ([x] ++ l.drop (k + 1))) r := hIns (k + 1) (by omega)
        have hw1 : IntKind.i64.wrap ((k : Int) + 1) = (k : Int) + 1 := wrap_sm (by omega)
        go_wp2_with (first
          | (with_reducible refine at_wpP ?_; refine at_ld 40 _ rfl ?_; go_must (refine wpList_ldE rfl _ rfl g3 0 rfl x cE ?_))
          | (with_reducible refine at_wpP ?_; refine wpList_mkC rfl 31 _ rfl uE _ en_info2 (by decide) (by decide) x (enV x) rfl rfl rfl ?_; intro g5 w5 b5 f5 s5)
          | (go_at_call 74; go_must (refine (hi1 _ g5 (f0.thenN f5) (by omega) b5).mono ?_; rintro e w6 ⟨v6, rfl, o6, f6, p6⟩)))
        go_ret
        refine ⟨(k : Int), hi, v6, rfl, by rw [hw]; exact o6, ?_, fun k hk => (p6 k hk).imp id (fun q => ?_)⟩
        · exact (((F4.thenN f0).thenN f5).mono (fun _ _ q => q.elim)).thenT f6 (fun _ _ q => q)
        · have := f5.size; omega
end Go.Proofs.YtmkinaijkgkgiaaGreat
/- Trees in memory: parts; no condition. -/
namespace Go.Proofs.YtmkinaijkgkgiaaGreat
open Go.RowKit Go.Proofs.U
set_option linter.unusedSimpArgs false
set_option linter.unusedVariables false
/-- A slice in a row of slices. -/
def en1 (v : Value) : List Value := [v]
theorem en1_fl : ∀ vs : List Value, vs.flatMap en1 = vs
  | [] => rfl
  | v :: vs => by rw [List.flatMap_cons, en1_fl vs]; rfl
theorem uS : Tryz.prog.underlying 107 = some (.slice 31) := Tryz.underlying107
theorem vs_own {w : World} {g : Nat} {vs : List Value} (h : BxV w g 31 vs) (hl : vs.length ≤ 1000) : OwnR en1 1 31 w g (.slice (some ⟨g, 0, none⟩) vs.length vs.length) vs :=
  ⟨fun _ _ => rfl, by rw [en1_fl]; omega, Or.inr ⟨g, vs.length, vs.toArray, rfl, Nat.le_refl _, h, Nat.le_refl _, by unfold maxLen; omega, by simp, by rw [en1_fl]; simp⟩⟩
theorem run_mk1S (a : Option Addr) (n c : Nat) (w : World) : (Instr.buildSlice 107 1 #[(0, .slice a n c)]).run Tryz.prog w = .ok (.slice (some ⟨w.heap.size, 0, none⟩) 1 1) (w.alloc (.cells #[.slice a n c] 31)) := by simp [go_sem]
theorem run_mk2S (a a' : Option Addr) (n c n' c' : Nat) (w : World) : (Instr.buildSlice 107 2 #[(0, .slice a n c), (1, .slice a' n' c')]).run Tryz.prog w = .ok (.slice (some ⟨w.heap.size, 0, none⟩) 2 2) (w.alloc (.cells #[.slice a n c, .slice a' n' c'] 31)) := by simp [go_sem]
theorem wpList_mk1S {w : World} {ops : Array Oper} {rest : List Oper} {o : Oper} {b : Act} {Q : Exit → Act → World → Prop} (hgd : Region.wanted o (yielded ops b.tmps) = true) (y : Operand) (ho : o.op = .buildSlice 107 1 #[(0, y)]) (a : Option Addr) (n c : Nat) (hy : b.eval y = .slice a n c)
    (h : ∀ g w', BxV w' g 31 [.slice a n c] → Fr noB w w' → w.heap.size ≤ g → wpList Tryz.prog ops Q rest (b.put o.dst (.slice (some ⟨g, 0, none⟩) 1 1)) w') : wpList Tryz.prog ops Q (o :: rest) b w := by
  refine wpList_wanted hgd fun K hK => ?_
  have hr := run_mk1S a n c w
  unfold Oper.wp
  simp [execOp, ho, hy, hr, Result.andThen]
  exact hK _ _ (h w.heap.size _ (heap_alloc_new w _) ((Fr.refl _ _).alloc _) (Nat.le_refl _))
theorem step_mk2S {w : World} {ops : Array Oper} {o : Oper} {b : Act} {K : Act → World → Prop} {Q : Exit → Act → World → Prop} {E : Prop} (hgd : o.guard = none) (y z : Operand) (ho : o.op = .buildSlice 107 2 #[(0, y), (1, z)]) (a a' : Option Addr) (n c n' c' : Nat) (hy : b.eval y = .slice a n c) (hz : b.eval z = .slice a' n' c')
    (h : K (b.put o.dst (.slice (some ⟨w.heap.size, 0, none⟩) 2 2)) (w.alloc (.cells #[.slice a n c, .slice a' n' c'] 31))) : if Region.wanted o (yielded ops b.tmps) = true then o.wp Tryz.prog b w K Q else E := by
  have hw : Region.wanted o (yielded ops b.tmps) = true := by simp [Region.wanted, hgd]
  rw [if_pos hw]
  have hr := run_mk2S a a' n c n' c' w
  unfold Oper.wp
  simp [execOp, ho, hy, hz, hr, Result.andThen]
  exact h
theorem fl_drop (l : List (Int × Int)) (i : Nat) (hi : i ≤ l.length) : (l.flatMap enC).drop (i * 2) = (l.drop i).flatMap enC := by
  conv => lhs; rw [← List.take_append_drop i l]
  rw [List.flatMap_append, List.drop_left' (by rw [fl_len, List.length_take]; omega)]
theorem SlE.take {w : World} {a : Option Addr} {n cap : Nat} {l : List (Int × Int)} (h : SlR enC 2 w (.slice a n cap) l) (hn : n = l.length) (i : Nat) (hi : i ≤ l.length) : SlR enC 2 w (.slice a i cap) (l.take i) := by
  subst hn
  refine ⟨fun x _ => enC_len x, ?_⟩
  have hc := Sl.cut h.2 0 i (by omega) (ao' := a) (fun _ => rfl) (fun _ => by cases a <;> rfl) (c' := cap) (by omega)
  have e : ((l.flatMap enC).drop (0 * 2)).take (i * 2) = (l.take i).flatMap enC := by rw [Nat.zero_mul, List.drop_zero]; exact fl_take l i hi
  rw [e] at hc
  have : (l.take i).length = i := by rw [List.length_take]; omega
  rw [this]
  exact hc
theorem SlE.drop {w : World} {a : Option Addr} {n cap : Nat} {l : List (Int × Int)} (h : SlR enC 2 w (.slice a n cap) l) (hn : n = l.length) (i : Nat) (hi : i ≤ l.length) (hc : ¬ cap = i) : SlR enC 2 w (.slice (a.map fun x => x.add (i * 2)) (l.length - i) (cap - i)) (l.drop i) := by
  subst hn
  refine ⟨fun x _ => enC_len x, ?_⟩
  have hcc := Sl.cut h.2 i (l.length - i) (by omega) (ao' := a.map fun x => x.add (i * 2)) (fun q => absurd q hc) (fun _ => rfl) (c' := cap - i) rfl
  have e : ((l.flatMap enC).drop (i * 2)).take ((l.length - i) * 2) = (l.drop i).flatMap enC := by
    rw [fl_drop l i hi, List.take_of_length_le (by rw [fl_len, List.length_drop]; omega)]
  rw [e] at hcc
  have : (l.drop i).length = l.length - i := List.length_drop
  rw [this]
  exact hcc
theorem own_map {a : Option Addr} {n c n' c' i : Nat} : ∀ k, (Value.slice (a.map fun x => x.add i) n c).ownBlock = some k → (Value.slice a n' c').ownBlock = some k := by
  intro k hk
  cases a with
  | none => exact hk
  | some ad => simp [Value.ownBlock] at hk ⊢; rw [← hk]; unfold Addr.add; split <;> rfl
/-- Parts of a row, as slices of it. -/
def PartsIs (w w' : World) (v : Value) (l : List (Int × Int)) (r : Ending) : Prop := ∃ u vs, r = .returned u ∧ OwnR en1 1 31 w' w.heap.size u vs ∧ vs.length = (partsL l).length ∧
  (∀ (j : Nat) (hj : j < vs.length) (hj' : j < (partsL l).length), SlR enC 2 w' vs[j] (partsL l)[j] ∧ ∀ k, vs[j].ownBlock = some k → v.ownBlock = some k) ∧ Fr noB w w'
set_option maxRecDepth 100000 in
set_option maxHeartbeats 2000000 in
theorem parts_any {w : World} {v : Value} {l : List (Int × Int)} (hS : SlR enC 2 w v l) (hl : l.length ≤ 500) :
    Calls Tryz.prog 56 #[v] w fun r w' => PartsIs w w' v l r := by
  obtain ⟨a, cap, hv, hcap⟩ := hS.opn
  subst hv
  unfold PartsIs partsL
  by_cases h0 : l.length = 0
  · have h0' : ((l.length : Int) == 0) = true := by simp [h0]
    rw [if_pos h0]
    go_enter Tryz.func56, Tryz.ntmps56
    go_wp2
    go_ret
    exact ⟨_, [], rfl, OwnR.none _ _, rfl, (fun j hj => by simp at hj), Fr.refl _ _⟩
  · have h0' : ((l.length : Int) == 0) = false := beq_eq_false_iff_ne.2 (by omega)
    rw [if_neg h0]
    by_cases h6 : l.length ≤ 6
    · have h6' : decide ((l.length : Int) ≤ 6) = true := by simp; omega
      rw [if_pos h6]
      go_enter Tryz.func56, Tryz.ntmps56
      go_wp2_with (first
        | (with_reducible refine at_wpP ?_; refine wpList_mk1S rfl _ rfl a l.length cap rfl ?_; intro g1 w1 b1 f1 s1))
      go_ret
      refine ⟨_, [.slice a l.length cap], rfl, (vs_own b1 (by simp)).rebase s1, rfl, fun j hj hj' => ?_, f1⟩
      have : j = 0 := by simp at hj; omega
      subst this
      exact ⟨hS.fr0 f1, fun k hk => hk⟩
    · have h6' : decide ((l.length : Int) ≤ 6) = false := by simp; omega
      rw [if_neg h6]
      obtain ⟨H, HH⟩ : ∃ H, Hid (l.length / 2 = H) := ⟨_, rfl⟩
      have hq : (Int.tdiv (l.length : Int) 2) = (H : Int) := by rw [← HH.out]; rfl
      have hHb : H < l.length ∧ 0 < H := by have := HH.out; omega
      have hc1 : ¬ (cap = H) := by omega
      have hc2 : H ≤ cap := by omega
      have hc3 : H ≤ l.length := by omega
      have zE := Tryz.sizeOf40
      have mixed : Tryz.prog.follows Departure.mixedOrders = true := by kernel_rfl
      have uE1 := run_underlying uE
      go_enter Tryz.func56, Tryz.ntmps56
      go_wp2
      go_region_law_o (refine step_mk2S rfl _ _ rfl a (a.map fun x => x.add (H * 2)) H cap (l.length - H) (cap - H) (by simp [Act.eval, Act.put]) (by simp [Act.eval, Act.put]) ?_)
      have b1 : BxV ((w.alloc (.cells #[.slice a H cap, .slice (a.map fun x => x.add (H * 2)) (l.length - H) (cap - H)] 31)).drew) w.heap.size 31 [.slice a H cap, .slice (a.map fun x => x.add (H * 2)) (l.length - H) (cap - H)] := heap_alloc_new w _
      have f1 : Fr noB w ((w.alloc (.cells #[.slice a H cap, .slice (a.map fun x => x.add (H * 2)) (l.length - H) (cap - H)] 31)).drew) := ((Fr.refl _ w).alloc _).drew
      obtain ⟨w1, H1⟩ : ∃ x, Hid ((w.alloc (.cells #[.slice a H cap, .slice (a.map fun x => x.add (H * 2)) (l.length - H) (cap - H)] 31)).drew = x) := ⟨_, rfl⟩
      rw [H1.out] at b1 f1 ⊢
      go_wp2
      go_ret
      rw [HH.out]
      refine ⟨_, [.slice a H cap, .slice (a.map fun x => x.add (H * 2)) (l.length - H) (cap - H)], rfl, (vs_own b1 (by simp)), rfl, fun j hj hj' => ?_, f1⟩
      simp only [List.length_cons, List.length_nil] at hj
      rcases (by omega : j = 0 ∨ j = 1) with rfl | rfl
      · refine ⟨(SlE.take hS rfl H hc3).fr0 f1, fun k (hk : (Value.slice a H cap).ownBlock = some k) => ?_⟩
        cases a <;> exact hk
      · exact ⟨(SlE.drop hS rfl H hc3 hc1).fr0 f1, fun k hk => own_map k hk⟩
end Go.Proofs.YtmkinaijkgkgiaaGreat
