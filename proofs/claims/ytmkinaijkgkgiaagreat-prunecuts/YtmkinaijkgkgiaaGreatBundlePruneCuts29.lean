/- Texts VD, VE, VF, VG, VH of the proof of PruneCuts, one behind the other. -/
import Derived.Test.YtmkinaijkgkgiaaGreatBundlePruneCuts1
import Derived.Test.YtmkinaijkgkgiaaGreatBundlePruneCuts2
import Derived.Test.YtmkinaijkgkgiaaGreatBundlePruneCuts3
import Derived.Test.YtmkinaijkgkgiaaGreatBundlePruneCuts4
import Derived.Test.YtmkinaijkgkgiaaGreatBundlePruneCuts5
import Derived.Test.YtmkinaijkgkgiaaGreatBundlePruneCuts6
import Derived.Test.YtmkinaijkgkgiaaGreatBundlePruneCuts7
import Derived.Test.YtmkinaijkgkgiaaGreatBundlePruneCuts8
import Derived.Test.YtmkinaijkgkgiaaGreatBundlePruneCuts9
import Derived.Test.YtmkinaijkgkgiaaGreatBundlePruneCuts10
import Derived.Test.YtmkinaijkgkgiaaGreatBundlePruneCuts11
import Derived.Test.YtmkinaijkgkgiaaGreatBundlePruneCuts12
import Derived.Test.YtmkinaijkgkgiaaGreatBundlePruneCuts13
import Derived.Test.YtmkinaijkgkgiaaGreatBundlePruneCuts14
import Derived.Test.YtmkinaijkgkgiaaGreatBundlePruneCuts15
import Derived.Test.YtmkinaijkgkgiaaGreatBundlePruneCuts16
import Derived.Test.YtmkinaijkgkgiaaGreatBundlePruneCuts17
import Derived.Test.YtmkinaijkgkgiaaGreatBundlePruneCuts18
import Derived.Test.YtmkinaijkgkgiaaGreatBundlePruneCuts19
import Derived.Test.YtmkinaijkgkgiaaGreatBundlePruneCuts20
import Derived.Test.YtmkinaijkgkgiaaGreatBundlePruneCuts21
import Derived.Test.YtmkinaijkgkgiaaGreatBundlePruneCuts22
import Derived.Test.YtmkinaijkgkgiaaGreatBundlePruneCuts23
import Derived.Test.YtmkinaijkgkgiaaGreatBundlePruneCuts24
import Derived.Test.YtmkinaijkgkgiaaGreatBundlePruneCuts25
import Derived.Test.YtmkinaijkgkgiaaGreatBundlePruneCuts26
import Derived.Test.YtmkinaijkgkgiaaGreatBundlePruneCuts27
import Derived.Test.YtmkinaijkgkgiaaGreatBundlePruneCuts28
/- Cut in memory, and what is read of a tree whatever its root's size; no condition. -/
namespace Go.Proofs.YtmkinaijkgkgiaaGreat
open Go.RowKit Go.Proofs.U
set_option linter.unusedSimpArgs false
set_option linter.unusedVariables false
/-- A root: None, or a tree that is there. -/
def RtOk (X : DSt) (L : List Pg) (T : List Nat) (lv : Nat) (root : Int) (l : List (Int × Int)) : Prop :=
  (root = -1 ∧ l = []) ∨ (0 ≤ root ∧ 0 < cntT L T root.toNat ∧ lv < 8 ∧ okT X lv root 0 64 ∧ lsT X lv root = l)
set_option maxRecDepth 100000 in
set_option maxHeartbeats 2000000 in
theorem Find_ok {F : Nat → Prop} {gs gp : Nat} {X : DSt} {L : List Pg} {R : List Int} {T : List Nat} {m lv : Nat} {root : Int} {l : List (Int × Int)} (hI : InvT X L R T) (hm : m ≤ 100000) (hr : RtOk X L T lv root l) (key : Int) (w : World) (h : Sto w F gs gp X L m) :
    Calls Tryz.prog 24 #[trV gs, .int .i64 root, .int .i64 key] w fun r w' => FindIs w w' (findL l key) r := by
  have hF : ∀ W, Fr noB w W → Calls Tryz.prog 44 #[trV gs, .int .i64 root, .int .i64 key, .int .i64 0] W fun r w' => FindIs W w' (findL l key) r := by
    intro W f
    rcases hr with ⟨rfl, rfl⟩ | ⟨h0, hp, hlv, tok, tls⟩
    · exact fnd_none key 0 W
    · rw [← tls]
      exact find_lv hI hm key lv 0 W tok h0 hp (Int.le_refl _) (by omega) (h.fr0 f)
  go_enter Tryz.func24, Tryz.ntmps24
  go_wp2_with (first
    | (with_reducible refine at_wpP ?_; refine wpList_boxG rfl 26 _ rfl (trV gs) [ptr gs] rfl rfl ?_; intro g4 w4 hg4 b4 f4 s4; have l4 := b4.lt; have z4 := f4.size)
    | (with_reducible refine at_wpP ?_; refine at_ld 26 _ rfl ?_; go_must (refine wpList_ldT rfl _ rfl g4 rfl gs b4 ?_))
    | (go_at_call 44; go_must (refine (hF _ f4).mono ?_; rintro e w5 ⟨rfl, f5⟩)))
  go_ret2
  exact ⟨rfl, f4.thenN f5⟩
set_option maxRecDepth 100000 in
set_option maxHeartbeats 2000000 in
theorem List_ok {F : Nat → Prop} {gs gp : Nat} {X : DSt} {L : List Pg} {R : List Int} {T : List Nat} {m lv : Nat} {root : Int} {l : List (Int × Int)} (hI : InvT X L R T) (hm : m ≤ 100000) (hr : RtOk X L T lv root l) (w : World) (h : Sto w F gs gp X L m) :
    Calls Tryz.prog 12 #[trV gs, .int .i64 root] w fun r w' => LstIs w w' l r := by
  have hF : ∀ W, Fr noB w W → Calls Tryz.prog 35 #[trV gs, .int .i64 root, .int .i64 0] W fun r w' => LstIs W w' l r := by
    intro W f
    rcases hr with ⟨rfl, rfl⟩ | ⟨h0, hp, hlv, tok, tls⟩
    · exact lst_none (F := F) (gp := gp) 0 W
    · rw [← tls]
      exact lst_lv hI hm lv 0 W tok h0 hp (Int.le_refl _) (Int.le_refl _) (Int.le_refl _) (by omega) (h.fr0 f)
  go_enter Tryz.func12, Tryz.ntmps12
  go_wp2_with (first
    | (with_reducible refine at_wpP ?_; refine wpList_boxG rfl 26 _ rfl (trV gs) [ptr gs] rfl rfl ?_; intro g4 w4 hg4 b4 f4 s4; have l4 := b4.lt; have z4 := f4.size)
    | (with_reducible refine at_wpP ?_; refine at_ld 26 _ rfl ?_; go_must (refine wpList_ldT rfl _ rfl g4 rfl gs b4 ?_))
    | (go_at_call 35; go_must (refine (hF _ f4).mono ?_; rintro e w5 ⟨u, rfl, o5, f5⟩)))
  go_ret2
  exact ⟨u, rfl, o5.rebase f4.size, f4.thenN f5⟩
set_option maxRecDepth 100000 in
set_option maxHeartbeats 2000000 in
theorem Height_ok {F : Nat → Prop} {gs gp : Nat} {X : DSt} {L : List Pg} {R : List Int} {T : List Nat} {m lv : Nat} {root : Int} {l : List (Int × Int)} (hI : InvT X L R T) (hm : m ≤ 100000) (hr : RtOk X L T lv root l) (w : World) (h : Sto w F gs gp X L m) :
    Calls Tryz.prog 15 #[trV gs, .int .i64 root] w fun r w' => HgtIs w w' (hgtR root lv) r := by
  unfold hgtR
  rcases hr with ⟨rfl, rfl⟩ | ⟨h0, hp, hlv, tok, tls⟩
  · rw [if_pos rfl]
    go_enter Tryz.func15, Tryz.ntmps15
    go_wp2_with (first
      | (with_reducible refine at_wpP ?_; refine wpList_boxG rfl 26 _ rfl (trV gs) [ptr gs] rfl rfl ?_; intro g4 w4 hg4 b4 f4 s4; have l4 := b4.lt; have z4 := f4.size))
    go_ret2
    exact ⟨rfl, f4⟩
  · have hn : (root == -1) = false := beq_eq_false_iff_ne.2 (by omega)
    rw [if_neg (by omega)]
    have hH := fun W (f : Fr noB w W) => hgt_lv hI hm lv 0 W tok h0 hp (Int.le_refl _) (by omega) (h.fr0 f)
    rw [Int.zero_add] at hH
    go_enter Tryz.func15, Tryz.ntmps15
    go_wp2_with (first
      | (with_reducible refine at_wpP ?_; refine wpList_boxG rfl 26 _ rfl (trV gs) [ptr gs] rfl rfl ?_; intro g4 w4 hg4 b4 f4 s4; have l4 := b4.lt; have z4 := f4.size)
      | (with_reducible refine at_wpP ?_; refine at_ld 26 _ rfl ?_; go_must (refine wpList_ldT rfl _ rfl g4 rfl gs b4 ?_))
      | (go_at_call 37; go_must (refine (hH _ f4).mono ?_; rintro e w5 ⟨rfl, f5⟩)))
    go_ret2
    exact ⟨rfl, f4.thenN f5⟩
/-- What Cut answers. -/
def CutEx (X : DSt) (L : List Pg) (root key : Int) (m : Nat) (X' : DSt) (L' : List Pg) (p' : Int) : Prop := ∀ (F : Nat → Prop) (gs gp : Nat) (w : World), Sto w F gs gp X L m → Calls Tryz.prog 10 #[trV gs, .int .i64 root, .int .i64 key] w fun r w' => ∃ F', r = .returned (.tuple #[.int .i64 p', .bool true, .int .i64 0]) ∧ StT w w' F F' gs gp (X', L') (m + 20)
/-- What Swap does. -/
def SwapEx (X : DSt) (L : List Pg) (root next : Int) (L2 : List Pg) : Prop := ∀ (F : Nat → Prop) (gs gp m : Nat) (w : World), m ≤ 90000 → Sto w F gs gp X L m → Calls Tryz.prog 14 #[trV gs, .int .i64 root, .int .i64 next] w fun r w' => r = .returned (.int .i64 0) ∧ Sto w' F gs gp X L2 m ∧ Fr (onB1 gp) w w'
set_option maxRecDepth 100000 in
set_option maxHeartbeats 2000000 in
theorem Cut_bad {F : Nat → Prop} {gs gp : Nat} {X : DSt} {L : List Pg} {m : Nat} (root key : Int) (hk : key < 0 ∨ 63 < key) (w : World) (h : Sto w F gs gp X L m) :
    Calls Tryz.prog 10 #[trV gs, .int .i64 root, .int .i64 key] w fun r w' => r = .returned (.tuple #[.int .i64 (-1), .bool false, .int .i64 101]) ∧ Fr noB w w' := by
  by_cases h0 : key < 0
  · have t1 : decide (key < (0 : Int)) = true := by simpa using h0
    go_enter Tryz.func10, Tryz.ntmps10
    go_wp2_with (first
      | (with_reducible refine at_wpP ?_; refine wpList_boxG rfl 28 _ rfl (trV gs) [ptr gs] rfl rfl ?_; intro g4 w4 hg4 b4 f4 s4; have l4 := b4.lt; have z4 := f4.size))
    go_ret3
    exact ⟨rfl, f4⟩
  · have t1 : decide (key < (0 : Int)) = false := by simpa using h0
    have t2 : decide ((64 : Int) ≤ key) = true := by simp; omega
    go_enter Tryz.func10, Tryz.ntmps10
    go_wp2_with (first
      | (with_reducible refine at_wpP ?_; refine wpList_boxG rfl 28 _ rfl (trV gs) [ptr gs] rfl rfl ?_; intro g4 w4 hg4 b4 f4 s4; have l4 := b4.lt; have z4 := f4.size))
    go_ret3
    exact ⟨rfl, f4⟩
set_option maxRecDepth 100000 in
set_option maxHeartbeats 2000000 in
theorem Cut_not {F : Nat → Prop} {gs gp : Nat} {X : DSt} {L : List Pg} {R : List Int} {T : List Nat} {m lv : Nat} {root : Int} {l : List (Int × Int)} (hI : InvT X L R T) (hm : m ≤ 60000) (hr : RtOk X L T lv root l) (key : Int) (hk : 0 ≤ key ∧ key ≤ 63) (hn : findL l key = -1) (w : World) (h : Sto w F gs gp X L m) :
    Calls Tryz.prog 10 #[trV gs, .int .i64 root, .int .i64 key] w fun r w' => r = .returned (.tuple #[.int .i64 root, .bool false, .int .i64 0]) ∧ Fr noB w w' := by
  have hF := fun W (f : Fr noB w W) => Find_ok hI (by omega) hr key W (h.fr0 f)
  rw [hn] at hF
  have t1 : decide (key < (0 : Int)) = false := by simp; omega
  have t2 : decide ((64 : Int) ≤ key) = false := by simp; omega
  go_enter Tryz.func10, Tryz.ntmps10
  go_wp2_with (first
    | (with_reducible refine at_wpP ?_; refine wpList_boxG rfl 28 _ rfl (trV gs) [ptr gs] rfl rfl ?_; intro g4 w4 hg4 b4 f4 s4; have l4 := b4.lt; have z4 := f4.size)
    | (with_reducible refine at_wpP ?_; refine at_ld 26 _ rfl ?_; go_must (refine wpList_ldPT rfl _ rfl g4 rfl gs b4 ?_))
    | (go_at_call 24; go_must (refine (hF _ f4).mono ?_; rintro e w5 ⟨rfl, f5⟩)))
  go_ret3
  exact ⟨rfl, f4.thenN f5⟩
set_option maxRecDepth 100000 in
set_option maxHeartbeats 2000000 in
theorem Cut_yes {F : Nat → Prop} {gs gp : Nat} {X X' : DSt} {L L' : List Pg} {R : List Int} {T : List Nat} {m m1 lv : Nat} {root p' : Int} {l : List (Int × Int)} (hI : InvT X L R T) (hm : m ≤ 60000) (hr : RtOk X L T lv root l) (key : Int) (hk : 0 ≤ key ∧ key ≤ 63) (hn : ¬ findL l key = -1) (w : World) (h : Sto w F gs gp X L m)
    (hC : ∀ W, Sto W F gs gp X L m → Calls Tryz.prog 34 #[trV gs, .int .i64 root, .int .i64 key] W fun r w' => TopIs W w' F gs gp (X', L') p' 0 m1 r) :
    Calls Tryz.prog 10 #[trV gs, .int .i64 root, .int .i64 key] w fun r w' => ∃ F', r = .returned (.tuple #[.int .i64 p', .bool true, .int .i64 0]) ∧ StT w w' F F' gs gp (X', L') m1 := by
  have hF := fun W (f : Fr noB w W) => Find_ok hI (by omega) hr key W (h.fr0 f)
  have t1 : decide (key < (0 : Int)) = false := by simp; omega
  have t2 : decide ((64 : Int) ≤ key) = false := by simp; omega
  obtain ⟨pg, Hpg⟩ : ∃ pg, Hid (findL l key = pg) := ⟨_, rfl⟩
  rw [Hpg.out] at hF hn
  have t3 : (pg == -1) = false := by simpa using hn
  have hP := fun W (s : Sto W F gs gp X L m) => npool_any W s
  go_enter Tryz.func10, Tryz.ntmps10
  go_wp2_with (first
    | (with_reducible refine at_wpP ?_; refine wpList_boxG rfl 28 _ rfl (trV gs) [ptr gs] rfl rfl ?_; intro g4 w4 hg4 b4 f4 s4; have l4 := b4.lt; have z4 := f4.size)
    | (with_reducible refine at_wpP ?_; refine at_ld 26 _ rfl ?_; go_must (refine wpList_ldPT rfl _ rfl g4 rfl gs b4 ?_))
    | (go_at_call 24; go_must (refine (hF _ f4).mono ?_; rintro e w5 ⟨rfl, f5⟩; have b5 := b4.fr0 f5; have c5 := pr_cell b5))
    | (go_at_call 19; go_must (refine (hP _ (h.fr0 (f4.thenN f5))).mono ?_; rintro e w6 ⟨rfl, rfl⟩))
    | (go_at_call 33; go_must (refine (pclone_any gp _ (h.fr0 (f4.thenN f5)).pl).mono ?_; rintro e w7 ⟨gc, rfl, gcl, pb7, f7⟩; have b7 := b5.fr0 f7))
    | (with_reducible refine at_wpP ?_; refine at_ld 28 _ rfl ?_; go_must (refine wpList_ldP rfl _ rfl g4 rfl gs b7 ?_))
    | (go_at_call 34; go_must (refine (hC _ (h.fr0 ((f4.thenN f5).thenN f7))).mono ?_; rintro e w8 ⟨F', rfl, T8⟩)))
  go_ret3
  exact ⟨F', rfl, T8.pre ((f4.thenN f5).thenN f7)⟩
set_option maxRecDepth 100000 in
set_option maxHeartbeats 2000000 in
theorem Swap_none {F : Nat → Prop} {gs gp : Nat} {X : DSt} {L L2 : List Pg} {m : Nat} (old : Int) (ho : ¬ old = -1) (hm : m ≤ 90000) (hd : dropF X (muL L + 1) L old = (L2, 0)) (w : World) (h : Sto w F gs gp X L m) :
    Calls Tryz.prog 14 #[trV gs, .int .i64 old, .int .i64 (-1)] w fun r w' => r = .returned (.int .i64 0) ∧ Sto w' F gs gp X L2 m ∧ Fr (onB1 gp) w w' := by
  have ho1 : (old == -1) = false := by simpa using ho
  have hD := fun W (s : Sto W F gs gp X L m) => ndrop_any (by omega) (muL L + 1) L old W (Nat.lt_succ_self _) s
  rw [hd] at hD
  go_enter Tryz.func14, Tryz.ntmps14
  go_wp2_with (first
    | (with_reducible refine at_wpP ?_; refine wpList_boxG rfl 26 _ rfl (trV gs) [ptr gs] rfl rfl ?_; intro g4 w4 hg4 b4 f4 s4; have l4 := b4.lt; have z4 := f4.size; have c4 := tr_cell b4)
    | (go_at_call 36; go_must (refine (hD _ (h.fr0 f4)).mono ?_; rintro e6 w6 ⟨rfl, s6, f6⟩; have z6 := f6.size)))
  go_ret
  exact ⟨rfl, s6, (f4.mono (fun _ _ q => q.elim)).thenT f6 (fun _ _ q => q)⟩
end Go.Proofs.YtmkinaijkgkgiaaGreat
/- A tree over a store with blocks, whatever its root's size: a key put, a key cut, each with the answers named ahead of the world; no condition. -/
namespace Go.Proofs.YtmkinaijkgkgiaaGreat
open Go.RowKit Go.Proofs.U
set_option linter.unusedSimpArgs false
set_option linter.unusedVariables false
theorem Inv.holdL {X : DSt} {L : List Pg} {R : List Int} (h : Inv X L R) {r : Int} (h0 : 0 ≤ r) (hc : 0 < cntL L r.toNat) (hl : cntL L r.toNat < 255) : ∃ L', plHold L r = (L', 0) ∧ Inv X L' (R ++ [r]) := by
  have hh : plHeld L r = true := (h.di.held r).2 ⟨h0, hc⟩
  have hlt := Exact.lt h.di.ex hc
  have hok := hold_ok h.di.ok r
  rcases hold_cases L r with ⟨e, _⟩ | ⟨_, e, _⟩ | ⟨_, _, e⟩
  · rw [hh] at e; cases e
  · unfold cntL at hl; rw [e] at hl; exact absurd hl (by decide)
  · refine ⟨_, e, ?_⟩
    rw [e] at hok
    have hcp := (cnt_pos r.toNat).1 hc
    have hpos : ∀ q, 0 < cntL (L.set r.toNat ⟨(plAt L r.toNat).c + 1, (plAt L r.toNat).s⟩) q → 0 < cntL L q := by
      intro q hq
      rw [cntL_set L _ _ hlt] at hq
      by_cases e : q = r.toNat
      · subst e; exact hc
      · rwa [updG_ne _ _ e] at hq
    obtain ⟨rk, hf⟩ := h.fl
    refine ⟨fun x hx => ?_, ⟨hok, ?_, fun i hi => ?_, fun q hq => h.di.rd q (hpos q hq)⟩, ⟨rk, hf.less hpos⟩⟩
    · rcases List.mem_append.1 hx with hx | hx
      · exact h.nn x hx
      · rw [List.mem_singleton.1 hx]; exact h0
    · rw [List.map_append]
      exact h.di.ex.hold hcp
    · rw [plAt_set _ _ _ _ hlt] at hi ⊢
      split
      · show 0 < (plAt L r.toNat).c + 1; omega
      · rename_i hne; rw [if_neg hne] at hi; exact h.di.nf i hi
theorem PlM.sw {X : DSt} {k : Nat} {L : List Pg} (hok : plOk L) (h : PlM k L) (old next : Int) : PlM k (swF X L old next).1 := by
  unfold swF
  split
  · split
    · exact h.hold next
    · exact (h.hold next).drop _ (hold_ok hok next) old
  · exact h.hold next
theorem swF_len (X : DSt) (L : List Pg) (old next : Int) : (swF X L old next).1.length = L.length := by
  unfold swF
  split
  · split
    · exact hold_len L next
    · rw [dropF_len, hold_len]
  · exact hold_len L next
/-- A root is swapped for one that was there before. -/
theorem swap_old {X : DSt} {L : List Pg} {R : List Int} {old next : Int} (h : Inv X L (R ++ [old])) (h0 : 0 ≤ next) (hl : 0 < cntL L next.toNat) (ho : ¬ old = -1) (hc : cntL L next.toNat < 255) :
    ∃ L', swF X L old next = (L', 0) ∧ Inv X L' (R ++ [next]) := by
  obtain ⟨L1, hh, hi⟩ := h.holdL h0 hl hc
  have hk : R.length < (R ++ [old] ++ [next]).length := by simp
  obtain ⟨d1, d2⟩ := hi.drop R.length hk
  have e1 : (R ++ [old] ++ [next])[R.length] = old := by simp
  have e2 : (R ++ [old] ++ [next]).take R.length ++ (R ++ [old] ++ [next]).drop (R.length + 1) = R ++ [next] := by
    rw [List.append_assoc]
    simp [List.take_append, List.drop_append]
  rw [e1] at d1 d2
  rw [e2] at d2
  unfold swF
  rw [hh]
  simp only [if_true, if_neg ho]
  exact ⟨(dropF X (muL L1 + 1) L1 old).1, by rw [← d1], d2⟩
/-- One tree over a store: B are the pages of blocks; d is what the tree counts at most. -/
structure KT (X : DSt) (L : List Pg) (B : List Int) (lv : Nat) (root : Int) (l : List (Int × Int)) (d k : Nat) : Prop where
  iv : Inv X L (rtsB B root)
  bl : ∀ b ∈ B, 0 ≤ b ∧ (rdN X b).1.k = 1 ∧ (rdN X b).1.es = []
  rt : (root = -1 ∧ l = []) ∨ (0 ≤ root ∧ lv ≤ 6 ∧ okT X lv root 0 64 ∧ lsT X lv root = l ∧ psiA lv (absT X lv root) ≤ d)
  pg : ∀ z ∈ l, z.2 ∈ B
  pm : PlM k L
theorem dfT_psi (X : DSt) (lv : Nat) (p : Int) : dfT X lv p ≤ psiA lv (absT X lv p) := by
  rw [← dfA_T]
  cases lv with
  | zero => exact Int.le_refl _
  | succ n =>
    show _ ≤ dfA (n + 1) (absT X (n + 1) p) + (if List.length (α := Int × Tr n) (absT X (n + 1) p) = 1 then 1 else 0)
    split <;> omega
theorem psi_more {X : DSt} {lv : Nat} {p : Int} (h : ¬ szX X p = 1) : psiA lv (absT X lv p) = dfT X lv p := by
  rw [← dfA_T]
  cases lv with
  | zero => rfl
  | succ n =>
    show dfA (n + 1) (absT X (n + 1) p) + (if List.length (α := Int × Tr n) (absT X (n + 1) p) = 1 then 1 else 0) = _
    have : List.length (α := Int × Tr n) (absT X (n + 1) p) = szX X p := len_abT X (n + 1) p
    rw [if_neg (by omega)]
    omega
theorem psi_le {X : DSt} {lv : Nat} {p : Int} : psiA lv (absT X lv p) ≤ dfT X lv p + 1 := by
  rw [← dfA_T]
  cases lv with
  | zero => show (0 : Int) ≤ 0 + 1; omega
  | succ n =>
    show dfA (n + 1) (absT X (n + 1) p) + (if List.length (α := Int × Tr n) (absT X (n + 1) p) = 1 then 1 else 0) ≤ _
    split <;> omega
theorem okT_len {X : DSt} {lv : Nat} {p : Int} (h : okT X lv p 0 64) : (lsT X lv p).length ≤ 64 := by
  have := KeysUp.len (lsT_up h) (a := 0) (b := 63) (by decide) (fun z hz => by have := lsT_rng h z hz; omega)
  omega
section
variable {X : DSt} {L : List Pg} {B : List Int} {lv : Nat} {root : Int} {l : List (Int × Int)} {d k : Nat}
theorem KT.up (o : KT X L B lv root l d k) : KeysUp l ∧ (∀ z ∈ l, 0 ≤ z.1 ∧ z.1 ≤ 63) ∧ l.length ≤ 64 := by
  rcases o.rt with ⟨_, rfl⟩ | ⟨_, _, t, e, _⟩
  · exact ⟨List.Pairwise.nil, by simp, by simp⟩
  · rw [← e]
    exact ⟨lsT_up t, fun z hz => by have := lsT_rng t z hz; omega, okT_len t⟩
theorem KT.ne (o : KT X L B lv root l d k) : (root = -1) ↔ l = [] := by
  rcases o.rt with ⟨h, rfl⟩ | ⟨h, _, t, e, _⟩
  · exact ⟨fun _ => rfl, fun _ => h⟩
  · refine ⟨fun q => by omega, fun q => ?_⟩
    have := lsT_len t
    rw [e, q] at this
    simp at this
theorem KT.live (o : KT X L B lv root l d k) (hr : ¬ root = -1) : 0 ≤ root ∧ 0 < cntT L [] root.toNat := o.iv.toT.root (by unfold rtsB; rw [if_neg hr]; simp)
theorem KT.rk (o : KT X L B lv root l d k) : RtOk X L [] lv root l := by
  rcases o.rt with ⟨h, e⟩ | ⟨h, hl, t, e, _⟩
  · exact Or.inl ⟨h, e⟩
  · exact Or.inr ⟨h, (o.live (by omega)).2, by omega, t, e⟩
theorem KT.fam (o : KT X L B lv root l d k) : FamK X (rtsB B root) B (oneTs [] lv root) := by
  refine ⟨o.bl, fun t ht => ?_, fun r hr => ?_⟩
  · rcases oneTs_mem ht with h | ⟨h, rfl⟩
    · cases h
    · rcases o.rt with ⟨q, _⟩ | ⟨h0, _, t, e, _⟩
      · exact absurd q h
      · exact ⟨h0, t, by show ∀ z ∈ lsT X lv root, z.2 ∈ B; rw [e]; exact o.pg⟩
  · unfold rtsB at hr
    unfold oneTs
    split at hr
    · exact Or.inl hr
    · rename_i h
      rw [if_neg h]
      rcases List.mem_append.1 hr with q | q
      · exact Or.inl q
      · simp at q; exact Or.inr ⟨(lv, root), by simp, by simp [q]⟩
/-- How many nodes there are. -/
def occK (X : DSt) (lv : Nat) (root : Int) : Nat := if root = -1 then 0 else (occT X lv root).length
theorem KT.occ (o : KT X L B lv root l d k) : 2 * occK X lv root ≤ l.length + d + 1 := by
  unfold occK
  rcases o.rt with ⟨q, _⟩ | ⟨h0, _, t, e, hp⟩
  · rw [if_pos q]; omega
  · rw [if_neg (by omega)]
    have h1 := occ_df t
    have h2 := dfT_psi X lv root
    have h3 : 1 ≤ szX X root := t.es.2.1
    rw [e] at h1
    omega
theorem KT.fp (o : KT X L B lv root l d k) : (famP X B (oneTs [] lv root)).length = B.length + occK X lv root := by
  unfold famP oneTs occK
  split <;> simp
theorem KT.free (o : KT X L B lv root l d k) : L.length ≤ plFree L + (k + (B.length + occK X lv root)) := by
  have := o.fam.used o.iv o.pm
  rwa [o.fp] at this
theorem KT.cnt (o : KT X L B lv root l d k) (q : Nat) : cntL L q ≤ B.length + 1 + (l.length + occK X lv root) := by
  have h := o.fam.cnt o.iv q
  have h1 : (rtsB B root).count (q : Int) ≤ B.length + 1 := by
    refine Nat.le_trans (List.count_le_length) ?_
    unfold rtsB; split <;> simp
  have h2 : ((oneTs [] lv root).map fun t => (lsT X t.1 t.2).length + (occT X t.1 t.2).length).sum ≤ l.length + occK X lv root := by
    unfold oneTs occK
    split
    · simp
    · rename_i hr
      rcases o.rt with ⟨q, _⟩ | ⟨_, _, _, e, _⟩
      · exact absurd q hr
      · simp [e]
  omega
end
/-- Behind a root that was swapped. -/
theorem KT.next {X X' : DSt} {L L' L2 : List Pg} {B : List Int} {lv lv' : Nat} {root p' : Int} {l l' : List (Int × Int)} {d d' k : Nat} (o : KT X L B lv root l d k) (hx : Ext X L X' L') (hr : rtsB B p' = B ++ (if p' = -1 then [] else [p'])) (iv : Inv X' L2 (rtsB B p')) (rt : (p' = -1 ∧ l' = []) ∨ (0 ≤ p' ∧ lv' ≤ 6 ∧ okT X' lv' p' 0 64 ∧ lsT X' lv' p' = l' ∧ psiA lv' (absT X' lv' p') ≤ d')) (pg : ∀ z ∈ l', z.2 ∈ B) (pm : PlM k L2) : KT X' L2 B lv' p' l' d' k := by
  refine ⟨iv, fun b hb => ?_, rt, pg, pm⟩
  obtain ⟨b0, bk, be⟩ := o.bl b hb
  have hb2 := o.iv.toT.root (rtsB_B (root := root) hb)
  have hk := (hx.kp b.toNat (o.iv.toT.live hb2.2).1).1
  rw [Int.toNat_of_nonneg b0] at hk
  rw [hk]
  exact ⟨b0, bk, be⟩
theorem KT.mid {X X' : DSt} {L L' : List Pg} {B : List Int} {lv : Nat} {root : Int} {l : List (Int × Int)} {d k : Nat} (o : KT X L B lv root l d k) (hx : Ext X L X' L') (T : List Nat) : RtOk X' L' T lv root l := by
  rcases o.rt with ⟨h, e⟩ | ⟨h, hl, t, e, _⟩
  · exact Or.inl ⟨h, e⟩
  · have hp := o.live (by omega)
    obtain ⟨a1, a2, _⟩ := okT.ext o.iv.toT hx t h hp.2
    have := (hx.kp root.toNat (o.iv.toT.live hp.2).1).2.2
    refine Or.inr ⟨h, ?_, by omega, a1, a2.trans e⟩
    have h2 := hp.2
    unfold cntT at h2 ⊢
    simp at h2
    omega
/-- What a put, or a cut, hands, and the swap behind it. -/
structure KStep (X : DSt) (L : List Pg) (B : List Int) (lv : Nat) (root : Int) (l : List (Int × Int)) (m k : Nat) (X' : DSt) (L' : List Pg) (p' : Int) (lv' : Nat) (L2 : List Pg) (l' : List (Int × Int)) (d' : Nat) : Prop where
  mid : ∃ T, InvT X' L' (rtsB B root) T ∧ RtOk X' L' T lv root l ∧ RtOk X' L' T lv' p' l'
  sw : SwapEx X' L' root p' L2
  kt : KT X' L2 B lv' p' l' d' k
  ln : L2.length = L.length
  up : Up X' L2.length (m + 20)
  kp : ∀ q : Nat, yng (plAt L q) = true → yng (plAt L2 q) = true ∧ rdN X' (q : Int) = rdN X (q : Int)
theorem swapEx_F {X : DSt} {L L2 : List Pg} {root next : Int} (hn : ¬ next = -1) (hs : swF X L root next = (L2, 0)) : SwapEx X L root next L2 := fun F gs gp m w hm h => Swap_F hn hm h hs
theorem rtsB_ne {B : List Int} {p : Int} (h : ¬ p = -1) : rtsB B p = B ++ [p] := by unfold rtsB; rw [if_neg h]
theorem PlM.toY {L : List Pg} (h : PlM 0 L) : PlY L := by
  intro i
  by_cases hi : i < L.length
  · have hy : yng (plAt L i) = false := by
      cases hq : yng (plAt L i) with
      | false => rfl
      | true =>
        have : 0 < L.countP yng := List.countP_pos_iff.2 ⟨L[i], by simp, by rw [← plAt_get L i hi]; exact hq⟩
        rw [h.yn] at this; omega
    unfold yng at hy
    rcases h.ok i with q | q | q | q
    · exact Or.inl q
    · rw [q] at hy; cases hy
    · rw [q] at hy; cases hy
    · exact Or.inr q
  · rw [plAt_out _ _ (by omega)]; exact Or.inr ⟨rfl, rfl⟩
theorem PlM.noY {X X' : DSt} {L L2 : List Pg} (h : PlM 0 L) : ∀ q : Nat, yng (plAt L q) = true → yng (plAt L2 q) = true ∧ rdN X' (q : Int) = rdN X (q : Int) := fun q hq => by
  exfalso
  unfold yng at hq
  rcases h.toY q with r | ⟨r, _⟩ <;> rw [r] at hq <;> cases hq
theorem yng_free {x : Pg} (h : yng x = true) : x.free = false := by
  unfold yng at h
  unfold Pg.free
  cases hs : (x.s == 0) with
  | false => simp
  | true =>
    have : x.s = 0 := by simpa using hs
    rw [this] at h
    cases h
theorem KT.put {X : DSt} {L : List Pg} {B : List Int} {lv : Nat} {root : Int} {l : List (Int × Int)} {d m : Nat} (o : KT X L B lv root l d 0) (hU : Up X L.length m) (hm : m ≤ 60000) (x : Int × Int) (hk : 0 ≤ x.1 ∧ x.1 ≤ 63) (hb : x.2 ∈ B) (hB : B.length ≤ 4) (hd : l.length + 2 * d ≤ 119) (hr : 16 + (B.length + occK X lv root) ≤ L.length) :
    ∃ X' L' p' lv' L2, PutEx X L root x m X' L' p' 0 ∧ 0 ≤ p' ∧ swF X' L' root p' = (L2, 0) ∧ KStep X L B lv root l m 0 X' L' p' lv' L2 (putL l x) d ∧
      ((root = -1 ∧ lv' = 0 ∧ esX X' p' = [x]) ∨ (¬ root = -1 ∧ putW lv (absT X lv root) x = ⟨lv', absT X' lv' p'⟩)) := by
  have hpgl := o.iv.toT.root (rtsB_B (root := root) hb)
  have hocc := o.occ
  have hlen := o.up.2.2
  have hfree := o.free
  have hcnt := fun q => o.cnt q
  have hy := o.pm.toY
  have hpg' : ∀ z ∈ putL l x, z.2 ∈ B := fun z hz => by
    rcases (mem_putL o.up.1).1 hz with rfl | ⟨q, _⟩
    · exact hb
    · exact o.pg z q
  rcases o.rt with ⟨h, e⟩ | ⟨h0, hl, t, e, hpsi⟩
  · subst h
    subst e
    obtain ⟨X', L', p', e, R, hup, P⟩ := Put_empty_ex (Q := fun _ => True) o.iv.toT (by omega) x hk hpgl hU
    obtain rfl := R.good (by omega) (fun q => by have := hcnt q; simp at this; unfold occK at this; simp at this; omega)
    obtain ⟨lv', hlv, iv, tt⟩ := R.ys rfl
    have hlv0 : lv' = 0 := by omega
    subst hlv0
    have p0 := R.p0 rfl
    have iv' : InvT X' L' B [p'.toNat] := by
      unfold rtsB at iv
      rw [if_pos rfl] at iv
      exact iv
    have hcc : cntL L' p'.toNat < 255 := by
      have := R.ct rfl p'.toNat
      have := hcnt p'.toNat
      unfold occK at this; simp at this
      omega
    obtain ⟨L2, sw, iv2, ln, yg⟩ := swap_first iv' p0 hcc
    have hp1 : ¬ p' = -1 := by omega
    refine ⟨X', L', p', 0, L2, P, p0, sw, ⟨⟨[p'.toNat], iv, o.mid R.ext _, Or.inr ⟨p0, iv.mem (by simp), by omega, tt.ok, tt.ls⟩⟩, swapEx_F hp1 sw, o.next R.ext (by rw [rtsB_ne hp1, if_neg hp1]) (by rw [rtsB_ne hp1]; exact iv2) (Or.inr ⟨p0, by omega, tt.ok, tt.ls, ?_⟩) hpg' (yg (R.ext.yg hy)).toM, ln.trans R.ext.ln, by rw [ln]; exact hup, o.pm.noY⟩, Or.inl ⟨rfl, rfl, tt.ls⟩⟩
    show (0 : Int) ≤ (d : Int)
    omega
  · have hr1 : ¬ root = -1 := by omega
    have hlv := o.live hr1
    obtain ⟨X', L', p', lv', Q, hup, P⟩ := put_ok o.iv.toT t h0 hlv.2 (by omega) (by omega) x hk hpgl hU (by omega) (fun q => by have := hcnt q; omega)
    have hp1 : ¬ p' = -1 := by have := Q.p0; omega
    have iv' := Q.iv
    rw [rtsB_ne hr1] at iv'
    have hcc : cntL L' p'.toNat < 255 := by
      have := Q.ct p'.toNat
      have := hcnt p'.toNat
      omega
    obtain ⟨L2, sw, iv2, ln, yg⟩ := swap_in iv' Q.p0 hr1 hcc
    have hdf := dfT_psi X lv root
    have hlow : lv' ≤ 6 := by
      rcases Q.hg with ⟨q, _⟩ | ⟨q, h6, _⟩
      · omega
      · have := full_low (n := 120) t h6 (by rw [e]; omega) (by omega)
        omega
    have hps : psiA lv' (absT X' lv' p') ≤ d := by
      have hq := Q.df
      rcases Q.hg with ⟨q, hs⟩ | ⟨_, _, h2⟩
      · by_cases hs1 : szX X root = 1
        · have h1 := psi_le (X := X') (lv := lv') (p := p')
          have h2 : psiA lv (absT X lv root) = dfT X lv root + 1 ∨ lv = 0 := by
            cases lv with
            | zero => exact Or.inr rfl
            | succ n =>
              left
              rw [← dfA_T]
              show dfA (n + 1) (absT X (n + 1) root) + (if List.length (α := Int × Tr n) (absT X (n + 1) root) = 1 then 1 else 0) = _
              have : List.length (α := Int × Tr n) (absT X (n + 1) root) = szX X root := len_abT X (n + 1) root
              rw [if_pos (by omega)]
          rcases h2 with h2 | h2
          · omega
          · subst q
            subst h2
            show (0 : Int) ≤ d
            omega
        · have hs1' : 1 ≤ szX X root := t.es.2.1
          have := psi_more (X := X') (lv := lv') (p := p') (by omega)
          omega
      · have := psi_more (X := X') (lv := lv') (p := p') (by omega)
        omega
    refine ⟨X', L', p', lv', L2, P, Q.p0, sw, ⟨⟨[p'.toNat], Q.iv, o.mid Q.ext _, Or.inr ⟨Q.p0, Q.iv.mem (by simp), by omega, Q.ok, by rw [Q.ls, e]⟩⟩, swapEx_F hp1 sw, o.next Q.ext (by rw [rtsB_ne hp1, if_neg hp1]) (by rw [rtsB_ne hp1]; exact iv2) (Or.inr ⟨Q.p0, hlow, Q.ok, by rw [Q.ls, e], hps⟩) hpg' (yg (Q.ext.yg hy)).toM, ln.trans Q.ext.ln, by rw [ln]; exact hup, o.pm.noY⟩, Or.inr ⟨hr1, Q.ab⟩⟩
/-- A key that is there is cut. -/
theorem KT.cut {X : DSt} {L : List Pg} {B : List Int} {lv : Nat} {root : Int} {l : List (Int × Int)} {d k m : Nat} (o : KT X L B lv root l d k) (hU : Up X L.length m) (hm : m ≤ 60000) (key : Int) (hk : 0 ≤ key ∧ key ≤ 63) (hn : ¬ findL l key = -1) (hB : B.length ≤ 4) (hd : l.length + d ≤ 130) (hr : 8 + (k + (B.length + occK X lv root)) ≤ L.length) :
    ∃ X' L' p' lv' L2, CutEx X L root key m X' L' p' ∧ KStep X L B lv root l m k X' L' p' lv' L2 (cutL l key) (d + 1) ∧
      ((p' = -1 ∧ cutW lv (absT X lv root) key = none) ∨ (¬ p' = -1 ∧ lv' ≤ lv ∧ cutW lv (absT X lv root) key = some ⟨lv', absT X' lv' p'⟩)) := by
  have hocc := o.occ
  have hlen := o.up.2.2
  have hfree := o.free
  have hcnt := fun q => o.cnt q
  have hkl : ∃ z ∈ l, z.1 = key := by
    by_cases q : ∃ z ∈ l, z.1 = key
    · exact q
    · exact absurd (findL_none fun z hz e => q ⟨z, hz, e⟩) hn
  have hr1 : ¬ root = -1 := fun q => by
    rw [o.ne] at q
    subst q
    obtain ⟨z, hz, _⟩ := hkl
    cases hz
  have hpg' : ∀ z ∈ cutL l key, z.2 ∈ B := fun z hz => o.pg z (mem_cutL.1 hz).1
  rcases o.rt with ⟨h, _⟩ | ⟨h0, hl, t, e, hpsi⟩
  · exact absurd h hr1
  have hlv := o.live hr1
  have hkt : ∃ z ∈ lsT X lv root, z.1 = key := by rw [e]; exact hkl
  have hf1 : lv + 1 ≤ plFree L := by omega
  have hc1 : ∀ q, cntL L q + (6 * lv + 6) ≤ 255 := fun q => by have := hcnt q; omega
  obtain ⟨X', L', p', ec, hup, R⟩ := cut_ok o.iv.toT key lv hU t h0 hlv.2 hkt hf1 hc1
  have hpm : PlM k L' := by
    have := PlM.cut (X := X) o.pm lv root key
    rw [ec] at this
    exact this
  have hpf : PlF (fun i => yng (plAt L i)) L' := by
    have := PlF.cut (X := X) o.pm.toF lv root key
    rw [ec] at this
    exact this
  have hkp : ∀ L2, PlF (fun i => yng (plAt L i)) L2 → ∀ q : Nat, yng (plAt L q) = true → yng (plAt L2 q) = true ∧ rdN X' (q : Int) = rdN X (q : Int) := fun L2 h2 q hq => ⟨by rw [h2.yn q]; exact hq, (R.ext.kp q (yng_free hq)).1⟩
  have hEx : CutEx X L root key m X' L' p' := fun F gs gp w h => by
    refine (Cut_yes o.iv.toT hm o.rk key hk hn w h (m1 := m + 20) fun W HW => ?_).mono fun _ _ q => q
    refine (cut_lv o.iv.toT hm key (F := F) (gs := gs) (gp := gp) lv W (by omega) t h0 hlv.2 hkt hf1 hc1 HW ec).mono ?_
    rintro r w' ⟨F', er, s⟩
    exact ⟨F', er, s.mono (by omega)⟩
  have hne := ne_T t
  have hpsi' : ∀ n (t' : Tr n), cutW lv (absT X lv root) key = some ⟨n, t'⟩ → psiA n t' ≤ (d + 1 : Nat) := fun n t' hq => by
    have := cutW_psi lv (absT X lv root) key n t' hne.1 hne.2 (by rw [len_abT]; exact t.es.2.1) hq
    omega
  have hcl : cutL (lsT X lv root) key = cutL l key := by rw [e]
  rcases R.ways with ⟨rfl, hc, iv, hw⟩ | ⟨p0, lv', hlv', ok', ls', hw, hiv⟩
  · have iv1 : Inv X' L' (B ++ [root]) := by
      have := iv
      rw [rtsB_ne hr1] at this
      exact this.toI
    have hkk : B.length < (B ++ [root]).length := by simp
    obtain ⟨d1, d2⟩ := iv1.drop B.length hkk
    have e1 : (B ++ [root])[B.length] = root := by simp
    have e2 : (B ++ [root]).take B.length ++ (B ++ [root]).drop (B.length + 1) = B := by simp
    rw [e1] at d1 d2
    rw [e2] at d2
    have hdl := dropF_len (X := X') (muL L' + 1) L' root
    have hpd := PlM.drop (X := X') (muL L' + 1) iv.ok hpm root
    refine ⟨X', L', -1, 0, (dropF X' (muL L' + 1) L' root).1, hEx, ⟨⟨[], iv, o.mid R.ext _, Or.inl ⟨rfl, hcl.symm.trans hc⟩⟩, fun F gs gp m w hm h => Swap_none root hr1 hm (Prod.ext rfl d1) w h, o.next R.ext (by simp [rtsB]) (by unfold rtsB; rw [if_pos rfl]; exact d2) (Or.inl ⟨rfl, hcl.symm.trans hc⟩) hpg' hpd, hdl.trans R.ext.ln, by rw [hdl]; exact hup.mono (by omega), hkp _ (PlF.drop (X := X') (muL L' + 1) iv.ok hpf root)⟩, Or.inl ⟨rfl, hw⟩⟩
  · have hp1 : ¬ p' = -1 := by omega
    have hcc : cntL L' p'.toNat < 255 := by
      have := R.ct p'.toNat
      have := hcnt p'.toNat
      omega
    have hkt' := fun (L2 : List Pg) (iv2 : Inv X' L2 (B ++ [p'])) (pm : PlM k L2) => o.next (L2 := L2) (lv' := lv') (l' := cutL l key) (d' := d + 1) R.ext (by rw [rtsB_ne hp1, if_neg hp1]) (by rw [rtsB_ne hp1]; exact iv2) (Or.inr ⟨p0, by omega, ok', ls'.trans hcl, hpsi' _ _ hw⟩) hpg' pm
    have hswm : PlM k (swF X' L' root p').1 := by
      rcases hiv with iv | ⟨iv, _⟩
      · exact PlM.sw iv.ok hpm root p'
      · exact PlM.sw iv.ok hpm root p'
    have hswf : PlF (fun i => yng (plAt L i)) (swF X' L' root p').1 := by
      rcases hiv with iv | ⟨iv, _⟩
      · exact PlF.sw iv.ok hpf root p'
      · exact PlF.sw iv.ok hpf root p'
    have hswl := swF_len X' L' root p'
    have main : ∃ L2, swF X' L' root p' = (L2, 0) ∧ Inv X' L2 (B ++ [p']) := by
      rcases hiv with iv | ⟨iv, hl2⟩
      · rw [rtsB_ne hr1] at iv
        obtain ⟨L2, sw, iv2, _⟩ := swap_in iv p0 hr1 hcc
        exact ⟨L2, sw, iv2⟩
      · rw [rtsB_ne hr1] at iv
        have : 0 < cntL L' p'.toNat := by unfold cntT at hl2; simpa using hl2
        exact swap_old iv.toI p0 this hr1 hcc
    obtain ⟨L2, sw, iv2⟩ := main
    rw [sw] at hswm hswl hswf
    refine ⟨X', L', p', lv', L2, hEx, ⟨?_, swapEx_F hp1 sw, hkt' L2 iv2 hswm, hswl.trans R.ext.ln, by rw [hswl]; exact hup.mono (by omega), hkp _ hswf⟩, Or.inr ⟨hp1, hlv', hw⟩⟩
    rcases hiv with iv | ⟨iv, _⟩
    · exact ⟨_, iv, o.mid R.ext _, Or.inr ⟨p0, iv.mem (by simp), by omega, ok', ls'.trans hcl⟩⟩
    · rename_i hl2
      exact ⟨_, iv, o.mid R.ext _, Or.inr ⟨p0, hl2, by omega, ok', ls'.trans hcl⟩⟩
end Go.Proofs.YtmkinaijkgkgiaaGreat
/- Stage 11's laws: made; no condition. -/
namespace Go.Proofs.YtmkinaijkgkgiaaGreat
open Go.RowKit Go.Proofs.U
set_option linter.unusedSimpArgs false
set_option linter.unusedVariables false
theorem pr_zero : (Tryz.prog.info? 28).map (·.zero) = some (some (.agg #[.pointer none])) := by kernel_rfl
theorem built_pr (g : Nat) : Tryz.prog.built 28 [(0, trV g)] = some #[ptr g] := by
  have hp : (Tryz.prog.fieldsOf 28).toList.mapM (fun f => (Tryz.prog.info? f.type).map fun i => (f.offset, i.size)) = some [(0, 1)] := by kernel_rfl
  rw [built_struct _ _ pr_struct _ pr_zero _ hp]
  rfl
theorem results_pr3 {fn : Func} {q u v : Tmp} (h : fn.results = #[.cell q 28, .tmp u, .tmp v]) (tmps : Array Value) (w : World) (g gs : Nat) (hq : tmps.getD q undef = .pointer (some ⟨g, 0, none⟩)) (hB : BxV w g 28 [ptr gs]) :
    (results fn tmps).run Tryz.prog w = .ok (.tuple #[trV gs, tmps.getD u undef, tmps.getD v undef]) w := by
  have hr := run_loadVar_mid (P := Tryz.prog) w g 0 28 [ptr gs] _ (hB.range 0 _ rfl) pr_struct rfl pr_size
  have hc : (results fn tmps).run Tryz.prog w = ((asAddr (tmps.getD q undef)).run Tryz.prog w).andThen fun a w₁ => ((loadVar 28 a).run Tryz.prog w₁).andThen fun x w₂ => .ok (.tuple #[x, tmps.getD u undef, tmps.getD v undef]) w₂ := by
    simp only [results, h]
    simp [Sem.run_bind, Result.andThen]
  rw [hc, hq]
  simp only [asAddr, Sem.run_pure, Result.andThen_ok, hr]
theorem wpList_bldP {w : World} {ops : Array Oper} {rest : List Oper} {o : Oper} {a : Act} {Q : Exit → Act → World → Prop} (hgd : Region.wanted o (yielded ops a.tmps) = true) (y : Operand) (ho : o.op = .build 28 #[(0, y)]) (g : Nat) (hy : a.eval y = trV g)
    (h : wpList Tryz.prog ops Q rest (a.put o.dst (trV g)) w) : wpList Tryz.prog ops Q (o :: rest) a w := by
  refine wpList_wanted hgd fun K hK => ?_
  have hrun := run_build (P := Tryz.prog) w 28 #[(0, trV g)] _ (built_pr g)
  unfold Oper.wp
  simp [execOp, ho, hy, hrun, Result.andThen]
  exact hK _ _ h
theorem wpList_stP {w : World} {ops : Array Oper} {rest : List Oper} {o : Oper} {a : Act} {Q : Exit → Act → World → Prop} (hgd : o.guard = none) (y z : Operand) (ho : o.op = .store 28 y z) (g : Nat) (hy : a.eval y = .pointer (some ⟨g, 0, none⟩)) (gs : Nat) (hz : a.eval z = trV gs) (v0 : Value) (hB : BxV w g 28 [v0])
    (h : ∀ w', BxV w' g 28 [ptr gs] → Fr (onB1 g) w w' → wpList Tryz.prog ops Q rest (a.put o.dst undef) w') : wpList Tryz.prog ops Q (o :: rest) a w := by
  refine wpList_storeV hgd _ y z ho g 0 hy [ptr gs] hz _ [v0] hB pr_size (Nat.le_refl _) (by intro u hu; simp at hu; subst hu; rfl) ?_
  intro w' h1 h2
  rw [putAt_all [v0] [ptr gs] rfl] at h1
  exact h w' h1 h2
set_option maxRecDepth 100000 in
set_option maxHeartbeats 2000000 in
theorem made_P (n : Int) (hn : 5 ≤ n ∧ n ≤ 1000) (w : World) :
    Calls Tryz.prog 7 #[.int .i64 n] w fun r w' => ∃ gs gp F X L pg, r = .returned (.tuple #[trV gs, .int .i64 pg, .bool true]) ∧ Sto w' F gs gp X L 1 ∧ Above w w' F gs gp ∧ Base1 X L pg (plN (sizeN n)) := by
  obtain ⟨X', L1, p, L2, em, eh, hB1⟩ := base1 hn.1
  have hU := Up.new (n := n) (by omega)
  have hok := plNew_ok (sizeN n)
  rw [← plNew_len] at hU
  have hd := fun W => new_any n (by omega) W
  have hp := fun W => pnew_any (sizeN n) W
  have hz := fun W => nsize_any n W
  obtain ⟨D, HD⟩ : ∃ D, Hid (newD n = D) := ⟨_, rfl⟩
  obtain ⟨P, HP⟩ : ∃ P, Hid (plNew (sizeN n) = P) := ⟨_, rfl⟩
  obtain ⟨s, HS⟩ : ∃ s, Hid (sizeN n = s) := ⟨_, rfl⟩
  rw [HD.out] at hU hd em
  rw [HP.out] at hU hp hok em
  rw [HS.out] at hz hp hB1 ⊢
  obtain ⟨B9, HB9⟩ : ∃ B9, Hid (bk9 = B9) := ⟨_, rfl⟩
  have hb9 := show Hid _ from built_bk9
  have hl9 := show Hid _ from bk9_len
  have hby9 := bk9_byt
  rw [HB9.out] at hb9 hl9 hby9 em
  have hbn := show Hid _ from built_ndB 1 B9 hl9.out
  have em' := show Hid _ from em
  have eh' := show Hid _ from eh
  clear em eh
  go_enter Tryz.func7, Tryz.ntmps7
  go_upto_region 4 with (first
    | (with_reducible refine at_wpP ?_; refine wpList_allocG rfl 28 rfl (.agg #[.pointer none]) [.pointer none] pr_zero rfl ?_; intro g2 w0 hg2 b2 f0 s0; have l2 := b2.lt; have z0 := f0.size)
    | (go_at_call 26; go_must (refine (hd _).mono ?_; rintro e w1 ⟨gd, rfl, d1, f1⟩; have z1 := f1.size; have t1 := d1.tight))
    | (go_at_call 28; go_must (refine (hz _).mono ?_; rintro e w2 ⟨rfl, rfl⟩))
    | (go_at_call 27; go_must (refine (hp _).mono ?_; rintro e w3 ⟨gp, rfl, s3, b3, f3⟩; have z3 := f3.size; have l3 := b3.lt))
    | (go_at_call 25; go_must (refine (nnew_any gd gp _).mono ?_; rintro e w4 ⟨gs, rfl, s4, b4, f4⟩; have z4 := f4.size; have l4 := b4.lt)))
  have st : Sto w4 _ gs gp D P 0 := ⟨⟨gd, b4, (t1.fr0 f3).fr0 f4⟩, b3.fr0 f4, hok, hU, (by intro q; omega), (by intro q; omega), by omega, (by intro k hk; omega)⟩
  have F4 : Fr noB w w4 := ((f0.thenN f1).thenN f3).thenN f4
  have b2' := (((b2.fr0 f1).fr0 f3).fr0 f4)
  have hS4 : ∀ k, stB (fun k => w0.heap.size ≤ k ∧ k < w1.heap.size) gp k → w0.heap.size ≤ k ∧ ¬ k = g2 := fun k q => by
    rcases q with q | q
    · exact ⟨q.1, by omega⟩
    · exact ⟨by omega, by omega⟩
  go_wp2_with (first
    | (with_reducible refine at_wpP ?_; refine wpList_blkC rfl rfl B9 hb9.out ?_)
    | (with_reducible refine at_wpP ?_; refine wpList_bldN rfl _ rfl 1 B9 nilS [(0, .int .i64 1), (1, pgV B9)] rfl hbn.out ?_)
    | (go_at_call 29; go_must (refine (make_F (⟨1, B9, []⟩ : Nd) nilS st (by omega) ⟨⟨⟨by simp, Sl.nil _ 2⟩, by simp⟩, ⟨hl9.out, hby9⟩, by simp, rfl⟩ em'.out).mono ?_; rintro e w5 ⟨rfl, F5, st5, ft5, fr5⟩; have z5 := fr5.size; have b25 := b2'.fr fr5 (fun q => (hS4 _ q).2 rfl)))
    | (go_at_call 30; go_must (refine (hold_F p st5 eh'.out).mono ?_; rintro e w6 ⟨rfl, st6, f6⟩; have z6 := f6.size; have b26 := b25.ne f6 (by omega)))
    | (with_reducible refine at_wpP ?_; refine wpList_bldT rfl _ rfl gs rfl ?_)
    | (with_reducible refine at_wpP ?_; refine wpList_bldP rfl _ rfl gs rfl ?_)
    | (with_reducible refine at_wpP ?_; refine at_st 28 _ _ rfl ?_; go_must (refine wpList_stP rfl _ _ rfl g2 rfl gs rfl (.pointer none) b26 ?_; intro w7 b7 f7)))
  have hF5 : ∀ k, F5 k → w0.heap.size ≤ k ∧ ¬ k = g2 := fun k q => by
    rcases (ft5 k q).1 with q | q
    · exact ⟨q.1, by omega⟩
    · exact ⟨by omega, by omega⟩
  have st7 : Sto w7 F5 gs gp X' L2 1 := st6.fr f7 (fun k _ q h => by
    unfold onB1 at h
    subst h
    rcases q with q | q | q
    · exact (hF5 _ q).2 rfl
    · omega
    · omega)
  refine bodyPost_ret (results_pr3 Tryz.results7 _ w7 g2 gs rfl b7) rfl ⟨gs, gp, F5, X', L2, p, rfl, st7, ⟨fun k q => by have := (hF5 k q).1; omega, by omega, by omega, ?_⟩, hB1⟩
  exact ((F4.thenT fr5 (fun k hk q => by have := (hS4 k q).1; omega)).thenT f6 (fun k hk q => by unfold onB1 at q; omega)).thenT f7 (fun k hk q => by unfold onB1 at q; omega)
end Go.Proofs.YtmkinaijkgkgiaaGreat
/- Build, with the answers named ahead of the world, for trees whose cuts follow; no condition. -/
namespace Go.Proofs.YtmkinaijkgkgiaaGreat
open Go.RowKit Go.Proofs.U
set_option linter.unusedSimpArgs false
set_option linter.unusedVariables false
/-- Put of None, or of a tree, without pages. -/
def stepW : Option ((n : Nat) × Tr n) → Int × Int → (n : Nat) × Tr n
  | none, x => ⟨0, [x]⟩
  | some s, x => putW s.1 s.2 x
def absB (s : BSt) : Option ((n : Nat) × Tr n) := if s.root = -1 then none else some ⟨s.lv, absT s.X s.lv s.root⟩
theorem putL_le : ∀ (l : List (Int × Int)) (x : Int × Int), (putL l x).length ≤ l.length + 1
  | [], x => by simp [putL]
  | y :: l, x => by
    unfold putL
    split
    · have := List.length_filter_le (fun z : Int × Int => !(z.1 == x.1)) (y :: l)
      simp only [List.length_cons] at *
      omega
    · have := putL_le l x
      simp only [List.length_cons]
      omega
theorem foldL_le (es : List (Int × Int)) : ∀ l : List (Int × Int), (es.foldl putL l).length ≤ l.length + es.length := by
  induction es with
  | nil => intro l; simp
  | cons x es ih =>
    intro l
    have := ih (putL l x)
    have := putL_le l x
    simp only [List.foldl_cons, List.length_cons]
    omega
theorem KT.step {s : BSt} {B : List Int} {l : List (Int × Int)} {d m : Nat} (o : KT s.X s.L B s.lv s.root l d 0) (hU : Up s.X s.L.length m) (hm : m ≤ 60000) (x : Int × Int) (hk : 0 ≤ x.1 ∧ x.1 ≤ 63) (hb : x.2 ∈ B) (hB : B.length ≤ 4) (hd : l.length + 2 * d ≤ 119) (hr : 16 + (B.length + occK s.X s.lv s.root) ≤ s.L.length) :
    ∃ s', BStep m x s s' ∧ KT s'.X s'.L B s'.lv s'.root (putL l x) d 0 ∧ s'.L.length = s.L.length ∧ Up s'.X s'.L.length (m + 20) ∧ absB s' = some (stepW (absB s) x) := by
  obtain ⟨X', L', p', lv', L2, P, p0, sw, K, ha⟩ := o.put hU hm x hk hb hB hd hr
  refine ⟨⟨X', L2, lv', p'⟩, ⟨⟨L', P, sw⟩, p0⟩, K.kt, K.ln, K.up, ?_⟩
  unfold absB
  have hp1 : ¬ p' = -1 := by omega
  simp only
  rw [if_neg hp1]
  rcases ha with ⟨h1, h2, h3⟩ | ⟨h1, h2⟩
  · rw [if_pos h1]
    subst h2
    show some (⟨0, esX X' p'⟩ : (n : Nat) × Tr n) = some ⟨0, [x]⟩
    rw [h3]
  · rw [if_neg h1]
    exact congrArg some h2.symm
/-- All of Build's states. -/
theorem KT.steps {s0 : BSt} {B : List Int} {m : Nat} (es : List (Int × Int)) (o : KT s0.X s0.L B s0.lv s0.root [] 0 0) (hm : m ≤ 10000) (he : es.length ≤ 100) (hes : ∀ x ∈ es, (0 ≤ x.1 ∧ x.1 ≤ 63) ∧ x.2 ∈ B) (hU : Up s0.X s0.L.length m) (hB : B.length ≤ 4) (hL : 17 + B.length + (es.length + 1) / 2 ≤ s0.L.length) :
    ∃ s : Nat → BSt, s 0 = s0 ∧ (∀ (k : Nat) (hk : k < es.length), BStep (m + 20 * k) es[k] (s k) (s (k + 1)) ∧ absB (s (k + 1)) = some (stepW (absB (s k)) es[k])) ∧ ∀ k, k ≤ es.length → KT (s k).X (s k).L B (s k).lv (s k).root ((es.take k).foldl putL []) 0 0 ∧ (s k).L.length = s0.L.length ∧ Up (s k).X (s k).L.length (m + 20 * k) := by
  have key : ∀ n, n ≤ es.length → ∃ s : Nat → BSt, s 0 = s0 ∧ (∀ (k : Nat) (hk : k < es.length), k < n → BStep (m + 20 * k) es[k] (s k) (s (k + 1)) ∧ absB (s (k + 1)) = some (stepW (absB (s k)) es[k])) ∧ ∀ k, k ≤ n → KT (s k).X (s k).L B (s k).lv (s k).root ((es.take k).foldl putL []) 0 0 ∧ (s k).L.length = s0.L.length ∧ Up (s k).X (s k).L.length (m + 20 * k) := by
    intro n
    induction n with
    | zero =>
      intro _
      refine ⟨fun _ => s0, rfl, fun k _ hk => absurd hk (by omega), fun k hk => ?_⟩
      obtain rfl : k = 0 := by omega
      exact ⟨o, rfl, hU⟩
    | succ n ih =>
      intro hn
      obtain ⟨s, h0, h1, h2⟩ := ih (by omega)
      obtain ⟨on, ln, un⟩ := h2 n (Nat.le_refl _)
      have hx := hes es[n] (List.getElem_mem _)
      have hfl := foldL_le (es.take n) []
      have hfl2 : ((es.take n).foldl putL []).length ≤ es.length := by
        rw [List.length_take] at hfl
        simp only [List.length_nil] at hfl
        omega
      have hocc := on.occ
      obtain ⟨s', b, o', l', u', a'⟩ := on.step un (by omega) es[n] hx.1 hx.2 hB (by omega) (by omega)
      refine ⟨fun k => if k = n + 1 then s' else s k, by simp [h0], fun k hk hkn => ?_, fun k hk => ?_⟩
      · by_cases e : k = n
        · subst e; simpa using ⟨b, a'⟩
        · have := h1 k hk (by omega)
          show BStep (m + 20 * k) es[k] (if k = n + 1 then s' else s k) (if k + 1 = n + 1 then s' else s (k + 1)) ∧ absB (if k + 1 = n + 1 then s' else s (k + 1)) = some (stepW (absB (if k = n + 1 then s' else s k)) es[k])
          rw [if_neg (by omega), if_neg (by omega)]
          exact this
      · by_cases e : k = n + 1
        · subst e
          simp only [if_pos]
          rw [List.take_succ_eq_append_getElem (by omega), List.foldl_append]
          exact ⟨o', l'.trans ln, by rw [show m + 20 * (n + 1) = m + 20 * n + 20 by omega]; exact u'⟩
        · have h3 := h2 k (by omega)
          simp only [if_neg e]
          exact h3
  obtain ⟨s, h0, h1, h2⟩ := key es.length (Nat.le_refl _)
  exact ⟨s, h0, fun k hk => h1 k hk hk, h2⟩
theorem Base1.kt {X : DSt} {L : List Pg} {pg : Int} {N : Nat} (b : Base1 X L pg N) : KT X L [pg] 0 (-1) [] 0 0 := by
  refine ⟨?_, fun x hx => ?_, Or.inl ⟨rfl, rfl⟩, by simp, b.yg.toM⟩
  · unfold rtsB; rw [if_pos rfl]; exact b.iv
  · simp at hx; subst hx
    exact ⟨b.p0, by rw [b.rd], by rw [b.rd]⟩
end Go.Proofs.YtmkinaijkgkgiaaGreat
/- Stage 11's laws: pruneAlive, PruneNames; no condition. -/
namespace Go.Proofs.YtmkinaijkgkgiaaGreat
open Go.RowKit Go.Proofs.U
set_option linter.unusedSimpArgs false
set_option linter.unusedVariables false
theorem run_mk2E (w : World) (x y : Int × Int) : (Instr.buildSlice 31 2 #[(0, enV x), (1, enV y)]).run Tryz.prog w = .ok (.slice (some ⟨w.heap.size, 0, none⟩) 2 2) (w.alloc (.cells #[.int .i64 x.1, .int .i64 x.2, .int .i64 y.1, .int .i64 y.2] 40)) := by kernel_rfl
theorem ownE_new2 (w : World) (x y : Int × Int) : EnO (w.alloc (.cells #[.int .i64 x.1, .int .i64 x.2, .int .i64 y.1, .int .i64 y.2] 40)) w.heap.size (.slice (some ⟨w.heap.size, 0, none⟩) 2 2) [x, y] :=
  ⟨by simp [pairC], by simp [pairC], .inr ⟨w.heap.size, 2, _, rfl, Nat.le_refl _, heap_alloc_new w _, Nat.le_refl _, by unfold maxLen; simp, by simp [pairC], by simp [pairC]⟩⟩
section
variable {w : World} {ops : Array Oper} {rest : List Oper} {o : Oper} {a : Act} {Q : Exit → Act → World → Prop}
theorem wpList_mk2E (hgd : Region.wanted o (yielded ops a.tmps) = true) (y z : Operand) (ho : o.op = .buildSlice 31 2 #[(0, y), (1, z)]) (x x' : Int × Int) (hy : a.eval y = enV x) (hz : a.eval z = enV x')
    (h : ∀ g w', EnO w' w.heap.size (.slice (some ⟨g, 0, none⟩) 2 2) [x, x'] → Fr noB w w' → w.heap.size ≤ g → g < w'.heap.size → wpList Tryz.prog ops Q rest (a.put o.dst (.slice (some ⟨g, 0, none⟩) 2 2)) w') : wpList Tryz.prog ops Q (o :: rest) a w := by
  refine wpList_wanted hgd fun K hK => ?_
  have hr := run_mk2E w x x'
  unfold Oper.wp
  simp [execOp, ho, hy, hz, hr, Result.andThen]
  exact hK _ _ (h w.heap.size _ (ownE_new2 w x x') ((Fr.refl _ _).alloc _) (Nat.le_refl _) (by simp))
end
theorem find2a (p q : Int) : findL [(1, p), (2, q)] 1 = p := by simp [findL]
theorem find2b (p q : Int) : findL [(1, p), (2, q)] 3 = -1 := by simp [findL]
theorem cut2 (p q : Int) : cutL [(1, p), (2, q)] 1 = [(2, q)] := by simp [cutL]
theorem put2 (p q : Int) : putL (putL [] (1, p)) (2, q) = [(1, p), (2, q)] := by simp [putL]
set_option maxRecDepth 100000 in
set_option maxHeartbeats 4000000 in
theorem palive_any (w : World) :
    Calls Tryz.prog 6 #[] w fun r w' => r = .returned (.bool true) ∧ Fr noB w w' := by
  have hN : plN (sizeN 30) = 26 := by decide
  have hM := fun W => made_P 30 (by decide) W
  rw [hN] at hM
  go_enter Tryz.func6, Tryz.ntmps6
  go_upto_region 2 with (first
    | (go_at_call 7; go_must (refine (hM _).mono ?_; rintro e w1 ⟨gs, gp, F, X, L, pg, rfl, st1, A1, B1⟩; have z1 := A1.fr.size))
    | (with_reducible refine at_wpP ?_; refine wpList_allocG rfl 28 rfl (.agg #[.pointer none]) [.pointer none] pr_zero rfl ?_; intro g2 w2 hg2 b2 f2 s2; have l2 := b2.lt; have z2 := f2.size)
    | (with_reducible refine at_wpP ?_; refine at_st 28 _ _ rfl ?_; go_must (refine wpList_stP rfl _ _ rfl g2 rfl gs rfl (.pointer none) b2 ?_; intro w3 b3 f3)))
  have F3 := Fr.ownX f2 s2 f3
  have z3 := F3.size
  have hg23 := b3.lt
  have st3 := st1.fr0 F3
  have A3 := A1.fr0 F3
  have c3 := pr_cell b3
  have hgp := st3.ltp
  have hgs := st3.lts
  have hFt := st3.ft
  have hln := B1.ln
  have hpg0 := B1.p0
  obtain ⟨s, s0, sS, sK⟩ := KT.steps (s0 := ⟨X, L, 0, -1⟩) [(1, pg), (2, pg)] B1.kt (m := 1) (by decide) (by simp) (by intro x hx; simp at hx; rcases hx with rfl | rfl <;> simp) st1.up (by simp) (by simp; omega)
  obtain ⟨k2, ln2, up2⟩ := sK 2 (by simp)
  have e2 : (([(1, pg), (2, pg)] : List (Int × Int)).take 2).foldl putL [] = [(1, pg), (2, pg)] := put2 pg pg
  rw [e2] at k2
  have hocc := k2.occ
  obtain ⟨X5, L5, p5, lv5, L6, hCut, KS, hways⟩ := k2.cut (m := 41) up2 (by decide) 1 (by decide) (by rw [find2a]; omega) (by simp) (by simp) (by
    have h1 : [pg].length = 1 := rfl
    have h2 : ([(1, pg), (2, pg)] : List (Int × Int)).length = 2 := rfl
    have h3 : (⟨X, L, 0, -1⟩ : BSt).L.length = L.length := rfl
    omega)
  obtain ⟨T5, I5, r5, q5⟩ := KS.mid
  rw [cut2] at q5
  have hB := fun W v (st : Sto W F gs gp (s 0).X (s 0).L 1) (hS : SlR enC 2 W v [(1, pg), (2, pg)]) (hv : ∀ x, v.ownBlock = some x → ¬ F x ∧ x ≠ gp) => Build_steps s _ (by rw [s0]) (fun k hk => (sS k hk).1) (by decide) (by simp) v W st hS hv
  rw [s0] at hB
  have hN3 := fun F' W (st : Sto W F' gs gp X5 L5 61) => Cut_not I5 (by decide) r5 3 (by decide) (find2b pg pg) W st
  have hL5 := fun F' W (st : Sto W F' gs gp X5 L5 61) => List_ok I5 (by decide) q5 W st
  obtain ⟨rt, Hrt⟩ : ∃ x, Hid ((s 2).root = x) := ⟨_, rfl⟩
  have Hrt1 : (s (List.length [((1 : Int), pg), (2, pg)])).root = rt := Hrt.out
  obtain ⟨S2, HS2⟩ : ∃ x, Hid (((s 2).X, (s 2).L) = x) := ⟨_, rfl⟩
  have HS21 : ((s (List.length [((1 : Int), pg), (2, pg)])).X, (s (List.length [((1 : Int), pg), (2, pg)])).L) = S2 := HS2.out
  have e41 : 1 + 20 * List.length [((1 : Int), pg), (2, pg)] = 41 := rfl
  simp only [Hrt1, HS21, e41] at hB
  simp only [Hrt.out] at hN3 hCut
  have hC := fun F' W (st : Sto W F' gs gp S2.1 S2.2 41) => hCut F' gs gp W (by rw [← HS2.out] at st; exact st)
  have hrr : (rt == rt) = true := by simp
  have hl1 : 0 < [((2 : Int), pg)].length := by simp
  clear sS sK k2 KS r5 q5 I5 hCut hways e2 hocc Hrt1 HS21 e41 s0 ln2 up2
  have hnB : ∀ q, w1.heap.size ≤ q → ¬ F q ∧ q ≠ gp := fun q hq => ⟨fun s => by have := st1.ft _ s; omega, by have := st1.ltp; omega⟩
  go_wp2_with (first
    | (with_reducible refine at_wpP ?_; refine at_ld 26 _ rfl ?_; have q := b3; go_must (first | refine wpList_ldPT rfl _ rfl g2 rfl gs b7 ?_ | refine wpList_ldPT rfl _ rfl g2 rfl gs b3 ?_))
    | (with_reducible refine at_wpP ?_; refine wpList_bldE rfl _ _ rfl _ _ rfl rfl ?_)
    | (with_reducible refine at_wpP ?_; refine wpList_mk2E rfl _ _ rfl (1, pg) (2, pg) rfl rfl ?_; intro g4 w4 o4 f4 s4 t4; have z4 := f4.size; have b4 := b3.fr0 f4)
    | (go_at_call 17; go_must (refine (hB _ _ (st3.fr0 f4) o4.sl (fun q hq => by have := (o4.newB q hq).1; exact hnB q (by omega))).mono ?_; rintro e w5 ⟨F5, rfl, T5⟩; have z5 := T5.fr.size; have b5 := b4.fr T5.fr (fun q => by
        rcases q with q | q
        · exact (hnB _ s2).1 q
        · exact (hnB _ s2).2 q); have c5 := pr_cell b5; have hF5 := T5.ft))
    | (with_reducible refine at_wpP ?_; refine at_ld 28 _ rfl ?_; have q := b5; go_must (first | refine wpList_ldP rfl _ rfl g2 rfl gs b6 ?_ | refine wpList_ldP rfl _ rfl g2 rfl gs b5 ?_))
    | (go_at_call 10; have q := T6; go_must (refine (hN3 _ _ T6.st).mono ?_; rintro e w7 ⟨rfl, f7⟩; have z7 := f7.size; have b7 := b6.fr0 f7; have c7 := pr_cell b7))
    | (go_at_call 10; go_must (refine (hC _ _ T5.st).mono ?_; rintro e w6 ⟨F6, rfl, T6⟩; have z6 := T6.fr.size; have b6 := b5.fr T6.fr (fun q => by
        rcases q with q | q
        · rcases (hF5 _ q).1 with q | q
          · exact (hnB _ s2).1 q
          · omega
        · exact (hnB _ s2).2 q); have c6 := pr_cell b6))
    | (go_at_call 12; go_must (refine (hL5 _ _ (T6.st.fr0 f7)).mono ?_; rintro e w8 ⟨u8, rfl, o8, f8⟩; obtain ⟨a8, c8, hu8⟩ := o8.opn; subst hu8; have z8 := f8.size))
    | (with_reducible refine at_wpP ?_; refine at_idx 31 _ _ rfl ?_; go_must (refine wpList_idxR rfl 31 _ _ rfl 40 Tryz.underlying31 2 en_size _ _ [(2, pg)] rfl o8.sl (by decide) _ _ 0 rfl rfl hl1 ?_; intro ba oa hba hca; have hk0 := show w8.cell? ⟨ba, oa, none⟩ = some (.int .i64 2) from hca 0 _ rfl)))
  go_ret
  exact ⟨rfl, ((((A3.fr0 f4).st T5).st T6).fr0 (f7.thenN f8)).fr⟩
theorem put1 (p : Int) : putL [] (7, p) = [(7, p)] := by simp [putL]
end Go.Proofs.YtmkinaijkgkgiaaGreat
