/- Texts VE, VG, VM, WC, VF, VH, TE, VR, TH2 of the proof of PruneDense, one behind the other. -/
import Derived.Test.YtmkinaijkgkgiaaBundlePruneDense1
import Derived.Test.YtmkinaijkgkgiaaBundlePruneDense2
import Derived.Test.YtmkinaijkgkgiaaBundlePruneDense3
import Derived.Test.YtmkinaijkgkgiaaBundlePruneDense4
import Derived.Test.YtmkinaijkgkgiaaBundlePruneDense5
import Derived.Test.YtmkinaijkgkgiaaBundlePruneDense6
import Derived.Test.YtmkinaijkgkgiaaBundlePruneDense7
import Derived.Test.YtmkinaijkgkgiaaBundlePruneDense8
import Derived.Test.YtmkinaijkgkgiaaBundlePruneDense9
import Derived.Test.YtmkinaijkgkgiaaBundlePruneDense10
import Derived.Test.YtmkinaijkgkgiaaBundlePruneDense11
import Derived.Test.YtmkinaijkgkgiaaBundlePruneDense12
import Derived.Test.YtmkinaijkgkgiaaBundlePruneDense13
import Derived.Test.YtmkinaijkgkgiaaBundlePruneDense14
import Derived.Test.YtmkinaijkgkgiaaBundlePruneDense15
import Derived.Test.YtmkinaijkgkgiaaBundlePruneDense16
import Derived.Test.YtmkinaijkgkgiaaBundlePruneDense17
import Derived.Test.YtmkinaijkgkgiaaBundlePruneDense18
import Derived.Test.YtmkinaijkgkgiaaBundlePruneDense19
import Derived.Test.YtmkinaijkgkgiaaBundlePruneDense20
import Derived.Test.YtmkinaijkgkgiaaBundlePruneDense21
import Derived.Test.YtmkinaijkgkgiaaBundlePruneDense22
import Derived.Test.YtmkinaijkgkgiaaBundlePruneDense23
import Derived.Test.YtmkinaijkgkgiaaBundlePruneDense24
import Derived.Test.YtmkinaijkgkgiaaBundlePruneDense25
import Derived.Test.YtmkinaijkgkgiaaBundlePruneDense26
import Derived.Test.YtmkinaijkgkgiaaBundlePruneDense27
import Derived.Test.YtmkinaijkgkgiaaBundlePruneDense28
/- A tree over a store with blocks, whatever its root's size: a key put, a key cut, each with the answers named ahead of the world; no condition. -/
namespace Go.Proofs.Ytmkinaijkgkgiaa
open Go.RowKit Go.Proofs.U
set_option linter.unusedSimpArgs false
set_option linter.unusedVariables false
theorem Inv.holdL {X : DSt} {L : List Pg} {R : List Int} (h : Inv X L R) {r : Int} (h0 : 0 ≤ r) (hc : 0 < cntL L r.toNat) (hl : cntL L r.toNat < 255) : ∃ L', plHold L r = (L', 0) ∧ Inv X L' (R ++ [r]) := by
  have hh : plHeld L r = true := (h.di.held r).2 ⟨h0, hc⟩
  have hlt := Exact.lt h.di.ex hc
  have hok := hold_ok h.di.ok r
  rcases hold_cases L r with ⟨e, _⟩ | ⟨_, e, _⟩ | ⟨_, _, e⟩
  · rw [hh] at e; cases e
  · unfold cntL at hl; rw [e] at hl; exact absurd hl (by decide)
  · refine ⟨_, e, ?_⟩
    rw [e] at hok
    have hcp := (cnt_pos r.toNat).1 hc
    have hpos : ∀ q, 0 < cntL (L.set r.toNat ⟨(plAt L r.toNat).c + 1, (plAt L r.toNat).s⟩) q → 0 < cntL L q := by
      intro q hq
      rw [cntL_set L _ _ hlt] at hq
      by_cases e : q = r.toNat
      · subst e; exact hc
      · rwa [updG_ne _ _ e] at hq
    obtain ⟨rk, hf⟩ := h.fl
    refine ⟨fun x hx => ?_, ⟨hok, ?_, fun i hi => ?_, fun q hq => h.di.rd q (hpos q hq)⟩, ⟨rk, hf.less hpos⟩⟩
    · rcases List.mem_append.1 hx with hx | hx
      · exact h.nn x hx
      · rw [List.mem_singleton.1 hx]; exact h0
    · rw [List.map_append]
      exact h.di.ex.hold hcp
    · rw [plAt_set _ _ _ _ hlt] at hi ⊢
      split
      · show 0 < (plAt L r.toNat).c + 1; omega
      · rename_i hne; rw [if_neg hne] at hi; exact h.di.nf i hi
theorem PlM.sw {X : DSt} {k : Nat} {L : List Pg} (hok : plOk L) (h : PlM k L) (old next : Int) : PlM k (swF X L old next).1 := by
  unfold swF
  split
  · split
    · exact h.hold next
    · exact (h.hold next).drop _ (hold_ok hok next) old
  · exact h.hold next
theorem swF_len (X : DSt) (L : List Pg) (old next : Int) : (swF X L old next).1.length = L.length := by
  unfold swF
  split
  · split
    · exact hold_len L next
    · rw [dropF_len, hold_len]
  · exact hold_len L next
/-- A root is swapped for one that was there before. -/
theorem swap_old {X : DSt} {L : List Pg} {R : List Int} {old next : Int} (h : Inv X L (R ++ [old])) (h0 : 0 ≤ next) (hl : 0 < cntL L next.toNat) (ho : ¬ old = -1) (hc : cntL L next.toNat < 255) :
    ∃ L', swF X L old next = (L', 0) ∧ Inv X L' (R ++ [next]) := by
  obtain ⟨L1, hh, hi⟩ := h.holdL h0 hl hc
  have hk : R.length < (R ++ [old] ++ [next]).length := by simp
  obtain ⟨d1, d2⟩ := hi.drop R.length hk
  have e1 : (R ++ [old] ++ [next])[R.length] = old := by simp
  have e2 : (R ++ [old] ++ [next]).take R.length ++ (R ++ [old] ++ [next]).drop (R.length + 1) = R ++ [next] := by
    rw [List.append_assoc]
    simp [List.take_append, List.drop_append]
  rw [e1] at d1 d2
  rw [e2] at d2
  unfold swF
  rw [hh]
  simp only [if_true, if_neg ho]
  exact ⟨(dropF X (muL L1 + 1) L1 old).1, by rw [← d1], d2⟩
/-- One tree over a store: B are the pages of blocks; d is what the tree counts at most. -/
structure KT (X : DSt) (L : List Pg) (B : List Int) (lv : Nat) (root : Int) (l : List (Int × Int)) (d k : Nat) : Prop where
  iv : Inv X L (rtsB B root)
  bl : ∀ b ∈ B, 0 ≤ b ∧ (rdN X b).1.k = 1 ∧ (rdN X b).1.es = []
  rt : (root = -1 ∧ l = []) ∨ (0 ≤ root ∧ lv ≤ 6 ∧ okT X lv root 0 64 ∧ lsT X lv root = l ∧ psiA lv (absT X lv root) ≤ d)
  pg : ∀ z ∈ l, z.2 ∈ B
  pm : PlM k L
theorem dfT_psi (X : DSt) (lv : Nat) (p : Int) : dfT X lv p ≤ psiA lv (absT X lv p) := by
  rw [← dfA_T]
  cases lv with
  | zero => exact Int.le_refl _
  | succ n =>
    show _ ≤ dfA (n + 1) (absT X (n + 1) p) + (if List.length (α := Int × Tr n) (absT X (n + 1) p) = 1 then 1 else 0)
    split <;> omega
theorem psi_more {X : DSt} {lv : Nat} {p : Int} (h : ¬ szX X p = 1) : psiA lv (absT X lv p) = dfT X lv p := by
  rw [← dfA_T]
  cases lv with
  | zero => rfl
  | succ n =>
    show dfA (n + 1) (absT X (n + 1) p) + (if List.length (α := Int × Tr n) (absT X (n + 1) p) = 1 then 1 else 0) = _
    have : List.length (α := Int × Tr n) (absT X (n + 1) p) = szX X p := len_abT X (n + 1) p
    rw [if_neg (by omega)]
    omega
theorem psi_le {X : DSt} {lv : Nat} {p : Int} : psiA lv (absT X lv p) ≤ dfT X lv p + 1 := by
  rw [← dfA_T]
  cases lv with
  | zero => show (0 : Int) ≤ 0 + 1; omega
  | succ n =>
    show dfA (n + 1) (absT X (n + 1) p) + (if List.length (α := Int × Tr n) (absT X (n + 1) p) = 1 then 1 else 0) ≤ _
    split <;> omega
theorem okT_len {X : DSt} {lv : Nat} {p : Int} (h : okT X lv p 0 64) : (lsT X lv p).length ≤ 64 := by
  have := KeysUp.len (lsT_up h) (a := 0) (b := 63) (by decide) (fun z hz => by have := lsT_rng h z hz; omega)
  omega
section
variable {X : DSt} {L : List Pg} {B : List Int} {lv : Nat} {root : Int} {l : List (Int × Int)} {d k : Nat}
theorem KT.up (o : KT X L B lv root l d k) : KeysUp l ∧ (∀ z ∈ l, 0 ≤ z.1 ∧ z.1 ≤ 63) ∧ l.length ≤ 64 := by
  rcases o.rt with ⟨_, rfl⟩ | ⟨_, _, t, e, _⟩
  · exact ⟨List.Pairwise.nil, by simp, by simp⟩
  · rw [← e]
    exact ⟨lsT_up t, fun z hz => by have := lsT_rng t z hz; omega, okT_len t⟩
theorem KT.ne (o : KT X L B lv root l d k) : (root = -1) ↔ l = [] := by
  rcases o.rt with ⟨h, rfl⟩ | ⟨h, _, t, e, _⟩
  · exact ⟨fun _ => rfl, fun _ => h⟩
  · refine ⟨fun q => by omega, fun q => ?_⟩
    have := lsT_len t
    rw [e, q] at this
    simp at this
theorem KT.live (o : KT X L B lv root l d k) (hr : ¬ root = -1) : 0 ≤ root ∧ 0 < cntT L [] root.toNat := o.iv.toT.root (by unfold rtsB; rw [if_neg hr]; simp)
theorem KT.rk (o : KT X L B lv root l d k) : RtOk X L [] lv root l := by
  rcases o.rt with ⟨h, e⟩ | ⟨h, hl, t, e, _⟩
  · exact Or.inl ⟨h, e⟩
  · exact Or.inr ⟨h, (o.live (by omega)).2, by omega, t, e⟩
theorem KT.fam (o : KT X L B lv root l d k) : FamK X (rtsB B root) B (oneTs [] lv root) := by
  refine ⟨o.bl, fun t ht => ?_, fun r hr => ?_⟩
  · rcases oneTs_mem ht with h | ⟨h, rfl⟩
    · cases h
    · rcases o.rt with ⟨q, _⟩ | ⟨h0, _, t, e, _⟩
      · exact absurd q h
      · exact ⟨h0, t, by show ∀ z ∈ lsT X lv root, z.2 ∈ B; rw [e]; exact o.pg⟩
  · unfold rtsB at hr
    unfold oneTs
    split at hr
    · exact Or.inl hr
    · rename_i h
      rw [if_neg h]
      rcases List.mem_append.1 hr with q | q
      · exact Or.inl q
      · simp at q; exact Or.inr ⟨(lv, root), by simp, by simp [q]⟩
/-- How many nodes there are. -/
def occK (X : DSt) (lv : Nat) (root : Int) : Nat := if root = -1 then 0 else (occT X lv root).length
theorem KT.occ (o : KT X L B lv root l d k) : 2 * occK X lv root ≤ l.length + d + 1 := by
  unfold occK
  rcases o.rt with ⟨q, _⟩ | ⟨h0, _, t, e, hp⟩
  · rw [if_pos q]; omega
  · rw [if_neg (by omega)]
    have h1 := occ_df t
    have h2 := dfT_psi X lv root
    have h3 : 1 ≤ szX X root := t.es.2.1
    rw [e] at h1
    omega
theorem KT.fp (o : KT X L B lv root l d k) : (famP X B (oneTs [] lv root)).length = B.length + occK X lv root := by
  unfold famP oneTs occK
  split <;> simp
theorem KT.free (o : KT X L B lv root l d k) : L.length ≤ plFree L + (k + (B.length + occK X lv root)) := by
  have := o.fam.used o.iv o.pm
  rwa [o.fp] at this
theorem KT.cnt (o : KT X L B lv root l d k) (q : Nat) : cntL L q ≤ B.length + 1 + (l.length + occK X lv root) := by
  have h := o.fam.cnt o.iv q
  have h1 : (rtsB B root).count (q : Int) ≤ B.length + 1 := by
    refine Nat.le_trans (List.count_le_length) ?_
    unfold rtsB; split <;> simp
  have h2 : ((oneTs [] lv root).map fun t => (lsT X t.1 t.2).length + (occT X t.1 t.2).length).sum ≤ l.length + occK X lv root := by
    unfold oneTs occK
    split
    · simp
    · rename_i hr
      rcases o.rt with ⟨q, _⟩ | ⟨_, _, _, e, _⟩
      · exact absurd q hr
      · simp [e]
  omega
end
/-- Behind a root that was swapped. -/
theorem KT.next {X X' : DSt} {L L' L2 : List Pg} {B : List Int} {lv lv' : Nat} {root p' : Int} {l l' : List (Int × Int)} {d d' k : Nat} (o : KT X L B lv root l d k) (hx : Ext X L X' L') (hr : rtsB B p' = B ++ (if p' = -1 then [] else [p'])) (iv : Inv X' L2 (rtsB B p')) (rt : (p' = -1 ∧ l' = []) ∨ (0 ≤ p' ∧ lv' ≤ 6 ∧ okT X' lv' p' 0 64 ∧ lsT X' lv' p' = l' ∧ psiA lv' (absT X' lv' p') ≤ d')) (pg : ∀ z ∈ l', z.2 ∈ B) (pm : PlM k L2) : KT X' L2 B lv' p' l' d' k := by
  refine ⟨iv, fun b hb => ?_, rt, pg, pm⟩
  obtain ⟨b0, bk, be⟩ := o.bl b hb
  have hb2 := o.iv.toT.root (rtsB_B (root := root) hb)
  have hk := (hx.kp b.toNat (o.iv.toT.live hb2.2).1).1
  rw [Int.toNat_of_nonneg b0] at hk
  rw [hk]
  exact ⟨b0, bk, be⟩
theorem KT.mid {X X' : DSt} {L L' : List Pg} {B : List Int} {lv : Nat} {root : Int} {l : List (Int × Int)} {d k : Nat} (o : KT X L B lv root l d k) (hx : Ext X L X' L') (T : List Nat) : RtOk X' L' T lv root l := by
  rcases o.rt with ⟨h, e⟩ | ⟨h, hl, t, e, _⟩
  · exact Or.inl ⟨h, e⟩
  · have hp := o.live (by omega)
    obtain ⟨a1, a2, _⟩ := okT.ext o.iv.toT hx t h hp.2
    have := (hx.kp root.toNat (o.iv.toT.live hp.2).1).2.2
    refine Or.inr ⟨h, ?_, by omega, a1, a2.trans e⟩
    have h2 := hp.2
    unfold cntT at h2 ⊢
    simp at h2
    omega
/-- What a put, or a cut, hands, and the swap behind it. -/
structure KStep (X : DSt) (L : List Pg) (B : List Int) (lv : Nat) (root : Int) (l : List (Int × Int)) (m k : Nat) (X' : DSt) (L' : List Pg) (p' : Int) (lv' : Nat) (L2 : List Pg) (l' : List (Int × Int)) (d' : Nat) : Prop where
  mid : ∃ T, InvT X' L' (rtsB B root) T ∧ RtOk X' L' T lv root l ∧ RtOk X' L' T lv' p' l'
  sw : SwapEx X' L' root p' L2
  kt : KT X' L2 B lv' p' l' d' k
  ln : L2.length = L.length
  up : Up X' L2.length (m + 20)
  kp : ∀ q : Nat, yng (plAt L q) = true → yng (plAt L2 q) = true ∧ rdN X' (q : Int) = rdN X (q : Int)
theorem swapEx_F {X : DSt} {L L2 : List Pg} {root next : Int} (hn : ¬ next = -1) (hs : swF X L root next = (L2, 0)) : SwapEx X L root next L2 := fun F gs gp m w hm h => Swap_F hn hm h hs
theorem rtsB_ne {B : List Int} {p : Int} (h : ¬ p = -1) : rtsB B p = B ++ [p] := by unfold rtsB; rw [if_neg h]
theorem PlM.toY {L : List Pg} (h : PlM 0 L) : PlY L := by
  intro i
  by_cases hi : i < L.length
  · have hy : yng (plAt L i) = false := by
      cases hq : yng (plAt L i) with
      | false => rfl
      | true =>
        have : 0 < L.countP yng := List.countP_pos_iff.2 ⟨L[i], by simp, by rw [← plAt_get L i hi]; exact hq⟩
        rw [h.yn] at this; omega
    unfold yng at hy
    rcases h.ok i with q | q | q | q
    · exact Or.inl q
    · rw [q] at hy; cases hy
    · rw [q] at hy; cases hy
    · exact Or.inr q
  · rw [plAt_out _ _ (by omega)]; exact Or.inr ⟨rfl, rfl⟩
theorem PlM.noY {X X' : DSt} {L L2 : List Pg} (h : PlM 0 L) : ∀ q : Nat, yng (plAt L q) = true → yng (plAt L2 q) = true ∧ rdN X' (q : Int) = rdN X (q : Int) := fun q hq => by
  exfalso
  unfold yng at hq
  rcases h.toY q with r | ⟨r, _⟩ <;> rw [r] at hq <;> cases hq
theorem yng_free {x : Pg} (h : yng x = true) : x.free = false := by
  unfold yng at h
  unfold Pg.free
  cases hs : (x.s == 0) with
  | false => simp
  | true =>
    have : x.s = 0 := by simpa using hs
    rw [this] at h
    cases h
theorem KT.put {X : DSt} {L : List Pg} {B : List Int} {lv : Nat} {root : Int} {l : List (Int × Int)} {d m : Nat} (o : KT X L B lv root l d 0) (hU : Up X L.length m) (hm : m ≤ 60000) (x : Int × Int) (hk : 0 ≤ x.1 ∧ x.1 ≤ 63) (hb : x.2 ∈ B) (hB : B.length ≤ 4) (hd : l.length + 2 * d ≤ 119) (hr : 16 + (B.length + occK X lv root) ≤ L.length) :
    ∃ X' L' p' lv' L2, PutEx X L root x m X' L' p' 0 ∧ 0 ≤ p' ∧ swF X' L' root p' = (L2, 0) ∧ KStep X L B lv root l m 0 X' L' p' lv' L2 (putL l x) d ∧
      ((root = -1 ∧ lv' = 0 ∧ esX X' p' = [x]) ∨ (¬ root = -1 ∧ putW lv (absT X lv root) x = ⟨lv', absT X' lv' p'⟩)) := by
  have hpgl := o.iv.toT.root (rtsB_B (root := root) hb)
  have hocc := o.occ
  have hlen := o.up.2.2
  have hfree := o.free
  have hcnt := fun q => o.cnt q
  have hy := o.pm.toY
  have hpg' : ∀ z ∈ putL l x, z.2 ∈ B := fun z hz => by
    rcases (mem_putL o.up.1).1 hz with rfl | ⟨q, _⟩
    · exact hb
    · exact o.pg z q
  rcases o.rt with ⟨h, e⟩ | ⟨h0, hl, t, e, hpsi⟩
  · subst h
    subst e
    obtain ⟨X', L', p', e, R, hup, P⟩ := Put_empty_ex (Q := fun _ => True) o.iv.toT (by omega) x hk hpgl hU
    obtain rfl := R.good (by omega) (fun q => by have := hcnt q; simp at this; unfold occK at this; simp at this; omega)
    obtain ⟨lv', hlv, iv, tt⟩ := R.ys rfl
    have hlv0 : lv' = 0 := by omega
    subst hlv0
    have p0 := R.p0 rfl
    have iv' : InvT X' L' B [p'.toNat] := by
      unfold rtsB at iv
      rw [if_pos rfl] at iv
      exact iv
    have hcc : cntL L' p'.toNat < 255 := by
      have := R.ct rfl p'.toNat
      have := hcnt p'.toNat
      unfold occK at this; simp at this
      omega
    obtain ⟨L2, sw, iv2, ln, yg⟩ := swap_first iv' p0 hcc
    have hp1 : ¬ p' = -1 := by omega
    refine ⟨X', L', p', 0, L2, P, p0, sw, ⟨⟨[p'.toNat], iv, o.mid R.ext _, Or.inr ⟨p0, iv.mem (by simp), by omega, tt.ok, tt.ls⟩⟩, swapEx_F hp1 sw, o.next R.ext (by rw [rtsB_ne hp1, if_neg hp1]) (by rw [rtsB_ne hp1]; exact iv2) (Or.inr ⟨p0, by omega, tt.ok, tt.ls, ?_⟩) hpg' (yg (R.ext.yg hy)).toM, ln.trans R.ext.ln, by rw [ln]; exact hup, o.pm.noY⟩, Or.inl ⟨rfl, rfl, tt.ls⟩⟩
    show (0 : Int) ≤ (d : Int)
    omega
  · have hr1 : ¬ root = -1 := by omega
    have hlv := o.live hr1
    obtain ⟨X', L', p', lv', Q, hup, P⟩ := put_ok o.iv.toT t h0 hlv.2 (by omega) (by omega) x hk hpgl hU (by omega) (fun q => by have := hcnt q; omega)
    have hp1 : ¬ p' = -1 := by have := Q.p0; omega
    have iv' := Q.iv
    rw [rtsB_ne hr1] at iv'
    have hcc : cntL L' p'.toNat < 255 := by
      have := Q.ct p'.toNat
      have := hcnt p'.toNat
      omega
    obtain ⟨L2, sw, iv2, ln, yg⟩ := swap_in iv' Q.p0 hr1 hcc
    have hdf := dfT_psi X lv root
    have hlow : lv' ≤ 6 := by
      rcases Q.hg with ⟨q, _⟩ | ⟨q, h6, _⟩
      · omega
      · have := full_low (n := 120) t h6 (by rw [e]; omega) (by omega)
        omega
    have hps : psiA lv' (absT X' lv' p') ≤ d := by
      have hq := Q.df
      rcases Q.hg with ⟨q, hs⟩ | ⟨_, _, h2⟩
      · by_cases hs1 : szX X root = 1
        · have h1 := psi_le (X := X') (lv := lv') (p := p')
          have h2 : psiA lv (absT X lv root) = dfT X lv root + 1 ∨ lv = 0 := by
            cases lv with
            | zero => exact Or.inr rfl
            | succ n =>
              left
              rw [← dfA_T]
              show dfA (n + 1) (absT X (n + 1) root) + (if List.length (α := Int × Tr n) (absT X (n + 1) root) = 1 then 1 else 0) = _
              have : List.length (α := Int × Tr n) (absT X (n + 1) root) = szX X root := len_abT X (n + 1) root
              rw [if_pos (by omega)]
          rcases h2 with h2 | h2
          · omega
          · subst q
            subst h2
            show (0 : Int) ≤ d
            omega
        · have hs1' : 1 ≤ szX X root := t.es.2.1
          have := psi_more (X := X') (lv := lv') (p := p') (by omega)
          omega
      · have := psi_more (X := X') (lv := lv') (p := p') (by omega)
        omega
    refine ⟨X', L', p', lv', L2, P, Q.p0, sw, ⟨⟨[p'.toNat], Q.iv, o.mid Q.ext _, Or.inr ⟨Q.p0, Q.iv.mem (by simp), by omega, Q.ok, by rw [Q.ls, e]⟩⟩, swapEx_F hp1 sw, o.next Q.ext (by rw [rtsB_ne hp1, if_neg hp1]) (by rw [rtsB_ne hp1]; exact iv2) (Or.inr ⟨Q.p0, hlow, Q.ok, by rw [Q.ls, e], hps⟩) hpg' (yg (Q.ext.yg hy)).toM, ln.trans Q.ext.ln, by rw [ln]; exact hup, o.pm.noY⟩, Or.inr ⟨hr1, Q.ab⟩⟩
/-- A key that is there is cut. -/
theorem KT.cut {X : DSt} {L : List Pg} {B : List Int} {lv : Nat} {root : Int} {l : List (Int × Int)} {d k m : Nat} (o : KT X L B lv root l d k) (hU : Up X L.length m) (hm : m ≤ 60000) (key : Int) (hk : 0 ≤ key ∧ key ≤ 63) (hn : ¬ findL l key = -1) (hB : B.length ≤ 4) (hd : l.length + d ≤ 130) (hr : 8 + (k + (B.length + occK X lv root)) ≤ L.length) :
    ∃ X' L' p' lv' L2, CutEx X L root key m X' L' p' ∧ KStep X L B lv root l m k X' L' p' lv' L2 (cutL l key) (d + 1) ∧
      ((p' = -1 ∧ cutW lv (absT X lv root) key = none) ∨ (¬ p' = -1 ∧ lv' ≤ lv ∧ cutW lv (absT X lv root) key = some ⟨lv', absT X' lv' p'⟩)) := by
  have hocc := o.occ
  have hlen := o.up.2.2
  have hfree := o.free
  have hcnt := fun q => o.cnt q
  have hkl : ∃ z ∈ l, z.1 = key := by
    by_cases q : ∃ z ∈ l, z.1 = key
    · exact q
    · exact absurd (findL_none fun z hz e => q ⟨z, hz, e⟩) hn
  have hr1 : ¬ root = -1 := fun q => by
    rw [o.ne] at q
    subst q
    obtain ⟨z, hz, _⟩ := hkl
    cases hz
  have hpg' : ∀ z ∈ cutL l key, z.2 ∈ B := fun z hz => o.pg z (mem_cutL.1 hz).1
  rcases o.rt with ⟨h, _⟩ | ⟨h0, hl, t, e, hpsi⟩
  · exact absurd h hr1
  have hlv := o.live hr1
  have hkt : ∃ z ∈ lsT X lv root, z.1 = key := by rw [e]; exact hkl
  have hf1 : lv + 1 ≤ plFree L := by omega
  have hc1 : ∀ q, cntL L q + (6 * lv + 6) ≤ 255 := fun q => by have := hcnt q; omega
  obtain ⟨X', L', p', ec, hup, R⟩ := cut_ok o.iv.toT key lv hU t h0 hlv.2 hkt hf1 hc1
  have hpm : PlM k L' := by
    have := PlM.cut (X := X) o.pm lv root key
    rw [ec] at this
    exact this
  have hpf : PlF (fun i => yng (plAt L i)) L' := by
    have := PlF.cut (X := X) o.pm.toF lv root key
    rw [ec] at this
    exact this
  have hkp : ∀ L2, PlF (fun i => yng (plAt L i)) L2 → ∀ q : Nat, yng (plAt L q) = true → yng (plAt L2 q) = true ∧ rdN X' (q : Int) = rdN X (q : Int) := fun L2 h2 q hq => ⟨by rw [h2.yn q]; exact hq, (R.ext.kp q (yng_free hq)).1⟩
  have hEx : CutEx X L root key m X' L' p' := fun F gs gp w h => by
    refine (Cut_yes o.iv.toT hm o.rk key hk hn w h (m1 := m + 20) fun W HW => ?_).mono fun _ _ q => q
    refine (cut_lv o.iv.toT hm key (F := F) (gs := gs) (gp := gp) lv W (by omega) t h0 hlv.2 hkt hf1 hc1 HW ec).mono ?_
    rintro r w' ⟨F', er, s⟩
    exact ⟨F', er, s.mono (by omega)⟩
  have hne := ne_T t
  have hpsi' : ∀ n (t' : Tr n), cutW lv (absT X lv root) key = some ⟨n, t'⟩ → psiA n t' ≤ (d + 1 : Nat) := fun n t' hq => by
    have := cutW_psi lv (absT X lv root) key n t' hne.1 hne.2 (by rw [len_abT]; exact t.es.2.1) hq
    omega
  have hcl : cutL (lsT X lv root) key = cutL l key := by rw [e]
  rcases R.ways with ⟨rfl, hc, iv, hw⟩ | ⟨p0, lv', hlv', ok', ls', hw, hiv⟩
  · have iv1 : Inv X' L' (B ++ [root]) := by
      have := iv
      rw [rtsB_ne hr1] at this
      exact this.toI
    have hkk : B.length < (B ++ [root]).length := by simp
    obtain ⟨d1, d2⟩ := iv1.drop B.length hkk
    have e1 : (B ++ [root])[B.length] = root := by simp
    have e2 : (B ++ [root]).take B.length ++ (B ++ [root]).drop (B.length + 1) = B := by simp
    rw [e1] at d1 d2
    rw [e2] at d2
    have hdl := dropF_len (X := X') (muL L' + 1) L' root
    have hpd := PlM.drop (X := X') (muL L' + 1) iv.ok hpm root
    refine ⟨X', L', -1, 0, (dropF X' (muL L' + 1) L' root).1, hEx, ⟨⟨[], iv, o.mid R.ext _, Or.inl ⟨rfl, hcl.symm.trans hc⟩⟩, fun F gs gp m w hm h => Swap_none root hr1 hm (Prod.ext rfl d1) w h, o.next R.ext (by simp [rtsB]) (by unfold rtsB; rw [if_pos rfl]; exact d2) (Or.inl ⟨rfl, hcl.symm.trans hc⟩) hpg' hpd, hdl.trans R.ext.ln, by rw [hdl]; exact hup.mono (by omega), hkp _ (PlF.drop (X := X') (muL L' + 1) iv.ok hpf root)⟩, Or.inl ⟨rfl, hw⟩⟩
  · have hp1 : ¬ p' = -1 := by omega
    have hcc : cntL L' p'.toNat < 255 := by
      have := R.ct p'.toNat
      have := hcnt p'.toNat
      omega
    have hkt' := fun (L2 : List Pg) (iv2 : Inv X' L2 (B ++ [p'])) (pm : PlM k L2) => o.next (L2 := L2) (lv' := lv') (l' := cutL l key) (d' := d + 1) R.ext (by rw [rtsB_ne hp1, if_neg hp1]) (by rw [rtsB_ne hp1]; exact iv2) (Or.inr ⟨p0, by omega, ok', ls'.trans hcl, hpsi' _ _ hw⟩) hpg' pm
    have hswm : PlM k (swF X' L' root p').1 := by
      rcases hiv with iv | ⟨iv, _⟩
      · exact PlM.sw iv.ok hpm root p'
      · exact PlM.sw iv.ok hpm root p'
    have hswf : PlF (fun i => yng (plAt L i)) (swF X' L' root p').1 := by
      rcases hiv with iv | ⟨iv, _⟩
      · exact PlF.sw iv.ok hpf root p'
      · exact PlF.sw iv.ok hpf root p'
    have hswl := swF_len X' L' root p'
    have main : ∃ L2, swF X' L' root p' = (L2, 0) ∧ Inv X' L2 (B ++ [p']) := by
      rcases hiv with iv | ⟨iv, hl2⟩
      · rw [rtsB_ne hr1] at iv
        obtain ⟨L2, sw, iv2, _⟩ := swap_in iv p0 hr1 hcc
        exact ⟨L2, sw, iv2⟩
      · rw [rtsB_ne hr1] at iv
        have : 0 < cntL L' p'.toNat := by unfold cntT at hl2; simpa using hl2
        exact swap_old iv.toI p0 this hr1 hcc
    obtain ⟨L2, sw, iv2⟩ := main
    rw [sw] at hswm hswl hswf
    refine ⟨X', L', p', lv', L2, hEx, ⟨?_, swapEx_F hp1 sw, hkt' L2 iv2 hswm, hswl.trans R.ext.ln, by rw [hswl]; exact hup.mono (by omega), hkp _ hswf⟩, Or.inr ⟨hp1, hlv', hw⟩⟩
    rcases hiv with iv | ⟨iv, _⟩
    · exact ⟨_, iv, o.mid R.ext _, Or.inr ⟨p0, iv.mem (by simp), by omega, ok', ls'.trans hcl⟩⟩
    · rename_i hl2
      exact ⟨_, iv, o.mid R.ext _, Or.inr ⟨p0, hl2, by omega, ok', ls'.trans hcl⟩⟩
end Go.Proofs.Ytmkinaijkgkgiaa
/- Build, with the answers named ahead of the world, for trees whose cuts follow; no condition. -/
namespace Go.Proofs.Ytmkinaijkgkgiaa
open Go.RowKit Go.Proofs.U
set_option linter.unusedSimpArgs false
set_option linter.unusedVariables false
/-- Put of None, or of a tree, without pages. -/
def stepW : Option ((n : Nat) × Tr n) → Int × Int → (n : Nat) × Tr n
  | none, x => ⟨0, [x]⟩
  | some s, x => putW s.1 s.2 x
def absB (s : BSt) : Option ((n : Nat) × Tr n) := if s.root = -1 then none else some ⟨s.lv, absT s.X s.lv s.root⟩
theorem putL_le : ∀ (l : List (Int × Int)) (x : Int × Int), (putL l x).length ≤ l.length + 1
  | [], x => by simp [putL]
  | y :: l, x => by
    unfold putL
    split
    · have := List.length_filter_le (fun z : Int × Int => !(z.1 == x.1)) (y :: l)
      simp only [List.length_cons] at *
      omega
    · have := putL_le l x
      simp only [List.length_cons]
      omega
theorem foldL_le (es : List (Int × Int)) : ∀ l : List (Int × Int), (es.foldl putL l).length ≤ l.length + es.length := by
  induction es with
  | nil => intro l; simp
  | cons x es ih =>
    intro l
    have := ih (putL l x)
    have := putL_le l x
    simp only [List.foldl_cons, List.length_cons]
    omega
theorem KT.step {s : BSt} {B : List Int} {l : List (Int × Int)} {d m : Nat} (o : KT s.X s.L B s.lv s.root l d 0) (hU : Up s.X s.L.length m) (hm : m ≤ 60000) (x : Int × Int) (hk : 0 ≤ x.1 ∧ x.1 ≤ 63) (hb : x.2 ∈ B) (hB : B.length ≤ 4) (hd : l.length + 2 * d ≤ 119) (hr : 16 + (B.length + occK s.X s.lv s.root) ≤ s.L.length) :
    ∃ s', BStep m x s s' ∧ KT s'.X s'.L B s'.lv s'.root (putL l x) d 0 ∧ s'.L.length = s.L.length ∧ Up s'.X s'.L.length (m + 20) ∧ absB s' = some (stepW (absB s) x) := by
  obtain ⟨X', L', p', lv', L2, P, p0, sw, K, ha⟩ := o.put hU hm x hk hb hB hd hr
  refine ⟨⟨X', L2, lv', p'⟩, ⟨⟨L', P, sw⟩, p0⟩, K.kt, K.ln, K.up, ?_⟩
  unfold absB
  have hp1 : ¬ p' = -1 := by omega
  simp only
  rw [if_neg hp1]
  rcases ha with ⟨h1, h2, h3⟩ | ⟨h1, h2⟩
  · rw [if_pos h1]
    subst h2
    show some (⟨0, esX X' p'⟩ : (n : Nat) × Tr n) = some ⟨0, [x]⟩
    rw [h3]
  · rw [if_neg h1]
    exact congrArg some h2.symm
/-- All of Build's states. -/
theorem KT.steps {s0 : BSt} {B : List Int} {m : Nat} (es : List (Int × Int)) (o : KT s0.X s0.L B s0.lv s0.root [] 0 0) (hm : m ≤ 10000) (he : es.length ≤ 100) (hes : ∀ x ∈ es, (0 ≤ x.1 ∧ x.1 ≤ 63) ∧ x.2 ∈ B) (hU : Up s0.X s0.L.length m) (hB : B.length ≤ 4) (hL : 17 + B.length + (es.length + 1) / 2 ≤ s0.L.length) :
    ∃ s : Nat → BSt, s 0 = s0 ∧ (∀ (k : Nat) (hk : k < es.length), BStep (m + 20 * k) es[k] (s k) (s (k + 1)) ∧ absB (s (k + 1)) = some (stepW (absB (s k)) es[k])) ∧ ∀ k, k ≤ es.length → KT (s k).X (s k).L B (s k).lv (s k).root ((es.take k).foldl putL []) 0 0 ∧ (s k).L.length = s0.L.length ∧ Up (s k).X (s k).L.length (m + 20 * k) := by
  have key : ∀ n, n ≤ es.length → ∃ s : Nat → BSt, s 0 = s0 ∧ (∀ (k : Nat) (hk : k < es.length), k < n → BStep (m + 20 * k) es[k] (s k) (s (k + 1)) ∧ absB (s (k + 1)) = some (stepW (absB (s k)) es[k])) ∧ ∀ k, k ≤ n → KT (s k).X (s k).L B (s k).lv (s k).root ((es.take k).foldl putL []) 0 0 ∧ (s k).L.length = s0.L.length ∧ Up (s k).X (s k).L.length (m + 20 * k) := by
    intro n
    induction n with
    | zero =>
      intro _
      refine ⟨fun _ => s0, rfl, fun k _ hk => absurd hk (by omega), fun k hk => ?_⟩
      obtain rfl : k = 0 := by omega
      exact ⟨o, rfl, hU⟩
    | succ n ih =>
      intro hn
      obtain ⟨s, h0, h1, h2⟩ := ih (by omega)
      obtain ⟨on, ln, un⟩ := h2 n (Nat.le_refl _)
      have hx := hes es[n] (List.getElem_mem _)
      have hfl := foldL_le (es.take n) []
      have hfl2 : ((es.take n).foldl putL []).length ≤ es.length := by
        rw [List.length_take] at hfl
        simp only [List.length_nil] at hfl
        omega
      have hocc := on.occ
      obtain ⟨s', b, o', l', u', a'⟩ := on.step un (by omega) es[n] hx.1 hx.2 hB (by omega) (by omega)
      refine ⟨fun k => if k = n + 1 then s' else s k, by simp [h0], fun k hk hkn => ?_, fun k hk => ?_⟩
      · by_cases e : k = n
        · subst e; simpa using ⟨b, a'⟩
        · have := h1 k hk (by omega)
          show BStep (m + 20 * k) es[k] (if k = n + 1 then s' else s k) (if k + 1 = n + 1 then s' else s (k + 1)) ∧ absB (if k + 1 = n + 1 then s' else s (k + 1)) = some (stepW (absB (if k = n + 1 then s' else s k)) es[k])
          rw [if_neg (by omega), if_neg (by omega)]
          exact this
      · by_cases e : k = n + 1
        · subst e
          simp only [if_pos]
          rw [List.take_succ_eq_append_getElem (by omega), List.foldl_append]
          exact ⟨o', l'.trans ln, by rw [show m + 20 * (n + 1) = m + 20 * n + 20 by omega]; exact u'⟩
        · have h3 := h2 k (by omega)
          simp only [if_neg e]
          exact h3
  obtain ⟨s, h0, h1, h2⟩ := key es.length (Nat.le_refl _)
  exact ⟨s, h0, fun k hk => h1 k hk hk, h2⟩
theorem Base1.kt {X : DSt} {L : List Pg} {pg : Int} {N : Nat} (b : Base1 X L pg N) : KT X L [pg] 0 (-1) [] 0 0 := by
  refine ⟨?_, fun x hx => ?_, Or.inl ⟨rfl, rfl⟩, by simp, b.yg.toM⟩
  · unfold rtsB; rw [if_pos rfl]; exact b.iv
  · simp at hx; subst hx
    exact ⟨b.p0, by rw [b.rd], by rw [b.rd]⟩
end Go.Proofs.Ytmkinaijkgkgiaa
/- Trim with its states named ahead of the world; no condition. -/
namespace Go.Proofs.Ytmkinaijkgkgiaa
open Go.RowKit Go.Proofs.U
set_option linter.unusedSimpArgs false
set_option linter.unusedVariables false
/-- One key of Trim. -/
def TStep (m : Nat) (key : Int) (s s' : BSt) : Prop :=
  (s' = s ∧ ∀ (F : Nat → Prop) (gs gp : Nat) (w : World), Sto w F gs gp s.X s.L m → Calls Try.prog 7 #[trV gs, .int .i64 s.root, .int .i64 key] w fun r w' => r = .returned (.tuple #[.int .i64 s.root, .bool false, .int .i64 0]) ∧ Fr noB w w')
  ∨ ∃ L1, CutEx s.X s.L s.root key m s'.X L1 s'.root ∧ SwapEx s'.X L1 s.root s'.root s'.L
/-- What Trim answers behind so many keys. -/
def trimR (n k : Nat) (root : Int) : Value := if n = k then .tuple #[.int .i64 root, .int .i64 0] else .tuple #[.int .i64 (-1), .int .i64 101]
set_option maxRecDepth 100000 in
set_option maxHeartbeats 8000000 in
theorem Trim_steps {F : Nat → Prop} {gs gp : Nat} {m : Nat} (s : Nat → BSt) (ks : List Int) (n : Nat) (hn : n ≤ ks.length) (h1 : ∀ (k : Nat) (hk : k < ks.length), k < n → TStep (m + 20 * k) ks[k] (s k) (s (k + 1))) (hb : ∀ hk : n < ks.length, ks[n] < 0 ∨ 63 < ks[n]) (hm : m ≤ 10000) (he : ks.length ≤ 100) (v : Value) (w : World) (h : Sto w F gs gp (s 0).X (s 0).L m) (hS : SlI .i64 w v ks) (hvF : 0 < ks.length → ∀ x, v.ownBlock = some x → ¬ F x ∧ x ≠ gp) :
    Calls Try.prog 9 #[trV gs, .int .i64 (s 0).root, v] w fun r w' => ∃ F', r = .returned (trimR n ks.length (s n).root) ∧ StT w w' F F' gs gp ((s n).X, (s n).L) (m + 20 * n) := by
  obtain ⟨a0, c0, hv0, hc0⟩ : ∃ a c, v = .slice a ks.length c ∧ ks.length ≤ c := ⟨_, _, hS.1.choose_spec.choose_spec.1, hS.1.choose_spec.choose_spec.2.1⟩
  subst hv0
  have hgp := h.ltp
  have hgs := h.lts
  have hFt := h.ft
  have h1' := show Hid _ from h1
  have hb' := show Hid _ from hb
  clear h1 hb
  go_enter Try.func9, Try.ntmps9
  go_wp2_with (first
    | (with_reducible refine at_wpP ?_; refine wpList_boxG rfl 26 _ rfl (trV gs) [ptr gs] rfl rfl ?_; intro g1 w1 hg1 b1 f1 s1; have l1 := b1.lt; have z1 := f1.size))
  have H1 := h.fr0 f1
  go_loopw [15, 1] (fun i r wr => ∃ (k : Nat) (Fk : Nat → Prop), k ≤ n ∧ i = .int .i64 (k : Int) ∧ r = .int .i64 (s k).root ∧ StT w1 wr F Fk gs gp ((s k).X, (s k).L) (m + 20 * k)) (fun i _ _ => ks.length - (intOf i).toNat)
  case atStart => exact ⟨0, F, Nat.zero_le _, rfl, rfl, StT.start H1⟩
  case round =>
    obtain ⟨j, Fk, hj, rfl, rfl, T⟩ := hrel
    have hnF : ∀ x, w.heap.size ≤ x → ¬ stB F gp x := fun x hx q => by
      rcases q with q | q
      · have := hFt _ q; omega
      · omega
    have bj := b1.fr T.fr (hnF _ s1)
    have cj := pr_cell bj
    have zj := T.fr.size
    have hFk := T.st.ft
    have hgk := T.st.ltp
    have hgsk := T.st.lts
    have hnFk : ¬ stB Fk gp g1 := fun q => by
      rcases q with q | q
      · rcases (T.ft _ q).1 with q | q
        · have := hFt _ q; omega
        · omega
      · omega
    by_cases hlt : j < ks.length
    · obtain ⟨x, Hx⟩ : ∃ x, Hid (ks[j] = x) := ⟨ks[j], (rfl : ks[j] = ks[j])⟩
      have hlt' : (j : Int) < (ks.length : Int) := by omega
      have hvj := ((hS.fr0 f1).fr T.fr (fun k hk q => by
          have := hvF (by omega) k hk
          rcases q with q | q
          · exact this.1 q
          · exact this.2 q)).1
      by_cases hjn : j < n
      · have st := h1'.out j hlt hjn
        rw [Hx.out] at st
        generalize hs : s j = sj at *
        generalize hs' : s (j + 1) = s' at *
        have hs := show Hid _ from hs
        have hs' := show Hid _ from hs'
        rcases st with ⟨rfl, hC⟩ | ⟨L1, hC, hSw⟩
        · skip
          go_wp2_with (first
            | (with_reducible refine at_wpP ?_; refine at_idx 37 _ _ rfl ?_; go_must (refine wpList_idx1 rfl 37 _ _ rfl 3 Try.underlying37 int_size1 (.slice a0 ks.length c0) _ _ rfl hvj .i64 (j : Int) j rfl rfl hlt ?_; intro pp u hu hcu; obtain rfl := getX hu hlt Hx.out))
            | (with_reducible refine at_wpP ?_; refine at_ld 26 _ rfl ?_; go_must (refine wpList_ldP rfl _ rfl g1 rfl gs bj ?_))
            | (go_at_call 7; go_must (refine (hC _ _ _ _ T.st).mono ?_; rintro e w5 ⟨rfl, f5⟩; have z5 := f5.size)))
          go_roundw
          case rel => exact ⟨j + 1, Fk, by omega, by go_num, by rw [hs'.out], by rw [hs'.out]; exact (T.fr0 f5).mono (by omega)⟩
          case measure => simp [intOf]; omega
        · skip
          go_wp2_with (first
            | (with_reducible refine at_wpP ?_; refine at_idx 37 _ _ rfl ?_; go_must (refine wpList_idx1 rfl 37 _ _ rfl 3 Try.underlying37 int_size1 (.slice a0 ks.length c0) _ _ rfl hvj .i64 (j : Int) j rfl rfl hlt ?_; intro pp u hu hcu; obtain rfl := getX hu hlt Hx.out))
            | (with_reducible refine at_wpP ?_; refine at_ld 26 _ rfl ?_; go_must (refine wpList_ldP rfl _ rfl g1 rfl gs bj ?_))
            | (go_at_call 7; go_must (refine (hC _ _ _ _ T.st).mono ?_; rintro e w5 ⟨F5, rfl, T5⟩; have z5 := T5.fr.size; have b5 := bj.fr T5.fr hnFk))
            | (with_reducible refine at_wpP ?_; refine at_ld 24 _ rfl ?_; go_must (refine wpList_ldPT rfl _ rfl g1 rfl gs b5 ?_))
            | (go_at_call 25; go_must (refine (hSw _ _ _ _ _ (by omega) T5.st).mono ?_; rintro e w6 ⟨rfl, s6, f6⟩; have z6 := f6.size)))
          go_roundw
          case rel => exact ⟨j + 1, F5, by omega, by go_num, by rw [hs'.out], by rw [hs'.out]; exact ((T.trans H1.ft T5).pool f6 s6).mono (by omega)⟩
          case measure => simp [intOf]; omega
      · obtain rfl : j = n := by omega
        have hbx := hb'.out hlt
        rw [Hx.out] at hbx
        have hr : Hid (trimR j ks.length (s j).root = .tuple #[.int .i64 (-1), .int .i64 101]) := by show _ = _; unfold trimR; rw [if_neg (by omega)]
        generalize hs : s j = sj at *
        have hs := show Hid _ from hs
        go_wp2_with (first
          | (with_reducible refine at_wpP ?_; refine at_idx 37 _ _ rfl ?_; go_must (refine wpList_idx1 rfl 37 _ _ rfl 3 Try.underlying37 int_size1 (.slice a0 ks.length c0) _ _ rfl hvj .i64 (j : Int) j rfl rfl hlt ?_; intro pp u hu hcu; obtain rfl := getX hu hlt Hx.out))
          | (with_reducible refine at_wpP ?_; refine at_ld 26 _ rfl ?_; go_must (refine wpList_ldP rfl _ rfl g1 rfl gs bj ?_))
          | (go_at_call 7; go_must (refine (Cut_bad _ x hbx _ T.st).mono ?_; rintro e w5 ⟨rfl, f5⟩; have z5 := f5.size)))
        go_ret2
        obtain rfl := hs.out
        exact ⟨Fk, by rw [hr.out]; rfl, (T.fr0 f5).pre f1⟩
    · obtain rfl : j = ks.length := by omega
      obtain rfl : ks.length = n := by omega
      have hr : Hid (trimR ks.length ks.length (s ks.length).root = .tuple #[.int .i64 (s ks.length).root, .int .i64 0]) := by show _ = _; unfold trimR; rw [if_pos rfl]
      go_wp2
      go_ret2
      exact ⟨Fk, by rw [hr.out]; rfl, T.pre f1⟩
end Go.Proofs.Ytmkinaijkgkgiaa
/- The full tree is dense; KT's nodes; plain; no condition. -/
namespace Go.Proofs.Ytmkinaijkgkgiaa
open Go.RowKit Go.Proofs.U
set_option linter.unusedSimpArgs false
set_option linter.unusedVariables false
def bldW (es : List (Int × Int)) : Option ((n : Nat) × Tr n) := es.foldl (fun a x => some (stepW a x)) none
def fullE (pg : Int) : List (Int × Int) := (List.range 64).map fun i : Nat => ((i : Int), pg)
def chkW : Option ((n : Nat) × Tr n) → Bool
  | some ⟨2, t⟩ => badL (szR (n := 1) t) == 0 && decide (gR t ≤ 6) && decide (2 ≤ lenTr 2 t)
  | _ => false
theorem full_chk (pg : Int) : chkW (bldW (fullE pg)) = true := by kernel_rfl
theorem chk_dns {n : Nat} {t : Tr n} (h : chkW (some ⟨n, t⟩) = true) : DnsW n t := by
  match n, t, h with
  | 2, t, h =>
    simp [chkW] at h
    exact ⟨h.1.1, h.1.2, h.2⟩
/-- The tree that there is, is dense. -/
def DnsS (s : BSt) : Prop := ∀ t, absB s = some t → DnsW t.1 t.2
theorem steps_abs {s : Nat → BSt} (es : List (Int × Int)) (h0 : (s 0).root = -1) (h : ∀ (k : Nat) (hk : k < es.length), absB (s (k + 1)) = some (stepW (absB (s k)) es[k])) : ∀ n, n ≤ es.length → absB (s n) = bldW (es.take n) := by
  intro n
  induction n with
  | zero =>
    intro _
    unfold absB
    rw [if_pos h0]
    rfl
  | succ n ih =>
    intro hn
    rw [h n (by omega), ih (by omega), List.take_succ_eq_append_getElem (by omega)]
    unfold bldW
    rw [List.foldl_append]
    rfl
theorem full_dns {s : BSt} {pg : Int} (h : absB s = bldW (fullE pg)) : DnsS s := by
  intro t ht
  have hc := full_chk pg
  rw [← h, ht] at hc
  obtain ⟨n, t⟩ := t
  exact chk_dns hc
/-- A key that is there is cut of a dense tree. -/
theorem KT.cutD {S : BSt} {B : List Int} {l : List (Int × Int)} {d k m : Nat} (o : KT S.X S.L B S.lv S.root l d k) (hD : DnsS S) (hU : Up S.X S.L.length m) (hm : m ≤ 60000) (key : Int) (hk : 0 ≤ key ∧ key ≤ 63) (hn : ¬ findL l key = -1) (hB : B.length ≤ 4) (hd : l.length + d ≤ 130) (hr : 8 + (k + (B.length + occK S.X S.lv S.root)) ≤ S.L.length) :
    ∃ (S' : BSt) (L' : List Pg), CutEx S.X S.L S.root key m S'.X L' S'.root ∧ SwapEx S'.X L' S.root S'.root S'.L ∧ KT S'.X S'.L B S'.lv S'.root (cutL l key) (d + 1) k ∧ S'.L.length = S.L.length ∧ Up S'.X S'.L.length (m + 20) ∧ DnsS S' := by
  obtain ⟨X', L', p', lv', L2, hC, K, hw⟩ := o.cut hU hm key hk hn hB hd hr
  refine ⟨⟨X', L2, lv', p'⟩, L', hC, K.sw, K.kt, K.ln, K.up, ?_⟩
  intro t ht
  unfold absB at ht
  simp only at ht
  rcases hw with ⟨h1, _⟩ | ⟨h1, hlv, hw⟩
  · rw [if_pos h1] at ht; cases ht
  · rw [if_neg h1] at ht
    cases ht
    have hr1 : ¬ S.root = -1 := fun q => by
      rw [o.ne] at q
      subst q
      exact hn rfl
    have hDS : DnsW S.lv (absT S.X S.lv S.root) := hD ⟨S.lv, absT S.X S.lv S.root⟩ (by unfold absB; rw [if_neg hr1])
    rcases o.rt with ⟨h, _⟩ | ⟨h0, _, t, _, _⟩
    · exact absurd h hr1
    obtain ⟨hne, hup⟩ := ne_T t
    by_cases h2 : S.lv ≤ 1
    · exact dns_low (by show lv' ≤ 1; omega) _
    · have hl2 : S.lv = 2 := by
        generalize S.lv = a at *
        match a, hDS, h2 with
        | 2, _, _ => rfl
        | 0, _, h2 => omega
        | 1, _, h2 => omega
        | _ + 3, hDS, _ => exact hDS.elim
      generalize absT S.X S.lv S.root = u at *
      generalize S.lv = a at *
      subst hl2
      exact dns_cut hDS hne hup hw
theorem KT.few {S : BSt} {B : List Int} {l : List (Int × Int)} {d k : Nat} (o : KT S.X S.L B S.lv S.root l d k) (hD : DnsS S) : occK S.X S.lv S.root ≤ l.length + l.length / 2 + 1 := by
  unfold occK
  rcases o.rt with ⟨h, _⟩ | ⟨h0, _, t, e, _⟩
  · rw [if_pos h]; omega
  · have hr1 : ¬ S.root = -1 := by omega
    rw [if_neg hr1]
    have hDS : DnsW S.lv (absT S.X S.lv S.root) := hD ⟨S.lv, absT S.X S.lv S.root⟩ (by unfold absB; rw [if_neg hr1])
    have h := dns_no S.lv _ hDS (ne_T t).1 (by rw [len_abT]; exact t.es.2.1)
    rw [← occ_no, ← ls_k, e] at h
    exact h
end Go.Proofs.Ytmkinaijkgkgiaa
/- Stage 11's laws: made; no condition. -/
namespace Go.Proofs.Ytmkinaijkgkgiaa
open Go.RowKit Go.Proofs.U
set_option linter.unusedSimpArgs false
set_option linter.unusedVariables false
theorem pr_zero : (Try.prog.info? 26).map (·.zero) = some (some (.agg #[.pointer none])) := by kernel_rfl
theorem built_pr (g : Nat) : Try.prog.built 26 [(0, trV g)] = some #[ptr g] := by
  have hp : (Try.prog.fieldsOf 26).toList.mapM (fun f => (Try.prog.info? f.type).map fun i => (f.offset, i.size)) = some [(0, 1)] := by kernel_rfl
  rw [built_struct _ _ pr_struct _ pr_zero _ hp]
  rfl
theorem results_pr3 {fn : Func} {q u v : Tmp} (h : fn.results = #[.cell q 26, .tmp u, .tmp v]) (tmps : Array Value) (w : World) (g gs : Nat) (hq : tmps.getD q undef = .pointer (some ⟨g, 0, none⟩)) (hB : BxV w g 26 [ptr gs]) :
    (results fn tmps).run Try.prog w = .ok (.tuple #[trV gs, tmps.getD u undef, tmps.getD v undef]) w := by
  have hr := run_loadVar_mid (P := Try.prog) w g 0 26 [ptr gs] _ (hB.range 0 _ rfl) pr_struct rfl pr_size
  have hc : (results fn tmps).run Try.prog w = ((asAddr (tmps.getD q undef)).run Try.prog w).andThen fun a w₁ => ((loadVar 26 a).run Try.prog w₁).andThen fun x w₂ => .ok (.tuple #[x, tmps.getD u undef, tmps.getD v undef]) w₂ := by
    simp only [results, h]
    simp [Sem.run_bind, Result.andThen]
  rw [hc, hq]
  simp only [asAddr, Sem.run_pure, Result.andThen_ok, hr]
theorem wpList_bldP {w : World} {ops : Array Oper} {rest : List Oper} {o : Oper} {a : Act} {Q : Exit → Act → World → Prop} (hgd : Region.wanted o (yielded ops a.tmps) = true) (y : Operand) (ho : o.op = .build 26 #[(0, y)]) (g : Nat) (hy : a.eval y = trV g)
    (h : wpList Try.prog ops Q rest (a.put o.dst (trV g)) w) : wpList Try.prog ops Q (o :: rest) a w := by
  refine wpList_wanted hgd fun K hK => ?_
  have hrun := run_build (P := Try.prog) w 26 #[(0, trV g)] _ (built_pr g)
  unfold Oper.wp
  simp [execOp, ho, hy, hrun, Result.andThen]
  exact hK _ _ h
theorem wpList_stP {w : World} {ops : Array Oper} {rest : List Oper} {o : Oper} {a : Act} {Q : Exit → Act → World → Prop} (hgd : o.guard = none) (y z : Operand) (ho : o.op = .store 26 y z) (g : Nat) (hy : a.eval y = .pointer (some ⟨g, 0, none⟩)) (gs : Nat) (hz : a.eval z = trV gs) (v0 : Value) (hB : BxV w g 26 [v0])
    (h : ∀ w', BxV w' g 26 [ptr gs] → Fr (onB1 g) w w' → wpList Try.prog ops Q rest (a.put o.dst undef) w') : wpList Try.prog ops Q (o :: rest) a w := by
  refine wpList_storeV hgd _ y z ho g 0 hy [ptr gs] hz _ [v0] hB pr_size (Nat.le_refl _) (by intro u hu; simp at hu; subst hu; rfl) ?_
  intro w' h1 h2
  rw [putAt_all [v0] [ptr gs] rfl] at h1
  exact h w' h1 h2
set_option maxRecDepth 100000 in
set_option maxHeartbeats 2000000 in
theorem made_P (n : Int) (hn : 5 ≤ n ∧ n ≤ 1000) (w : World) :
    Calls Try.prog 5 #[.int .i64 n] w fun r w' => ∃ gs gp F X L pg, r = .returned (.tuple #[trV gs, .int .i64 pg, .bool true]) ∧ Sto w' F gs gp X L 1 ∧ Above w w' F gs gp ∧ Base1 X L pg (plN (sizeN n)) := by
  obtain ⟨X', L1, p, L2, em, eh, hB1⟩ := base1 hn.1
  have hU := Up.new (n := n) (by omega)
  have hok := plNew_ok (sizeN n)
  rw [← plNew_len] at hU
  have hd := fun W => new_any n (by omega) W
  have hp := fun W => pnew_any (sizeN n) W
  have hz := fun W => nsize_any n W
  obtain ⟨D, HD⟩ : ∃ D, Hid (newD n = D) := ⟨_, rfl⟩
  obtain ⟨P, HP⟩ : ∃ P, Hid (plNew (sizeN n) = P) := ⟨_, rfl⟩
  obtain ⟨s, HS⟩ : ∃ s, Hid (sizeN n = s) := ⟨_, rfl⟩
  rw [HD.out] at hU hd em
  rw [HP.out] at hU hp hok em
  rw [HS.out] at hz hp hB1 ⊢
  obtain ⟨B9, HB9⟩ : ∃ B9, Hid (bk9 = B9) := ⟨_, rfl⟩
  have hb9 := show Hid _ from built_bk9
  have hl9 := show Hid _ from bk9_len
  have hby9 := bk9_byt
  rw [HB9.out] at hb9 hl9 hby9 em
  have hbn := show Hid _ from built_ndB 1 B9 hl9.out
  have em' := show Hid _ from em
  have eh' := show Hid _ from eh
  clear em eh
  go_enter Try.func5, Try.ntmps5
  go_upto_region 4 with (first
    | (with_reducible refine at_wpP ?_; refine wpList_allocG rfl 26 rfl (.agg #[.pointer none]) [.pointer none] pr_zero rfl ?_; intro g2 w0 hg2 b2 f0 s0; have l2 := b2.lt; have z0 := f0.size)
    | (go_at_call 15; go_must (refine (hd _).mono ?_; rintro e w1 ⟨gd, rfl, d1, f1⟩; have z1 := f1.size; have t1 := d1.tight))
    | (go_at_call 17; go_must (refine (hz _).mono ?_; rintro e w2 ⟨rfl, rfl⟩))
    | (go_at_call 16; go_must (refine (hp _).mono ?_; rintro e w3 ⟨gp, rfl, s3, b3, f3⟩; have z3 := f3.size; have l3 := b3.lt))
    | (go_at_call 14; go_must (refine (nnew_any gd gp _).mono ?_; rintro e w4 ⟨gs, rfl, s4, b4, f4⟩; have z4 := f4.size; have l4 := b4.lt)))
  have st : Sto w4 _ gs gp D P 0 := ⟨⟨gd, b4, (t1.fr0 f3).fr0 f4⟩, b3.fr0 f4, hok, hU, (by intro q; omega), (by intro q; omega), by omega, (by intro k hk; omega)⟩
  have F4 : Fr noB w w4 := ((f0.thenN f1).thenN f3).thenN f4
  have b2' := (((b2.fr0 f1).fr0 f3).fr0 f4)
  have hS4 : ∀ k, stB (fun k => w0.heap.size ≤ k ∧ k < w1.heap.size) gp k → w0.heap.size ≤ k ∧ ¬ k = g2 := fun k q => by
    rcases q with q | q
    · exact ⟨q.1, by omega⟩
    · exact ⟨by omega, by omega⟩
  go_wp2_with (first
    | (with_reducible refine at_wpP ?_; refine wpList_blkC rfl rfl B9 hb9.out ?_)
    | (with_reducible refine at_wpP ?_; refine wpList_bldN rfl _ rfl 1 B9 nilS [(0, .int .i64 1), (1, pgV B9)] rfl hbn.out ?_)
    | (go_at_call 18; go_must (refine (make_F (⟨1, B9, []⟩ : Nd) nilS st (by omega) ⟨⟨⟨by simp, Sl.nil _ 2⟩, by simp⟩, ⟨hl9.out, hby9⟩, by simp, rfl⟩ em'.out).mono ?_; rintro e w5 ⟨rfl, F5, st5, ft5, fr5⟩; have z5 := fr5.size; have b25 := b2'.fr fr5 (fun q => (hS4 _ q).2 rfl)))
    | (go_at_call 19; go_must (refine (hold_F p st5 eh'.out).mono ?_; rintro e w6 ⟨rfl, st6, f6⟩; have z6 := f6.size; have b26 := b25.ne f6 (by omega)))
    | (with_reducible refine at_wpP ?_; refine wpList_bldT rfl _ rfl gs rfl ?_)
    | (with_reducible refine at_wpP ?_; refine wpList_bldP rfl _ rfl gs rfl ?_)
    | (with_reducible refine at_wpP ?_; refine at_st 26 _ _ rfl ?_; go_must (refine wpList_stP rfl _ _ rfl g2 rfl gs rfl (.pointer none) b26 ?_; intro w7 b7 f7)))
  have hF5 : ∀ k, F5 k → w0.heap.size ≤ k ∧ ¬ k = g2 := fun k q => by
    rcases (ft5 k q).1 with q | q
    · exact ⟨q.1, by omega⟩
    · exact ⟨by omega, by omega⟩
  have st7 : Sto w7 F5 gs gp X' L2 1 := st6.fr f7 (fun k _ q h => by
    unfold onB1 at h
    subst h
    rcases q with q | q | q
    · exact (hF5 _ q).2 rfl
    · omega
    · omega)
  refine bodyPost_ret (results_pr3 Try.results5 _ w7 g2 gs rfl b7) rfl ⟨gs, gp, F5, X', L2, p, rfl, st7, ⟨fun k q => by have := (hF5 k q).1; omega, by omega, by omega, ?_⟩, hB1⟩
  exact ((F4.thenT fr5 (fun k hk q => by have := (hS4 k q).1; omega)).thenT f6 (fun k hk q => by unfold onB1 at q; omega)).thenT f7 (fun k hk q => by unfold onB1 at q; omega)
end Go.Proofs.Ytmkinaijkgkgiaa
/- Stage 11's laws: pruneAlive, PruneNames; no condition. -/
namespace Go.Proofs.Ytmkinaijkgkgiaa
open Go.RowKit Go.Proofs.U
set_option linter.unusedSimpArgs false
set_option linter.unusedVariables false
theorem run_mk2E (w : World) (x y : Int × Int) : (Instr.buildSlice 38 2 #[(0, enV x), (1, enV y)]).run Try.prog w = .ok (.slice (some ⟨w.heap.size, 0, none⟩) 2 2) (w.alloc (.cells #[.int .i64 x.1, .int .i64 x.2, .int .i64 y.1, .int .i64 y.2] 36)) := by kernel_rfl
theorem ownE_new2 (w : World) (x y : Int × Int) : EnO (w.alloc (.cells #[.int .i64 x.1, .int .i64 x.2, .int .i64 y.1, .int .i64 y.2] 36)) w.heap.size (.slice (some ⟨w.heap.size, 0, none⟩) 2 2) [x, y] :=
  ⟨by simp [pairC], by simp [pairC], .inr ⟨w.heap.size, 2, _, rfl, Nat.le_refl _, heap_alloc_new w _, Nat.le_refl _, by unfold maxLen; simp, by simp [pairC], by simp [pairC]⟩⟩
section
variable {w : World} {ops : Array Oper} {rest : List Oper} {o : Oper} {a : Act} {Q : Exit → Act → World → Prop}
theorem wpList_mk2E (hgd : Region.wanted o (yielded ops a.tmps) = true) (y z : Operand) (ho : o.op = .buildSlice 38 2 #[(0, y), (1, z)]) (x x' : Int × Int) (hy : a.eval y = enV x) (hz : a.eval z = enV x')
    (h : ∀ g w', EnO w' w.heap.size (.slice (some ⟨g, 0, none⟩) 2 2) [x, x'] → Fr noB w w' → w.heap.size ≤ g → g < w'.heap.size → wpList Try.prog ops Q rest (a.put o.dst (.slice (some ⟨g, 0, none⟩) 2 2)) w') : wpList Try.prog ops Q (o :: rest) a w := by
  refine wpList_wanted hgd fun K hK => ?_
  have hr := run_mk2E w x x'
  unfold Oper.wp
  simp [execOp, ho, hy, hz, hr, Result.andThen]
  exact hK _ _ (h w.heap.size _ (ownE_new2 w x x') ((Fr.refl _ _).alloc _) (Nat.le_refl _) (by simp))
end
theorem find2a (p q : Int) : findL [(1, p), (2, q)] 1 = p := by simp [findL]
theorem find2b (p q : Int) : findL [(1, p), (2, q)] 3 = -1 := by simp [findL]
theorem cut2 (p q : Int) : cutL [(1, p), (2, q)] 1 = [(2, q)] := by simp [cutL]
theorem put2 (p q : Int) : putL (putL [] (1, p)) (2, q) = [(1, p), (2, q)] := by simp [putL]
set_option maxRecDepth 100000 in
set_option maxHeartbeats 4000000 in
theorem palive_any (w : World) :
    Calls Try.prog 6 #[] w fun r w' => r = .returned (.bool true) ∧ Fr noB w w' := by
  have hN : plN (sizeN 30) = 26 := by decide
  have hM := fun W => made_P 30 (by decide) W
  rw [hN] at hM
  go_enter Try.func6, Try.ntmps6
  go_upto_region 2 with (first
    | (go_at_call 5; go_must (refine (hM _).mono ?_; rintro e w1 ⟨gs, gp, F, X, L, pg, rfl, st1, A1, B1⟩; have z1 := A1.fr.size))
    | (with_reducible refine at_wpP ?_; refine wpList_allocG rfl 26 rfl (.agg #[.pointer none]) [.pointer none] pr_zero rfl ?_; intro g2 w2 hg2 b2 f2 s2; have l2 := b2.lt; have z2 := f2.size)
    | (with_reducible refine at_wpP ?_; refine at_st 26 _ _ rfl ?_; go_must (refine wpList_stP rfl _ _ rfl g2 rfl gs rfl (.pointer none) b2 ?_; intro w3 b3 f3)))
  have F3 := Fr.ownX f2 s2 f3
  have z3 := F3.size
  have hg23 := b3.lt
  have st3 := st1.fr0 F3
  have A3 := A1.fr0 F3
  have c3 := pr_cell b3
  have hgp := st3.ltp
  have hgs := st3.lts
  have hFt := st3.ft
  have hln := B1.ln
  have hpg0 := B1.p0
  obtain ⟨s, s0, sS, sK⟩ := KT.steps (s0 := ⟨X, L, 0, -1⟩) [(1, pg), (2, pg)] B1.kt (m := 1) (by decide) (by simp) (by intro x hx; simp at hx; rcases hx with rfl | rfl <;> simp) st1.up (by simp) (by simp; omega)
  obtain ⟨k2, ln2, up2⟩ := sK 2 (by simp)
  have e2 : (([(1, pg), (2, pg)] : List (Int × Int)).take 2).foldl putL [] = [(1, pg), (2, pg)] := put2 pg pg
  rw [e2] at k2
  have hocc := k2.occ
  obtain ⟨X5, L5, p5, lv5, L6, hCut, KS, hways⟩ := k2.cut (m := 41) up2 (by decide) 1 (by decide) (by rw [find2a]; omega) (by simp) (by simp) (by
    have h1 : [pg].length = 1 := rfl
    have h2 : ([(1, pg), (2, pg)] : List (Int × Int)).length = 2 := rfl
    have h3 : (⟨X, L, 0, -1⟩ : BSt).L.length = L.length := rfl
    omega)
  obtain ⟨T5, I5, r5, q5⟩ := KS.mid
  rw [cut2] at q5
  have hB := fun W v (st : Sto W F gs gp (s 0).X (s 0).L 1) (hS : SlR enC 2 W v [(1, pg), (2, pg)]) (hv : ∀ x, v.ownBlock = some x → ¬ F x ∧ x ≠ gp) => Build_steps s _ (by rw [s0]) (fun k hk => (sS k hk).1) (by decide) (by simp) v W st hS hv
  rw [s0] at hB
  have hN3 := fun F' W (st : Sto W F' gs gp X5 L5 61) => Cut_not I5 (by decide) r5 3 (by decide) (find2b pg pg) W st
  have hL5 := fun F' W (st : Sto W F' gs gp X5 L5 61) => List_ok I5 (by decide) q5 W st
  obtain ⟨rt, Hrt⟩ : ∃ x, Hid ((s 2).root = x) := ⟨_, rfl⟩
  have Hrt1 : (s (List.length [((1 : Int), pg), (2, pg)])).root = rt := Hrt.out
  obtain ⟨S2, HS2⟩ : ∃ x, Hid (((s 2).X, (s 2).L) = x) := ⟨_, rfl⟩
  have HS21 : ((s (List.length [((1 : Int), pg), (2, pg)])).X, (s (List.length [((1 : Int), pg), (2, pg)])).L) = S2 := HS2.out
  have e41 : 1 + 20 * List.length [((1 : Int), pg), (2, pg)] = 41 := rfl
  simp only [Hrt1, HS21, e41] at hB
  simp only [Hrt.out] at hN3 hCut
  have hC := fun F' W (st : Sto W F' gs gp S2.1 S2.2 41) => hCut F' gs gp W (by rw [← HS2.out] at st; exact st)
  have hrr : (rt == rt) = true := by simp
  have hl1 : 0 < [((2 : Int), pg)].length := by simp
  clear sS sK k2 KS r5 q5 I5 hCut hways e2 hocc Hrt1 HS21 e41 s0 ln2 up2
  have hnB : ∀ q, w1.heap.size ≤ q → ¬ F q ∧ q ≠ gp := fun q hq => ⟨fun s => by have := st1.ft _ s; omega, by have := st1.ltp; omega⟩
  go_wp2_with (first
    | (with_reducible refine at_wpP ?_; refine at_ld 24 _ rfl ?_; have q := b3; go_must (first | refine wpList_ldPT rfl _ rfl g2 rfl gs b7 ?_ | refine wpList_ldPT rfl _ rfl g2 rfl gs b3 ?_))
    | (with_reducible refine at_wpP ?_; refine wpList_bldE rfl _ _ rfl _ _ rfl rfl ?_)
    | (with_reducible refine at_wpP ?_; refine wpList_mk2E rfl _ _ rfl (1, pg) (2, pg) rfl rfl ?_; intro g4 w4 o4 f4 s4 t4; have z4 := f4.size; have b4 := b3.fr0 f4)
    | (go_at_call 8; go_must (refine (hB _ _ (st3.fr0 f4) o4.sl (fun q hq => by have := (o4.newB q hq).1; exact hnB q (by omega))).mono ?_; rintro e w5 ⟨F5, rfl, T5⟩; have z5 := T5.fr.size; have b5 := b4.fr T5.fr (fun q => by
        rcases q with q | q
        · exact (hnB _ s2).1 q
        · exact (hnB _ s2).2 q); have c5 := pr_cell b5; have hF5 := T5.ft))
    | (with_reducible refine at_wpP ?_; refine at_ld 26 _ rfl ?_; have q := b5; go_must (first | refine wpList_ldP rfl _ rfl g2 rfl gs b6 ?_ | refine wpList_ldP rfl _ rfl g2 rfl gs b5 ?_))
    | (go_at_call 7; have q := T6; go_must (refine (hN3 _ _ T6.st).mono ?_; rintro e w7 ⟨rfl, f7⟩; have z7 := f7.size; have b7 := b6.fr0 f7; have c7 := pr_cell b7))
    | (go_at_call 7; go_must (refine (hC _ _ T5.st).mono ?_; rintro e w6 ⟨F6, rfl, T6⟩; have z6 := T6.fr.size; have b6 := b5.fr T6.fr (fun q => by
        rcases q with q | q
        · rcases (hF5 _ q).1 with q | q
          · exact (hnB _ s2).1 q
          · omega
        · exact (hnB _ s2).2 q); have c6 := pr_cell b6))
    | (go_at_call 10; go_must (refine (hL5 _ _ (T6.st.fr0 f7)).mono ?_; rintro e w8 ⟨u8, rfl, o8, f8⟩; obtain ⟨a8, c8, hu8⟩ := o8.opn; subst hu8; have z8 := f8.size))
    | (with_reducible refine at_wpP ?_; refine at_idx 38 _ _ rfl ?_; go_must (refine wpList_idxR rfl 38 _ _ rfl 36 Try.underlying38 2 en_size _ _ [(2, pg)] rfl o8.sl (by decide) _ _ 0 rfl rfl hl1 ?_; intro ba oa hba hca; have hk0 := show w8.cell? ⟨ba, oa, none⟩ = some (.int .i64 2) from hca 0 _ rfl)))
  go_ret
  exact ⟨rfl, ((((A3.fr0 f4).st T5).st T6).fr0 (f7.thenN f8)).fr⟩
theorem put1 (p : Int) : putL [] (7, p) = [(7, p)] := by simp [putL]
end Go.Proofs.Ytmkinaijkgkgiaa
/- A mark, and what is undone, plain; no condition. -/
namespace Go.Proofs.Ytmkinaijkgkgiaa
open Go.RowKit Go.Proofs.U
set_option linter.unusedSimpArgs false
set_option linter.unusedVariables false
theorem OneT.mark {X : DSt} {L : List Pg} {B : List Int} {O : List (Nat × Int)} {lv : Nat} {root : Int} {l : List (Int × Int)} (o : OneT X L B O lv root l) : OneT X (plMark L) B O lv root l := by
  refine ⟨o.iv.mark, o.ot, o.bl, ?_, o.pg, o.ne, o.nn⟩
  have h := o.rt
  unfold RtAt at h ⊢
  rw [cntT_nil, cntL_mark]
  rwa [cntT_nil] at h
theorem TreeAt.ext {X X' : DSt} {L L' : List Pg} {R : List Int} {T : List Nat} (h : InvT X L R T) (hx : Ext X L X' L') {lv : Nat} {p : Int} {l : List (Int × Int)} (t : TreeAt X Q2 lv p l) (h0 : 0 ≤ p) (hp : 0 < cntT L T p.toNat) : TreeAt X' Q2 lv p l := by
  obtain ⟨a1, a2, a3⟩ := okT.ext h hx t.ok h0 hp
  have hf := fitT.ext h hx t.ok h0 hp t.ft
  refine ⟨a1, a2.trans t.ls, ?_, hf⟩
  rcases t.rt with q | q
  · exact Or.inl q
  · refine Or.inr ?_
    have e := (hx.kp p.toNat (h.live hp).1).1
    rw [Int.toNat_of_nonneg h0] at e
    unfold szX esX at q ⊢
    rw [e]
    exact q
end Go.Proofs.Ytmkinaijkgkgiaa
/- Keys trimmed behind a mark, and what is undone, plain; no condition. -/
namespace Go.Proofs.Ytmkinaijkgkgiaa
open Go.RowKit Go.Proofs.U
set_option linter.unusedSimpArgs false
set_option linter.unusedVariables false
theorem KT.mark {X : DSt} {L : List Pg} {B : List Int} {lv : Nat} {root : Int} {l : List (Int × Int)} {d : Nat} (o : KT X L B lv root l d 0) : KT X (plMark L) B lv root l d ((plMark L).countP yng) := by
  refine ⟨o.iv.mark, o.bl, o.rt, o.pg, fun i => ?_, rfl⟩
  have hm : (plAt (plMark L) i) = markP (plAt L i) := by unfold plMark; rw [plAt_map _ _ mark0]
  rw [hm]
  rcases o.pm.toY i with q | q
  · exact Or.inr (Or.inl (by unfold markP; rw [if_pos q]))
  · exact Or.inr (Or.inr (Or.inr (by unfold markP; rw [if_neg (by omega)]; exact q)))
end Go.Proofs.Ytmkinaijkgkgiaa
/- Pages of blocks, and whether just so many pages are used as are reached; no condition. (Written by th2_gen.py.) -/
namespace Go.Proofs.Ytmkinaijkgkgiaa
open Go.RowKit Go.Proofs.U
set_option linter.unusedSimpArgs false
set_option linter.unusedVariables false
theorem one_int {w : World} {g : Nat} {x : Int} (b : BxV w g 3 (en64 x)) (hx : (Lit.int .i64 x).wf = true) : SlI .i64 w (.slice (some ⟨g, 0, none⟩) 1 1) [x] := by
  refine ⟨⟨_, _, rfl, Nat.le_refl _, rfl, (fun h => by cases h), fun z hz => ?_⟩, fun y hy => by rw [List.mem_singleton.1 hy]; exact hx⟩
  cases hz
  intro j u hj
  rw [Addr.plain, Nat.zero_add]
  exact (b.cell j u hj).1
end Go.Proofs.Ytmkinaijkgkgiaa
