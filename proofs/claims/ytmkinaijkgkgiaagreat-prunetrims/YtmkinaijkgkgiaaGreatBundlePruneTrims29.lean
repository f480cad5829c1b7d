/- Texts VE, VG, VM, JW of the proof of PruneTrims, one behind the other. -/
import Derived.Test.YtmkinaijkgkgiaaGreatBundlePruneTrims1
import Derived.Test.YtmkinaijkgkgiaaGreatBundlePruneTrims2
import Derived.Test.YtmkinaijkgkgiaaGreatBundlePruneTrims3
import Derived.Test.YtmkinaijkgkgiaaGreatBundlePruneTrims4
import Derived.Test.YtmkinaijkgkgiaaGreatBundlePruneTrims5
import Derived.Test.YtmkinaijkgkgiaaGreatBundlePruneTrims6
import Derived.Test.YtmkinaijkgkgiaaGreatBundlePruneTrims7
import Derived.Test.YtmkinaijkgkgiaaGreatBundlePruneTrims8
import Derived.Test.YtmkinaijkgkgiaaGreatBundlePruneTrims9
import Derived.Test.YtmkinaijkgkgiaaGreatBundlePruneTrims10
import Derived.Test.YtmkinaijkgkgiaaGreatBundlePruneTrims11
import Derived.Test.YtmkinaijkgkgiaaGreatBundlePruneTrims12
import Derived.Test.YtmkinaijkgkgiaaGreatBundlePruneTrims13
import Derived.Test.YtmkinaijkgkgiaaGreatBundlePruneTrims14
import Derived.Test.YtmkinaijkgkgiaaGreatBundlePruneTrims15
import Derived.Test.YtmkinaijkgkgiaaGreatBundlePruneTrims16
import Derived.Test.YtmkinaijkgkgiaaGreatBundlePruneTrims17
import Derived.Test.YtmkinaijkgkgiaaGreatBundlePruneTrims18
import Derived.Test.YtmkinaijkgkgiaaGreatBundlePruneTrims19
import Derived.Test.YtmkinaijkgkgiaaGreatBundlePruneTrims20
import Derived.Test.YtmkinaijkgkgiaaGreatBundlePruneTrims21
import Derived.Test.YtmkinaijkgkgiaaGreatBundlePruneTrims22
import Derived.Test.YtmkinaijkgkgiaaGreatBundlePruneTrims23
import Derived.Test.YtmkinaijkgkgiaaGreatBundlePruneTrims24
import Derived.Test.YtmkinaijkgkgiaaGreatBundlePruneTrims25
import Derived.Test.YtmkinaijkgkgiaaGreatBundlePruneTrims26
import Derived.Test.YtmkinaijkgkgiaaGreatBundlePruneTrims27
import Derived.Test.YtmkinaijkgkgiaaGreatBundlePruneTrims28
/- A tree over a store with blocks, whatever its root's size: a key put, a key cut, each with the answers named ahead of the world; no condition. -/
namespace Go.Proofs.YtmkinaijkgkgiaaGreat
open Go.RowKit Go.Proofs.U
set_option linter.unusedSimpArgs false
set_option linter.unusedVariables false
theorem Inv.holdL {X : DSt} {L : List Pg} {R : List Int} (h : Inv X L R) {r : Int} (h0 : 0 ≤ r) (hc : 0 < cntL L r.toNat) (hl : cntL L r.toNat < 255) : ∃ L', plHold L r = (L', 0) ∧ Inv X L' (R ++ [r]) := by
  have hh : plHeld L r = true := (h.di.held r).2 ⟨h0, hc⟩
  have hlt := Exact.lt h.di.ex hc
  have hok := hold_ok h.di.ok r
  rcases hold_cases L r with ⟨e, _⟩ | ⟨_, e, _⟩ | ⟨_, _, e⟩
  · rw [hh] at e; cases e
  · unfold cntL at hl; rw [e] at hl; exact absurd hl (by decide)
  · refine ⟨_, e, ?_⟩
    rw [e] at hok
    have hcp := (cnt_pos r.toNat).1 hc
    have hpos : ∀ q, 0 < cntL (L.set r.toNat ⟨(plAt L r.toNat).c + 1, (plAt L r.toNat).s⟩) q → 0 < cntL L q := by
      intro q hq
      rw [cntL_set L _ _ hlt] at hq
      by_cases e : q = r.toNat
      · subst e; exact hc
      · rwa [updG_ne _ _ e] at hq
    obtain ⟨rk, hf⟩ := h.fl
    refine ⟨fun x hx => ?_, ⟨hok, ?_, fun i hi => ?_, fun q hq => h.di.rd q (hpos q hq)⟩, ⟨rk, hf.less hpos⟩⟩
    · rcases List.mem_append.1 hx with hx | hx
      · exact h.nn x hx
      · rw [List.mem_singleton.1 hx]; exact h0
    · rw [List.map_append]
      exact h.di.ex.hold hcp
    · rw [plAt_set _ _ _ _ hlt] at hi ⊢
      split
      · show 0 < (plAt L r.toNat).c + 1; omega
      · rename_i hne; rw [if_neg hne] at hi; exact h.di.nf i hi
theorem PlM.sw {X : DSt} {k : Nat} {L : List Pg} (hok : plOk L) (h : PlM k L) (old next : Int) : PlM k (swF X L old next).1 := by
  unfold swF
  split
  · split
    · exact h.hold next
    · exact (h.hold next).drop _ (hold_ok hok next) old
  · exact h.hold next
theorem swF_len (X : DSt) (L : List Pg) (old next : Int) : (swF X L old next).1.length = L.length := by
  unfold swF
  split
  · split
    · exact hold_len L next
    · rw [dropF_len, hold_len]
  · exact hold_len L next
/-- A root is swapped for one that was there before. -/
theorem swap_old {X : DSt} {L : List Pg} {R : List Int} {old next : Int} (h : Inv X L (R ++ [old])) (h0 : 0 ≤ next) (hl : 0 < cntL L next.toNat) (ho : ¬ old = -1) (hc : cntL L next.toNat < 255) :
    ∃ L', swF X L old next = (L', 0) ∧ Inv X L' (R ++ [next]) := by
  obtain ⟨L1, hh, hi⟩ := h.holdL h0 hl hc
  have hk : R.length < (R ++ [old] ++ [next]).length := by simp
  obtain ⟨d1, d2⟩ := hi.drop R.length hk
  have e1 : (R ++ [old] ++ [next])[R.length] = old := by simp
  have e2 : (R ++ [old] ++ [next]).take R.length ++ (R ++ [old] ++ [next]).drop (R.length + 1) = R ++ [next] := by
    rw [List.append_assoc]
    simp [List.take_append, List.drop_append]
  rw [e1] at d1 d2
  rw [e2] at d2
  unfold swF
  rw [hh]
  simp only [if_true, if_neg ho]
  exact ⟨(dropF X (muL L1 + 1) L1 old).1, by rw [← d1], d2⟩
/-- One tree over a store: B are the pages of blocks; d is what the tree counts at most. -/
structure KT (X : DSt) (L : List Pg) (B : List Int) (lv : Nat) (root : Int) (l : List (Int × Int)) (d k : Nat) : Prop where
  iv : Inv X L (rtsB B root)
  bl : ∀ b ∈ B, 0 ≤ b ∧ (rdN X b).1.k = 1 ∧ (rdN X b).1.es = []
  rt : (root = -1 ∧ l = []) ∨ (0 ≤ root ∧ lv ≤ 6 ∧ okT X lv root 0 64 ∧ lsT X lv root = l ∧ psiA lv (absT X lv root) ≤ d)
  pg : ∀ z ∈ l, z.2 ∈ B
  pm : PlM k L
theorem dfT_psi (X : DSt) (lv : Nat) (p : Int) : dfT X lv p ≤ psiA lv (absT X lv p) := by
  rw [← dfA_T]
  cases lv with
  | zero => exact Int.le_refl _
  | succ n =>
    show _ ≤ dfA (n + 1) (absT X (n + 1) p) + (if List.length (α := Int × Tr n) (absT X (n + 1) p) = 1 then 1 else 0)
    split <;> omega
theorem psi_more {X : DSt} {lv : Nat} {p : Int} (h : ¬ szX X p = 1) : psiA lv (absT X lv p) = dfT X lv p := by
  rw [← dfA_T]
  cases lv with
  | zero => rfl
  | succ n =>
    show dfA (n + 1) (absT X (n + 1) p) + (if List.length (α := Int × Tr n) (absT X (n + 1) p) = 1 then 1 else 0) = _
    have : List.length (α := Int × Tr n) (absT X (n + 1) p) = szX X p := len_abT X (n + 1) p
    rw [if_neg (by omega)]
    omega
theorem psi_le {X : DSt} {lv : Nat} {p : Int} : psiA lv (absT X lv p) ≤ dfT X lv p + 1 := by
  rw [← dfA_T]
  cases lv with
  | zero => show (0 : Int) ≤ 0 + 1; omega
  | succ n =>
    show dfA (n + 1) (absT X (n + 1) p) + (if List.length (α := Int × Tr n) (absT X (n + 1) p) = 1 then 1 else 0) ≤ _
    split <;> omega
theorem okT_len {X : DSt} {lv : Nat} {p : Int} (h : okT X lv p 0 64) : (lsT X lv p).length ≤ 64 := by
  have := KeysUp.len (lsT_up h) (a := 0) (b := 63) (by decide) (fun z hz => by have := lsT_rng h z hz; omega)
  omega
section
variable {X : DSt} {L : List Pg} {B : List Int} {lv : Nat} {root : Int} {l : List (Int × Int)} {d k : Nat}
theorem KT.up (o : KT X L B lv root l d k) : KeysUp l ∧ (∀ z ∈ l, 0 ≤ z.1 ∧ z.1 ≤ 63) ∧ l.length ≤ 64 := by
  rcases o.rt with ⟨_, rfl⟩ | ⟨_, _, t, e, _⟩
  · exact ⟨List.Pairwise.nil, by simp, by simp⟩
  · rw [← e]
    exact ⟨lsT_up t, fun z hz => by have := lsT_rng t z hz; omega, okT_len t⟩
theorem KT.ne (o : KT X L B lv root l d k) : (root = -1) ↔ l = [] := by
  rcases o.rt with ⟨h, rfl⟩ | ⟨h, _, t, e, _⟩
  · exact ⟨fun _ => rfl, fun _ => h⟩
  · refine ⟨fun q => by omega, fun q => ?_⟩
    have := lsT_len t
    rw [e, q] at this
    simp at this
theorem KT.live (o : KT X L B lv root l d k) (hr : ¬ root = -1) : 0 ≤ root ∧ 0 < cntT L [] root.toNat := o.iv.toT.root (by unfold rtsB; rw [if_neg hr]; simp)
theorem KT.rk (o : KT X L B lv root l d k) : RtOk X L [] lv root l := by
  rcases o.rt with ⟨h, e⟩ | ⟨h, hl, t, e, _⟩
  · exact Or.inl ⟨h, e⟩
  · exact Or.inr ⟨h, (o.live (by omega)).2, by omega, t, e⟩
theorem KT.fam (o : KT X L B lv root l d k) : FamK X (rtsB B root) B (oneTs [] lv root) := by
  refine ⟨o.bl, fun t ht => ?_, fun r hr => ?_⟩
  · rcases oneTs_mem ht with h | ⟨h, rfl⟩
    · cases h
    · rcases o.rt with ⟨q, _⟩ | ⟨h0, _, t, e, _⟩
      · exact absurd q h
      · exact ⟨h0, t, by show ∀ z ∈ lsT X lv root, z.2 ∈ B; rw [e]; exact o.pg⟩
  · unfold rtsB at hr
    unfold oneTs
    split at hr
    · exact Or.inl hr
    · rename_i h
      rw [if_neg h]
      rcases List.mem_append.1 hr with q | q
      · exact Or.inl q
      · simp at q; exact Or.inr ⟨(lv, root), by simp, by simp [q]⟩
/-- How many nodes there are. -/
def occK (X : DSt) (lv : Nat) (root : Int) : Nat := if root = -1 then 0 else (occT X lv root).length
theorem KT.occ (o : KT X L B lv root l d k) : 2 * occK X lv root ≤ l.length + d + 1 := by
  unfold occK
  rcases o.rt with ⟨q, _⟩ | ⟨h0, _, t, e, hp⟩
  · rw [if_pos q]; omega
  · rw [if_neg (by omega)]
    have h1 := occ_df t
    have h2 := dfT_psi X lv root
    have h3 : 1 ≤ szX X root := t.es.2.1
    rw [e] at h1
    omega
theorem KT.fp (o : KT X L B lv root l d k) : (famP X B (oneTs [] lv root)).length = B.length + occK X lv root := by
  unfold famP oneTs occK
  split <;> simp
theorem KT.free (o : KT X L B lv root l d k) : L.length ≤ plFree L + (k + (B.length + occK X lv root)) := by
  have := o.fam.used o.iv o.pm
  rwa [o.fp] at this
theorem KT.cnt (o : KT X L B lv root l d k) (q : Nat) : cntL L q ≤ B.length + 1 + (l.length + occK X lv root) := by
  have h := o.fam.cnt o.iv q
  have h1 : (rtsB B root).count (q : Int) ≤ B.length + 1 := by
    refine Nat.le_trans (List.count_le_length) ?_
    unfold rtsB; split <;> simp
  have h2 : ((oneTs [] lv root).map fun t => (lsT X t.1 t.2).length + (occT X t.1 t.2).length).sum ≤ l.length + occK X lv root := by
    unfold oneTs occK
    split
    · simp
    · rename_i hr
      rcases o.rt with ⟨q, _⟩ | ⟨_, _, _, e, _⟩
      · exact absurd q hr
      · simp [e]
  omega
end
/-- Behind a root that was swapped. -/
theorem KT.next {X X' : DSt} {L L' L2 : List Pg} {B : List Int} {lv lv' : Nat} {root p' : Int} {l l' : List (Int × Int)} {d d' k : Nat} (o : KT X L B lv root l d k) (hx : Ext X L X' L') (hr : rtsB B p' = B ++ (if p' = -1 then [] else [p'])) (iv : Inv X' L2 (rtsB B p')) (rt : (p' = -1 ∧ l' = []) ∨ (0 ≤ p' ∧ lv' ≤ 6 ∧ okT X' lv' p' 0 64 ∧ lsT X' lv' p' = l' ∧ psiA lv' (absT X' lv' p') ≤ d')) (pg : ∀ z ∈ l', z.2 ∈ B) (pm : PlM k L2) : KT X' L2 B lv' p' l' d' k := by
  refine ⟨iv, fun b hb => ?_, rt, pg, pm⟩
  obtain ⟨b0, bk, be⟩ := o.bl b hb
  have hb2 := o.iv.toT.root (rtsB_B (root := root) hb)
  have hk := (hx.kp b.toNat (o.iv.toT.live hb2.2).1).1
  rw [Int.toNat_of_nonneg b0] at hk
  rw [hk]
  exact ⟨b0, bk, be⟩
theorem KT.mid {X X' : DSt} {L L' : List Pg} {B : List Int} {lv : Nat} {root : Int} {l : List (Int × Int)} {d k : Nat} (o : KT X L B lv root l d k) (hx : Ext X L X' L') (T : List Nat) : RtOk X' L' T lv root l := by
  rcases o.rt with ⟨h, e⟩ | ⟨h, hl, t, e, _⟩
  · exact Or.inl ⟨h, e⟩
  · have hp := o.live (by omega)
    obtain ⟨a1, a2, _⟩ := okT.ext o.iv.toT hx t h hp.2
    have := (hx.kp root.toNat (o.iv.toT.live hp.2).1).2.2
    refine Or.inr ⟨h, ?_, by omega, a1, a2.trans e⟩
    have h2 := hp.2
    unfold cntT at h2 ⊢
    simp at h2
    omega
/-- What a put, or a cut, hands, and the swap behind it. -/
structure KStep (X : DSt) (L : List Pg) (B : List Int) (lv : Nat) (root : Int) (l : List (Int × Int)) (m k : Nat) (X' : DSt) (L' : List Pg) (p' : Int) (lv' : Nat) (L2 : List Pg) (l' : List (Int × Int)) (d' : Nat) : Prop where
  mid : ∃ T, InvT X' L' (rtsB B root) T ∧ RtOk X' L' T lv root l ∧ RtOk X' L' T lv' p' l'
  sw : SwapEx X' L' root p' L2
  kt : KT X' L2 B lv' p' l' d' k
  ln : L2.length = L.length
  up : Up X' L2.length (m + 20)
  kp : ∀ q : Nat, yng (plAt L q) = true → yng (plAt L2 q) = true ∧ rdN X' (q : Int) = rdN X (q : Int)
theorem swapEx_F {X : DSt} {L L2 : List Pg} {root next : Int} (hn : ¬ next = -1) (hs : swF X L root next = (L2, 0)) : SwapEx X L root next L2 := fun F gs gp m w hm h => Swap_F hn hm h hs
theorem rtsB_ne {B : List Int} {p : Int} (h : ¬ p = -1) : rtsB B p = B ++ [p] := by unfold rtsB; rw [if_neg h]
theorem PlM.toY {L : List Pg} (h : PlM 0 L) : PlY L := by
  intro i
  by_cases hi : i < L.length
  · have hy : yng (plAt L i) = false := by
      cases hq : yng (plAt L i) with
      | false => rfl
      | true =>
        have : 0 < L.countP yng := List.countP_pos_iff.2 ⟨L[i], by simp, by rw [← plAt_get L i hi]; exact hq⟩
        rw [h.yn] at this; omega
    unfold yng at hy
    rcases h.ok i with q | q | q | q
    · exact Or.inl q
    · rw [q] at hy; cases hy
    · rw [q] at hy; cases hy
    · exact Or.inr q
  · rw [plAt_out _ _ (by omega)]; exact Or.inr ⟨rfl, rfl⟩
theorem PlM.noY {X X' : DSt} {L L2 : List Pg} (h : PlM 0 L) : ∀ q : Nat, yng (plAt L q) = true → yng (plAt L2 q) = true ∧ rdN X' (q : Int) = rdN X (q : Int) := fun q hq => by
  exfalso
  unfold yng at hq
  rcases h.toY q with r | ⟨r, _⟩ <;> rw [r] at hq <;> cases hq
theorem yng_free {x : Pg} (h : yng x = true) : x.free = false := by
  unfold yng at h
  unfold Pg.free
  cases hs : (x.s == 0) with
  | false => simp
  | true =>
    have : x.s = 0 := by simpa using hs
    rw [this] at h
    cases h
theorem KT.put {X : DSt} {L : List Pg} {B : List Int} {lv : Nat} {root : Int} {l : List (Int × Int)} {d m : Nat} (o : KT X L B lv root l d 0) (hU : Up X L.length m) (hm : m ≤ 60000) (x : Int × Int) (hk : 0 ≤ x.1 ∧ x.1 ≤ 63) (hb : x.2 ∈ B) (hB : B.length ≤ 4) (hd : l.length + 2 * d ≤ 119) (hr : 16 + (B.length + occK X lv root) ≤ L.length) :
    ∃ X' L' p' lv' L2, PutEx X L root x m X' L' p' 0 ∧ 0 ≤ p' ∧ swF X' L' root p' = (L2, 0) ∧ KStep X L B lv root l m 0 X' L' p' lv' L2 (putL l x) d ∧
      ((root = -1 ∧ lv' = 0 ∧ esX X' p' = [x]) ∨ (¬ root = -1 ∧ putW lv (absT X lv root) x = ⟨lv', absT X' lv' p'⟩)) := by
  have hpgl := o.iv.toT.root (rtsB_B (root := root) hb)
  have hocc := o.occ
  have hlen := o.up.2.2
  have hfree := o.free
  have hcnt := fun q => o.cnt q
  have hy := o.pm.toY
  have hpg' : ∀ z ∈ putL l x, z.2 ∈ B := fun z hz => by
    rcases (mem_putL o.up.1).1 hz with rfl | ⟨q, _⟩
    · exact hb
    · exact o.pg z q
  rcases o.rt with ⟨h, e⟩ | ⟨h0, hl, t, e, hpsi⟩
  · subst h
    subst e
    obtain ⟨X', L', p', e, R, hup, P⟩ := Put_empty_ex (Q := fun _ => True) o.iv.toT (by omega) x hk hpgl hU
    obtain rfl := R.good (by omega) (fun q => by have := hcnt q; simp at this; unfold occK at this; simp at this; omega)
    obtain ⟨lv', hlv, iv, tt⟩ := R.ys rfl
    have hlv0 : lv' = 0 := by omega
    subst hlv0
    have p0 := R.p0 rfl
    have iv' : InvT X' L' B [p'.toNat] := by
      unfold rtsB at iv
      rw [if_pos rfl] at iv
      exact iv
    have hcc : cntL L' p'.toNat < 255 := by
      have := R.ct rfl p'.toNat
      have := hcnt p'.toNat
      unfold occK at this; simp at this
      omega
    obtain ⟨L2, sw, iv2, ln, yg⟩ := swap_first iv' p0 hcc
    have hp1 : ¬ p' = -1 := by omega
    refine ⟨X', L', p', 0, L2, P, p0, sw, ⟨⟨[p'.toNat], iv, o.mid R.ext _, Or.inr ⟨p0, iv.mem (by simp), by omega, tt.ok, tt.ls⟩⟩, swapEx_F hp1 sw, o.next R.ext (by rw [rtsB_ne hp1, if_neg hp1]) (by rw [rtsB_ne hp1]; exact iv2) (Or.inr ⟨p0, by omega, tt.ok, tt.ls, ?_⟩) hpg' (yg (R.ext.yg hy)).toM, ln.trans R.ext.ln, by rw [ln]; exact hup, o.pm.noY⟩, Or.inl ⟨rfl, rfl, tt.ls⟩⟩
    show (0 : Int) ≤ (d : Int)
    omega
  · have hr1 : ¬ root = -1 := by omega
    have hlv := o.live hr1
    obtain ⟨X', L', p', lv', Q, hup, P⟩ := put_ok o.iv.toT t h0 hlv.2 (by omega) (by omega) x hk hpgl hU (by omega) (fun q => by have := hcnt q; omega)
    have hp1 : ¬ p' = -1 := by have := Q.p0; omega
    have iv' := Q.iv
    rw [rtsB_ne hr1] at iv'
    have hcc : cntL L' p'.toNat < 255 := by
      have := Q.ct p'.toNat
      have := hcnt p'.toNat
      omega
    obtain ⟨L2, sw, iv2, ln, yg⟩ := swap_in iv' Q.p0 hr1 hcc
    have hdf := dfT_psi X lv root
    have hlow : lv' ≤ 6 := by
      rcases Q.hg with ⟨q, _⟩ | ⟨q, h6, _⟩
      · omega
      · have := full_low (n := 120) t h6 (by rw [e]; omega) (by omega)
        omega
    have hps : psiA lv' (absT X' lv' p') ≤ d := by
      have hq := Q.df
      rcases Q.hg with ⟨q, hs⟩ | ⟨_, _, h2⟩
      · by_cases hs1 : szX X root = 1
        · have h1 := psi_le (X := X') (lv := lv') (p := p')
          have h2 : psiA lv (absT X lv root) = dfT X lv root + 1 ∨ lv = 0 := by
            cases lv with
            | zero => exact Or.inr rfl
            | succ n =>
              left
              rw [← dfA_T]
              show dfA (n + 1) (absT X (n + 1) root) + (if List.length (α := Int × Tr n) (absT X (n + 1) root) = 1 then 1 else 0) = _
              have : List.length (α := Int × Tr n) (absT X (n + 1) root) = szX X root := len_abT X (n + 1) root
              rw [if_pos (by omega)]
          rcases h2 with h2 | h2
          · omega
          · subst q
            subst h2
            show (0 : Int) ≤ d
            omega
        · have hs1' : 1 ≤ szX X root := t.es.2.1
          have := psi_more (X := X') (lv := lv') (p := p') (by omega)
          omega
      · have := psi_more (X := X') (lv := lv') (p := p') (by omega)
        omega
    refine ⟨X', L', p', lv', L2, P, Q.p0, sw, ⟨⟨[p'.toNat], Q.iv, o.mid Q.ext _, Or.inr ⟨Q.p0, Q.iv.mem (by simp), by omega, Q.ok, by rw [Q.ls, e]⟩⟩, swapEx_F hp1 sw, o.next Q.ext (by rw [rtsB_ne hp1, if_neg hp1]) (by rw [rtsB_ne hp1]; exact iv2) (Or.inr ⟨Q.p0, hlow, Q.ok, by rw [Q.ls, e], hps⟩) hpg' (yg (Q.ext.yg hy)).toM, ln.trans Q.ext.ln, by rw [ln]; exact hup, o.pm.noY⟩, Or.inr ⟨hr1, Q.ab⟩⟩
/-- A key that is there is cut. -/
theorem KT.cut {X : DSt} {L : List Pg} {B : List Int} {lv : Nat} {root : Int} {l : List (Int × Int)} {d k m : Nat} (o : KT X L B lv root l d k) (hU : Up X L.length m) (hm : m ≤ 60000) (key : Int) (hk : 0 ≤ key ∧ key ≤ 63) (hn : ¬ findL l key = -1) (hB : B.length ≤ 4) (hd : l.length + d ≤ 130) (hr : 8 + (k + (B.length + occK X lv root)) ≤ L.length) :
    ∃ X' L' p' lv' L2, CutEx X L root key m X' L' p' ∧ KStep X L B lv root l m k X' L' p' lv' L2 (cutL l key) (d + 1) ∧
      ((p' = -1 ∧ cutW lv (absT X lv root) key = none) ∨ (¬ p' = -1 ∧ lv' ≤ lv ∧ cutW lv (absT X lv root) key = some ⟨lv', absT X' lv' p'⟩)) := by
  have hocc := o.occ
  have hlen := o.up.2.2
  have hfree := o.free
  have hcnt := fun q => o.cnt q
  have hkl : ∃ z ∈ l, z.1 = key := by
    by_cases q : ∃ z ∈ l, z.1 = key
    · exact q
    · exact absurd (findL_none fun z hz e => q ⟨z, hz, e⟩) hn
  have hr1 : ¬ root = -1 := fun q => by
    rw [o.ne] at q
    subst q
    obtain ⟨z, hz, _⟩ := hkl
    cases hz
  have hpg' : ∀ z ∈ cutL l key, z.2 ∈ B := fun z hz => o.pg z (mem_cutL.1 hz).1
  rcases o.rt with ⟨h, _⟩ | ⟨h0, hl, t, e, hpsi⟩
  · exact absurd h hr1
  have hlv := o.live hr1
  have hkt : ∃ z ∈ lsT X lv root, z.1 = key := by rw [e]; exact hkl
  have hf1 : lv + 1 ≤ plFree L := by omega
  have hc1 : ∀ q, cntL L q + (6 * lv + 6) ≤ 255 := fun q => by have := hcnt q; omega
  obtain ⟨X', L', p', ec, hup, R⟩ := cut_ok o.iv.toT key lv hU t h0 hlv.2 hkt hf1 hc1
  have hpm : PlM k L' := by
    have := PlM.cut (X := X) o.pm lv root key
    rw [ec] at this
    exact this
  have hpf : PlF (fun i => yng (plAt L i)) L' := by
    have := PlF.cut (X := X) o.pm.toF lv root key
    rw [ec] at this
    exact this
  have hkp : ∀ L2, PlF (fun i => yng (plAt L i)) L2 → ∀ q : Nat, yng (plAt L q) = true → yng (plAt L2 q) = true ∧ rdN X' (q : Int) = rdN X (q : Int) := fun L2 h2 q hq => ⟨by rw [h2.yn q]; exact hq, (R.ext.kp q (yng_free hq)).1⟩
  have hEx : CutEx X L root key m X' L' p' := fun F gs gp w h => by
    refine (Cut_yes o.iv.toT hm o.rk key hk hn w h (m1 := m + 20) fun W HW => ?_).mono fun _ _ q => q
    refine (cut_lv o.iv.toT hm key (F := F) (gs := gs) (gp := gp) lv W (by omega) t h0 hlv.2 hkt hf1 hc1 HW ec).mono ?_
    rintro r w' ⟨F', er, s⟩
    exact ⟨F', er, s.mono (by omega)⟩
  have hne := ne_T t
  have hpsi' : ∀ n (t' : Tr n), cutW lv (absT X lv root) key = some ⟨n, t'⟩ → psiA n t' ≤ (d + 1 : Nat) := fun n t' hq => by
    have := cutW_psi lv (absT X lv root) key n t' hne.1 hne.2 (by rw [len_abT]; exact t.es.2.1) hq
    omega
  have hcl : cutL (lsT X lv root) key = cutL l key := by rw [e]
  rcases R.ways with ⟨rfl, hc, iv, hw⟩ | ⟨p0, lv', hlv', ok', ls', hw, hiv⟩
  · have iv1 : Inv X' L' (B ++ [root]) := by
      have := iv
      rw [rtsB_ne hr1] at this
      exact this.toI
    have hkk : B.length < (B ++ [root]).length := by simp
    obtain ⟨d1, d2⟩ := iv1.drop B.length hkk
    have e1 : (B ++ [root])[B.length] = root := by simp
    have e2 : (B ++ [root]).take B.length ++ (B ++ [root]).drop (B.length + 1) = B := by simp
    rw [e1] at d1 d2
    rw [e2] at d2
    have hdl := dropF_len (X := X') (muL L' + 1) L' root
    have hpd := PlM.drop (X := X') (muL L' + 1) iv.ok hpm root
    refine ⟨X', L', -1, 0, (dropF X' (muL L' + 1) L' root).1, hEx, ⟨⟨[], iv, o.mid R.ext _, Or.inl ⟨rfl, hcl.symm.trans hc⟩⟩, fun F gs gp m w hm h => Swap_none root hr1 hm (Prod.ext rfl d1) w h, o.next R.ext (by simp [rtsB]) (by unfold rtsB; rw [if_pos rfl]; exact d2) (Or.inl ⟨rfl, hcl.symm.trans hc⟩) hpg' hpd, hdl.trans R.ext.ln, by rw [hdl]; exact hup.mono (by omega), hkp _ (PlF.drop (X := X') (muL L' + 1) iv.ok hpf root)⟩, Or.inl ⟨rfl, hw⟩⟩
  · have hp1 : ¬ p' = -1 := by omega
    have hcc : cntL L' p'.toNat < 255 := by
      have := R.ct p'.toNat
      have := hcnt p'.toNat
      omega
    have hkt' := fun (L2 : List Pg) (iv2 : Inv X' L2 (B ++ [p'])) (pm : PlM k L2) => o.next (L2 := L2) (lv' := lv') (l' := cutL l key) (d' := d + 1) R.ext (by rw [rtsB_ne hp1, if_neg hp1]) (by rw [rtsB_ne hp1]; exact iv2) (Or.inr ⟨p0, by omega, ok', ls'.trans hcl, hpsi' _ _ hw⟩) hpg' pm
    have hswm : PlM k (swF X' L' root p').1 := by
      rcases hiv with iv | ⟨iv, _⟩
      · exact PlM.sw iv.ok hpm root p'
      · exact PlM.sw iv.ok hpm root p'
    have hswf : PlF (fun i => yng (plAt L i)) (swF X' L' root p').1 := by
      rcases hiv with iv | ⟨iv, _⟩
      · exact PlF.sw iv.ok hpf root p'
      · exact PlF.sw iv.ok hpf root p'
    have hswl := swF_len X' L' root p'
    have main : ∃ L2, swF X' L' root p' = (L2, 0) ∧ Inv X' L2 (B ++ [p']) := by
      rcases hiv with iv | ⟨iv, hl2⟩
      · rw [rtsB_ne hr1] at iv
        obtain ⟨L2, sw, iv2, _⟩ := swap_in iv p0 hr1 hcc
        exact ⟨L2, sw, iv2⟩
      · rw [rtsB_ne hr1] at iv
        have : 0 < cntL L' p'.toNat := by unfold cntT at hl2; simpa using hl2
        exact swap_old iv.toI p0 this hr1 hcc
    obtain ⟨L2, sw, iv2⟩ := main
    rw [sw] at hswm hswl hswf
    refine ⟨X', L', p', lv', L2, hEx, ⟨?_, swapEx_F hp1 sw, hkt' L2 iv2 hswm, hswl.trans R.ext.ln, by rw [hswl]; exact hup.mono (by omega), hkp _ hswf⟩, Or.inr ⟨hp1, hlv', hw⟩⟩
    rcases hiv with iv | ⟨iv, _⟩
    · exact ⟨_, iv, o.mid R.ext _, Or.inr ⟨p0, iv.mem (by simp), by omega, ok', ls'.trans hcl⟩⟩
    · rename_i hl2
      exact ⟨_, iv, o.mid R.ext _, Or.inr ⟨p0, hl2, by omega, ok', ls'.trans hcl⟩⟩
end Go.Proofs.YtmkinaijkgkgiaaGreat
/- Build, with the answers named ahead of the world, for trees whose cuts follow; no condition. -/
namespace Go.Proofs.YtmkinaijkgkgiaaGreat
open Go.RowKit Go.Proofs.U
set_option linter.unusedSimpArgs false
set_option linter.unusedVariables false
/-- Put of None, or of a tree, without pages. -/
def stepW : Option ((n : Nat) × Tr n) → Int × Int → (n : Nat) × Tr n
  | none, x => ⟨0, [x]⟩
  | some s, x => putW s.1 s.2 x
def absB (s : BSt) : Option ((n : Nat) × Tr n) := if s.root = -1 then none else some ⟨s.lv, absT s.X s.lv s.root⟩
theorem putL_le : ∀ (l : List (Int × Int)) (x : Int × Int), (putL l x).length ≤ l.length + 1
  | [], x => by simp [putL]
  | y :: l, x => by
    unfold putL
    split
    · have := List.length_filter_le (fun z : Int × Int => !(z.1 == x.1)) (y :: l)
      simp only [List.length_cons] at *
      omega
    · have := putL_le l x
      simp only [List.length_cons]
      omega
theorem foldL_le (es : List (Int × Int)) : ∀ l : List (Int × Int), (es.foldl putL l).length ≤ l.length + es.length := by
  induction es with
  | nil => intro l; simp
  | cons x es ih =>
    intro l
    have := ih (putL l x)
    have := putL_le l x
    simp only [List.foldl_cons, List.length_cons]
    omega
theorem KT.step {s : BSt} {B : List Int} {l : List (Int × Int)} {d m : Nat} (o : KT s.X s.L B s.lv s.root l d 0) (hU : Up s.X s.L.length m) (hm : m ≤ 60000) (x : Int × Int) (hk : 0 ≤ x.1 ∧ x.1 ≤ 63) (hb : x.2 ∈ B) (hB : B.length ≤ 4) (hd : l.length + 2 * d ≤ 119) (hr : 16 + (B.length + occK s.X s.lv s.root) ≤ s.L.length) :
    ∃ s', BStep m x s s' ∧ KT s'.X s'.L B s'.lv s'.root (putL l x) d 0 ∧ s'.L.length = s.L.length ∧ Up s'.X s'.L.length (m + 20) ∧ absB s' = some (stepW (absB s) x) := by
  obtain ⟨X', L', p', lv', L2, P, p0, sw, K, ha⟩ := o.put hU hm x hk hb hB hd hr
  refine ⟨⟨X', L2, lv', p'⟩, ⟨⟨L', P, sw⟩, p0⟩, K.kt, K.ln, K.up, ?_⟩
  unfold absB
  have hp1 : ¬ p' = -1 := by omega
  simp only
  rw [if_neg hp1]
  rcases ha with ⟨h1, h2, h3⟩ | ⟨h1, h2⟩
  · rw [if_pos h1]
    subst h2
    show some (⟨0, esX X' p'⟩ : (n : Nat) × Tr n) = some ⟨0, [x]⟩
    rw [h3]
  · rw [if_neg h1]
    exact congrArg some h2.symm
/-- All of Build's states. -/
theorem KT.steps {s0 : BSt} {B : List Int} {m : Nat} (es : List (Int × Int)) (o : KT s0.X s0.L B s0.lv s0.root [] 0 0) (hm : m ≤ 10000) (he : es.length ≤ 100) (hes : ∀ x ∈ es, (0 ≤ x.1 ∧ x.1 ≤ 63) ∧ x.2 ∈ B) (hU : Up s0.X s0.L.length m) (hB : B.length ≤ 4) (hL : 17 + B.length + (es.length + 1) / 2 ≤ s0.L.length) :
    ∃ s : Nat → BSt, s 0 = s0 ∧ (∀ (k : Nat) (hk : k < es.length), BStep (m + 20 * k) es[k] (s k) (s (k + 1)) ∧ absB (s (k + 1)) = some (stepW (absB (s k)) es[k])) ∧ ∀ k, k ≤ es.length → KT (s k).X (s k).L B (s k).lv (s k).root ((es.take k).foldl putL []) 0 0 ∧ (s k).L.length = s0.L.length ∧ Up (s k).X (s k).L.length (m + 20 * k) := by
  have key : ∀ n, n ≤ es.length → ∃ s : Nat → BSt, s 0 = s0 ∧ (∀ (k : Nat) (hk : k < es.length), k < n → BStep (m + 20 * k) es[k] (s k) (s (k + 1)) ∧ absB (s (k + 1)) = some (stepW (absB (s k)) es[k])) ∧ ∀ k, k ≤ n → KT (s k).X (s k).L B (s k).lv (s k).root ((es.take k).foldl putL []) 0 0 ∧ (s k).L.length = s0.L.length ∧ Up (s k).X (s k).L.length (m + 20 * k) := by
    intro n
    induction n with
    | zero =>
      intro _
      refine ⟨fun _ => s0, rfl, fun k _ hk => absurd hk (by omega), fun k hk => ?_⟩
      obtain rfl : k = 0 := by omega
      exact ⟨o, rfl, hU⟩
    | succ n ih =>
      intro hn
      obtain ⟨s, h0, h1, h2⟩ := ih (by omega)
      obtain ⟨on, ln, un⟩ := h2 n (Nat.le_refl _)
      have hx := hes es[n] (List.getElem_mem _)
      have hfl := foldL_le (es.take n) []
      have hfl2 : ((es.take n).foldl putL []).length ≤ es.length := by
        rw [List.length_take] at hfl
        simp only [List.length_nil] at hfl
        omega
      have hocc := on.occ
      obtain ⟨s', b, o', l', u', a'⟩ := on.step un (by omega) es[n] hx.1 hx.2 hB (by omega) (by omega)
      refine ⟨fun k => if k = n + 1 then s' else s k, by simp [h0], fun k hk hkn => ?_, fun k hk => ?_⟩
      · by_cases e : k = n
        · subst e; simpa using ⟨b, a'⟩
        · have := h1 k hk (by omega)
          show BStep (m + 20 * k) es[k] (if k = n + 1 then s' else s k) (if k + 1 = n + 1 then s' else s (k + 1)) ∧ absB (if k + 1 = n + 1 then s' else s (k + 1)) = some (stepW (absB (if k = n + 1 then s' else s k)) es[k])
          rw [if_neg (by omega), if_neg (by omega)]
          exact this
      · by_cases e : k = n + 1
        · subst e
          simp only [if_pos]
          rw [List.take_succ_eq_append_getElem (by omega), List.foldl_append]
          exact ⟨o', l'.trans ln, by rw [show m + 20 * (n + 1) = m + 20 * n + 20 by omega]; exact u'⟩
        · have h3 := h2 k (by omega)
          simp only [if_neg e]
          exact h3
  obtain ⟨s, h0, h1, h2⟩ := key es.length (Nat.le_refl _)
  exact ⟨s, h0, fun k hk => h1 k hk hk, h2⟩
theorem Base1.kt {X : DSt} {L : List Pg} {pg : Int} {N : Nat} (b : Base1 X L pg N) : KT X L [pg] 0 (-1) [] 0 0 := by
  refine ⟨?_, fun x hx => ?_, Or.inl ⟨rfl, rfl⟩, by simp, b.yg.toM⟩
  · unfold rtsB; rw [if_pos rfl]; exact b.iv
  · simp at hx; subst hx
    exact ⟨b.p0, by rw [b.rd], by rw [b.rd]⟩
end Go.Proofs.YtmkinaijkgkgiaaGreat
/- Trim with its states named ahead of the world; no condition. -/
namespace Go.Proofs.YtmkinaijkgkgiaaGreat
open Go.RowKit Go.Proofs.U
set_option linter.unusedSimpArgs false
set_option linter.unusedVariables false
/-- One key of Trim. -/
def TStep (m : Nat) (key : Int) (s s' : BSt) : Prop :=
  (s' = s ∧ ∀ (F : Nat → Prop) (gs gp : Nat) (w : World), Sto w F gs gp s.X s.L m → Calls Tryz.prog 10 #[trV gs, .int .i64 s.root, .int .i64 key] w fun r w' => r = .returned (.tuple #[.int .i64 s.root, .bool false, .int .i64 0]) ∧ Fr noB w w')
  ∨ ∃ L1, CutEx s.X s.L s.root key m s'.X L1 s'.root ∧ SwapEx s'.X L1 s.root s'.root s'.L
/-- What Trim answers behind so many keys. -/
def trimR (n k : Nat) (root : Int) : Value := if n = k then .tuple #[.int .i64 root, .int .i64 0] else .tuple #[.int .i64 (-1), .int .i64 101]
set_option maxRecDepth 100000 in
set_option maxHeartbeats 8000000 in
theorem Trim_steps {F : Nat → Prop} {gs gp : Nat} {m : Nat} (s : Nat → BSt) (ks : List Int) (n : Nat) (hn : n ≤ ks.length) (h1 : ∀ (k : Nat) (hk : k < ks.length), k < n → TStep (m + 20 * k) ks[k] (s k) (s (k + 1))) (hb : ∀ hk : n < ks.length, ks[n] < 0 ∨ 63 < ks[n]) (hm : m ≤ 10000) (he : ks.length ≤ 100) (v : Value) (w : World) (h : Sto w F gs gp (s 0).X (s 0).L m) (hS : SlI .i64 w v ks) (hvF : 0 < ks.length → ∀ x, v.ownBlock = some x → ¬ F x ∧ x ≠ gp) :
    Calls Tryz.prog 21 #[trV gs, .int .i64 (s 0).root, v] w fun r w' => ∃ F', r = .returned (trimR n ks.length (s n).root) ∧ StT w w' F F' gs gp ((s n).X, (s n).L) (m + 20 * n) := by
  obtain ⟨a0, c0, hv0, hc0⟩ : ∃ a c, v = .slice a ks.length c ∧ ks.length ≤ c := ⟨_, _, hS.1.choose_spec.choose_spec.1, hS.1.choose_spec.choose_spec.2.1⟩
  subst hv0
  have hgp := h.ltp
  have hgs := h.lts
  have hFt := h.ft
  have h1' := show Hid _ from h1
  have hb' := show Hid _ from hb
  clear h1 hb
  go_enter Tryz.func21, Tryz.ntmps21
  go_wp2_with (first
    | (with_reducible refine at_wpP ?_; refine wpList_boxG rfl 28 _ rfl (trV gs) [ptr gs] rfl rfl ?_; intro g1 w1 hg1 b1 f1 s1; have l1 := b1.lt; have z1 := f1.size))
  have H1 := h.fr0 f1
  go_loopw [15, 1] (fun i r wr => ∃ (k : Nat) (Fk : Nat → Prop), k ≤ n ∧ i = .int .i64 (k : Int) ∧ r = .int .i64 (s k).root ∧ StT w1 wr F Fk gs gp ((s k).X, (s k).L) (m + 20 * k)) (fun i _ _ => ks.length - (intOf i).toNat)
  case atStart => exact ⟨0, F, Nat.zero_le _, rfl, rfl, StT.start H1⟩
  case round =>
    obtain ⟨j, Fk, hj, rfl, rfl, T⟩ := hrel
    have hnF : ∀ x, w.heap.size ≤ x → ¬ stB F gp x := fun x hx q => by
      rcases q with q | q
      · have := hFt _ q; omega
      · omega
    have bj := b1.fr T.fr (hnF _ s1)
    have cj := pr_cell bj
    have zj := T.fr.size
    have hFk := T.st.ft
    have hgk := T.st.ltp
    have hgsk := T.st.lts
    have hnFk : ¬ stB Fk gp g1 := fun q => by
      rcases q with q | q
      · rcases (T.ft _ q).1 with q | q
        · have := hFt _ q; omega
        · omega
      · omega
    by_cases hlt : j < ks.length
    · obtain ⟨x, Hx⟩ : ∃ x, Hid (ks[j] = x) := ⟨ks[j], (rfl : ks[j] = ks[j])⟩
      have hlt' : (j : Int) < (ks.length : Int) := by omega
      have hvj := ((hS.fr0 f1).fr T.fr (fun k hk q => by
          have := hvF (by omega) k hk
          rcases q with q | q
          · exact this.1 q
          · exact this.2 q)).1
      by_cases hjn : j < n
      · have st := h1'.out j hlt hjn
        rw [Hx.out] at st
        generalize hs : s j = sj at *
        generalize hs' : s (j + 1) = s' at *
        have hs := show Hid _ from hs
        have hs' := show Hid _ from hs'
        rcases st with ⟨rfl, hC⟩ | ⟨L1, hC, hSw⟩
        · skip
          go_wp2_with (first
            | (with_reducible refine at_wpP ?_; refine at_idx 52 _ _ rfl ?_; go_must (refine wpList_idx1 rfl 52 _ _ rfl 3 Tryz.underlying52 int_size1 (.slice a0 ks.length c0) _ _ rfl hvj .i64 (j : Int) j rfl rfl hlt ?_; intro pp u hu hcu; obtain rfl := getX hu hlt Hx.out))
            | (with_reducible refine at_wpP ?_; refine at_ld 28 _ rfl ?_; go_must (refine wpList_ldP rfl _ rfl g1 rfl gs bj ?_))
            | (go_at_call 10; go_must (refine (hC _ _ _ _ T.st).mono ?_; rintro e w5 ⟨rfl, f5⟩; have z5 := f5.size)))
          go_roundw
          case rel => exact ⟨j + 1, Fk, by omega, by go_num, by rw [hs'.out], by rw [hs'.out]; exact (T.fr0 f5).mono (by omega)⟩
          case measure => simp [intOf]; omega
        · skip
          go_wp2_with (first
            | (with_reducible refine at_wpP ?_; refine at_idx 52 _ _ rfl ?_; go_must (refine wpList_idx1 rfl 52 _ _ rfl 3 Tryz.underlying52 int_size1 (.slice a0 ks.length c0) _ _ rfl hvj .i64 (j : Int) j rfl rfl hlt ?_; intro pp u hu hcu; obtain rfl := getX hu hlt Hx.out))
            | (with_reducible refine at_wpP ?_; refine at_ld 28 _ rfl ?_; go_must (refine wpList_ldP rfl _ rfl g1 rfl gs bj ?_))
            | (go_at_call 10; go_must (refine (hC _ _ _ _ T.st).mono ?_; rintro e w5 ⟨F5, rfl, T5⟩; have z5 := T5.fr.size; have b5 := bj.fr T5.fr hnFk))
            | (with_reducible refine at_wpP ?_; refine at_ld 26 _ rfl ?_; go_must (refine wpList_ldPT rfl _ rfl g1 rfl gs b5 ?_))
            | (go_at_call 14; go_must (refine (hSw _ _ _ _ _ (by omega) T5.st).mono ?_; rintro e w6 ⟨rfl, s6, f6⟩; have z6 := f6.size)))
          go_roundw
          case rel => exact ⟨j + 1, F5, by omega, by go_num, by rw [hs'.out], by rw [hs'.out]; exact ((T.trans H1.ft T5).pool f6 s6).mono (by omega)⟩
          case measure => simp [intOf]; omega
      · obtain rfl : j = n := by omega
        have hbx := hb'.out hlt
        rw [Hx.out] at hbx
        have hr : Hid (trimR j ks.length (s j).root = .tuple #[.int .i64 (-1), .int .i64 101]) := by show _ = _; unfold trimR; rw [if_neg (by omega)]
        generalize hs : s j = sj at *
        have hs := show Hid _ from hs
        go_wp2_with (first
          | (with_reducible refine at_wpP ?_; refine at_idx 52 _ _ rfl ?_; go_must (refine wpList_idx1 rfl 52 _ _ rfl 3 Tryz.underlying52 int_size1 (.slice a0 ks.length c0) _ _ rfl hvj .i64 (j : Int) j rfl rfl hlt ?_; intro pp u hu hcu; obtain rfl := getX hu hlt Hx.out))
          | (with_reducible refine at_wpP ?_; refine at_ld 28 _ rfl ?_; go_must (refine wpList_ldP rfl _ rfl g1 rfl gs bj ?_))
          | (go_at_call 10; go_must (refine (Cut_bad _ x hbx _ T.st).mono ?_; rintro e w5 ⟨rfl, f5⟩; have z5 := f5.size)))
        go_ret2
        obtain rfl := hs.out
        exact ⟨Fk, by rw [hr.out]; rfl, (T.fr0 f5).pre f1⟩
    · obtain rfl : j = ks.length := by omega
      obtain rfl : ks.length = n := by omega
      have hr : Hid (trimR ks.length ks.length (s ks.length).root = .tuple #[.int .i64 (s ks.length).root, .int .i64 0]) := by show _ = _; unfold trimR; rw [if_pos rfl]
      go_wp2
      go_ret2
      exact ⟨Fk, by rw [hr.out]; rfl, T.pre f1⟩
end Go.Proofs.YtmkinaijkgkgiaaGreat
/- The document's Same of entries (layer 10); no condition. -/
namespace Go.Proofs.YtmkinaijkgkgiaaGreat
open Go.RowKit Go.Proofs.U
set_option linter.unusedSimpArgs false
set_option linter.unusedVariables false
theorem cells_at {w : World} {b o n c : Nat} {l : List (Int × Int)} (h : SlR enC 2 w (.slice (some ⟨b, o, none⟩) n c) l) (k : Nat) (hk : k < l.length) {x : Int × Int} (hx : Hid (l[k] = x)) : ∀ q u, (enC x)[q]? = some u → w.cell? ⟨b, o + k * 2 + q, none⟩ = some u := by
  intro q u hq
  obtain ⟨hall, ao, cap, hv, hcap, hlen, hnone, hsome⟩ := h
  cases hv
  have hq2 : q < 2 := (List.getElem?_eq_some_iff.1 hq).1
  have hfl := flat_at enC 2 l hall k hk q hq2
  rw [hx.out, hq] at hfl
  have := hsome _ rfl _ _ hfl
  rw [Addr.add_lit] at this
  rw [Nat.add_assoc]
  exact this
set_option maxRecDepth 100000 in
set_option maxHeartbeats 4000000 in
theorem same10_any (va vb : Value) (la lb : List (Int × Int)) (w : World) (ha : SlP .i64 .i64 w va la) (hb : SlP .i64 .i64 w vb lb) (hm : la.length ≤ 1000) :
    Calls Tryz.prog 13 #[va, vb] w fun r w' => r = .returned (.bool (la == lb)) ∧ Fr noB w w' := by
  obtain ⟨a0, c0, hva, hc0⟩ := ha.1.opn
  obtain ⟨a1, c1, hvb, hc1⟩ := hb.1.opn
  by_cases hne : la.length = lb.length
  · by_cases h0 : la.length = 0
    · have e1 : la = [] := List.eq_nil_of_length_eq_zero h0
      have e2 : lb = [] := List.eq_nil_of_length_eq_zero (by omega)
      subst e1; subst e2
      subst hva; subst hvb
      go_enter Tryz.func13, Tryz.ntmps13
      go_wp2
      go_loop [13] (fun i => i = .int .i64 0) (fun _ => 0)
      case atStart => rfl
      case round =>
        subst hrel
        go_wp2
        go_ret
        exact ⟨rfl, Fr.refl _ _⟩
    · clear hva hvb hc0 hc1
      obtain ⟨ba, oa, ca, rfl, hca⟩ := SlR.addr ha.1 (by decide) (by omega)
      obtain ⟨bb, ob, cb, rfl, hcb⟩ := SlR.addr hb.1 (by decide) (by omega)
      have hnt : ((la.length : Int) == (lb.length : Int)) = true := by simp; omega
      have hneI : (la.length : Int) = (lb.length : Int) := by omega
      have hneI := show Hid _ from hneI
      have hne' := show Hid _ from hne
      clear hne
      go_enter Tryz.func13, Tryz.ntmps13
      go_wp2
      go_loopw [13] (fun i wr => ∃ (k : Nat), k ≤ la.length ∧ i = .int .i64 (k : Int) ∧ Hid (la.take k = lb.take k) ∧ Fr noB w wr) (fun i _ => la.length - (intOf i).toNat)
      case atStart => exact ⟨0, by omega, rfl, rfl, Fr.refl _ _⟩
      case round =>
        obtain ⟨k, hk, rfl, htk, hf⟩ := hrel
        by_cases hlt : k < la.length
        · have hltb : k < lb.length := by rw [← hne'.out]; exact hlt
          have hlt' : (k : Int) < (la.length : Int) := by omega
          have hltb' : (k : Int) < (lb.length : Int) := by omega
          obtain ⟨x, Hx⟩ : ∃ x, Hid (la[k] = x) := ⟨la[k], (rfl : la[k] = la[k])⟩
          obtain ⟨y, Hy⟩ : ∃ y, Hid (lb[k] = y) := ⟨lb[k], (rfl : lb[k] = lb[k])⟩
          go_wp2
          obtain ⟨w0, HW⟩ : ∃ w0, Hid (wr.drew = w0) := ⟨_, rfl⟩
          have f0 : Fr noB wr w0 := by rw [← HW.out]; exact (Fr.refl _ _).drew
          have z0 := f0.size
          have hSA := (ha.1.fr0 hf).fr0 f0
          have hSB := (hb.1.fr0 hf).fr0 f0
          refine wp_region_chain_layT (by kernel_rfl) [] [none, none, none, none, none, none, none, none, none]
            [fun v => v = .slice (some ⟨ba, oa, none⟩) la.length ca, fun v => v = .int .i64 (k : Int), fun v => v = .pointer (some ⟨ba, oa + k * 2, none⟩), fun v => v = enV x, fun v => v = .slice (some ⟨bb, ob, none⟩) lb.length cb, fun v => v = .int .i64 (k : Int), fun v => v = .pointer (some ⟨bb, ob + k * 2, none⟩), fun v => v = enV y, fun v => v = .bool (!(x == y))]
            (JGX w0) (by rw [HW.out]; exact Fr.refl _ _) (by kernel_rfl) (by kernel_rfl) (by decide) ⟨?o0, ?o1, ?o2, ?o3, ?o4, ?o5, ?o6, ?o7, ?o8, trivial⟩ ?oe
          case o0 =>
            intro A W hv hlen hJ hbase hdL hdH
            have e0 : A.eval (.tmp 0) = .slice (some ⟨ba, oa, none⟩) la.length ca := hbase 0 (by kernel_rfl)
            have f0 : A.tmps[0]?.getD undef = .slice (some ⟨ba, oa, none⟩) la.length ca := by simpa [Act.eval] using e0
            exact light_val rfl (v := .slice (some ⟨ba, oa, none⟩) la.length ca) (by simp [execOp, e0, f0]) hJ rfl
          case o1 =>
            intro A W hv hlen hJ hbase hdL hdH
            have e5 : A.eval (.tmp 5) = .int .i64 (k : Int) := hbase 5 (by kernel_rfl)
            have f5 : A.tmps[5]?.getD undef = .int .i64 (k : Int) := by simpa [Act.eval] using e5
            exact light_val rfl (v := .int .i64 (k : Int)) (by simp [execOp, e5, f5]) hJ rfl
          case o2 =>
            intro A W hv hlen hJ hbase hdL hdH
            have e16 : A.eval (.tmp 16) = .slice (some ⟨ba, oa, none⟩) la.length ca := hdL 0 16 (by kernel_rfl) (by kernel_rfl) (by kernel_rfl)
            have f16 : A.tmps[16]?.getD undef = .slice (some ⟨ba, oa, none⟩) la.length ca := by simpa [Act.eval] using e16
            have e17 : A.eval (.tmp 17) = .int .i64 (k : Int) := hdL 1 17 (by kernel_rfl) (by kernel_rfl) (by kernel_rfl)
            have f17 : A.tmps[17]?.getD undef = .int .i64 (k : Int) := by simpa [Act.eval] using e17
            have hr := run_idxS (P := Tryz.prog) (w := W) (sz := 2) 31 40 uE en_size ba oa la.length ca .i64 k (by exact hlt)
            exact light_val rfl (v := .pointer (some ⟨ba, oa + k * 2, none⟩)) (by simp [execOp, e16, e17, hr, Result.andThen]) hJ rfl
          case o3 =>
            intro A W hv hlen hJ hbase hdL hdH
            have e18 : A.eval (.tmp 18) = .pointer (some ⟨ba, oa + k * 2, none⟩) := hdL 2 18 (by kernel_rfl) (by kernel_rfl) (by kernel_rfl)
            have f18 : A.tmps[18]?.getD undef = .pointer (some ⟨ba, oa + k * 2, none⟩) := by simpa [Act.eval] using e18
            have hr := run_ldE W ba (oa + k * 2) x (cells_at (hSA.fr0 (show Fr noB w0 W from hJ)) k (by exact hlt) Hx)
            exact light_val rfl (v := enV x) (by simp [execOp, e18, hr, Result.andThen]) hJ rfl
          case o4 =>
            intro A W hv hlen hJ hbase hdL hdH
            have e1 : A.eval (.tmp 1) = .slice (some ⟨bb, ob, none⟩) lb.length cb := hbase 1 (by kernel_rfl)
            have f1 : A.tmps[1]?.getD undef = .slice (some ⟨bb, ob, none⟩) lb.length cb := by simpa [Act.eval] using e1
            exact light_val rfl (v := .slice (some ⟨bb, ob, none⟩) lb.length cb) (by simp [execOp, e1, f1]) hJ rfl
          case o5 =>
            intro A W hv hlen hJ hbase hdL hdH
            have e5 : A.eval (.tmp 5) = .int .i64 (k : Int) := hbase 5 (by kernel_rfl)
            have f5 : A.tmps[5]?.getD undef = .int .i64 (k : Int) := by simpa [Act.eval] using e5
            exact light_val rfl (v := .int .i64 (k : Int)) (by simp [execOp, e5, f5]) hJ rfl
          case o6 =>
            intro A W hv hlen hJ hbase hdL hdH
            have e20 : A.eval (.tmp 20) = .slice (some ⟨bb, ob, none⟩) lb.length cb := hdL 4 20 (by kernel_rfl) (by kernel_rfl) (by kernel_rfl)
            have f20 : A.tmps[20]?.getD undef = .slice (some ⟨bb, ob, none⟩) lb.length cb := by simpa [Act.eval] using e20
            have e21 : A.eval (.tmp 21) = .int .i64 (k : Int) := hdL 5 21 (by kernel_rfl) (by kernel_rfl) (by kernel_rfl)
            have f21 : A.tmps[21]?.getD undef = .int .i64 (k : Int) := by simpa [Act.eval] using e21
            have hr := run_idxS (P := Tryz.prog) (w := W) (sz := 2) 31 40 uE en_size bb ob lb.length cb .i64 k (by exact hltb)
            exact light_val rfl (v := .pointer (some ⟨bb, ob + k * 2, none⟩)) (by simp [execOp, e20, e21, hr, Result.andThen]) hJ rfl
          case o7 =>
            intro A W hv hlen hJ hbase hdL hdH
            have e22 : A.eval (.tmp 22) = .pointer (some ⟨bb, ob + k * 2, none⟩) := hdL 6 22 (by kernel_rfl) (by kernel_rfl) (by kernel_rfl)
            have f22 : A.tmps[22]?.getD undef = .pointer (some ⟨bb, ob + k * 2, none⟩) := by simpa [Act.eval] using e22
            have hr := run_ldE W bb (ob + k * 2) y (cells_at (hSB.fr0 (show Fr noB w0 W from hJ)) k (by exact hltb) Hy)
            exact light_val rfl (v := enV y) (by simp [execOp, e22, hr, Result.andThen]) hJ rfl
          case o8 =>
            intro A W hv hlen hJ hbase hdL hdH
            have e19 : A.eval (.tmp 19) = enV x := hdL 3 19 (by kernel_rfl) (by kernel_rfl) (by kernel_rfl)
            have f19 : A.tmps[19]?.getD undef = enV x := by simpa [Act.eval] using e19
            have e23 : A.eval (.tmp 23) = enV y := hdL 7 23 (by kernel_rfl) (by kernel_rfl) (by kernel_rfl)
            have f23 : A.tmps[23]?.getD undef = enV y := by simpa [Act.eval] using e23
            have hr := run_neE x y W
            have hg : (eqGuard .neq 40 (.tmp 19) (.tmp 23) (enV x) (enV y)).run Tryz.prog W = .ok () W := run_eqGuard_agg W _ _ _ _ _ _ en_eqg
            exact light_val rfl (v := .bool (!(x == y))) (by simp [execOp, e19, e23, hr, hg, Result.andThen]) hJ rfl
          case oe =>
            intro vs W' hv hlen hJ hL hH
            have x0 : vs 0 = .slice (some ⟨ba, oa, none⟩) la.length ca := hL 0 (by kernel_rfl) (by kernel_rfl)
            have x1 : vs 1 = .int .i64 (k : Int) := hL 1 (by kernel_rfl) (by kernel_rfl)
            have x2 : vs 2 = .pointer (some ⟨ba, oa + k * 2, none⟩) := hL 2 (by kernel_rfl) (by kernel_rfl)
            have x3 : vs 3 = enV x := hL 3 (by kernel_rfl) (by kernel_rfl)
            have x4 : vs 4 = .slice (some ⟨bb, ob, none⟩) lb.length cb := hL 4 (by kernel_rfl) (by kernel_rfl)
            have x5 : vs 5 = .int .i64 (k : Int) := hL 5 (by kernel_rfl) (by kernel_rfl)
            have x6 : vs 6 = .pointer (some ⟨bb, ob + k * 2, none⟩) := hL 6 (by kernel_rfl) (by kernel_rfl)
            have x7 : vs 7 = enV y := hL 7 (by kernel_rfl) (by kernel_rfl)
            have x8 : vs 8 = .bool (!(x == y)) := hL 8 (by kernel_rfl) (by kernel_rfl)
            simp only [layL, Nat.reduceAdd, Act.put, List.setIfInBounds_toArray, List.set_cons_zero, List.set_cons_succ, x0, x1, x2, x3, x4, x5, x6, x7, x8]
            clear x0 x1 x2 x3 x4 x5 x6 x7 x8 hL hH
            have hF : Fr noB w W' := hf.thenN (f0.thenN hJ)
            clear hJ
            by_cases hxy : x = y
            · have hb : (x == y) = true := by rw [beq_iff_eq]; exact hxy
              rw [hb]
              go_wp2
              go_roundw
              case rel => exact ⟨k + 1, by omega, by go_num, take_eq_succ htk hlt hltb (by rw [Hx.out, Hy.out, hxy]), hF⟩
              case measure => simp [intOf]; omega
            · have hb : (x == y) = false := by rw [beq_eq_false_iff_ne]; exact hxy
              rw [hb]
              have hr : (la == lb) = false := by
                rw [beq_eq_false_iff_ne]
                intro h
                subst h
                exact hxy (Hx.out.symm.trans Hy.out)
              go_wp2
              go_ret
              exact ⟨by first | rfl | (rw [hr]; rfl), hF⟩
        · have hke : k = la.length := by omega
          have hr : (la == lb) = true := by
            rw [beq_iff_eq]
            have h1 := htk.out
            rw [List.take_of_length_le (by omega), List.take_of_length_le (by rw [← hne'.out]; omega)] at h1
            exact h1
          have hlt' : ¬ (k : Int) < (la.length : Int) := by omega
          go_wp2
          go_ret
          exact ⟨by first | rfl | (rw [hr]; rfl), hf⟩
  · subst hva; subst hvb
    have hnt : ((la.length : Int) == (lb.length : Int)) = false := by simp; omega
    have hnt' : ¬ (la.length : Int) = (lb.length : Int) := by omega
    have hr : (la == lb) = false := by
      rw [beq_eq_false_iff_ne]
      intro e; exact hne (by rw [e])
    rw [hr]
    go_enter Tryz.func13, Tryz.ntmps13
    go_wp2
    go_ret
    exact ⟨rfl, Fr.refl _ _⟩
end Go.Proofs.YtmkinaijkgkgiaaGreat
