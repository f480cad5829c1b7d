/- Texts X6, X7, Y0 of the proof of PruneTrims, one behind the other. -/
import Derived.Test.YtmkinaijkgkgiaaGreatBundlePruneTrims1
import Derived.Test.YtmkinaijkgkgiaaGreatBundlePruneTrims2
import Derived.Test.YtmkinaijkgkgiaaGreatBundlePruneTrims3
import Derived.Test.YtmkinaijkgkgiaaGreatBundlePruneTrims4
import Derived.Test.YtmkinaijkgkgiaaGreatBundlePruneTrims5
import Derived.Test.YtmkinaijkgkgiaaGreatBundlePruneTrims6
import Derived.Test.YtmkinaijkgkgiaaGreatBundlePruneTrims7
/- number, told of package leaf: what a page tells. (Written by x6_gen.py.) -/
namespace Go.Proofs.YtmkinaijkgkgiaaGreat
open Go.RowKit Go.Proofs.U
set_option linter.unusedSimpArgs false
set_option linter.unusedVariables false
/-- What a page tells, be it a node that can be or not. -/
def toldE (p : List Int) (c : Nat) : List (Int × Int) := (List.range c).map fun i => (p.getD (2 + 2 * i) 0, p.getD (3 + 2 * i) 0)
def toldN (p : List Int) : Nd := if p.getD 0 0 = 1 then ⟨1, (p.drop 1).take 16, []⟩ else ⟨p.getD 0 0, zerB 16, toldE p (p.getD 1 0).toNat⟩
theorem toldE_len (p : List Int) (c : Nat) : (toldE p c).length = c := by simp [toldE]
theorem toldE_succ (p : List Int) (c : Nat) : toldE p (c + 1) = toldE p c ++ [(p.getD (2 + 2 * c) 0, p.getD (3 + 2 * c) 0)] := by simp [toldE, List.range_succ]
theorem opN_told {p : List Int} (hp : p.length = 256) (hb : Byt p) : opN p = if (toldN p).right && ((toldN p).page == p) then (toldN p, 0) else (nd0, 81) := by
  have hby := hb.at 1
  by_cases h1 : p.getD 0 0 = 1
  · have : toldN p = decN p := by unfold toldN decN; rw [if_pos h1, if_pos h1]
    rw [this]; rfl
  · by_cases h6 : p.getD 1 0 ≤ 6
    · have : toldN p = decN p := by
        unfold toldN decN toldE
        rw [if_neg h1, if_neg h1, Nat.min_eq_left (by omega)]
      rw [this]; rfl
    · have hn : (toldN p).right = false := by
        have hl : ¬ (toldE p (p.getD 1 0).toNat).length ≤ 6 := by rw [toldE_len]; omega
        unfold toldN
        rw [if_neg h1, right_tree_eq _ _ _ h1]
        unfold entsR
        rw [decide_eq_false hl]
        simp
      rw [hn, Bool.false_and]
      rcases opN_cases p with ⟨_, hr, hpg⟩ | h
      · exfalso
        have hd : decN p = ⟨p.getD 0 0, zerB 16, (List.range (min (p.getD 1 0).toNat 6)).map fun i => (p.getD (2 + 2 * i) 0, p.getD (3 + 2 * i) 0)⟩ := by unfold decN; rw [if_neg h1]
        have hk : ¬ (decN p).k = 1 := by rw [hd]; exact h1
        have he : (decN p).es.length = 6 := by rw [hd]; show List.length (List.map _ (List.range _)) = 6; rw [List.length_map, List.length_range]; omega
        have hbd : (decN p).body = (decN p).k :: ((decN p).es.length : Int) :: pairs (decN p).es := by unfold Nd.body; rw [if_neg hk]
        have := page_front (decN p) 1 (by rw [hbd]; simp)
        rw [hpg, hbd] at this
        have : p.getD 1 0 = ((decN p).es.length : Int) := this
        omega
      · rw [h]; rfl
theorem toldN_tree {p : List Int} (h1 : ¬ p.getD 0 0 = 1) : toldN p = ⟨p.getD 0 0, zerB 16, toldE p (p.getD 1 0).toNat⟩ := by unfold toldN; rw [if_neg h1]
theorem toldN_data {p : List Int} (h1 : p.getD 0 0 = 1) : toldN p = ⟨1, (p.drop 1).take 16, []⟩ := by unfold toldN; rw [if_pos h1]
theorem byt_at {p : List Int} (hb : Byt p) (i : Nat) : 0 ≤ p.getD i 0 ∧ p.getD i 0 < 256 := hb.at i
theorem wf_i64_sm {x : Int} (h : 0 ≤ x ∧ x < 256) : (Lit.int .i64 x).wf = true := by
  simp [Lit.wf, IntKind.min, IntKind.max, IntKind.signed, IntKind.bits]; omega
theorem toldE_wf {p : List Int} (hb : Byt p) (c : Nat) : ∀ x ∈ toldE p c, (Lit.int .i64 x.1).wf = true ∧ (Lit.int .i64 x.2).wf = true := by
  intro x hx
  obtain ⟨i, _, rfl⟩ := List.mem_map.1 hx
  exact ⟨wf_i64_sm (byt_at hb _), wf_i64_sm (byt_at hb _)⟩
/-- A reader of a page, behind j numbers of one byte. -/
def RdJ (w : World) (b : Nat) (vb : Value) (p : List Int) (j : Nat) : Prop := Rd w b vb p (min j 256) (decide (256 < j))
theorem RdJ.lt {w : World} {b : Nat} {vb : Value} {p : List Int} {j : Nat} (h : RdJ w b vb p j) : b < w.heap.size := World.block_lt_of_cell? w _ h.1
theorem RdJ.own {w : World} {b : Nat} {vb : Value} {p : List Int} {j : Nat} (h : RdJ w b vb p j) : ∀ k, vb.ownBlock = some k → k ≠ b ∧ k < w.heap.size := h.2.2.2.2.2.1
theorem RdJ.st {w w5 w6 : World} {b g : Nat} {vb : Value} {p : List Int} {j : Nat} (h : RdJ w b vb p j) (f5 : Fr noB w w5) (f6 : Fr (onB1 g) w5 w6) (hg : w.heap.size ≤ g) : RdJ w6 b vb p j :=
  (Rd.fr0 h f5).fr f6 (fun q => by have := h.lt; unfold onB1 at q; omega) (fun k hk q => by have := (h.own k hk).2; unfold onB1 at q; omega)
theorem nnm1 (p : List Int) (hp : p.length = 256) (j : Nat) : nmV p (min j 256) (decide (256 < j)) 1 = p.getD j 0 ∧ nmT p (min j 256) (decide (256 < j)) 1 = min (j + 1) 256 ∧ nmF p (min j 256) (decide (256 < j)) 1 = decide (256 < j + 1) := by
  by_cases h : j < 256
  · have h1 : min j 256 = j := by omega
    have h2 : decide (256 < j) = false := by simp; omega
    have h3 : decide (256 < j + 1) = false := by simp; omega
    have hok : tkOk p j false 1 = true := by simp [tkOk, hp]; omega
    rw [h1, h2, h3]
    have hd : (p.drop j).take 1 = [p.getD j 0] := by
      rw [List.drop_eq_getElem_cons (by omega : j < p.length)]
      show [p[j]] = [p.getD j 0]
      simp [List.getD, show j < p.length by omega]
    refine ⟨?_, ?_, ?_⟩
    · show leNum (tkL p j false 1) = _
      unfold tkL
      rw [if_pos hok]
      show leNum ((p.drop j).take 1) = _
      rw [hd]; simp [leNum]
    · show tkT p j false 1 = _
      unfold tkT
      rw [if_pos hok]
      show j + 1 = _
      omega
    · show (!tkOk p j false 1) = _
      rw [hok]; rfl
  · have h1 : min j 256 = 256 := by omega
    have h3 : decide (256 < j + 1) = true := by simp; omega
    have hok : tkOk p 256 (decide (256 < j)) 1 = false := by simp [tkOk, hp]
    have hg : p.getD j 0 = 0 := by simp [List.getD, List.getElem?_eq_none (show p.length ≤ j by omega)]
    rw [h1, h3, hg]
    refine ⟨?_, ?_, ?_⟩
    · show leNum (tkL p 256 _ 1) = _
      unfold tkL
      rw [hok]; rfl
    · show tkT p 256 _ 1 = _
      unfold tkT
      rw [hok]
      show 256 = _
      omega
    · show (!tkOk p 256 _ 1) = _
      rw [hok]; rfl
theorem nnumber_any (b : Nat) (vb : Value) (p : List Int) (j : Nat) (w : World) (hp : p.length = 256) (hb : Byt p) (hr : RdJ w b vb p j) :
    Calls Tryz.prog 110 #[.pointer (some ⟨b, 0, none⟩)] w fun e w' => e = .returned (.int .i64 (p.getD j 0)) ∧ RdJ w' b vb p (j + 1) ∧ Fr (onB b) w w' := by
  obtain ⟨h1, h2, h3⟩ := nnm1 p hp j
  have hc := num_any b vb p _ _ 1 w hr
  rw [h1, h2, h3] at hc
  have hbd := byt_at hb j
  obtain ⟨x, Hx⟩ : ∃ x, Hid (p.getD j 0 = x) := ⟨_, rfl⟩
  rw [Hx.out] at hc hbd ⊢
  have hw : IntKind.i64.wrap x = x := by rw [IntKind.wrap_i64]; omega
  clear h1 h2 h3
  go_enter Tryz.func110, Tryz.ntmps110
  go_wp2_with (go_at_call 124; go_must (refine hc.mono ?_; rintro e w1 ⟨rfl, r1, f1⟩))
  go_ret
  exact ⟨rfl, r1, f1⟩
theorem page_sl {w : World} {g : Nat} {t : TypeId} {p : List Int} (h : BxV w g t (pgv p)) (hb : Byt p) (hp : p.length = 256) : SlI .u8 w (.slice (some ⟨g, 0, none⟩) 256 256) p := by
  have := BxV.slI h hb 0 256 256 (by rw [hp]; decide) (by decide)
  rwa [List.drop_zero, List.take_of_length_le (by rw [hp]; decide)] at this
theorem size_sents : (Tryz.prog.info? 31).map (·.size) = some 1 := by kernel_rfl
theorem ndL_set (k : Int) (b : List Int) (u v : Value) (hb : b.length = 16) : (ndL k b u).set 17 v = ndL k b v := by
  unfold ndL
  rw [List.set_cons_succ, List.set_append_right _ _ (by rw [pgv_len, hb]; omega), pgv_len, hb]; rfl
theorem ndL_put (k : Int) (b c : List Int) (v : Value) (hb : b.length = 16) (hc : c.length = 16) : putAt (ndL k b v) 1 (pgv c) = ndL k c v := by
  unfold putAt ndL
  rw [pgv_len, hc, List.take_succ_cons, List.take_zero, show 1 + 16 = 16 + 1 from rfl, List.drop_succ_cons, List.drop_left' (by rw [pgv_len, hb])]
  simp
/-- copy into a node's block. -/
theorem run_cpyN {W : World} {g : Nat} {k : Int} {b : List Int} {v : Value} (hB : NdB W g k b v) (hb : b.length = 16) (ty : TypeId) (u : Value) (m : List Int) (hm : m.length = 16) (hS : SlI .u8 W u m) (r : Value) (hr : r = .slice (some ⟨g, 1, none⟩) 16 16) :
    ∃ W', (Builtin.copy_ #[120, 120] ty #[r, u]).run Tryz.prog W = .ok (goInt (Nat.min m.length 16)) W' ∧ NdB W' g k m v ∧ Fr (onB1 g) W W' := by
  subst hr
  obtain ⟨⟨ao, cap, rfl, hcap, hlen, hnone, hsome⟩, hwf⟩ := hS
  rw [Nat.mul_one, List.length_map] at hlen
  cases ao with
  | none => have h1 := hnone rfl; omega
  | some ad =>
    have hcell := hsome ad rfl
    have hl2 : (pgv m).length = Nat.min m.length 16 := by
      show _ = min m.length 16
      rw [pgv_len]; omega
    have hl16 : (pgv m).length = 16 := by rw [pgv_len, hm]
    have hBl := ndL_len k b v hb
    have hr := run_copy_cells (P := Tryz.prog) W 120 120 ty 5 g 1 16 16 ad m.length cap (pgv m) Tryz.underlying120 size_u8 hl2
      (fun j u hj => hcell j u hj)
      (fun j hj => (hB.thereR 1 16 (by rw [hBl]; omega) j (by omega)).1)
      (fun j hj => (hB.thereR 1 16 (by rw [hBl]; omega) j (by omega)).2) (pgv_one _)
    rw [hl2] at hr
    refine ⟨_, hr, ?_, setCells_fr1 _ _ _ _⟩
    have := setCells_bx (pgv m) 1 W (ndL k b v) hB (by rw [hl16, hBl]; omega)
    rwa [ndL_put k b m v hb hm] at this
/-- While a block is read. -/
def JTB (w w0 : World) (g2 g4 : Nat) (Y : List Int) : List Value → World → Prop
  | [], W => W = w0
  | [v], W => SlI .u8 W v Y ∧ NdB W g4 1 (zerB 16) nilS ∧ NdB W g2 0 (zerB 16) nilS ∧ Fr noB w W
  | [_, _], W => NdB W g4 1 Y nilS ∧ NdB W g2 0 (zerB 16) nilS ∧ Fr noB w W
  | _, _ => False
/-- Where things lie, while entries are read. -/
structure TS (w : World) (b : Nat) (vb : Value) (g2 g4 B : Nat) : Prop where
  a1 : w.heap.size ≤ g2
  a2 : g2 < b
  a3 : b < g4
  a4 : g4 < B
  a5 : ∀ k, vb.ownBlock = some k → k < g4
/-- The reader is behind j numbers; the node's entries lie at u; v is a row of its own making that holds L. -/
def TL (w : World) (b : Nat) (vb : Value) (g2 g4 B : Nat) (p : List Int) (K : Int) (W : World) (j : Nat) (u v : Value) (L : List (Int × Int)) : Prop :=
  RdJ W b vb p j ∧ NdB W g4 K (zerB 16) u ∧ NdB W g2 0 (zerB 16) nilS ∧ OwnR enC 2 40 W B v L ∧ Fr noB w W ∧ B ≤ W.heap.size
section
variable {w : World} {b : Nat} {vb : Value} {g2 g4 B : Nat} {p : List Int} {K : Int} {W W' : World} {j : Nat} {u v : Value} {L : List (Int × Int)}
theorem TL.fr0 (h : TL w b vb g2 g4 B p K W j u v L) (f : Fr noB W W') : TL w b vb g2 g4 B p K W' j u v L :=
  ⟨h.1.fr0 f, h.2.1.fr0 f, h.2.2.1.fr0 f, h.2.2.2.1.fr0 f, h.2.2.2.2.1.thenN f, Nat.le_trans h.2.2.2.2.2 f.size⟩
theorem TL.num (S : TS w b vb g2 g4 B) {j' : Nat} (h : TL w b vb g2 g4 B p K W j u v L) (r : RdJ W' b vb p j') (f : Fr (onB b) W W') : TL w b vb g2 g4 B p K W' j' u v L := by
  have a1 := S.a1
  have a2 := S.a2
  have a3 := S.a3
  have a4 := S.a4
  refine ⟨r, h.2.1.fr f (fun q => by unfold onB at q; omega), h.2.2.1.fr f (fun q => by unfold onB at q; omega), h.2.2.2.1.fr f (fun k hk q => by have := (h.2.2.2.1.newB k hk).1; unfold onB at q; omega), h.2.2.2.2.1.thenT f (fun i hi q => by unfold onB at q; omega), Nat.le_trans h.2.2.2.2.2 f.size⟩
theorem TL.app (S : TS w b vb g2 g4 B) {x : Int × Int} (h : TL w b vb g2 g4 B p K W j u u L) (ho : OwnR enC 2 40 W' B v (L ++ [x])) (hg : W.grownBy W' u.ownBlock) : TL w b vb g2 g4 B p K W' j u v (L ++ [x]) := by
  have a1 := S.a1
  have a2 := S.a2
  have a3 := S.a3
  have a4 := S.a4
  have f : Fr (fun k => u.ownBlock = some k) W W' := (Fr.refl _ _).grown hg (fun k hk _ => hk)
  have hn := h.2.2.2.1.newB
  refine ⟨h.1.fr f (fun q => by have := (hn _ q).1; omega) (fun k hk q => by have := S.a5 k hk; have := (hn _ q).1; omega), h.2.1.fr f (fun q => by have := (hn _ q).1; omega), h.2.2.1.fr f (fun q => by have := (hn _ q).1; omega), ho, h.2.2.2.2.1.thenT f (fun i hi q => by have := (hn _ q).1; omega), Nat.le_trans h.2.2.2.2.2 f.size⟩
theorem TL.put (S : TS w b vb g2 g4 B) (h : TL w b vb g2 g4 B p K W j u v L) : TL w b vb g2 g4 B p K (W.setCell ⟨g4, 17, none⟩ v) j v v L := by
  have a1 := S.a1
  have a2 := S.a2
  have a3 := S.a3
  have a4 := S.a4
  have f : Fr (onB1 g4) W (W.setCell ⟨g4, 17, none⟩ v) := Fr.setCell (S := onB1 g4) (Fr.refl _ _) _ _ (fun _ => rfl)
  refine ⟨h.1.fr f (fun q => by unfold onB1 at q; omega) (fun k hk q => by have := S.a5 k hk; unfold onB1 at q; omega), ?_, h.2.2.1.ne f (by omega), h.2.2.2.1.fr f (fun k hk q => by have := (h.2.2.2.1.newB k hk).1; unfold onB1 at q; omega), h.2.2.2.2.1.thenT f (fun i hi q => by unfold onB1 at q; omega), Nat.le_trans h.2.2.2.2.2 f.size⟩
  have := h.2.1.set 17 v
  rwa [ndL_set K (zerB 16) u v (zerB_len 16)] at this
/-- While an entry is read and laid down. -/
def JTL (w : World) (b : Nat) (vb : Value) (g2 g4 B : Nat) (p : List Int) (K : Int) (j : Nat) (u : Value) (L : List (Int × Int)) (key pg : Int) : List Value → World → Prop
  | [], W => TL w b vb g2 g4 B p K W (3 + 2 * j) u u L
  | [v], W => v = .int .i64 pg ∧ TL w b vb g2 g4 B p K W (4 + 2 * j) u u L
  | [_, v], W => v = enV (key, pg) ∧ TL w b vb g2 g4 B p K W (4 + 2 * j) u u L
  | [_, _, v], W => ∃ gx, v = .slice (some ⟨gx, 0, none⟩) 1 1 ∧ (∀ i y, (enC (key, pg))[i]? = some y → W.cell? ((⟨gx, 0, none⟩ : Addr).add i) = some y) ∧ TL w b vb g2 g4 B p K W (4 + 2 * j) u u L
  | [_, _, _, v], W => TL w b vb g2 g4 B p K W (4 + 2 * j) u v (L ++ [(key, pg)])
  | [_, _, _, _, _], W => ∃ v, TL w b vb g2 g4 B p K W (4 + 2 * j) v v (L ++ [(key, pg)])
  | _, _ => False
theorem JTL.cell {key pg : Int} {hv : List Value} (h : JTL w b vb g2 g4 B p K j u L key pg hv W) (hl : hv.length ≤ 3) : W.cell? ⟨g4, 17, none⟩ = some u := by
  match hv, h with
  | [], h => exact NdB.ents h.2.1 (zerB_len 16)
  | [_], h => exact NdB.ents h.2.2.1 (zerB_len 16)
  | [_, _], h => exact NdB.ents h.2.2.1 (zerB_len 16)
  | [_, _, _], h => obtain ⟨_, _, _, h⟩ := h; exact NdB.ents h.2.1 (zerB_len 16)
  | _ :: _ :: _ :: _ :: _, _ => simp at hl
end

set_option maxRecDepth 100000 in
set_option maxHeartbeats 2000000 in
theorem told_own (p : List Int) (hp : p.length = 256) (hb : Byt p) (w : World) :
    Calls Tryz.prog 99 #[pgV p] w fun r w' => ∃ v, r = .returned (ndV (toldN p).k (toldN p).b v) ∧ NdS w' v (toldN p) ∧ (∀ k, v.ownBlock = some k → w.heap.size ≤ k) ∧ Fr noB w w' ∧ OwnR enC 2 40 w' w.heap.size v (toldN p).es := by
  have Hp := show Hid _ from hp
  obtain ⟨K, HK⟩ : ∃ K, Hid (p.getD 0 0 = K) := ⟨_, rfl⟩
  have hK := byt_at hb 0
  rw [HK.out] at hK
  by_cases hk : K = 1
  · subst hk
    rw [toldN_data HK.out]
    obtain ⟨Y, HY⟩ : ∃ Y, Hid ((p.drop 1).take 16 = Y) := ⟨_, rfl⟩
    have hYl : Hid (Y.length = 16) := by show _ = _; rw [← HY.out]; simp [hp]
    have hKb : Byt Y := by rw [← HY.out]; exact (hb.drop 1).take 16
    have htk : Hid (tkL p 1 false 16 = Y) := by
      show _ = _
      have hok : tkOk p 1 false 16 = true := by simp [tkOk, hp]
      unfold tkL
      rw [if_pos hok, ← HY.out]; rfl
    rw [HY.out]
    clear hp
    go_enter Tryz.func99, Tryz.ntmps99
    go_wp2_with (first
      | (with_reducible refine at_wpP ?_; refine wpList_boxV rfl 96 _ rfl (pgv p) rfl ?_; intro g1 w1 hg1 b1 f1 s1; have l1 := b1.lt; have z1 := f1.size)
      | (with_reducible refine at_wpP ?_; have q := r4; refine wpList_allocN rfl rfl ?_; intro g4 w5 hg4 b4 f5 s5; have l5 := b4.lt; have z5 := f5.size)
      | (with_reducible refine at_wpP ?_; have q := b1; refine wpList_allocN rfl rfl ?_; intro g2 w2 hg2 b2 f2 s2; have l2 := b2.lt; have z2 := f2.size)
      | (refine at_cut 96 _ none none none rfl ?_; go_must (refine wpList_allA arr_page (by decide) rfl _ rfl g1 rfl ?_))
      | (go_at_call 109; go_must (refine (enew_any _ p _ (page_sl (b1.fr0 f2) hb Hp.out) (by rw [Hp.out]; decide)).mono ?_; rintro e w3 ⟨b, vb, rfl, hbw, hvb, r3, f3⟩; have z3 := f3.size; have r3 : RdJ w3 b vb p 0 := r3; have lb := RdJ.lt r3; have hvl := RdJ.own r3))
      | (go_at_call 110; have q := r3; go_must (refine (nnumber_any b vb p 0 _ Hp.out hb r3).mono ?_; rw [HK.out]; rintro e w4 ⟨rfl, r4, f4⟩; have z4 := f4.size))
      | (with_reducible refine at_wpP ?_; refine wpList_bldN rfl _ rfl 1 (zerB 16) nilS [(0, .int .i64 1)] rfl (built_ndK 1) ?_)
      | (with_reducible refine at_wpP ?_; refine at_st 72 _ _ rfl ?_; go_must (refine wpList_stN rfl _ _ rfl g4 rfl 1 (zerB 16) nilS rfl (zerB_len 16) ⟨_, _, _, rfl⟩ 0 (zerB 16) nilS b4 (zerB_len 16) ?_; intro w6 b6 f6; have q0 := NdB.kind b6; have z6 := f6.size)))
    obtain ⟨w0, HW⟩ : ∃ w0, Hid (w6.drew = w0) := ⟨_, rfl⟩
    have f0 : Fr noB w6 w0 := by rw [← HW.out]; exact (Fr.refl _ _).drew
    have z0 := f0.size
    have R0 : Rd w0 b vb p 1 false := by
      have := (RdJ.own r4)
      exact ((Rd.fr0 r4 f5).fr f6 (fun q => by unfold onB1 at q; omega) (fun k hk q => by have := (this k hk).2; unfold onB1 at q; omega)).fr0 f0
    have B4 : NdB w0 g4 1 (zerB 16) nilS := b6.fr0 f0
    have B2 : NdB w0 g2 0 (zerB 16) nilS := ((((b2.fr0 f3).fr f4 (fun q => by unfold onB at q; omega)).fr0 f5).ne f6 (by omega)).fr0 f0
    have F0 : Fr noB w w0 := (((((f1.thenN f2).thenN f3).thenT f4 (fun i hi q => by unfold onB at q; omega)).thenN f5).thenT f6 (fun i hi q => by unfold onB1 at q; omega)).thenN f0
    refine wp_region_chain_lay (by kernel_rfl) [3, 4] [none, none, none, some 0, some 1]
      [fun v => v = .pointer (some ⟨g4, 1, none⟩), fun v => v = .slice (some ⟨g4, 1, none⟩) 16 16, fun v => v = .pointer (some ⟨b, 0, none⟩), fun _ => True, fun _ => True]
      (JTB w w0 g2 g4 Y) (HW.out) (by kernel_rfl) (by kernel_rfl) (by decide) ⟨?o0, ?o1, ?o2, ?o3, ?o4, trivial⟩ ?oe
    case o0 =>
      intro A W hv hlen hJ hbase hdL hdH
      have e4 : A.eval (.tmp 4) = .pointer (some ⟨g4, 0, none⟩) := hbase 4 (by kernel_rfl)
      have f4 : A.tmps[4]?.getD undef = .pointer (some ⟨g4, 0, none⟩) := by simpa [Act.eval] using e4
      exact light_val rfl (v := .pointer (some ⟨g4, 1, none⟩)) (by simp [execOp, go_sem, e4, f4]) hJ rfl
    case o1 =>
      intro A W hv hlen hJ hbase hdL hdH
      have e14 : A.eval (.tmp 14) = .pointer (some ⟨g4, 1, none⟩) := hdL 0 14 (by kernel_rfl) (by kernel_rfl) (by kernel_rfl)
      have f14 : A.tmps[14]?.getD undef = .pointer (some ⟨g4, 1, none⟩) := by simpa [Act.eval] using e14
      have hr := run_allOff (P := Tryz.prog) arr1_block (by decide) W g4 1
      exact light_val rfl (v := .slice (some ⟨g4, 1, none⟩) 16 16) (by simp [execOp, e14, hr, Result.andThen]) hJ rfl
    case o2 =>
      intro A W hv hlen hJ hbase hdL hdH
      have e3 : A.eval (.tmp 3) = .pointer (some ⟨b, 0, none⟩) := hbase 3 (by kernel_rfl)
      have f3 : A.tmps[3]?.getD undef = .pointer (some ⟨b, 0, none⟩) := by simpa [Act.eval] using e3
      exact light_val rfl (v := .pointer (some ⟨b, 0, none⟩)) (by simp [execOp, e3, f3]) hJ rfl
    case o3 =>
      intro A W hv hlen hJ hbase hdL hdH
      have e16 : A.eval (.tmp 16) = .pointer (some ⟨b, 0, none⟩) := hdL 2 16 (by kernel_rfl) (by kernel_rfl) (by kernel_rfl)
      have f16 : A.tmps[16]?.getD undef = .pointer (some ⟨b, 0, none⟩) := by simpa [Act.eval] using e16
      obtain rfl : hv = [] := List.eq_nil_of_length_eq_zero hlen
      cases hJ
      refine heavy_call rfl (args := #[.pointer (some ⟨b, 0, none⟩), .int .i64 16]) (f := 111) (by simp [execOp, resolve, invoke, go_sem, e16, f16]) ?_
      refine (take_any b vb p 1 false 16 _ R0).mono ?_
      rw [htk.out]
      rintro e w' ⟨u, rfl, o5, _, f5⟩
      exact ⟨_, rfl, o5.sl hKb, B4.fr f5 (fun q => by unfold onB at q; omega), B2.fr f5 (fun q => by unfold onB at q; omega), F0.thenT f5 (fun i hi q => by unfold onB at q; omega)⟩
    case o4 =>
      intro A W hv hlen hJ hbase hdL hdH
      have e15 : A.eval (.tmp 15) = .slice (some ⟨g4, 1, none⟩) 16 16 := hdL 1 15 (by kernel_rfl) (by kernel_rfl) (by kernel_rfl)
      have f15 : A.tmps[15]?.getD undef = .slice (some ⟨g4, 1, none⟩) 16 16 := by simpa [Act.eval] using e15
      match hv, hlen with
      | [u], _ =>
        obtain ⟨hS, h4, h2, hf⟩ := hJ
        have e17 : A.eval (.tmp 17) = u := by have := hdH 3 17 0 (by kernel_rfl) rfl (by kernel_rfl); simpa using this.symm
        obtain ⟨W1, hrr, h1, h3⟩ := run_cpyN h4 (zerB_len 16) 3 _ Y hYl.out hS _ rfl
        refine heavy_wp rfl ?_
        refine Lib.wp_copy_run _ (.tmp 15) (.tmp 17) 120 120 rfl _ _ e15 e17 hrr ?_
        exact ⟨_, rfl, h1, h2.ne h3 (by omega), hf.thenT h3 (fun i hi q => by unfold onB1 at q; omega)⟩
    case oe =>
      intro vz W' hv hlen hJ hL hH
      match hv, hlen with
      | [x0, x1], _ =>
        obtain ⟨h4, h2, hf⟩ := hJ
        simp only [layL, Nat.reduceAdd, Act.put, List.setIfInBounds_toArray, List.set_cons_zero, List.set_cons_succ]
        clear hL hH
        generalize vz 0 = y100 at *
        generalize vz 1 = y101 at *
        generalize vz 2 = y102 at *
        generalize vz 3 = y103 at *
        generalize vz 4 = y104 at *
        go_wp2_with (first
          | (with_reducible refine at_wpP ?_; refine at_ld 72 _ rfl ?_; go_must (refine wpList_ldN rfl _ rfl g4 rfl _ Y nilS h4 hYl.out ?_))
          | (with_reducible refine at_wpP ?_; refine at_st 72 _ _ rfl ?_; go_must (refine wpList_stN rfl _ _ rfl g2 rfl _ Y nilS rfl hYl.out ⟨_, _, _, rfl⟩ 0 (zerB 16) nilS h2 (zerB_len 16) ?_; intro w9 b9 f9)))
        refine bodyPost_ret (results_nd Tryz.results99 _ w9 g2 1 Y nilS rfl b9 hYl.out) rfl ⟨nilS, rfl, ?_, (fun k hk => by cases hk), hf.thenT f9 (fun i hi q => by unfold onB1 at q; omega), OwnR.none _ _⟩
        exact ⟨⟨⟨by simp, Sl.nil w9 2⟩, by simp⟩, ⟨hYl.out, hKb⟩, by simp, rfl⟩
  · obtain ⟨C, HC⟩ : ∃ C, Hid (p.getD 1 0 = C) := ⟨_, rfl⟩
    have hC := byt_at hb 1
    rw [HC.out] at hC
    have hte := toldN_tree (p := p) (by rw [HK.out]; exact hk)
    rw [hte, HK.out, HC.out]
    have hk1 : (K == 1) = false := by simpa using hk
    obtain ⟨c, rfl⟩ := Int.eq_ofNat_of_zero_le hC.1
    clear hp hte
    simp only [Int.toNat_natCast]
    go_enter Tryz.func99, Tryz.ntmps99
    go_wp2_with (first
      | (with_reducible refine at_wpP ?_; refine wpList_boxV rfl 96 _ rfl (pgv p) rfl ?_; intro g1 w1 hg1 b1 f1 s1; have l1 := b1.lt; have z1 := f1.size)
      | (with_reducible refine at_wpP ?_; have q := r4; refine wpList_allocN rfl rfl ?_; intro g4 w5 hg4 b4 f5 s5; have l5 := b4.lt; have z5 := f5.size)
      | (with_reducible refine at_wpP ?_; have q := b1; refine wpList_allocN rfl rfl ?_; intro g2 w2 hg2 b2 f2 s2; have l2 := b2.lt; have z2 := f2.size)
      | (refine at_cut 96 _ none none none rfl ?_; go_must (refine wpList_allA arr_page (by decide) rfl _ rfl g1 rfl ?_))
      | (go_at_call 109; go_must (refine (enew_any _ p _ (page_sl (b1.fr0 f2) hb Hp.out) (by rw [Hp.out]; decide)).mono ?_; rintro e w3 ⟨b, vb, rfl, hbw, hvb, r3, f3⟩; have z3 := f3.size; have r3 : RdJ w3 b vb p 0 := r3; have lb := RdJ.lt r3; have hvl := RdJ.own r3))
      | (go_at_call 110; have q := b6; go_must (refine (nnumber_any b vb p 1 _ Hp.out hb (RdJ.st r4 f5 f6 s5)).mono ?_; rw [HC.out]; rintro e w7 ⟨rfl, r7, f7⟩))
      | (go_at_call 110; have q := r3; go_must (refine (nnumber_any b vb p 0 _ Hp.out hb r3).mono ?_; rw [HK.out]; rintro e w4 ⟨rfl, r4, f4⟩; have z4 := f4.size))
      | (with_reducible refine at_wpP ?_; refine wpList_bldN rfl _ rfl K (zerB 16) nilS [(0, .int .i64 K)] rfl (built_ndK K) ?_)
      | (with_reducible refine at_wpP ?_; refine at_st 72 _ _ rfl ?_; go_must (refine wpList_stN rfl _ _ rfl g4 rfl K (zerB 16) nilS rfl (zerB_len 16) ⟨_, _, _, rfl⟩ 0 (zerB 16) nilS b4 (zerB_len 16) ?_; intro w6 b6 f6; have q0 := NdB.kind b6; have z6 := f6.size)))
    obtain ⟨B0, HB0⟩ : ∃ B, Hid (B = w7.heap.size) := ⟨_, rfl⟩
    have z7 := f7.size
    have SS : TS w b vb g2 g4 B0 := ⟨by omega, by omega, by omega, by rw [HB0.out]; omega, fun k hk => by have := (RdJ.own r4 k hk).2; omega⟩
    have T0 : TL w b vb g2 g4 B0 p K w7 2 nilS nilS (toldE p 0) := by
      refine ⟨r7, b6.fr f7 (fun q => by unfold onB at q; omega), ?_, OwnR.none _ _, ?_, by rw [HB0.out]; exact Nat.le_refl _⟩
      · exact ((((b2.fr0 f3).fr f4 (fun q => by unfold onB at q; omega)).fr0 f5).ne f6 (by omega)).fr f7 (fun q => by unfold onB at q; omega)
      · exact ((((((f1.thenN f2).thenN f3).thenT f4 (fun i hi q => by unfold onB at q; omega)).thenN f5).thenT f6 (fun i hi q => by unfold onB1 at q; omega)).thenT f7 (fun i hi q => by unfold onB at q; omega))
    go_loopw [22] (fun i wr => ∃ (j : Nat) (u : Value), j ≤ c ∧ i = .int .i64 (j : Int) ∧ TL w b vb g2 g4 B0 p K wr (2 + 2 * j) u u (toldE p j)) (fun i _ => c - (intOf i).toNat)
    case atStart => exact ⟨0, nilS, Nat.zero_le _, rfl, T0⟩
    case round =>
      obtain ⟨j, u, hj, rfl, hT⟩ := hrel
      clear T0 b1 b2 b4 b6 f1 f2 f3 f4 f5 f6 f7 r3 r4 r7 q0
      by_cases hlt : j < c
      · have hlt' : (j : Int) < (c : Int) := by omega
        have hsn := show Hid _ from toldE_succ p j
        obtain ⟨L, HL⟩ : ∃ L, Hid (toldE p j = L) := ⟨_, rfl⟩
        have hLl : Hid (L.length ≤ 256) := by show _ ≤ _; rw [← HL.out, toldE_len]; omega
        obtain ⟨key, HKey⟩ : ∃ x, Hid (p.getD (2 + 2 * j) 0 = x) := ⟨_, rfl⟩
        obtain ⟨pg, HPg⟩ : ∃ x, Hid (p.getD (3 + 2 * j) 0 = x) := ⟨_, rfl⟩
        rw [HL.out] at hT hsn
        rw [HKey.out, HPg.out] at hsn
        go_wp2_with (first
          | (go_at_call 110; go_must (refine (nnumber_any b vb p (2 + 2 * j) _ Hp.out hb hT.1).mono ?_; rw [HKey.out]; rintro e w8 ⟨rfl, r8, f8⟩; have r8 : RdJ w8 b vb p (3 + 2 * j) := (by rw [show 3 + 2 * j = 2 + 2 * j + 1 by omega]; exact r8); have T8 := TL.num SS hT r8 f8)))
        obtain ⟨w0, HW⟩ : ∃ w0, Hid (w8.drew = w0) := ⟨_, rfl⟩
        have f0 : Fr noB w8 w0 := by rw [← HW.out]; exact (Fr.refl _ _).drew
        have T9 := TL.fr0 T8 f0
        have HJ0 : JTL w b vb g2 g4 B0 p K j u L key pg [] w8.drew := by rw [HW.out]; exact T9
        refine wp_region_chain_lay (by kernel_rfl) [4, 5, 6, 7, 9] [none, none, none, none, some 0, some 1, some 2, some 3, none, some 4]
          [fun v => v = .pointer (some ⟨g4, 17, none⟩), fun v => v = u, fun v => v = .int .i64 key, fun v => v = .pointer (some ⟨b, 0, none⟩), fun _ => True, fun _ => True, fun _ => True, fun _ => True, fun v => v = .pointer (some ⟨g4, 17, none⟩), fun _ => True]
          (JTL w b vb g2 g4 B0 p K j u L key pg) (HJ0) (by kernel_rfl) (by kernel_rfl) (by decide) ⟨?o0, ?o1, ?o2, ?o3, ?o4, ?o5, ?o6, ?o7, ?o8, ?o9, trivial⟩ ?oe
        case o0 =>
          intro A W hv hlen hJ hbase hdL hdH
          have e4 : A.eval (.tmp 4) = .pointer (some ⟨g4, 0, none⟩) := hbase 4 (by kernel_rfl)
          have f4 : A.tmps[4]?.getD undef = .pointer (some ⟨g4, 0, none⟩) := by simpa [Act.eval] using e4
          exact light_val rfl (v := .pointer (some ⟨g4, 17, none⟩)) (by simp [execOp, go_sem, e4, f4]) hJ rfl
        case o1 =>
          intro A W hv hlen hJ hbase hdL hdH
          have e26 : A.eval (.tmp 26) = .pointer (some ⟨g4, 17, none⟩) := hdL 0 26 (by kernel_rfl) (by kernel_rfl) (by kernel_rfl)
          have f26 : A.tmps[26]?.getD undef = .pointer (some ⟨g4, 17, none⟩) := by simpa [Act.eval] using e26
          have hb1 : hv.length ≤ 3 := hlen.2 3 7 rfl (by kernel_rfl)
          have hc := JTL.cell hJ hb1
          exact light_val rfl (v := u) (by simp [execOp, go_sem, e26, f26, hc]) hJ rfl
        case o2 =>
          intro A W hv hlen hJ hbase hdL hdH
          have e5 : A.eval (.tmp 5) = .int .i64 key := hbase 5 (by kernel_rfl)
          have f5 : A.tmps[5]?.getD undef = .int .i64 key := by simpa [Act.eval] using e5
          exact light_val rfl (v := .int .i64 key) (by simp [execOp, e5, f5]) hJ rfl
        case o3 =>
          intro A W hv hlen hJ hbase hdL hdH
          have e3 : A.eval (.tmp 3) = .pointer (some ⟨b, 0, none⟩) := hbase 3 (by kernel_rfl)
          have f3 : A.tmps[3]?.getD undef = .pointer (some ⟨b, 0, none⟩) := by simpa [Act.eval] using e3
          exact light_val rfl (v := .pointer (some ⟨b, 0, none⟩)) (by simp [execOp, e3, f3]) hJ rfl
        case o4 =>
          intro A W hv hlen hJ hbase hdL hdH
          have e29 : A.eval (.tmp 29) = .pointer (some ⟨b, 0, none⟩) := hdL 3 29 (by kernel_rfl) (by kernel_rfl) (by kernel_rfl)
          have f29 : A.tmps[29]?.getD undef = .pointer (some ⟨b, 0, none⟩) := by simpa [Act.eval] using e29
          obtain rfl : hv = [] := List.eq_nil_of_length_eq_zero hlen
          refine heavy_call rfl (args := #[.pointer (some ⟨b, 0, none⟩)]) (f := 110) (by simp [execOp, resolve, invoke, go_sem, e29, f29]) ?_
          refine (nnumber_any b vb p (3 + 2 * j) _ Hp.out hb hJ.1).mono ?_
          rw [HPg.out]
          rintro e w' ⟨rfl, r', f'⟩
          exact ⟨_, rfl, rfl, TL.num SS hJ (by rw [show 4 + 2 * j = 3 + 2 * j + 1 by omega]; exact r') f'⟩
        case o5 =>
          intro A W hv hlen hJ hbase hdL hdH
          have e28 : A.eval (.tmp 28) = .int .i64 key := hdL 2 28 (by kernel_rfl) (by kernel_rfl) (by kernel_rfl)
          have f28 : A.tmps[28]?.getD undef = .int .i64 key := by simpa [Act.eval] using e28
          match hv, hlen with
          | [t], _ =>
            obtain ⟨rfl, hT⟩ := hJ
            have e30 : A.eval (.tmp 30) = .int .i64 pg := by have := hdH 4 30 0 (by kernel_rfl) rfl (by kernel_rfl); simpa using this.symm
            have hr := run_build (P := Tryz.prog) W 40 #[(0, .int .i64 key), (1, .int .i64 pg)] _ (built_en key pg)
            exact heavy_val rfl (v := enV (key, pg)) (w' := W) (by simp [execOp, e28, e30, hr, Result.andThen, enV]) ⟨rfl, hT⟩
        case o6 =>
          intro A W hv hlen hJ hbase hdL hdH
          match hv, hlen with
          | [x0, t], _ =>
            obtain ⟨rfl, hT⟩ := hJ
            have e31 : A.eval (.tmp 31) = enV (key, pg) := by have := hdH 5 31 1 (by kernel_rfl) rfl (by kernel_rfl); simpa using this.symm
            have hr := run_mk1 (P := Tryz.prog) (ec := enC) (sz := 2) 31 Tryz.underlying31 _ en_info2 (by decide) (by decide) (key, pg) (enV (key, pg)) rfl rfl W
            refine heavy_val rfl (v := .slice (some ⟨W.heap.size, 0, none⟩) 1 1) (w' := W.alloc (.cells (enC (key, pg)).toArray 40)) (by simp [execOp, e31, hr, Result.andThen]) ?_
            exact ⟨_, rfl, cells_new W (enC (key, pg)) 40, TL.fr0 hT ((Fr.refl _ _).alloc _)⟩
        case o7 =>
          intro A W hv hlen hJ hbase hdL hdH
          have e27 : A.eval (.tmp 27) = u := hdL 1 27 (by kernel_rfl) (by kernel_rfl) (by kernel_rfl)
          have f27 : A.tmps[27]?.getD undef = u := by simpa [Act.eval] using e27
          match hv, hlen with
          | [x0, x1, t], _ =>
            obtain ⟨gx, rfl, hcx, hT⟩ := hJ
            have e32 : A.eval (.tmp 32) = .slice (some ⟨gx, 0, none⟩) 1 1 := by have := hdH 6 32 2 (by kernel_rfl) rfl (by kernel_rfl); simpa using this.symm
            refine heavy_wp rfl ?_
            refine wp_appR1 (ec := enC) (sz := 2) (base := B0) (.tmp 27) (.tmp 32) 31 rfl _ 16 Tryz.underlying31 en_info (by rfl) (by decide) _ e27 hT.2.2.2.1 gx e32 (key, pg) rfl hcx (en_one _) (by have := hLl.out; unfold maxLen; omega) (by have := hLl.out; omega) hT.2.2.2.2.2 ?_
            intro v' w' hO hg _
            exact ⟨v', rfl, TL.app SS hT hO hg⟩
        case o8 =>
          intro A W hv hlen hJ hbase hdL hdH
          have e4 : A.eval (.tmp 4) = .pointer (some ⟨g4, 0, none⟩) := hbase 4 (by kernel_rfl)
          have f4 : A.tmps[4]?.getD undef = .pointer (some ⟨g4, 0, none⟩) := by simpa [Act.eval] using e4
          exact light_val rfl (v := .pointer (some ⟨g4, 17, none⟩)) (by simp [execOp, go_sem, e4, f4]) hJ rfl
        case o9 =>
          intro A W hv hlen hJ hbase hdL hdH
          have e34 : A.eval (.tmp 34) = .pointer (some ⟨g4, 17, none⟩) := hdL 8 34 (by kernel_rfl) (by kernel_rfl) (by kernel_rfl)
          have f34 : A.tmps[34]?.getD undef = .pointer (some ⟨g4, 17, none⟩) := by simpa [Act.eval] using e34
          match hv, hlen with
          | [x0, x1, x2, t], _ =>
            have hT : TL w b vb g2 g4 B0 p K W (4 + 2 * j) u t (L ++ [(key, pg)]) := hJ
            have e33 : A.eval (.tmp 33) = t := by have := hdH 7 33 3 (by kernel_rfl) rfl (by kernel_rfl); simpa using this.symm
            have ht1 : t.oneCell' = true := by obtain ⟨a9, c9, rfl⟩ := hT.2.2.2.1.opn; rfl
            have hr := run_st1 (P := Tryz.prog) (off := 17) 31 size_sents t ht1 _ _ hT.2.1 (by rw [ndL_len _ _ _ (zerB_len 16)]; decide)
            refine heavy_wp rfl ?_
            unfold Oper.wp execOp
            simp only [e34, e33, Sem.run_bind, hr, Result.andThen_ok]
            exact ⟨_, rfl, t, TL.put SS hT⟩
        case oe =>
          intro vz W' hv hlen hJ hL' hH
          match hv, hlen with
          | [x0, x1, x2, x3, x4], _ =>
            obtain ⟨v9, hT9⟩ := hJ
            simp only [layL, Nat.reduceAdd, Act.put, List.setIfInBounds_toArray, List.set_cons_zero, List.set_cons_succ]
            clear hL' hH
            generalize vz 0 = y100 at *
            generalize vz 1 = y101 at *
            generalize vz 2 = y102 at *
            generalize vz 3 = y103 at *
            generalize vz 4 = y104 at *
            generalize vz 5 = y105 at *
            generalize vz 6 = y106 at *
            generalize vz 7 = y107 at *
            generalize vz 8 = y108 at *
            generalize vz 9 = y109 at *
            rw [← hsn.out] at hT9
            have hT9 : TL w b vb g2 g4 B0 p K W' (2 + 2 * (j + 1)) v9 v9 (toldE p (j + 1)) := by rw [show 2 + 2 * (j + 1) = 4 + 2 * j by omega]; exact hT9
            clear hsn
            go_wp2
            go_roundw
            case rel => exact ⟨j + 1, v9, by omega, by go_num, hT9⟩
            case measure => simp [intOf]; omega
      · obtain rfl : j = c := by omega
        have hlt' : ¬ (j : Int) < (j : Int) := by omega
        have hu : ∃ a n c, u = .slice a n c := by obtain ⟨a9, c9, rfl⟩ := hT.2.2.2.1.opn; exact ⟨_, _, _, rfl⟩
        have h4 := hT.2.1
        have h2 := hT.2.2.1
        have ho := hT.2.2.2.1
        have hf := hT.2.2.2.2.1
        have a1 := SS.a1
        have a2 := SS.a2
        have a3 := SS.a3
        have a4 := SS.a4
        go_wp2_with (first
          | (with_reducible refine at_wpP ?_; refine at_ld 72 _ rfl ?_; go_must (refine wpList_ldN rfl _ rfl g4 rfl _ (zerB 16) u h4 (zerB_len 16) ?_))
          | (with_reducible refine at_wpP ?_; refine at_st 72 _ _ rfl ?_; go_must (refine wpList_stN rfl _ _ rfl g2 rfl _ (zerB 16) u rfl (zerB_len 16) hu 0 (zerB 16) nilS h2 (zerB_len 16) ?_; intro w9 b9 f9)))
        have hw9 := toldE_wf hb j
        have hl9 := toldE_len p j
        have ho9 := ho.fr f9 (fun k hk q => by have := (ho.newB k hk).1; unfold onB1 at q; omega)
        refine bodyPost_ret (results_nd Tryz.results99 _ w9 g2 K (zerB 16) u rfl b9 (zerB_len 16)) rfl ⟨u, rfl, ?_, (fun k hk => by have := (ho.newB k hk).1; omega), hf.thenT f9 (fun i hi q => by unfold onB1 at q; omega), ho9.rebase (by omega)⟩
        exact ⟨⟨ho9.sl, hw9⟩, ⟨zerB_len 16, zerB_byt 16⟩, by show (toldE p j).length ≤ 1000; rw [hl9]; omega, wf_i64_sm hK⟩
end Go.Proofs.YtmkinaijkgkgiaaGreat
/- Open of package leaf. -/
namespace Go.Proofs.YtmkinaijkgkgiaaGreat
open Go.RowKit Go.Proofs.U
set_option linter.unusedSimpArgs false
set_option linter.unusedVariables false
/-- A node and an error's number as they are handed back. -/
def NOpenIs (w w' : World) (x : Nd × Int) (r : Ending) : Prop := ∃ v, r = .returned (.tuple #[ndV x.1.k x.1.b v, .int .i64 x.2]) ∧ NdS w' v x.1 ∧ (∀ k, v.ownBlock = some k → w.heap.size ≤ k) ∧ Fr noB w w'
/-- .. the entries a row of the call's own making. -/
def NOpenO (w w' : World) (x : Nd × Int) (r : Ending) : Prop := ∃ v, r = .returned (.tuple #[ndV x.1.k x.1.b v, .int .i64 x.2]) ∧ NdS w' v x.1 ∧ (∀ k, v.ownBlock = some k → w.heap.size ≤ k) ∧ Fr noB w w' ∧ OwnR enC 2 40 w' w.heap.size v x.1.es
theorem NOpenO.is {w w' : World} {x : Nd × Int} {r : Ending} (h : NOpenO w w' x r) : NOpenIs w w' x r := by
  obtain ⟨v, e, n, o, f, _⟩ := h
  exact ⟨v, e, n, o, f⟩
theorem NdS.frS {S : Nat → Prop} {w w' : World} {v : Value} {n : Nd} (h : NdS w v n) (f : Fr S w w') (hs : ∀ k, v.ownBlock = some k → ¬ S k) : NdS w' v n := ⟨⟨h.1.1.fr f hs, h.1.2⟩, h.2⟩

theorem NdS.bl {w : World} {v : Value} {n : Nd} (h : NdS w v n) : Hid (n.b.length = 16) := h.2.1.1
set_option maxRecDepth 100000 in
set_option maxHeartbeats 2000000 in
theorem nopen_own (p : List Int) (hp : p.length = 256) (hb : Byt p) (w : World) :
    Calls Tryz.prog 83 #[pgV p] w fun r w' => NOpenO w w' (opN p) r := by
  have Hp := show Hid _ from hp
  rw [opN_told hp hb]
  have ht := fun w => told_own p hp hb w
  obtain ⟨N, HN⟩ : ∃ N, Hid (toldN p = N) := ⟨_, rfl⟩
  rw [HN.out] at ht ⊢
  obtain ⟨Z, HZ⟩ : ∃ Z, Hid (zerB 256 = Z) := ⟨_, rfl⟩
  have hZl : Hid (Z.length = 256) := by show _ = _; rw [← HZ.out]; exact zerB_len 256
  cases hr : N.right with
  | false =>
    rw [Bool.false_and]
    clear hp
    go_enter Tryz.func83, Tryz.ntmps83
    go_wp2_with (first
      | (with_reducible refine at_wpP ?_; refine wpList_boxV rfl 96 _ rfl (pgv p) rfl ?_; intro g1 w1 hg1 b1 f1 s1; have l1 := b1.lt; have z1 := f1.size)
      | (with_reducible refine at_wpP ?_; have q := n3; refine wpList_allocN rfl rfl ?_; intro g4 w4 hg4 b4 f4 s4; have l4 := b4.lt; have z4 := f4.size)
      | (with_reducible refine at_wpP ?_; refine wpList_allocN rfl rfl ?_; intro g2 w2 hg2 b2 f2 s2; have l2 := b2.lt; have z2 := f2.size)
      | (with_reducible refine at_wpP ?_; refine at_ld 96 _ rfl ?_; have q := b2; refine wpList_loadA arr_page rfl _ rfl g1 rfl p (b1.fr0 f2) Hp.out ?_)
      | (go_at_call 99; go_must (refine (ht _).mono ?_; rintro e w3 ⟨v, rfl, n3, o3, f3, q3⟩; have z3 := f3.size; have hv := NdS.sl n3; have hbl := NdS.bl n3))
      | (with_reducible refine at_wpP ?_; refine at_st 72 _ _ rfl ?_; have q := b4; refine wpList_stN rfl _ _ rfl g4 rfl N.k N.b v rfl hbl.out hv 0 (zerB 16) nilS b4 (zerB_len 16) ?_; intro w5 b5 f5; have z5 := f5.size; have F5 := Fr.ownX f4 s4 f5)
      | (with_reducible refine at_wpP ?_; refine at_ld 72 _ rfl ?_; have q := b5; go_must (refine wpList_ldN rfl _ rfl g4 rfl N.k N.b v b5 hbl.out ?_))
      | (go_at_call 45; go_must (refine (page_no N v _ (n3.fr0 F5) hr).mono ?_; rw [HZ.out]; rintro e w6 ⟨rfl, f6⟩; have z6 := f6.size))
      | (with_reducible refine at_wpP ?_; have q := f6; refine wpList_allocA arr_page rfl rfl ?_; rw [HZ.out]; intro g7 w7 hg7 b7 f7 s7; have l7 := b7.lt; have z7 := f7.size)
      | (with_reducible refine at_wpP ?_; refine at_st 96 _ _ rfl ?_; go_must (refine wpList_storeA arr_page rfl _ _ rfl g7 rfl Z rfl _ b7 hZl.out hZl.out ?_; intro w8 b8 f8; have z8 := f8.size; have F8 : Fr noB w3 w8 := (F5.thenN f6).thenN (Fr.ownX f7 s7 f8)))
      | (with_reducible refine at_wpP ?_; refine wpList_bldN rfl _ rfl 0 (zerB 16) nilS [] rfl built_nd0 ?_)
      | (with_reducible refine at_wpP ?_; refine at_st 72 _ _ rfl ?_; have q := b8; go_must (refine wpList_stN rfl _ _ rfl g2 rfl 0 (zerB 16) nilS rfl (zerB_len 16) ⟨_, _, _, rfl⟩ 0 (zerB 16) nilS ((b2.fr0 f3).fr0 F8) (zerB_len 16) ?_; intro w9 b9 f9)))
    have F9 : Fr noB w w9 := (((f1.thenN f2).thenN f3).thenN F8).thenT f9 (fun i hi q => by unfold onB1 at q; omega)
    exact bodyPost_ret (results_nd2 Tryz.results83 _ w9 g2 0 (zerB 16) nilS rfl b9 (zerB_len 16)) rfl ⟨nilS, rfl, NdS.none w9, (fun k hk => by cases hk), F9, OwnR.none _ _⟩
  | true =>
    rw [Bool.true_and]
    obtain ⟨R, HR⟩ : ∃ R, Hid (N.page = R) := ⟨_, rfl⟩
    have hpk := fun (vs : Value) (w : World) h => page_ok N vs w h hr
    have hRl0 : N.b.length = 16 → Hid (R.length = 256) := fun h => by show _ = _; rw [← HR.out]; exact page_len hr h
    rw [HR.out] at hpk ⊢
    obtain ⟨B, HB⟩ : ∃ B, Hid ((R == p) = B) := ⟨_, rfl⟩
    rw [HB.out]
    clear hp
    cases B with
    | false =>
      go_enter Tryz.func83, Tryz.ntmps83
      go_wp2_with (first
        | (with_reducible refine at_wpP ?_; refine wpList_boxV rfl 96 _ rfl (pgv p) rfl ?_; intro g1 w1 hg1 b1 f1 s1; have l1 := b1.lt; have z1 := f1.size)
        | (with_reducible refine at_wpP ?_; have q := n3; refine wpList_allocN rfl rfl ?_; intro g4 w4 hg4 b4 f4 s4; have l4 := b4.lt; have z4 := f4.size)
        | (with_reducible refine at_wpP ?_; refine wpList_allocN rfl rfl ?_; intro g2 w2 hg2 b2 f2 s2; have l2 := b2.lt; have z2 := f2.size)
        | (with_reducible refine at_wpP ?_; refine at_ld 96 _ rfl ?_; have q := b8; go_must (first | refine wpList_loadA arr_page rfl _ rfl g7 rfl R b8 hRl.out ?_ | refine wpList_loadA arr_page rfl _ rfl g1 rfl p (((b1.fr0 f2).fr0 f3).fr0 F8) Hp.out ?_))
        | (with_reducible refine at_wpP ?_; refine at_ld 96 _ rfl ?_; have q := b2; refine wpList_loadA arr_page rfl _ rfl g1 rfl p (b1.fr0 f2) Hp.out ?_)
        | (go_at_call 99; go_must (refine (ht _).mono ?_; rintro e w3 ⟨v, rfl, n3, o3, f3, q3⟩; have z3 := f3.size; have hv := NdS.sl n3; have hbl := NdS.bl n3; have hRl := hRl0 hbl.out))
        | (with_reducible refine at_wpP ?_; refine at_st 72 _ _ rfl ?_; have q := b4; refine wpList_stN rfl _ _ rfl g4 rfl N.k N.b v rfl hbl.out hv 0 (zerB 16) nilS b4 (zerB_len 16) ?_; intro w5 b5 f5; have z5 := f5.size; have F5 := Fr.ownX f4 s4 f5)
        | (with_reducible refine at_wpP ?_; refine at_ld 72 _ rfl ?_; have q := b5; refine wpList_ldN rfl _ rfl g4 rfl N.k N.b v b5 hbl.out ?_)
        | (go_at_call 45; go_must (refine (hpk v _ (n3.fr0 F5)).mono ?_; rintro e w6 ⟨rfl, f6⟩; have z6 := f6.size))
        | (with_reducible refine at_wpP ?_; have q := f6; refine wpList_allocA arr_page rfl rfl ?_; rw [HZ.out]; intro g7 w7 hg7 b7 f7 s7; have l7 := b7.lt; have z7 := f7.size)
        | (with_reducible refine at_wpP ?_; refine at_st 96 _ _ rfl ?_; go_must (refine wpList_storeA arr_page rfl _ _ rfl g7 rfl R rfl _ b7 hRl.out hZl.out ?_; intro w8 b8 f8; have z8 := f8.size; have F8 : Fr noB w3 w8 := (F5.thenN f6).thenN (Fr.ownX f7 s7 f8); have B5 : NdB w8 g4 N.k N.b v := (b5.fr0 f6).fr0 (Fr.ownX f7 s7 f8)))
        | (with_reducible refine at_wpP ?_; refine wpList_neqA arr_page rfl _ _ _ rfl R p rfl rfl hRl.out Hp.out ?_; rw [HB.out])
        | (with_reducible refine at_wpP ?_; refine wpList_bldN rfl _ rfl 0 (zerB 16) nilS [] rfl built_nd0 ?_)
        | (with_reducible refine at_wpP ?_; refine at_st 72 _ _ rfl ?_; have q := b8; go_must (refine wpList_stN rfl _ _ rfl g2 rfl 0 (zerB 16) nilS rfl (zerB_len 16) ⟨_, _, _, rfl⟩ 0 (zerB 16) nilS ((b2.fr0 f3).fr0 F8) (zerB_len 16) ?_; intro w9 b9 f9)))
      have F9 : Fr noB w w9 := (((f1.thenN f2).thenN f3).thenN F8).thenT f9 (fun i hi q => by unfold onB1 at q; omega)
      exact bodyPost_ret (results_nd2 Tryz.results83 _ w9 g2 0 (zerB 16) nilS rfl b9 (zerB_len 16)) rfl ⟨nilS, rfl, NdS.none w9, (fun k hk => by cases hk), F9, OwnR.none _ _⟩
    | true =>
      go_enter Tryz.func83, Tryz.ntmps83
      go_wp2_with (first
        | (with_reducible refine at_wpP ?_; refine wpList_boxV rfl 96 _ rfl (pgv p) rfl ?_; intro g1 w1 hg1 b1 f1 s1; have l1 := b1.lt; have z1 := f1.size)
        | (with_reducible refine at_wpP ?_; have q := n3; refine wpList_allocN rfl rfl ?_; intro g4 w4 hg4 b4 f4 s4; have l4 := b4.lt; have z4 := f4.size)
        | (with_reducible refine at_wpP ?_; refine wpList_allocN rfl rfl ?_; intro g2 w2 hg2 b2 f2 s2; have l2 := b2.lt; have z2 := f2.size)
        | (with_reducible refine at_wpP ?_; refine at_ld 96 _ rfl ?_; have q := b8; go_must (first | refine wpList_loadA arr_page rfl _ rfl g7 rfl R b8 hRl.out ?_ | refine wpList_loadA arr_page rfl _ rfl g1 rfl p (((b1.fr0 f2).fr0 f3).fr0 F8) Hp.out ?_))
        | (with_reducible refine at_wpP ?_; refine at_ld 96 _ rfl ?_; have q := b2; refine wpList_loadA arr_page rfl _ rfl g1 rfl p (b1.fr0 f2) Hp.out ?_)
        | (go_at_call 99; go_must (refine (ht _).mono ?_; rintro e w3 ⟨v, rfl, n3, o3, f3, q3⟩; have z3 := f3.size; have hv := NdS.sl n3; have hbl := NdS.bl n3; have hRl := hRl0 hbl.out))
        | (with_reducible refine at_wpP ?_; refine at_st 72 _ _ rfl ?_; have q := b4; refine wpList_stN rfl _ _ rfl g4 rfl N.k N.b v rfl hbl.out hv 0 (zerB 16) nilS b4 (zerB_len 16) ?_; intro w5 b5 f5; have z5 := f5.size; have F5 := Fr.ownX f4 s4 f5)
        | (with_reducible refine at_wpP ?_; refine at_ld 72 _ rfl ?_; have q := b5; refine wpList_ldN rfl _ rfl g4 rfl N.k N.b v b5 hbl.out ?_)
        | (go_at_call 45; go_must (refine (hpk v _ (n3.fr0 F5)).mono ?_; rintro e w6 ⟨rfl, f6⟩; have z6 := f6.size))
        | (with_reducible refine at_wpP ?_; have q := f6; refine wpList_allocA arr_page rfl rfl ?_; rw [HZ.out]; intro g7 w7 hg7 b7 f7 s7; have l7 := b7.lt; have z7 := f7.size)
        | (with_reducible refine at_wpP ?_; refine at_st 96 _ _ rfl ?_; go_must (refine wpList_storeA arr_page rfl _ _ rfl g7 rfl R rfl _ b7 hRl.out hZl.out ?_; intro w8 b8 f8; have z8 := f8.size; have F8 : Fr noB w3 w8 := (F5.thenN f6).thenN (Fr.ownX f7 s7 f8); have B5 : NdB w8 g4 N.k N.b v := (b5.fr0 f6).fr0 (Fr.ownX f7 s7 f8)))
        | (with_reducible refine at_wpP ?_; refine wpList_neqA arr_page rfl _ _ _ rfl R p rfl rfl hRl.out Hp.out ?_; rw [HB.out])
        | (with_reducible refine at_wpP ?_; refine at_ld 72 _ rfl ?_; have q := b8; go_must (refine wpList_ldN rfl _ rfl g4 rfl N.k N.b v B5 hbl.out ?_))
        | (with_reducible refine at_wpP ?_; refine at_st 72 _ _ rfl ?_; have q := b8; go_must (refine wpList_stN rfl _ _ rfl g2 rfl N.k N.b v rfl hbl.out hv 0 (zerB 16) nilS ((b2.fr0 f3).fr0 F8) (zerB_len 16) ?_; intro w9 b9 f9)))
      have F9 : Fr noB w w9 := (((f1.thenN f2).thenN f3).thenN F8).thenT f9 (fun i hi q => by unfold onB1 at q; omega)
      exact bodyPost_ret (results_nd2 Tryz.results83 _ w9 g2 N.k N.b v rfl b9 hbl.out) rfl ⟨v, rfl, (n3.fr0 F8).frS f9 (fun k hk q => by have := o3 k hk; unfold onB1 at q; omega), (fun k hk => by have := o3 k hk; omega), F9, ((q3.fr0 F8).fr f9 (fun k hk q => by have := o3 k hk; unfold onB1 at q; omega)).rebase (by omega)⟩
end Go.Proofs.YtmkinaijkgkgiaaGreat
/- A pool of pages, plain: what is done with it, and what stays as it is; no condition. -/
namespace Go.Proofs.YtmkinaijkgkgiaaGreat
open Go.RowKit Go.Proofs.U
set_option linter.unusedSimpArgs false
set_option linter.unusedVariables false
/-- A page: its count, and what it is: still 0, fresh 1, young 2, spent 3, it goes 4. -/
structure Pg where
  c : Int
  s : Nat
def Pg0 : Pg := ⟨0, 0⟩
def Pg.free (x : Pg) : Bool := x.c == 0 && x.s == 0
def Pg.held (x : Pg) : Bool := !(x.c == 0) || (x.s == 1 || x.s == 2)
def Pg.ok (x : Pg) : Prop := 0 ≤ x.c ∧ x.c ≤ 255 ∧ x.s ≤ 4 ∧ (3 ≤ x.s → x.c = 0)
theorem Pg0_ok : Pg0.ok := by unfold Pg.ok Pg0; simp
def plN (n : Int) : Nat := (min (max n 0) 240).toNat
def plNew (n : Int) : List Pg := List.replicate (plN n) Pg0
theorem plN_le (n : Int) : plN n ≤ 240 := by unfold plN; omega
theorem plNew_len (n : Int) : (plNew n).length = plN n := List.length_replicate
def plIn (L : List Pg) (i : Int) : Bool := decide (0 ≤ i) && decide (i < (L.length : Int))
def plAt (L : List Pg) (i : Nat) : Pg := L.getD i Pg0
def plOk (L : List Pg) : Prop := L.length ≤ 240 ∧ ∀ i, (plAt L i).ok
theorem plAt_get (L : List Pg) (i : Nat) (h : i < L.length) : plAt L i = L[i] := by simp [plAt, List.getD, h]
theorem plAt_out (L : List Pg) (i : Nat) (h : L.length ≤ i) : plAt L i = Pg0 := by simp [plAt, List.getD, h]
theorem plAt_set (L : List Pg) (k : Nat) (x : Pg) (i : Nat) (hk : k < L.length) : plAt (L.set k x) i = if i = k then x else plAt L i := by
  unfold plAt
  simp only [List.getD]
  rw [List.getElem?_set]
  by_cases h : k = i
  · subst h; simp [hk]
  · rw [if_neg h, if_neg (fun e => h e.symm)]
theorem plAt_map (L : List Pg) (f : Pg → Pg) (h0 : f Pg0 = Pg0) (i : Nat) : plAt (L.map f) i = f (plAt L i) := by
  by_cases h : i < L.length
  · rw [plAt_get _ _ (by simpa using h), plAt_get _ _ h]; simp
  · rw [plAt_out _ _ (by simpa using h), plAt_out _ _ (by omega), h0]
theorem plNew_ok (n : Int) : plOk (plNew n) := by
  refine ⟨by rw [plNew_len]; exact plN_le n, fun i => ?_⟩
  have : plAt (plNew n) i = Pg0 := by
    unfold plAt plNew
    simp only [List.getD, List.getElem?_replicate]
    split <;> rfl
  rw [this]; exact Pg0_ok
/-- The least free one is taken. -/
def plTake (L : List Pg) : List Pg × Int × Int :=
  match L.findIdx? Pg.free with
  | some i => (L.set i ⟨0, 1⟩, (i : Int), 0)
  | none => (L, 0, 71)
theorem plTake_some (L : List Pg) (k : Nat) (hk : k < L.length) (hf : (plAt L k).free = true) (h : ∀ j, j < k → (plAt L j).free = false) : plTake L = (L.set k ⟨0, 1⟩, (k : Int), 0) := by
  have : L.findIdx? Pg.free = some k := by
    rw [List.findIdx?_eq_some_iff_getElem]
    refine ⟨hk, by rw [← plAt_get L k hk]; exact hf, fun j hj => ?_⟩
    have := h j hj
    rw [plAt_get L j (by omega)] at this
    simpa using this
  unfold plTake
  rw [this]
theorem plTake_none (L : List Pg) (h : ∀ j, j < L.length → (plAt L j).free = false) : plTake L = (L, 0, 71) := by
  have : L.findIdx? Pg.free = none := by
    rw [List.findIdx?_eq_none_iff]
    intro x hx
    obtain ⟨j, hj, rfl⟩ := List.mem_iff_getElem.1 hx
    have := h j hj
    rwa [plAt_get L j hj] at this
  unfold plTake
  rw [this]
theorem plTake_cases (L : List Pg) : (∃ k, k < L.length ∧ (plAt L k).free = true ∧ (∀ j, j < k → (plAt L j).free = false) ∧ plTake L = (L.set k ⟨0, 1⟩, (k : Int), 0)) ∨ ((∀ j, j < L.length → (plAt L j).free = false) ∧ plTake L = (L, 0, 71)) := by
  by_cases h : ∀ j, j < L.length → (plAt L j).free = false
  · exact Or.inr ⟨h, plTake_none L h⟩
  · cases hf : L.findIdx? Pg.free with
    | none =>
      exfalso; apply h
      intro j hj
      have := List.findIdx?_eq_none_iff.1 hf L[j] (by simp)
      rwa [plAt_get L j hj]
    | some k =>
      obtain ⟨hk, h1, h2⟩ := List.findIdx?_eq_some_iff_getElem.1 hf
      refine Or.inl ⟨k, hk, by rw [plAt_get L k hk]; exact h1, fun j hj => ?_, ?_⟩
      · rw [plAt_get L j (by omega)]; simpa using h2 j hj
      · unfold plTake; rw [hf]
def plHold (L : List Pg) (i : Int) : List Pg × Int :=
  if plIn L i && (plAt L i.toNat).held then (if (plAt L i.toNat).c = 255 then (L, 72) else (L.set i.toNat ⟨(plAt L i.toNat).c + 1, (plAt L i.toNat).s⟩, 0)) else (L, 73)
def dropS (s : Nat) : Nat := if s = 1 then 0 else if s = 2 then 3 else 4
def plDrop (L : List Pg) (i : Int) : List Pg × Bool × Int :=
  if plIn L i && (plAt L i.toNat).held then (if 1 < (plAt L i.toNat).c then (L.set i.toNat ⟨(plAt L i.toNat).c - 1, (plAt L i.toNat).s⟩, false, 0) else (L.set i.toNat ⟨0, dropS (plAt L i.toNat).s⟩, true, 0)) else (L, false, 73)
def markP (x : Pg) : Pg := if x.s = 1 then ⟨x.c, 2⟩ else x
def tidyP (x : Pg) : Pg := if x.s = 3 then ⟨x.c, 0⟩ else x
def plMark (L : List Pg) : List Pg := L.map markP
def plTidy (L : List Pg) : List Pg := L.map tidyP
/-- How many are free. -/
def plFree (L : List Pg) : Nat := L.countP Pg.free
theorem plFree_le (L : List Pg) : plFree L ≤ L.length := List.countP_le_length
theorem plFree_succ (L : List Pg) (k : Nat) (h : k < L.length) : plFree (L.take (k + 1)) = plFree (L.take k) + if (plAt L k).free then 1 else 0 := by
  unfold plFree
  rw [List.take_succ_eq_append_getElem h, List.countP_append, plAt_get L k h]
  congr 1
  simp [List.countP_cons]
/-- All counts, noughts behind those that there are. -/
def plCounts (L : List Pg) : List Int := (List.range 240).map fun i => (plAt L i).c
theorem plCounts_len (L : List Pg) : (plCounts L).length = 240 := by simp [plCounts]
theorem plIn_lt {L : List Pg} {i : Int} (h : plIn L i = true) : i.toNat < L.length ∧ ((i.toNat : Nat) : Int) = i := by
  simp [plIn] at h; omega
theorem take_len (L : List Pg) : (plTake L).1.length = L.length := by
  rcases plTake_cases L with ⟨k, _, _, _, h⟩ | ⟨_, h⟩ <;> rw [h]
  simp
theorem hold_len (L : List Pg) (i : Int) : (plHold L i).1.length = L.length := by
  unfold plHold
  split
  · split
    · rfl
    · simp
  · rfl
theorem drop_len (L : List Pg) (i : Int) : (plDrop L i).1.length = L.length := by
  unfold plDrop
  split
  · split <;> simp
  · rfl
theorem mark_len (L : List Pg) : (plMark L).length = L.length := by simp [plMark]
theorem tidy_len (L : List Pg) : (plTidy L).length = L.length := by simp [plTidy]
/-- What holds of each page and its place, and stays, whatever is done with it alone. -/
theorem take_all {R : Nat → Pg → Prop} {L : List Pg} (h : ∀ i, R i (plAt L i)) (hs : ∀ i x, R i x → x.free = true → R i ⟨0, 1⟩) : ∀ i, R i (plAt (plTake L).1 i) := by
  intro i
  rcases plTake_cases L with ⟨k, hk, hf, _, e⟩ | ⟨_, e⟩ <;> rw [e]
  · show R i (plAt (L.set k ⟨0, 1⟩) i)
    rw [plAt_set _ _ _ _ hk]
    split
    · rename_i hik; subst hik; exact hs i _ (h i) hf
    · exact h i
  · exact h i
theorem hold_all {R : Nat → Pg → Prop} {L : List Pg} (h : ∀ i, R i (plAt L i)) (k : Int) (hs : ∀ i x, R i x → x.held = true → x.c ≠ 255 → R i ⟨x.c + 1, x.s⟩) : ∀ i, R i (plAt (plHold L k).1 i) := by
  intro i
  unfold plHold
  split
  · rename_i hc
    simp only [Bool.and_eq_true] at hc
    split
    · exact h i
    · rename_i h255
      show R i (plAt (L.set k.toNat _) i)
      rw [plAt_set _ _ _ _ (plIn_lt hc.1).1]
      split
      · rename_i hik; subst hik; exact hs _ _ (h _) hc.2 h255
      · exact h i
  · exact h i
theorem drop_all {R : Nat → Pg → Prop} {L : List Pg} (h : ∀ i, R i (plAt L i)) (k : Int) (h1 : ∀ i x, R i x → x.held = true → 1 < x.c → R i ⟨x.c - 1, x.s⟩) (h2 : ∀ i x, R i x → x.held = true → ¬ 1 < x.c → R i ⟨0, dropS x.s⟩) : ∀ i, R i (plAt (plDrop L k).1 i) := by
  intro i
  unfold plDrop
  split
  · rename_i hc
    simp only [Bool.and_eq_true] at hc
    split
    · rename_i h255
      show R i (plAt (L.set k.toNat _) i)
      rw [plAt_set _ _ _ _ (plIn_lt hc.1).1]
      split
      · rename_i hik; subst hik; exact h1 _ _ (h _) hc.2 h255
      · exact h i
    · rename_i h255
      show R i (plAt (L.set k.toNat _) i)
      rw [plAt_set _ _ _ _ (plIn_lt hc.1).1]
      split
      · rename_i hik; subst hik; exact h2 _ _ (h _) hc.2 h255
      · exact h i
  · exact h i
theorem mark0 : markP Pg0 = Pg0 := rfl
theorem tidy0 : tidyP Pg0 = Pg0 := rfl
theorem mark_all {R : Nat → Pg → Prop} {L : List Pg} (h : ∀ i, R i (plAt L i)) (hs : ∀ i x, R i x → R i (markP x)) : ∀ i, R i (plAt (plMark L) i) := by
  intro i; unfold plMark; rw [plAt_map _ _ mark0]; exact hs i _ (h i)
theorem tidy_all {R : Nat → Pg → Prop} {L : List Pg} (h : ∀ i, R i (plAt L i)) (hs : ∀ i x, R i x → R i (tidyP x)) : ∀ i, R i (plAt (plTidy L) i) := by
  intro i; unfold plTidy; rw [plAt_map _ _ tidy0]; exact hs i _ (h i)
theorem dropS_le (s : Nat) : dropS s ≤ 4 := by unfold dropS; split; omega; split <;> omega
theorem take_ok {L : List Pg} (h : plOk L) : plOk (plTake L).1 := ⟨by rw [take_len]; exact h.1, take_all (R := fun _ x => x.ok) h.2 (fun _ x _ _ => by unfold Pg.ok; simp)⟩
theorem hold_ok {L : List Pg} (h : plOk L) (i : Int) : plOk (plHold L i).1 := ⟨by rw [hold_len]; exact h.1, hold_all (R := fun _ x => x.ok) h.2 i (fun _ x hx hh h255 => by
  unfold Pg.ok at *
  unfold Pg.held at hh
  simp at hh
  refine ⟨by show 0 ≤ x.c + 1; omega, by show x.c + 1 ≤ 255; omega, hx.2.2.1, fun h3 => ?_⟩
  have := hx.2.2.2 h3
  have h3 : 3 ≤ x.s := h3
  omega)⟩
theorem drop_ok {L : List Pg} (h : plOk L) (i : Int) : plOk (plDrop L i).1 := ⟨by rw [drop_len]; exact h.1, drop_all (R := fun _ x => x.ok) h.2 i (fun _ x hx hh h1 => by
  unfold Pg.ok at *
  refine ⟨by show 0 ≤ x.c - 1; omega, by show x.c - 1 ≤ 255; omega, hx.2.2.1, fun h3 => ?_⟩
  have := hx.2.2.2 h3
  omega) (fun _ x hx hh h1 => by unfold Pg.ok; exact ⟨Int.le_refl _, (by decide : (0 : Int) ≤ 255), dropS_le _, fun _ => rfl⟩)⟩
theorem mark_ok {L : List Pg} (h : plOk L) : plOk (plMark L) := ⟨by rw [mark_len]; exact h.1, mark_all (R := fun _ x => x.ok) h.2 (fun _ x hx => by
  unfold markP
  split
  · unfold Pg.ok at *; exact ⟨hx.1, hx.2.1, (by decide : 2 ≤ 4), fun h => by simp at h⟩
  · exact hx)⟩
theorem tidy_ok {L : List Pg} (h : plOk L) : plOk (plTidy L) := ⟨by rw [tidy_len]; exact h.1, tidy_all (R := fun _ x => x.ok) h.2 (fun _ x hx => by
  unfold tidyP
  split
  · unfold Pg.ok at *; exact ⟨hx.1, hx.2.1, (by decide : 0 ≤ 4), fun h => by simp at h⟩
  · exact hx)⟩
end Go.Proofs.YtmkinaijkgkgiaaGreat
