/- Texts V13, CV, V14, D6, D3a, D5, CM2, D4, V16, OpenC of the proof of RootSpoilt, one behind the other. -/
import Derived.Test.YtijgfojnppcbjaaRows
import Derived.Deep.Matrix
import Derived.Test.YtijgfojnppcbjaaBundleRootSpoilt1
import Derived.Test.YtijgfojnppcbjaaBundleRootSpoilt2
import Derived.Test.YtijgfojnppcbjaaBundleRootSpoilt3
import Derived.Test.YtijgfojnppcbjaaBundleRootSpoilt4
import Derived.Test.YtijgfojnppcbjaaBundleRootSpoilt5
import Derived.Test.YtijgfojnppcbjaaBundleRootSpoilt6
import Derived.Test.YtijgfojnppcbjaaBundleRootSpoilt7
import Derived.Test.YtijgfojnppcbjaaBundleRootSpoilt8
import Derived.Test.YtijgfojnppcbjaaBundleRootSpoilt9
import Derived.Test.YtijgfojnppcbjaaBundleRootSpoilt10
import Derived.Test.YtijgfojnppcbjaaBundleRootSpoilt11
import Derived.Test.YtijgfojnppcbjaaBundleRootSpoilt12
import Derived.Test.YtijgfojnppcbjaaBundleRootSpoilt13
/- The example that layer 5's statements ask first; RootNames. -/
namespace Go.Proofs.Ytijgfojnppcbjaa
open Go.RowKit Go.Proofs.U
set_option linter.unusedSimpArgs false
set_option linter.unusedVariables false
theorem newD_byt (n : Int) : (newD n).byt := by
  refine ⟨?_, by intro x hx; simp [newD] at hx⟩
  intro p hp
  have : p = zeroP := List.eq_of_mem_replicate hp
  rw [this]; exact zeroP_byt
def XA : DSt := (rWrite (newD 4) [97, 98]).1
theorem aliveW : (rWrite (newD 4) [97, 98]).2 = (1, 0) := by kernel_rfl
theorem aliveR : rRead XA = ([97, 98], 1, 0) := by kernel_rfl
theorem aliveN : XA.pend.length = 0 := by kernel_rfl
theorem write_byt {X : DSt} (h : X.byt) (i : Int) {p : List Int} (hp : Byt p) : (X.write i p).byt := by
  unfold DSt.write
  split
  · split
    · refine ⟨h.1, ?_⟩
      intro x hx
      have hx : x ∈ X.pend ++ [(i, p)] := hx
      rcases List.mem_append.1 hx with hx | hx
      · exact h.2 x hx
      · simp at hx; subst hx; exact hp
    · exact h
  · exact h
theorem getD_byt {L : List (List Int)} (h : ∀ p ∈ L, Byt p) (i : Nat) : Byt (L.getD i []) := by
  by_cases hj : i < L.length
  · have : L.getD i [] = L[i] := by simp [List.getD, hj]
    rw [this]; exact h _ (by simp)
  · have : L.getD i [] = [] := by simp [List.getD, hj]
    rw [this]; intro n hn; simp at hn
theorem setS_byt {pages : List (List Int)} {pend : List (Int × List Int)} (h1 : ∀ p ∈ pages, Byt p) (h2 : ∀ x ∈ pend, Byt x.2) (st : Nat → Nat → Bool) (k : Nat) : ∀ p ∈ setS pages pend st k, Byt p := by
  have nb : Byt [] := by intro n hn; simp at hn
  induction k with
  | zero => exact h1
  | succ k ih =>
    rw [setS_succ]
    unfold setS1
    intro p hp
    rcases List.mem_or_eq_of_mem_set hp with hp | rfl
    · exact ih p hp
    · refine mixS_byt ?_ ?_ _
      · exact getD_byt ih _
      · by_cases hj : k < pend.length
        · have : pend.getD k (0, []) = pend[k] := by simp [List.getD, hj]
          rw [this]; exact h2 _ (by simp)
        · have : pend.getD k (0, []) = (0, []) := by simp [List.getD, hj]
          rw [this]; exact nb
theorem act_byt {X : DSt} (h : X.byt) : X.act.byt := h
theorem sync_byt {X : DSt} (h : X.byt) : X.sync.byt := by
  unfold DSt.sync
  split
  · exact ⟨setS_byt h.1 h.2 _ _, by intro x hx; simp [DSt.settle] at hx⟩
  · exact h
theorem crash_byt {X : DSt} (h : X.byt) (keep : List Int) : (X.crash keep).byt := ⟨setS_byt h.1 h.2 _ _, by intro x hx; simp [DSt.crash] at hx⟩
theorem rWrite_byt {X : DSt} (h : X.byt) {c : List Int} (hc : Byt c) : (rWrite X c).1.byt := by
  unfold rWrite
  split
  · exact h
  · split
    · exact h
    · have h1 : (X.write ((rNext X).1 % 2) (rootP (rNext X).1 c)).byt := write_byt h _ (rootP_byt _ hc)
      dsimp only
      split
      · exact h1
      · split
        · exact sync_byt h1
        · exact sync_byt h1
theorem str97 : ((strOfNums [97, 98]).toList == [97, 98]) = true := by decide +kernel

set_option maxRecDepth 100000 in
set_option maxHeartbeats 2000000 in
theorem ralive_any (w : World) : Calls Try.prog 12 #[] w fun r w' => r = .returned (.bool true) ∧ Fr noB w w' := by
  have hst := str97
  have hby := newD_byt 4
  have hw := aliveW
  have hrd := aliveR
  have hpn := aliveN
  have hbX : XA.byt := rWrite_byt hby (by intro n hn; simp at hn; rcases hn with rfl | rfl <;> decide)
  have hX : (rWrite (newD 4) [97, 98]).1 = XA := rfl
  obtain ⟨X1, HX1⟩ : ∃ X, Hid (XA = X) := ⟨_, rfl⟩
  have hp0 : (newD 4).pend.length ≤ 90000 := by decide
  obtain ⟨X0, HX0⟩ : ∃ X, Hid (newD 4 = X) := ⟨_, rfl⟩
  rw [HX1.out] at hrd hpn hbX hX
  rw [HX0.out] at hby hw hX hp0
  have hwr := show Hid _ from fun (F : Nat → Prop) (g : Nat) (v : Value) (W : World) (h : Disk W F g X0) (hS : SlI .u8 W v [97, 98]) => rwrite_p g v [97, 98] W h hp0 hby hS
  simp only [hw, hX] at hwr
  have hrr := show Hid _ from fun (F : Nat → Prop) (g : Nat) (W : World) (h : Disk W F g X1) => rread_p g W h (by omega) hbX
  unfold ReadIs at hrr
  simp only [hrd] at hrr
  clear hw hrd hX hby hbX hpn hp0
  go_enter Try.func12, Try.ntmps12
  go_wp2_with (first
    | (go_at_call 8; go_must (refine (new_any 4 (by omega) _).mono ?_; rw [HX0.out]; rintro e w1 ⟨g, rfl, d1, f1⟩))
    | (refine at_conv 24 24 _ rfl ?_; refine wpList_const rfl _ rfl w1 _ _ _ [97, 98] rfl rfl rfl (by rfl) (by decide) rfl ?_; intro w2 f2 i2)
    | (go_at_call 10; go_must (refine (hwr.out _ g _ _ (d1.fr0 f2) i2).mono ?_; rintro e w3 ⟨rfl, d3, f3⟩))
    | (go_at_call 9; go_must (refine (hrr.out _ g _ d3).mono ?_; rintro e w4 ⟨v4, rfl, i4, n4, f4⟩))
    | (refine at_conv 24 9 _ rfl ?_; go_must (refine wpList_str rfl _ 24 9 5 rfl Try.underlying24 Try.underlying5 Try.underlying9 _ _ rfl i4 ?_)))
  go_ret
  have z1 := f1.size
  exact ⟨rfl, ((f1.thenN f2).thenT (S := noB) f3 (fun k hk q => by omega)).thenN f4⟩

theorem nmR : rRead (newD 4) = ([], 0, 51) := by kernel_rfl
theorem nmW : rWrite (newD 4) (List.replicate 187 0) = (newD 4, 0, 51) := by kernel_rfl
theorem nmR1 : rRead (newD 1) = ([], 0, 41) := by kernel_rfl
theorem nmX : rNext (newD 4) = (1, 0) := by kernel_rfl

set_option maxRecDepth 100000 in
set_option maxHeartbeats 2000000 in
theorem rnames_walk (w : World) : Calls Try.prog 3 #[] w fun r w' => r = .returned (.bool true) ∧ Below w.heap.size w w' := by
  have hby := newD_byt 4
  have hby1 := newD_byt 1
  have h1 := nmR
  have h2 := nmW
  have h3 := nmR1
  have h4 := nmX
  have hp0 : (newD 4).pend.length ≤ 90000 := by decide
  have hp1 : (newD 1).pend.length ≤ 90000 := by decide
  obtain ⟨X0, HX0⟩ : ∃ X, Hid (newD 4 = X) := ⟨_, rfl⟩
  obtain ⟨X1, HX1⟩ : ∃ X, Hid (newD 1 = X) := ⟨_, rfl⟩
  obtain ⟨Z, HZ⟩ : ∃ X, Hid (List.replicate 187 (0 : Int) = X) := ⟨_, rfl⟩
  have hZb : Byt Z := by rw [← HZ.out]; intro n hn; rw [List.eq_of_mem_replicate hn]; decide
  have hZl : Hid (Z.length = 187) := by show _ = _; rw [← HZ.out]; exact List.length_replicate
  rw [HX0.out] at hby hp0 h1 h2 h4
  rw [HX1.out] at hby1 hp1 h3
  rw [HZ.out] at h2
  have hwr := show Hid _ from fun (F : Nat → Prop) (g : Nat) (v : Value) (W : World) (h : Disk W F g X0) (hS : SlI .u8 W v Z) => rwrite_p g v Z W h hp0 hby hS
  simp only [h2] at hwr
  have hrr := show Hid _ from fun (F : Nat → Prop) (g : Nat) (W : World) (h : Disk W F g X0) => rread_p g W h (by omega) hby
  have hrr1 := show Hid _ from fun (F : Nat → Prop) (g : Nat) (W : World) (h : Disk W F g X1) => rread_p g W h (by omega) hby1
  have hnx := show Hid _ from fun (F : Nat → Prop) (g : Nat) (W : World) (h : Disk W F g X0) => rnext_p g W h (by omega) hby
  unfold ReadIs at hrr hrr1
  simp only [h1] at hrr
  simp only [h3] at hrr1
  simp only [h4] at hnx
  clear h1 h2 h3 h4 hby hby1 hp0 hp1
  go_enter Try.func3, Try.ntmps3
  go_wp2_with (first
    | (go_at_call 8; have d4' := d4; go_must (refine (new_any 1 (by omega) _).mono ?_; rw [HX1.out]; rintro e w5 ⟨g5, rfl, d5, f5⟩))
    | (go_at_call 8; go_must (refine (new_any 4 (by omega) _).mono ?_; rw [HX0.out]; rintro e w1 ⟨g, rfl, d1, f1⟩))
    | (go_at_call 9; have d5' := d5; go_must (refine (hrr1.out _ g5 _ d5).mono ?_; rintro e w6 ⟨v6, rfl, i6, n6, f6⟩))
    | (go_at_call 9; go_must (refine (hrr.out _ g _ d1).mono ?_; rintro e w2 ⟨v2, rfl, i2, n2, f2⟩))
    | (refine at_make 24 _ _ rfl ?_; go_must (refine wpList_mkB rfl _ _ rfl 187 187 rfl rfl rfl (by decide) ?_; rw [HZ.out]; intro g3 w3 b3 f3 s3; have i3 : SlI .u8 w3 (.slice (some ⟨g3, 0, none⟩) 187 187) Z := (by have := BxV.slI b3 hZb 0 187 187 (by have := hZl.out; omega) (by omega); rwa [List.drop_zero, List.take_of_length_le (by have := hZl.out; omega)] at this)))
    | (go_at_call 10; go_must (refine (hwr.out _ g _ _ ((d1.fr0 f2).fr0 f3) i3).mono ?_; rintro e w4 ⟨rfl, d4, f4⟩))
    | (go_at_call 11; go_must (refine (hnx.out _ g _ ((d4.fr0 f5).fr0 f6)).mono ?_; rintro e w7 ⟨rfl, f7⟩))
    | (go_at_call 12; go_must (refine (ralive_any _).mono ?_; rintro e w8 ⟨rfl, f8⟩)))
  go_ret
  have z1 := f1.size
  exact ⟨rfl, (((((((f1.thenN f2).thenN f3).thenT (S := noB) f4 (fun k hk q => by omega)).thenN f5).thenN f6).thenN f7).thenN f8).below⟩
end Go.Proofs.Ytijgfojnppcbjaa
/- How bytes become a string. -/
namespace Go.Proofs.Ytijgfojnppcbjaa
open Go.RowKit Go.Proofs.U

theorem conv_run {w : World} {v : Value} {l : List Int} (hS : SlI .u8 w v l) : (convert 24 9 v).run Try.prog w = .ok (.string (strOfNums l)) w := by
  obtain ⟨⟨ao, cap, rfl, hcap, hlen, hnone, hsome⟩, hwf⟩ := hS
  cases ao with
  | none =>
    obtain rfl := hnone rfl
    obtain rfl : l = [] := List.eq_nil_of_length_eq_zero (by omega)
    rw [run_convert_bytes_nil (P := Try.prog) w 24 5 Try.underlying24 Try.underlying5 _ _ 9 Try.underlying9]; rfl
  | some ad =>
    have hcell := hsome _ rfl
    by_cases hl0 : l.length = 0
    · obtain rfl : l = [] := List.eq_nil_of_length_eq_zero hl0
      have hl : (loadCells ad 0).run Try.prog w = .ok #[] w := by simpa using run_loadCells_list (P := Try.prog) w ad [] (by simp)
      rw [run_convert_bytes_string w 24 9 5 _ _ cap Try.underlying24 Try.underlying5 Try.underlying9]
      exact run_bytesToString w ad 0 cap [] hl
    obtain ⟨b, off, sp⟩ := ad
    have hsp : sp = none := by
      have := hcell 0 _ (List.getElem?_eq_getElem (by simp; omega))
      simpa [Addr.add] using World.cell?_spot this
    subst hsp
    refine run_convert_bytes_arg (P := Try.prog) w 24 5 Try.underlying24 Try.underlying5 b off l.length cap l rfl ?_ 9 Try.underlying9
    intro i hi
    have := hcell i (.int .u8 (l.getD i 0)) (by simp [List.getD, hi])
    have hadd : (⟨b, off, none⟩ : Addr).add i = ⟨b, off + i, none⟩ := by unfold Addr.add; split <;> simp_all
    rwa [hadd] at this
end Go.Proofs.Ytijgfojnppcbjaa
/- RootTurns. -/
namespace Go.Proofs.Ytijgfojnppcbjaa
open Go.RowKit Go.Proofs.U
set_option linter.unusedSimpArgs false
set_option linter.unusedVariables false
theorem putS_two {X : DSt} {p q : List Int} (h : Two X p q) (G : Int) {r : List Int} (hr : r.length = 256) (br : Byt r) (Y : DSt) (hp : Y.pages = [putS0 G r p, putS1 G r q]) (hq : Y.pend = []) (hb : Y.bad = X.bad) : Two Y (putS0 G r p) (putS1 G r q) := by
  refine ⟨hp, hq, by rw [hb]; exact h.bad, ?_, ?_, ?_, ?_⟩
  · unfold putS0; split; exact hr; exact h.lp
  · unfold putS1; split; exact h.lq; exact hr
  · unfold putS0; split; exact br; exact h.bp
  · unfold putS1; split; exact h.bq; exact br
theorem turn_ok {X : DSt} {p q : List Int} (h : Two X p q) (hd : X.down = false) (hl : X.left = -1) {last : Int} (h1 : (newest p q).1 = last) (h2 : top p q = last) (hb : last ≤ 1000) (c : List Int) (hc : c.length ≤ 186) (bc : Byt c) :
    rNext X = (last + 1, 0) ∧ ∃ Y p' q', rWrite X c = (Y, last + 1, 0) ∧ Two Y p' q' ∧ Y.down = false ∧ Y.left = -1 ∧ (newest p' q').1 = last + 1 ∧ top p' q' = last + 1 ∧ rRead Y = (c, last + 1, 0) := by
  have h0 := top_nn p q
  have hG : nextG X = last + 1 := by
    have := h.nxG.2.2.2.2
    rw [h1, h2] at this
    exact this (by omega)
  have hx := h.nx (by omega)
  rw [hG] at hx
  refine ⟨hx, ?_⟩
  have hw := h.goes (by omega) hd (by omega) c hc
  rw [hG, hl] at hw
  simp only [show ¬ ((-1 : Int) = 1) by decide, if_false, show ¬ ((0 : Int) < -1) by decide] at hw
  have hR := rootP_len (last + 1) c
  have bR := rootP_byt (last + 1) bc
  have hT := putS_two h (last + 1) hR bR _ (rfl : ({ X with left := -1, pages := [putS0 (last + 1) (rootP (last + 1) c) p, putS1 (last + 1) (rootP (last + 1) c) q] } : DSt).pages = _) h.pend rfl
  have hN := newest_new h.bp h.bq (G := last + 1) (by omega) (by omega) c hc
  refine ⟨_, _, _, hw, hT, hd, rfl, by rw [hN], ?_, ?_⟩
  · apply Int.le_antisymm
    · refine top_put (by omega) (by omega) (fun s hs => ?_)
      rw [genAt_root _ ⟨by omega, by omega⟩ _ s hs]; exact Int.le_refl _
    · have := newest_top hT.bp hT.bq
      rw [hN] at this; exact this
  · rw [hT.rd, hN]
    simp only
    rw [if_neg (by omega)]
theorem two_new : Two (newD 2) zeroP zeroP := ⟨rfl, rfl, fun _ => rfl, zeroP_len, zeroP_len, zeroP_byt, zeroP_byt⟩
theorem new_newest : newest zeroP zeroP = (0, []) := by kernel_rfl
theorem new_top : top zeroP zeroP = 0 := by kernel_rfl
theorem write_long {X : DSt} {c : List Int} (h : 186 < c.length) : rWrite X c = (X, 0, 51) := by unfold rWrite; rw [if_pos h]
theorem str_refl (l : List Int) : ((strOfNums l).toList == (strOfNums l).toList) = true := by simp

set_option maxRecDepth 100000 in
set_option maxHeartbeats 4000000 in
theorem turns5_walk (v : Value) (ls : List (List Int)) (w : World) (hS : SlB w v ls) :
    Calls Try.prog 6 #[v] w fun r w' => r = .returned (.bool true) ∧ Below w.heap.size w w' := by
  obtain ⟨a, cap, rfl, hcap⟩ := hS.opn
  obtain ⟨vs, hV, hin⟩ := hS
  by_cases hgr : 30 < ls.length
  · have hgr' : (30 : Int) < (ls.length : Int) := by omega
    go_enter Try.func6, Try.ntmps6
    go_wp2_with (first
      | (go_at_call 12; go_must (refine (ralive_any _).mono ?_; rintro e w1 ⟨rfl, f1⟩)))
    go_ret
    exact ⟨rfl, f1.below⟩
  · have hgr' : ¬ (30 : Int) < (ls.length : Int) := by omega
    have htwo := show Hid _ from two_new
    have hnw := show Hid _ from new_newest
    have htp := show Hid _ from new_top
    have hd0 : Hid ((newD 2).down = false) := rfl
    have hl0 : Hid ((newD 2).left = -1) := rfl
    obtain ⟨X0, HX0⟩ : ∃ X, Hid (newD 2 = X) := ⟨_, rfl⟩
    rw [HX0.out] at htwo hd0 hl0
    go_enter Try.func6, Try.ntmps6
    go_wp2_with (first
      | (go_at_call 12; go_must (refine (ralive_any _).mono ?_; rintro e w1 ⟨rfl, f1⟩))
      | (go_at_call 8; go_must (refine (new_any 2 (by omega) _).mono ?_; rw [HX0.out]; rintro e w2 ⟨g, rfl, d2, f2⟩)))
    have z1 := f1.size
    have d2 : Disk w2 (fun k => w.heap.size ≤ k) g X0 := d2.mono (fun k _ q => by omega)
    go_loopw [4, 22] (fun t i wr => ∃ (k : Nat) (X : DSt) (p q : List Int) (last : Int), k ≤ ls.length ∧ i = .int .i64 (k : Int) ∧ t = .int .u64 last ∧ Disk wr (fun k => w.heap.size ≤ k) g X ∧ Hid (Two X p q ∧ X.down = false ∧ X.left = -1 ∧ (newest p q).1 = last ∧ top p q = last) ∧ 0 ≤ last ∧ last ≤ k ∧ Fr noB w wr) (fun _ i _ => ls.length - (intOf i).toNat)
    case atStart => exact ⟨0, X0, zeroP, zeroP, 0, by omega, rfl, rfl, d2, show _ ∧ _ from ⟨htwo.out, hd0.out, hl0.out, by rw [hnw.out], htp.out⟩, by omega, by omega, f1.thenN f2⟩
    case round =>
      obtain ⟨k, X, p, q, last, hk, rfl, rfl, hD, hT, hl1, hl2, hf⟩ := hrel
      have hp0 : Hid (X.pend = []) := hT.out.1.pend
      have hby : X.byt := hT.out.1.byt
      by_cases hlt : k < ls.length
      · have hlt' : (k : Int) < (ls.length : Int) := by omega
        have hink := hin k hlt
        obtain ⟨c, HC⟩ : ∃ c, Hid (ls[k] = c) := ⟨ls[k], (rfl : ls[k] = ls[k])⟩
        rw [HC.out] at hink
        have hVr := hV.fr0 hf
        have hpl : X.pend.length ≤ 90000 := by rw [hp0.out]; simp
        have zf := hf.size
        by_cases hc : 186 < c.length
        · have hc' : (186 : Int) < (c.length : Int) := by omega
          have hwr := show Hid _ from fun (W : World) (v : Value) (h : Disk W (fun k => w.heap.size ≤ k) g X) (hS : SlI .u8 W v c) => rwrite_p g v c W h hpl hby hS
          simp only [write_long hc] at hwr
          have hnx := show Hid _ from fun (W : World) (h : Disk W (fun k => w.heap.size ≤ k) g X) => rnext_p g W h (by omega) hby
          obtain ⟨⟨N1, N2⟩, HN⟩ : ∃ R, Hid (rNext X = R) := ⟨_, rfl⟩
          simp only [HN.out] at hnx
          go_wp2_with (first
            | (refine at_idx 64 _ _ rfl ?_; go_must (refine wpList_idx1 rfl 64 _ _ rfl 24 Try.underlying64 size24 _ _ _ rfl hVr _ _ k rfl rfl hlt ?_; intro pa u hu hcell; have hul := (hink u hu).fr0 hf; obtain ⟨a2, c2, rfl, hc2⟩ := hul.opn))
            | (go_at_call 11; go_must (refine (hnx.out _ hD).mono ?_; rintro e w3 ⟨rfl, f3⟩))
            | (go_at_call 10; go_must (refine (hwr.out _ _ (hD.fr0 f3) (hul.fr0 f3)).mono ?_; rintro e w4 ⟨rfl, d4, f4⟩)))
          go_roundw
          case rel =>
            have z3 := f3.size
            exact ⟨k + 1, X, p, q, last, by omega, by go_num, rfl, d4.mono (fun b _ q => by rcases q with q | q; exact q; omega), hT, hl1, by omega, (hf.thenN f3).thenT f4 (fun b hb q => by omega)⟩
          case measure => simp [intOf]; omega
        · have hc' : ¬ (186 : Int) < (c.length : Int) := by omega
          have bc : Byt c := (hink _ (List.getElem?_eq_getElem (by have := hV; obtain ⟨_, _, _, _, h2, _⟩ := this; omega))).2
          obtain ⟨hx, Y, p', q', hw, hT', hd', hl', hn', ht', hr'⟩ := turn_ok hT.out.1 hT.out.2.1 hT.out.2.2.1 hT.out.2.2.2.1 hT.out.2.2.2.2 (by omega) c (by omega) bc
          have hbY : Y.byt := hT'.byt
          have hpY : Y.pend.length ≤ 90000 := by rw [hT'.pend]; simp
          have hwr := show Hid _ from fun (W : World) (v : Value) (h : Disk W (fun k => w.heap.size ≤ k) g X) (hS : SlI .u8 W v c) => rwrite_p g v c W h hpl hby hS
          simp only [hw] at hwr
          have hnx := show Hid _ from fun (W : World) (h : Disk W (fun k => w.heap.size ≤ k) g X) => rnext_p g W h (by omega) hby
          simp only [hx] at hnx
          have hrr := show Hid _ from fun (F : Nat → Prop) (W : World) (h : Disk W F g Y) => rread_p g W h (by omega) hbY
          unfold ReadIs at hrr
          simp only [hr'] at hrr
          have hT' : Hid (Two Y p' q' ∧ Y.down = false ∧ Y.left = -1 ∧ (newest p' q').1 = last + 1 ∧ top p' q' = last + 1) := ⟨hT', hd', hl', hn', ht'⟩
          have hst := str_refl c
          clear hx hw hd' hl' hn' ht' hr' hbY hpY
          go_wp2_with (first
            | (refine at_idx 64 _ _ rfl ?_; go_must (refine wpList_idx1 rfl 64 _ _ rfl 24 Try.underlying64 size24 _ _ _ rfl hVr _ _ k rfl rfl hlt ?_; intro pa u hu hcell; have hul := (hink u hu).fr0 hf; obtain ⟨a2, c2, rfl, hc2⟩ := hul.opn))
            | (go_at_call 11; go_must (refine (hnx.out _ hD).mono ?_; rintro e w3 ⟨rfl, f3⟩))
            | (go_at_call 10; go_must (refine (hwr.out _ _ (hD.fr0 f3) (hul.fr0 f3)).mono ?_; rintro e w4 ⟨rfl, d4, f4⟩))
            | (go_at_call 9; go_must (refine (hrr.out _ _ d4).mono ?_; rintro e w5 ⟨v5, rfl, i5, n5, f5⟩; have z3 := f3.size; have F4 : Fr noB w w4 := (hf.thenN f3).thenT f4 (fun b hb q => by omega); have I5 : SlI .u8 w5 (.slice a2 c.length c2) c := (hink _ hu).fr0 (F4.thenN f5); obtain ⟨a5, c5, rfl, hc5⟩ := i5.opn))
            | (refine at_conv 24 9 _ rfl ?_; first | (refine wpList_str rfl _ 24 9 5 rfl Try.underlying24 Try.underlying5 Try.underlying9 _ _ rfl i5 ?_) | (refine wpList_str rfl _ 24 9 5 rfl Try.underlying24 Try.underlying5 Try.underlying9 _ _ rfl I5 ?_)))
          go_roundw
          case rel =>
            have z4 := F4.size
            exact ⟨k + 1, Y, p', q', last + 1, by omega, by go_num, rfl, (d4.fr0 f5).mono (fun b _ q => by rcases q with q | q; exact q; omega), hT', by omega, by omega, F4.thenN f5⟩
          case measure => simp [intOf]; omega
      · have hlt' : ¬ (k : Int) < (ls.length : Int) := by omega
        go_wp2
        go_ret
        exact ⟨rfl, hf.below⟩
end Go.Proofs.Ytijgfojnppcbjaa
/- The walk of CrcTwice: it answers true for all bytes. -/
namespace Go.Proofs.Ytijgfojnppcbjaa
open Go.RowKit Go.Proofs.U
set_option linter.unusedSimpArgs false
set_option linter.unusedVariables false

theorem seal_take (l : List Int) : (sealI l).take ((sealI l).length - 4) = l := by
  rw [sealI_length, sealI, Nat.add_sub_cancel, List.take_append, Nat.sub_self, List.take_zero, List.append_nil, List.take_length]
theorem ok_seal (l : List Int) : okI (sealI l) = true := by
  unfold okI; rw [seal_take, sealI_length]; simp
theorem opn_seal (l : List Int) : opnI (sealI l) = l := by
  unfold opnI; rw [ok_seal, if_pos rfl, seal_take]
theorem opn_len (l : List Int) : (opnI l).length ≤ l.length := by
  unfold opnI; split <;> simp

end Go.Proofs.Ytijgfojnppcbjaa
/- How bytes become a string; what is turned twice. -/
namespace Go.Proofs.Ytijgfojnppcbjaa
open Go.RowKit Go.Proofs.U

theorem xI_twice {a m : Int} (ha : 0 ≤ a) : xI (xI a m) m = a := by
  unfold xI
  rw [Int.toNat_natCast, Nat.xor_assoc, Nat.xor_self, Nat.xor_zero]; omega
theorem turn_twice (l : List Int) (at' m : Int) (hl : ∀ n ∈ l, (Lit.int .u8 n).wf = true) : turnI (turnI l at' m) at' m = l := by
  by_cases h : 0 ≤ at' ∧ at' < (l.length : Int)
  · have hj : at'.toNat < l.length := by omega
    have e1 : turnI l at' m = l.set at'.toNat (xI (l.getD at'.toNat 0) m) := by unfold turnI; rw [if_pos h]
    have hd : l.getD at'.toNat 0 = l[at'.toNat] := by simp [List.getD, hj]
    rw [e1, turnI, if_pos (by simpa using h), List.set_set]
    have e2 : (l.set at'.toNat (xI (l.getD at'.toNat 0) m)).getD at'.toNat 0 = xI (l.getD at'.toNat 0) m := by simp [List.getD, hj]
    rw [e2, hd, xI_twice (u8_bd (hl _ (by simp))).1]
    simp
  · have e1 : turnI l at' m = l := by unfold turnI; rw [if_neg h]
    rw [e1, e1]
end Go.Proofs.Ytijgfojnppcbjaa
/- The walk of CrcJoin: it answers true for any three byte lists. -/
namespace Go.Proofs.Ytijgfojnppcbjaa
open Go.RowKit Go.Proofs.U
set_option linter.unusedSimpArgs false
set_option linter.unusedVariables false

def mix (a b c : List Int) : List Int := List.zipWith xI (List.zipWith xI a b) c
theorem mix_length (a b c : List Int) : (mix a b c).length = min (min a.length b.length) c.length := by simp [mix]
theorem mixL_get (a b c : List Int) (k : Nat) (h : k < (mix a b c).length) (h1 : k < a.length) (h2 : k < b.length) (h3 : k < c.length) : (mix a b c)[k] = xI (xI a[k] b[k]) c[k] := by
  simp [mix]

/-- the parts so far, zeros behind them. -/
def part (M : List Int) (k : Nat) : List Int := M.take k ++ List.replicate (M.length - k) 0
theorem part_length (M : List Int) (k : Nat) (h : k ≤ M.length) : (part M k).length = M.length := by simp [part]; omega
theorem part_set (M : List Int) (k : Nat) (h : k < M.length) : (part M k).set k M[k] = part M (k + 1) := by
  unfold part
  rw [List.set_append_right _ _ (by simp; omega)]
  have e1 : k - (M.take k).length = 0 := by simp; omega
  have e2 : M.length - k = (M.length - (k + 1)) + 1 := by omega
  rw [e1, e2, List.replicate_succ, List.set_cons_zero, List.take_succ_eq_append_getElem h, List.append_assoc]
  rfl
theorem part_end (M : List Int) : part M M.length = M := by simp [part]
theorem part_zero (M : List Int) : part M 0 = List.replicate M.length 0 := by simp [part]

theorem ofI_xor (a b : Int) (ha : 0 ≤ a ∧ a < 256) (hb : 0 ≤ b ∧ b < 256) : BitVec.ofInt 8 (xI a b) = BitVec.ofInt 8 a ^^^ BitVec.ofInt 8 b := by
  obtain ⟨A, rfl⟩ := Int.eq_ofNat_of_zero_le ha.1
  obtain ⟨B, rfl⟩ := Int.eq_ofNat_of_zero_le hb.1
  unfold xI
  simp only [Int.toNat_natCast, BitVec.ofInt_natCast]
  apply BitVec.eq_of_toNat_eq
  have hx : A ^^^ B < 2 ^ 8 := Nat.xor_lt_two_pow (by omega) (by omega)
  rw [BitVec.toNat_xor, BitVec.toNat_ofNat, BitVec.toNat_ofNat, BitVec.toNat_ofNat, Nat.mod_eq_of_lt hx, Nat.mod_eq_of_lt (by omega), Nat.mod_eq_of_lt (by omega)]
theorem zip_bits (a b : List Int) (ha : ∀ n ∈ a, (Lit.int .u8 n).wf = true) (hb : ∀ n ∈ b, (Lit.int .u8 n).wf = true) :
    (List.zipWith xI a b).map (BitVec.ofInt 8) = List.zipWith (· ^^^ ·) (a.map (BitVec.ofInt 8)) (b.map (BitVec.ofInt 8)) := by
  induction a generalizing b with
  | nil => simp
  | cons x a ih =>
    cases b with
    | nil => simp
    | cons y b =>
      simp only [List.zipWith_cons_cons, List.map_cons]
      rw [ofI_xor x y (u8_bd (ha x (by simp))) (u8_bd (hb y (by simp))), ih b (fun n hn => ha n (by simp [hn])) (fun n hn => hb n (by simp [hn]))]
theorem zip_wf (a b : List Int) (ha : ∀ n ∈ a, (Lit.int .u8 n).wf = true) (hb : ∀ n ∈ b, (Lit.int .u8 n).wf = true) : ∀ n ∈ List.zipWith xI a b, (Lit.int .u8 n).wf = true := by
  induction a generalizing b with
  | nil => simp
  | cons x a ih =>
    cases b with
    | nil => simp
    | cons y b =>
      intro n hn
      simp only [List.zipWith_cons_cons, List.mem_cons] at hn
      rcases hn with rfl | hn
      · have := xI_bd (u8_bd (ha x (by simp))) (u8_bd (hb y (by simp))); exact wf_byte this.1 this.2
      · exact ih b (fun n hn => ha n (by simp [hn])) (fun n hn => hb n (by simp [hn])) n hn
/-- sums of three texts of one length, mixed. -/
theorem crc_mix (a b c : List Int) (h1 : a.length = b.length) (h2 : a.length = c.length) (ha : ∀ n ∈ a, (Lit.int .u8 n).wf = true) (hb : ∀ n ∈ b, (Lit.int .u8 n).wf = true) (hc : ∀ n ∈ c, (Lit.int .u8 n).wf = true) :
    crcI (mix a b c) = bits .xor .u32 (bits .xor .u32 (crcI a) (crcI b)) (crcI c) := by
  unfold crcI
  rw [bx32 _ _ _ _ rfl rfl, bx32 _ _ _ _ rfl rfl]
  congr 2
  unfold mix
  rw [zip_bits _ _ (zip_wf a b ha hb) hc, zip_bits _ _ ha hb]
  have e : ones32 = (ones32 ^^^ ones32) ^^^ ones32 := by decide
  conv => lhs; rw [e]
  rw [crcF_xor _ _ _ _ (by simp [← h1, h2]), crcF_xor _ _ _ _ (by simp [h1])]
theorem mix_take (a b c : List Int) (n : Nat) (hn : n = min (min a.length b.length) c.length) : mix (a.take n) (b.take n) (c.take n) = mix a b c := by
  unfold mix
  rw [← List.take_zipWith, ← List.take_zipWith, List.take_of_length_le]
  simp; omega
theorem cell_of {k : IntKind} {w : World} {b off n cap : Nat} {l : List Int} (h : SlI k w (.slice (some ⟨b, off, none⟩) n cap) l) (j : Nat) (hj : j < l.length) : w.cell? ⟨b, off + j, none⟩ = some (.int k l[j]) := by
  obtain ⟨⟨a0, cap0, hv, _, _, _, hsome⟩, _⟩ := h
  cases hv
  have := hsome _ rfl j (.int k l[j]) (by simp [hj])
  rwa [Addr.plain] at this
theorem some_of {k : IntKind} {w : World} {a : Option Addr} {n cap : Nat} {l : List Int} (h : SlI k w (.slice a n cap) l) (hl : 0 < l.length) : ∃ b off, a = some ⟨b, off, none⟩ := by
  obtain ⟨⟨a0, cap0, hv, hcap, hlen, hnone, hsome⟩, _⟩ := h
  cases hv
  cases a with
  | none => have := hnone rfl; omega
  | some ad =>
    have hc0 := hsome ad rfl 0 _ (List.getElem?_eq_getElem (by simpa using hl))
    obtain ⟨b, off, sp⟩ := ad
    have hsp : sp = none := by simpa [Addr.add] using World.cell?_spot hc0
    subst hsp; exact ⟨b, off, rfl⟩
end Go.Proofs.Ytijgfojnppcbjaa
/- What a seal is by its sum, and what is found by it; no condition but what each states. -/
namespace Go.Proofs.U

def cat4 (a b c d : BitVec 8) : BitVec 32 := byt a ^^^ (b.setWidth 32 <<< 16) ^^^ (c.setWidth 32 <<< 8) ^^^ d.setWidth 32
theorem st8 : ∀ b : BitVec 8, stpN 8 (b.setWidth 32 <<< 16) = byt b := by decide +kernel
theorem st16 : ∀ b : BitVec 8, stpN 8 (b.setWidth 32 <<< 8) = b.setWidth 32 <<< 16 := by decide +kernel
theorem st24 : ∀ b : BitVec 8, stpN 8 (b.setWidth 32) = b.setWidth 32 <<< 8 := by decide +kernel
theorem stpN32 (x : BitVec 32) : stpN 32 x = stpN 8 (stpN 8 (stpN 8 (stpN 8 x))) := by
  show stpN (8 + (8 + (8 + 8))) x = _
  rw [stpN_add, stpN_add, stpN_add]
theorem crc4 (s : BitVec 32) (a b c d : BitVec 8) : crcF s [a, b, c, d] = stpN 32 (s ^^^ cat4 a b c d) := by
  have e : s ^^^ cat4 a b c d = ((s ^^^ byt a) ^^^ (b.setWidth 32 <<< 16)) ^^^ (c.setWidth 32 <<< 8) ^^^ d.setWidth 32 := by
    unfold cat4; simp only [BitVec.xor_assoc]
  rw [e, stpN32]
  simp only [stpN_xor, st24, st16, st8]
  simp only [crcF, List.foldl_cons, List.foldl_nil, wb, stpN_xor]
theorem byte_hi (s : BitVec 32) (i : Nat) (h : i < 32) : (cat4 ((s >>> 24).setWidth 8) ((s >>> 16).setWidth 8) ((s >>> 8).setWidth 8) (s.setWidth 8)).getLsbD i = s.getLsbD i := by
  unfold cat4 byt
  simp only [BitVec.getLsbD_xor, BitVec.getLsbD_shiftLeft, BitVec.getLsbD_setWidth, BitVec.getLsbD_ushiftRight]
  by_cases h1 : i < 8
  · have q1 : i < 16 := by omega
    have q2 : i < 24 := by omega
    simp [h1, h, q1, q2]
  by_cases h2 : i < 16
  · have : 8 + (i - 8) = i := by omega
    have q2 : i < 24 := by omega
    have q3 : i - 8 < 8 := by omega
    have q4 : i - 8 < 32 := by omega
    simp [h1, h2, h, this, q2, q3, q4]
  by_cases h3 : i < 24
  · have : 16 + (i - 16) = i := by omega
    have q3 : i - 16 < 8 := by omega
    have q4 : i - 16 < 32 := by omega
    have q5 : ¬ i - 8 < 8 := by omega
    simp [h1, h2, h3, h, this, q3, q4, q5]
  · have : 24 + (i - 24) = i := by omega
    have q3 : i - 24 < 8 := by omega
    have q4 : i - 24 < 32 := by omega
    have q5 : ¬ i - 8 < 8 := by omega
    have q6 : ¬ i - 16 < 8 := by omega
    simp [h1, h2, h3, h, this, q3, q4, q5, q6]
theorem cat_be (s : BitVec 32) : cat4 ((s >>> 24).setWidth 8) ((s >>> 16).setWidth 8) ((s >>> 8).setWidth 8) (s.setWidth 8) = s :=
  BitVec.eq_of_getLsbD_eq fun i h => byte_hi s i h
theorem cat_bit (a b c d : BitVec 8) (i : Nat) : (cat4 a b c d).getLsbD i = (if i < 8 then d.getLsbD i else if i < 16 then c.getLsbD (i - 8) else if i < 24 then b.getLsbD (i - 16) else if i < 32 then a.getLsbD (i - 24) else false) := by
  unfold cat4 byt
  simp only [BitVec.getLsbD_xor, BitVec.getLsbD_shiftLeft, BitVec.getLsbD_setWidth]
  have hd : 8 ≤ i → d.getLsbD i = false := fun h => BitVec.getLsbD_of_ge _ _ h
  have hc : 16 ≤ i → c.getLsbD (i - 8) = false := fun h => BitVec.getLsbD_of_ge _ _ (by omega)
  have hb : 24 ≤ i → b.getLsbD (i - 16) = false := fun h => BitVec.getLsbD_of_ge _ _ (by omega)
  by_cases h1 : i < 8
  · have q1 : i < 16 := by omega
    have q2 : i < 24 := by omega
    have q3 : i < 32 := by omega
    simp [h1, q1, q2, q3]
  rw [hd (by omega)]
  by_cases h2 : i < 16
  · have q2 : i < 24 := by omega
    have q3 : i < 32 := by omega
    have q4 : i - 8 < 32 := by omega
    simp [h1, h2, q2, q3, q4]
  rw [hc (by omega)]
  by_cases h3 : i < 24
  · have q3 : i < 32 := by omega
    have q4 : i - 16 < 32 := by omega
    simp [h1, h2, h3, q3, q4]
  rw [hb (by omega)]
  by_cases h4 : i < 32
  · have q4 : i - 24 < 32 := by omega
    simp [h1, h2, h3, h4, q4]
  · simp [h1, h2, h3, h4]
theorem be_cat (a b c d : BitVec 8) : be4 (cat4 a b c d) = [a, b, c, d] := by
  have ea : ((cat4 a b c d) >>> 24).setWidth 8 = a := BitVec.eq_of_getLsbD_eq fun i h => by
    rw [BitVec.getLsbD_setWidth, BitVec.getLsbD_ushiftRight, cat_bit, if_neg (by omega), if_neg (by omega), if_neg (by omega), if_pos (by omega), show 24 + i - 24 = i by omega]; simp [h]
  have eb : ((cat4 a b c d) >>> 16).setWidth 8 = b := BitVec.eq_of_getLsbD_eq fun i h => by
    rw [BitVec.getLsbD_setWidth, BitVec.getLsbD_ushiftRight, cat_bit, if_neg (by omega), if_neg (by omega), if_pos (by omega), show 16 + i - 16 = i by omega]; simp [h]
  have ec : ((cat4 a b c d) >>> 8).setWidth 8 = c := BitVec.eq_of_getLsbD_eq fun i h => by
    rw [BitVec.getLsbD_setWidth, BitVec.getLsbD_ushiftRight, cat_bit, if_neg (by omega), if_pos (by omega), show 8 + i - 8 = i by omega]; simp [h]
  have ed : (cat4 a b c d).setWidth 8 = d := BitVec.eq_of_getLsbD_eq fun i h => by
    rw [BitVec.getLsbD_setWidth, cat_bit, if_pos h]; simp [h]
  unfold be4; rw [ea, eb, ec, ed]

/-- four bytes are a sum's just if the sum of all is nought. -/
theorem seal_iff (s : BitVec 32) (a b c d : BitVec 8) : crcF s [a, b, c, d] = 0#32 ↔ be4 s = [a, b, c, d] := by
  rw [crc4]
  constructor
  · intro h
    have h1 := stpN_inj0 32 _ h
    have h2 : s = cat4 a b c d := by
      have := congrArg (· ^^^ cat4 a b c d) h1
      simpa [BitVec.xor_assoc] using this
    rw [h2, be_cat]
  · intro h
    have h2 : s = cat4 a b c d := by
      have h3 := cat_be s
      unfold be4 at h
      simp only [List.cons.injEq, and_true] at h
      rw [h.1, h.2.1, h.2.2.1, h.2.2.2] at h3
      exact h3.symm
    rw [h2, BitVec.xor_self, stpN_zero]

theorem crcF_drift (s d : BitVec 32) (q : List (BitVec 8)) : crcF (s ^^^ d) q = crcF s q ^^^ stpN (8 * q.length) d := by
  induction q generalizing s d with
  | nil => rfl
  | cons x q ih =>
    have e : wb (s ^^^ d) x = wb s x ^^^ stpN 8 d := by
      have := wb_xor s d x 0#8
      rw [BitVec.xor_zero, wb_zero] at this; exact this
    show crcF (wb (s ^^^ d) x) q = crcF (wb s x) q ^^^ _
    rw [e, ih, ← stpN_add]
    congr 2
    simp; omega
theorem two_xor (s : BitVec 32) (c0 c1 m0 m1 : BitVec 8) : crcF s [c0 ^^^ m0, c1 ^^^ m1] = crcF s [c0, c1] ^^^ wb (wb 0#32 m0) m1 := by
  show wb (wb s (c0 ^^^ m0)) (c1 ^^^ m1) = wb (wb s c0) c1 ^^^ _
  have e : wb s (c0 ^^^ m0) = wb s c0 ^^^ wb 0#32 m0 := by
    have := wb_xor s 0#32 c0 m0
    rwa [BitVec.xor_zero] at this
  rw [e, wb_xor]
theorem byt_zero (m : BitVec 8) (h : byt m = 0#32) : m = 0#8 := by
  have := be_cat m 0#8 0#8 0#8
  unfold cat4 at this
  rw [h] at this
  have h2 := List.cons.inj this
  rw [← h2.1]; decide
theorem two_zero (m0 m1 : BitVec 8) : wb (wb 0#32 m0) m1 = 0#32 ↔ m0 = 0#8 ∧ m1 = 0#8 := by
  constructor
  · intro h
    unfold wb at h
    have h1 := stpN_inj0 8 _ h
    rw [BitVec.zero_xor, ← st8 m1, ← stpN_xor] at h1
    have h2 := stpN_inj0 8 _ h1
    have h3 : cat4 m0 m1 0#8 0#8 = 0#32 := by unfold cat4; rw [h2]; decide
    have h4 := be_cat m0 m1 0#8 0#8
    rw [h3] at h4
    have h5 : be4 0#32 = [0#8, 0#8, 0#8, 0#8] := by decide
    rw [h5] at h4
    simp only [List.cons.injEq, and_true] at h4
    exact ⟨h4.1.symm, h4.2.symm⟩
  · rintro ⟨rfl, rfl⟩; decide
/-- of two neighbours that are mixed the sum tells just if they are other ones. -/
theorem found_iff (p q : List (BitVec 8)) (c0 c1 m0 m1 : BitVec 8) (h : crcF ones32 (p ++ [c0, c1] ++ q) = 0#32) :
    crcF ones32 (p ++ [c0 ^^^ m0, c1 ^^^ m1] ++ q) = 0#32 ↔ m0 = 0#8 ∧ m1 = 0#8 := by
  rw [crcF_append, crcF_append] at h ⊢
  rw [two_xor, crcF_drift, h, BitVec.zero_xor]
  constructor
  · intro h2; exact (two_zero m0 m1).1 (stpN_inj0 _ _ h2)
  · intro h2; rw [(two_zero m0 m1).2 h2, stpN_zero]
end Go.Proofs.U
/- What Open finds, in the bytes' own terms. -/
namespace Go.Proofs.Ytijgfojnppcbjaa
open Go.RowKit Go.Proofs.U
set_option linter.unusedSimpArgs false
set_option linter.unusedVariables false

def BL (l : List Int) : List (BitVec 8) := l.map (BitVec.ofInt 8)
theorem BL_append (a b : List Int) : BL (a ++ b) = BL a ++ BL b := by simp [BL]
theorem be4_BL (s : BitVec 32) : BL (be4I (s.toNat : Int)) = be4 s := by
  have h := s.isLt
  have e (x : Int) (k : Nat) (hx : x % 256 = ((s.toNat / 2 ^ k : Nat) : Int) % 256) : BitVec.ofInt 8 x = (s >>> k).setWidth 8 := by
    apply BitVec.eq_of_toNat_eq
    rw [BitVec.toNat_ofInt, BitVec.toNat_setWidth, BitVec.toNat_ushiftRight, Nat.shiftRight_eq_div_pow]
    generalize s.toNat / 2 ^ k = y at *
    omega
  have e0 : BitVec.ofInt 8 ((s.toNat : Int) % 256) = s.setWidth 8 := by
    apply BitVec.eq_of_toNat_eq
    rw [BitVec.toNat_ofInt, BitVec.toNat_setWidth]
    omega
  simp only [BL, be4I, List.map_cons, List.map_nil, be4]
  rw [e _ 24 (by omega), e _ 16 (by omega), e _ 8 (by omega), e0]
theorem BL_inj (a b : List Int) (ha : ∀ n ∈ a, (Lit.int .u8 n).wf = true) (hb : ∀ n ∈ b, (Lit.int .u8 n).wf = true) (h : BL a = BL b) : a = b := by
  have key : ∀ (l : List Int), (∀ n ∈ l, (Lit.int .u8 n).wf = true) → (BL l).map (fun u => (u.toNat : Int)) = l := by
    intro l hl
    unfold BL
    rw [List.map_map]
    conv => rhs; rw [← List.map_id l]
    apply List.map_congr_left
    intro n hn
    have := u8_bd (hl n hn)
    exact ofI8 n this.1 this.2
  rw [← key a ha, ← key b hb, h]
theorem ok_iff (l : List Int) (hw : ∀ n ∈ l, (Lit.int .u8 n).wf = true) (h4 : 4 ≤ l.length) : okI l = decide (crcF ones32 (BL l) = 0#32) := by
  have hsplit := (List.take_append_drop (l.length - 4) l).symm
  have hpw : ∀ n ∈ l.take (l.length - 4), (Lit.int .u8 n).wf = true := fun n hn => hw n (List.mem_of_mem_take hn)
  have htw : ∀ n ∈ l.drop (l.length - 4), (Lit.int .u8 n).wf = true := fun n hn => hw n (List.mem_of_mem_drop hn)
  have htl : (l.drop (l.length - 4)).length = 4 := by simp; omega
  unfold okI
  simp only [h4, decide_true, Bool.true_and]
  generalize l.take (l.length - 4) = p at *
  generalize l.drop (l.length - 4) = t at *
  subst hsplit
  have e1 : sealI p = p ++ t ↔ be4I (crcI p) = t := by unfold sealI; exact ⟨fun h => List.append_cancel_left h, fun h => by rw [h]⟩
  have e2 : be4I (crcI p) = t ↔ be4 (crcF ones32 (BL p)) = BL t := by
    rw [← be4_BL]
    constructor
    · intro h; rw [← h]; rfl
    · intro h; exact BL_inj _ _ (be4I_wf _ (crcI_bd p).1 (crcI_bd p).2) htw h
  have e3 : crcF ones32 (BL (p ++ t)) = 0#32 ↔ be4 (crcF ones32 (BL p)) = BL t := by
    rw [BL_append, crcF_append]
    have : (BL t).length = 4 := by simp [BL, htl]
    match ht : BL t, this with
    | [a, b, c, d], _ => exact seal_iff _ a b c d
  rw [decide_eq_decide, e1, e2, e3]

/-- two neighbours mixed. -/
theorem turn2 (x : List Int) (k : Nat) (m0 m1 : Int) (h : k + 1 < x.length) :
    turnI (turnI x (k : Int) m0) ((k : Int) + 1) m1 = x.take k ++ [xI (x.getD k 0) m0, xI (x.getD (k + 1) 0) m1] ++ x.drop (k + 2) := by
  have e1 : turnI x (k : Int) m0 = x.set k (xI (x.getD k 0) m0) := by unfold turnI; rw [if_pos (by omega), Int.toNat_natCast]
  have e2 : turnI (x.set k (xI (x.getD k 0) m0)) ((k : Int) + 1) m1 = (x.set k (xI (x.getD k 0) m0)).set (k + 1) (xI (x.getD (k + 1) 0) m1) := by
    unfold turnI
    rw [if_pos (by simp; omega), show ((k : Int) + 1).toNat = k + 1 by omega]
    congr 2
    simp [List.getD, List.getElem?_set]
  rw [e1, e2]
  apply List.ext_getElem
  · simp; omega
  · intro i h1 h2
    simp only [List.getElem_set, List.append_assoc, List.getElem_append, List.length_take, List.getElem_take, List.length_cons, List.length_nil, List.getElem_drop, List.cons_append, List.nil_append, List.getElem_cons]
    simp at h1
    have hm : min k x.length = k := by omega
    simp only [hm]
    by_cases c1 : k + 1 = i
    · subst c1
      simp
      intro hh; omega
    · by_cases c2 : k = i
      · subst c2; simp
      · simp only [c1, c2, if_false]
        by_cases c3 : i < k
        · simp [c3]
        · simp only [c3, dite_false]
          have c4 : ¬ i - k = 0 := by omega
          have c5 : ¬ i - k - 1 = 0 := by omega
          simp only [c4, c5, dite_false]
          congr 1; omega
theorem split2 (x : List Int) (k : Nat) (h : k + 1 < x.length) : x = x.take k ++ [x.getD k 0, x.getD (k + 1) 0] ++ x.drop (k + 2) := by
  have h0 : k < x.length := by omega
  have a0 : x.getD k 0 = x[k] := by simp [List.getD, h0]
  have a1 : x.getD (k + 1) 0 = x[k + 1] := by simp [List.getD, h]
  rw [a0, a1]
  conv => lhs; rw [← List.take_append_drop k x, List.drop_eq_getElem_cons h0, List.drop_eq_getElem_cons h]
  simp

theorem finds (l : List Int) (hw : ∀ n ∈ l, (Lit.int .u8 n).wf = true) (k : Nat) (hk : k < l.length + 3) (m0 m1 : Int) (h0 : 0 ≤ m0 ∧ m0 < 256) (h1 : 0 ≤ m1 ∧ m1 < 256) :
    okI (turnI (turnI (sealI l) (k : Int) m0) ((k : Int) + 1) m1) = decide (m0 = 0 ∧ m1 = 0) := by
  have hX := sealI_length l
  have hXw := sealI_wf l hw
  have hok := ok_seal l
  generalize sealI l = x at *
  have hlt : k + 1 < x.length := by omega
  rw [ok_iff _ (turnI_wf _ _ _ (turnI_wf _ _ _ hXw h0) h1) (by rw [turnI_length, turnI_length]; omega), turn2 x k m0 m1 hlt, decide_eq_decide]
  rw [ok_iff _ hXw (by omega)] at hok
  have hz : crcF ones32 (BL x) = 0#32 := by simpa using hok
  have hs := split2 x k hlt
  rw [hs, BL_append, BL_append] at hz
  have g0 : x.getD k 0 = x[k] := by simp [List.getD, show k < x.length by omega]
  have g1 : x.getD (k + 1) 0 = x[k + 1] := by simp [List.getD, hlt]
  have c0 := u8_bd (hXw x[k] (by simp))
  have c1 := u8_bd (hXw x[k + 1] (by simp))
  rw [g0, g1] at hz ⊢
  rw [BL_append, BL_append]
  simp only [BL, List.map_cons, List.map_nil] at hz ⊢
  rw [ofI_xor _ _ c0 h0, ofI_xor _ _ c1 h1]
  rw [found_iff _ _ _ _ _ _ hz]
  have key (m : Int) (hm : 0 ≤ m ∧ m < 256) : BitVec.ofInt 8 m = 0#8 ↔ m = 0 := by
    constructor
    · intro h
      have := ofI8 m hm.1 hm.2
      rw [h] at this
      simpa using this.symm
    · rintro rfl; rfl
  rw [key m0 h0, key m1 h1]
end Go.Proofs.Ytijgfojnppcbjaa
/- A root of which one byte is turned is none, plain. -/
namespace Go.Proofs.Ytijgfojnppcbjaa
open Go.RowKit Go.Proofs.U
set_option linter.unusedSimpArgs false
set_option linter.unusedVariables false
theorem BL_zeros (n : Nat) : BL (List.replicate n 0) = List.replicate n 0#8 := by unfold BL; rw [List.map_replicate]; rfl
theorem crc_st {c : List Int} (hc : c.length ≤ 186) (hb : Byt c) : crcF ones32 (BL (st192 c)) = 0#32 := by
  rw [st192_eq c hc, BL_append, crcF_append, BL_zeros]
  have h1 : crcF ones32 (BL (strm c)) = 0#32 := by
    have h2 := ok_iff (strm c) (strm_byt hb) (by rw [strm_len]; omega)
    have h3 : okI (strm c) = true := ok_seal _
    rw [h3] at h2
    simpa using h2.symm
  rw [h1, crcF_zeros, stpN_zero]
theorem ofI_inj {x y : Int} (hx : 0 ≤ x ∧ x < 256) (hy : 0 ≤ y ∧ y < 256) (h : BitVec.ofInt 8 x = BitVec.ofInt 8 y) : x = y := by
  have := congrArg (fun b : BitVec 8 => (b.toNat : Int)) h
  simp only [ofI8 x hx.1 hx.2, ofI8 y hy.1 hy.2] at this
  exact this
/-- One byte turned: the sum tells. -/
theorem crc_one (X : List Int) (j : Nat) (hj : j < X.length) (y : Int) (hX : Byt X) (hy : 0 ≤ y ∧ y < 256) (h1 : crcF ones32 (BL X) = 0#32) (h2 : crcF ones32 (BL (X.set j y)) = 0#32) : X.getD j 0 = y := by
  have hx : X.getD j 0 = X[j] := by simp [List.getD, hj]
  have e1 : X = X.take j ++ (X[j] :: X.drop (j + 1)) := by
    rw [← List.drop_eq_getElem_cons hj, List.take_append_drop]
  have e2 : X.set j y = X.take j ++ (y :: X.drop (j + 1)) := by
    conv => lhs; rw [e1]
    rw [List.set_append_right _ _ (by rw [List.length_take]; omega), show j - (X.take j).length = 0 by simp; omega, List.set_cons_zero]
  have b1 : BL X = BL (X.take j) ++ (BitVec.ofInt 8 X[j] :: BL (X.drop (j + 1))) := by
    conv => lhs; rw [e1]
    rw [BL_append]; rfl
  rw [e2, BL_append] at h2
  rw [b1] at h1
  rw [crcF_append] at h1 h2
  generalize crcF ones32 (BL (X.take j)) = s at h1 h2
  have h1 : crcF (wb s (BitVec.ofInt 8 X[j])) (BL (X.drop (j + 1))) = 0#32 := h1
  have h2 : crcF (wb s (BitVec.ofInt 8 y)) (BL (X.drop (j + 1))) = 0#32 := h2
  have e3 : wb s (BitVec.ofInt 8 y) = wb s (BitVec.ofInt 8 X[j]) ^^^ wb 0#32 (BitVec.ofInt 8 X[j] ^^^ BitVec.ofInt 8 y) := by
    rw [← wb_xor, BitVec.xor_zero, ← BitVec.xor_assoc, BitVec.xor_self, BitVec.zero_xor]
  rw [e3, crcF_drift, h1, BitVec.zero_xor] at h2
  have h3 := stpN_inj0 _ _ h2
  unfold wb at h3
  have h4 := stpN_inj0 _ _ h3
  rw [BitVec.zero_xor] at h4
  have h5 := byt_zero _ h4
  have h6 : BitVec.ofInt 8 X[j] = BitVec.ofInt 8 y := by
    have := congrArg (· ^^^ BitVec.ofInt 8 y) h5
    simpa [BitVec.xor_assoc] using this
  rw [hx]
  exact ofI_inj (u8_bd (hX _ (by simp))) hy h6
/-- A page of which one byte is mixed with another one. -/
def turn1 (p : List Int) (i : Nat) (m : Int) : List Int := p.set i (xI (p.getD i 0) m)
theorem turn1_len (p : List Int) (i : Nat) (m : Int) : (turn1 p i m).length = p.length := by simp [turn1]
theorem turn1_at (p : List Int) (i : Nat) (m : Int) (j : Nat) (hi : i < p.length) : (turn1 p i m).getD j 0 = if j = i then xI (p.getD i 0) m else p.getD j 0 := by
  unfold turn1
  simp only [List.getD]
  rw [List.getElem?_set]
  by_cases h : i = j
  · subst h; simp [hi]
  · rw [if_neg h, if_neg (fun e => h e.symm)]
theorem turn1_byt {p : List Int} (h : Byt p) (i : Nat) {m : Int} (hm : 0 ≤ m ∧ m < 256) : Byt (turn1 p i m) := by
  unfold turn1
  intro n hn
  rcases List.mem_or_eq_of_mem_set hn with hn | rfl
  · exact h n hn
  · have := xI_bd (h.at i) hm
    exact wf_byte this.1 this.2
theorem xI_ne {a m : Int} (ha : 0 ≤ a ∧ a < 256) (hm : 0 < m ∧ m < 256) : xI a m ≠ a := by
  intro h
  have h1 := xI_twice (a := a) (m := m) ha.1
  rw [h] at h1
  unfold xI at h
  have h2 : (a.toNat ^^^ m.toNat) = a.toNat := by omega
  have h3 : m.toNat = 0 := by
    have := congrArg (a.toNat ^^^ ·) h2
    simpa [← Nat.xor_assoc] using this
  omega
theorem spoilt (g : Int) (c : List Int) (hc : c.length ≤ 186) (hb : Byt c) (i : Nat) (hi : i < 256) {m : Int} (hm : 0 < m ∧ m < 256) : (rootOf (turn1 (rootP g c) i m)).1 = 0 := by
  have bR := rootP_byt g hb
  have lR := rootP_len g c
  have hne := xI_ne (bR.at i) hm
  have bT := turn1_byt bR i (m := m) (by omega)
  have hat := fun j => turn1_at (rootP g c) i m j (by rw [lR]; exact hi)
  apply Decidable.byContradiction
  intro h0
  have hS := rootOf_some h0
  have hBd := rootOf_bd bT
  have hcl : (rootOf (turn1 (rootP g c) i m)).2.length ≤ 186 := by
    unfold rootOf
    split
    · simp
    · rename_i h1
      split
      · rw [contOf_len bT (by omega)]; omega
      · simp
  have hcb := rootOf_byt bT
  generalize (rootOf (turn1 (rootP g c) i m)).1 = g' at *
  generalize (rootOf (turn1 (rootP g c) i m)).2 = c' at *
  by_cases h8 : i % 32 < 8
  · -- the same place of another sector
    obtain ⟨j, hj, hji, hj8⟩ : ∃ j, j < 256 ∧ j ≠ i ∧ j % 32 = i % 32 := by
      by_cases h : i < 32
      · exact ⟨i + 32, by omega, by omega, by omega⟩
      · exact ⟨i - 32, by omega, by omega, by omega⟩
    have e1 := hat i
    have e2 := hat j
    rw [if_pos rfl] at e1
    rw [if_neg hji] at e2
    rw [hS, rootP_get _ _ _ hi, if_pos h8] at e1
    rw [hS, rootP_get _ _ _ hj, hj8, if_pos h8, rootP_get _ _ _ hj, hj8, if_pos h8] at e2
    rw [e2] at e1
    have e3 := rootP_get g c i hi
    rw [if_pos h8] at e3
    rw [← e3] at e1
    exact hne e1.symm
  · have hk : i / 32 * 24 + (i % 32 - 8) < 192 := by omega
    have es : strmOf (turn1 (rootP g c) i m) = (strmOf (rootP g c)).set (i / 32 * 24 + (i % 32 - 8)) (xI ((rootP g c).getD i 0) m) := by
      apply ext_getD
      · rw [List.length_set, strmOf_len, strmOf_len]
      · intro j hj
        rw [strmOf_len] at hj
        have e1 : (strmOf (turn1 (rootP g c) i m)).getD j 0 = (turn1 (rootP g c) i m).getD (j / 24 * 32 + 8 + j % 24) 0 := by rw [strmOf, getD_map _ _ _ hj]
        have e2 : (strmOf (rootP g c)).getD j 0 = (rootP g c).getD (j / 24 * 32 + 8 + j % 24) 0 := by rw [strmOf, getD_map _ _ _ hj]
        rw [e1, hat]
        simp only [List.getD, List.getElem?_set]
        by_cases h : i / 32 * 24 + (i % 32 - 8) = j
        · rw [if_pos (by omega), if_pos h, if_pos (by rw [strmOf_len]; exact hk)]
          rfl
        · rw [if_neg (by omega), if_neg h]
          have := e2
          simp only [List.getD] at this
          exact this.symm
    have e4 : strmOf (turn1 (rootP g c) i m) = st192 c' := by rw [hS, strmOf_root]
    rw [strmOf_root] at es
    have z1 := crc_st hc hb
    have z2 := crc_st hcl hcb
    rw [← e4, es] at z2
    have xb := xI_bd (bR.at i) (b := m) (by omega)
    have := crc_one (st192 c) _ (by rw [st192_len]; exact hk) _ (st192_byt hb) xb z1 z2
    have e5 := rootP_get g c i hi
    rw [if_neg h8] at e5
    rw [← e5] at this
    exact hne this.symm
/-- Of a turned root's sectors one at least has the generation still. -/
theorem turn_gen (g : Int) (hg : 0 ≤ g ∧ g < 18446744073709551616) (c : List Int) (i : Nat) (hi : i < 256) (m : Int) : ∃ s, s < 8 ∧ genAt (turn1 (rootP g c) i m) s = g := by
  obtain ⟨s, hs, hsi⟩ : ∃ s, s < 8 ∧ s ≠ i / 32 := by
    by_cases h : i / 32 = 0
    · exact ⟨1, by omega, by omega⟩
    · exact ⟨0, by omega, by omega⟩
  refine ⟨s, hs, ?_⟩
  have hR := rootP_len g c
  have : ((turn1 (rootP g c) i m).drop (s * 32)).take 8 = ((rootP g c).drop (s * 32)).take 8 := by
    apply ext_getD
    · simp only [List.length_take, List.length_drop, turn1_len]
    · intro j hj
      have hj8 : j < 8 := by rw [List.length_take] at hj; omega
      rw [drop_take_get _ _ _ _ hj8, drop_take_get _ _ _ _ hj8, turn1_at _ _ _ _ (by rw [hR]; exact hi), if_neg (by omega)]
  unfold genAt
  rw [this]
  exact genAt_root g hg c s hs

/-- The disk behind both Writes. -/
def X2S (a b : List Int) : DSt := (rWrite (rWrite (newD 2) a).1 b).1
theorem two_first (a : List Int) (ha : a.length ≤ 186) (ba : Byt a) : (rWrite (newD 2) a).2 = (1, 0) ∧ Two (rWrite (newD 2) a).1 zeroP (rootP 1 a) ∧ (rWrite (newD 2) a).1.down = false ∧ (rWrite (newD 2) a).1.left = -1 := by
  have h := two_new
  have hG : nextG (newD 2) = 1 := by have := h.nxG.2.2.2.1 (by rw [new_newest]); rw [new_top] at this; exact this
  have hw := h.goes (by rw [new_top]; decide) rfl (by decide) a ha
  rw [hG] at hw
  have e : ¬ ((newD 2).left = 1) := by decide
  rw [if_neg e] at hw
  have hT := putS_two h 1 (rootP_len 1 a) (rootP_byt 1 ba) (rWrite (newD 2) a).1 (by rw [hw]) (by rw [hw]; rfl) (by rw [hw])
  exact ⟨by rw [hw], hT, by rw [hw]; rfl, by rw [hw]; rfl⟩
theorem top_one (a : List Int) : top zeroP (rootP 1 a) = 1 := by
  have hz : ∀ s, s < 8 → genAt zeroP s ≤ 1 := by decide +kernel
  apply Int.le_antisymm
  · exact top_up (by decide) hz (fun s hs => by rw [genAt_root 1 (by decide) a s hs]; decide)
  · have := top_q zeroP (rootP 1 a) 0 (by decide)
    rwa [genAt_root 1 (by decide) a 0 (by decide)] at this
theorem newest_one (a : List Int) (ha : a.length ≤ 186) : newest zeroP (rootP 1 a) = (1, a) := by
  have h1 : rootOf zeroP = (0, []) := by kernel_rfl
  unfold newest
  rw [h1, rootOf_root 1 (by decide) a ha]
  rfl
theorem two_second (a b : List Int) (ha : a.length ≤ 186) (ba : Byt a) (hb : b.length ≤ 186) (bb : Byt b) : (rWrite (rWrite (newD 2) a).1 b).2 = (2, 0) ∧ Two (X2S a b) (rootP 2 b) (rootP 1 a) ∧ (X2S a b).down = false ∧ (X2S a b).left = -1 := by
  obtain ⟨_, h, hd, hl⟩ := two_first a ha ba
  unfold X2S
  generalize (rWrite (newD 2) a).1 = X at *
  have hG : nextG X = 2 := by
    have := h.nxG.2.2.2.2
    rw [top_one, newest_one a ha] at this
    exact this (by show (1 + 1 : Int) % 2 ≠ 1 % 2; decide)
  have hw := h.goes (by rw [top_one]; decide) hd (by rw [hl]; decide) b hb
  have e : ¬ (X.left = 1) := by rw [hl]; decide
  rw [hG, if_neg e] at hw
  have hT := putS_two h 2 (rootP_len 2 b) (rootP_byt 2 bb) (rWrite X b).1 (by rw [hw]) (by rw [hw]; exact h.pend) (by rw [hw])
  exact ⟨by rw [hw], hT, by rw [hw]; exact hd, by rw [hw]; simp [hl]⟩
end Go.Proofs.Ytijgfojnppcbjaa
/- How a slice of slices of bytes, and an array of two bytes, that came in are opened. -/
namespace Go.Proofs.Ytijgfojnppcbjaa
open Go.RowKit Go.Proofs.U Go.ChangeShapes Go.WideShapes Go.ChangeAt

set_option maxRecDepth 100000 in
theorem opened_rows {H : Type} {enc : TypeId × Value → H} {W : World} {base : Nat} {v : Value} {d : DataW H} {p : List MemPlace}
    (hval : Value.okWide Try.prog W .any base 64 v) (h : DataW.Trod enc Try.prog W 0 (fun _ => true) true 64 v d p) : ∃ ls, SlB W v ls := by
  obtain ⟨a, len, cap, rfl⟩ := okWide_slice Try.underlying64 hval
  obtain ⟨fuel, hf⟩ := h
  rcases Deep.open_int_rows Try.underlying64 Try.underlying24 Try.underlying5 (by kernel_rfl) (by kernel_rfl) hf with ⟨hcs, _⟩ | ⟨x, l, c, A, L, C, Z, hcs, _, hl, hm, _, hcell⟩
  · simp [Value.cells] at hcs
    obtain ⟨rfl, rfl, rfl⟩ := hcs
    exact ⟨[], SlB.nil W⟩
  · simp [Value.cells] at hcs
    obtain ⟨rfl, rfl, rfl⟩ := hcs
    have e : ((List.range len).map fun r => (Z r).take (L r)).length = len := by simp
    refine ⟨(List.range len).map fun r => (Z r).take (L r), (List.range len).map fun r => .slice (A r) (L r) (C r), ?_, ?_⟩
    · rw [e]
      refine ⟨some x, cap, rfl, hl, by simp, (fun h => by cases h), fun y hy j u hj => ?_⟩
      cases hy
      have hj1 : j < len := by have := (List.getElem?_eq_some_iff.1 hj).1; simpa using this
      simp [hj1] at hj
      rw [← hj]; exact (hcell j (by omega)).1
    · intro j hj u hu
      have hj1 : j < len := by simpa using hj
      simp [hj1] at hu
      subst hu
      obtain ⟨h1, h2, h3, h4, h5, h6, h7⟩ := hcell j (by omega)
      simp only [List.getElem_map, List.getElem_range]
      have e2 : ((Z j).take (L j)).length = L j := by simp; omega
      refine ⟨?_, fun n hn => h5 n (List.mem_of_mem_take hn)⟩
      rw [e2]
      refine ⟨A j, C j, rfl, h2, by simp; omega, fun hn => h6 hn, fun y hy i u hi => ?_⟩
      have hi1 : i < L j := by have := (List.getElem?_eq_some_iff.1 hi).1; simp at this; omega
      have hi2 : i < (Z j).length := by omega
      have := (h7 y hy).2 i (by omega)
      rw [this]
      rw [List.getElem?_map, List.getElem?_take, if_pos hi1, List.getElem?_eq_getElem hi2] at hi
      simp at hi
      simp [List.getD, hi2, hi]

set_option maxRecDepth 100000 in
theorem opened_two {H : Type} {enc : TypeId × Value → H} {W : World} {base : Nat} {v : Value} {d : DataW H} {p : List MemPlace}
    (hval : Value.okWide Try.prog W .any base 66 v) (h : DataW.Trod enc Try.prog W 0 (fun _ => true) true 66 v d p) :
    ∃ m : Int × Int, v = .agg #[.int .u8 m.1, .int .u8 m.2] ∧ (Lit.int .u8 m.1).wf = true ∧ (Lit.int .u8 m.2).wf = true := by
  simp only [Value.okWide, Try.underlying66] at hval
  obtain ⟨cs, rfl, hsz, _⟩ := hval
  have hC : Try.prog.cellsOf 66 = 2 := by kernel_rfl
  have hc5 : Try.prog.cellsOf 5 = 1 := by kernel_rfl
  rw [hC] at hsz
  obtain ⟨fuel, hf⟩ := h
  obtain ⟨xs, m, _, _, _, hlen, hx⟩ := DataW.trod_array Try.underlying66 hf
  match cs, hsz with
  | ⟨[c0, c1]⟩, _ =>
    have h0 := hx 0 (by omega)
    have h1 := hx 1 (by omega)
    rw [hc5] at h0 h1
    simp [Value.cells] at h0 h1
    have g0 : xs[0]? = some xs[0] := List.getElem?_eq_getElem (by omega)
    have g1 : xs[1]? = some xs[1] := List.getElem?_eq_getElem (by omega)
    rw [g0] at h0
    rw [g1] at h1
    obtain ⟨z0, e0, _, w0⟩ := DataW.trod_int Try.underlying5 h0
    obtain ⟨z1, e1, _, w1⟩ := DataW.trod_int Try.underlying5 h1
    simp at e0 e1
    subst e0 e1
    exact ⟨(z0, z1), rfl, w0, w1⟩
end Go.Proofs.Ytijgfojnppcbjaa
