/- Texts V13, CV, V14, OpenC, V14f of the proof of RootTurns, one behind the other. -/
import Derived.Test.YtijgfojnppcbjaaRows
import Derived.Deep.Matrix
import Derived.Test.YtijgfojnppcbjaaBundleRootTurns1
import Derived.Test.YtijgfojnppcbjaaBundleRootTurns2
import Derived.Test.YtijgfojnppcbjaaBundleRootTurns3
import Derived.Test.YtijgfojnppcbjaaBundleRootTurns4
import Derived.Test.YtijgfojnppcbjaaBundleRootTurns5
import Derived.Test.YtijgfojnppcbjaaBundleRootTurns6
import Derived.Test.YtijgfojnppcbjaaBundleRootTurns7
import Derived.Test.YtijgfojnppcbjaaBundleRootTurns8
import Derived.Test.YtijgfojnppcbjaaBundleRootTurns9
import Derived.Test.YtijgfojnppcbjaaBundleRootTurns10
import Derived.Test.YtijgfojnppcbjaaBundleRootTurns11
import Derived.Test.YtijgfojnppcbjaaBundleRootTurns12
import Derived.Test.YtijgfojnppcbjaaBundleRootTurns13
/- The example that layer 5's statements ask first; RootNames. -/
namespace Go.Proofs.Ytijgfojnppcbjaa
open Go.RowKit Go.Proofs.U
set_option linter.unusedSimpArgs false
set_option linter.unusedVariables false
theorem newD_byt (n : Int) : (newD n).byt := by
  refine ⟨?_, by intro x hx; simp [newD] at hx⟩
  intro p hp
  have : p = zeroP := List.eq_of_mem_replicate hp
  rw [this]; exact zeroP_byt
def XA : DSt := (rWrite (newD 4) [97, 98]).1
theorem aliveW : (rWrite (newD 4) [97, 98]).2 = (1, 0) := by kernel_rfl
theorem aliveR : rRead XA = ([97, 98], 1, 0) := by kernel_rfl
theorem aliveN : XA.pend.length = 0 := by kernel_rfl
theorem write_byt {X : DSt} (h : X.byt) (i : Int) {p : List Int} (hp : Byt p) : (X.write i p).byt := by
  unfold DSt.write
  split
  · split
    · refine ⟨h.1, ?_⟩
      intro x hx
      have hx : x ∈ X.pend ++ [(i, p)] := hx
      rcases List.mem_append.1 hx with hx | hx
      · exact h.2 x hx
      · simp at hx; subst hx; exact hp
    · exact h
  · exact h
theorem getD_byt {L : List (List Int)} (h : ∀ p ∈ L, Byt p) (i : Nat) : Byt (L.getD i []) := by
  by_cases hj : i < L.length
  · have : L.getD i [] = L[i] := by simp [List.getD, hj]
    rw [this]; exact h _ (by simp)
  · have : L.getD i [] = [] := by simp [List.getD, hj]
    rw [this]; intro n hn; simp at hn
theorem setS_byt {pages : List (List Int)} {pend : List (Int × List Int)} (h1 : ∀ p ∈ pages, Byt p) (h2 : ∀ x ∈ pend, Byt x.2) (st : Nat → Nat → Bool) (k : Nat) : ∀ p ∈ setS pages pend st k, Byt p := by
  have nb : Byt [] := by intro n hn; simp at hn
  induction k with
  | zero => exact h1
  | succ k ih =>
    rw [setS_succ]
    unfold setS1
    intro p hp
    rcases List.mem_or_eq_of_mem_set hp with hp | rfl
    · exact ih p hp
    · refine mixS_byt ?_ ?_ _
      · exact getD_byt ih _
      · by_cases hj : k < pend.length
        · have : pend.getD k (0, []) = pend[k] := by simp [List.getD, hj]
          rw [this]; exact h2 _ (by simp)
        · have : pend.getD k (0, []) = (0, []) := by simp [List.getD, hj]
          rw [this]; exact nb
theorem act_byt {X : DSt} (h : X.byt) : X.act.byt := h
theorem sync_byt {X : DSt} (h : X.byt) : X.sync.byt := by
  unfold DSt.sync
  split
  · exact ⟨setS_byt h.1 h.2 _ _, by intro x hx; simp [DSt.settle] at hx⟩
  · exact h
theorem crash_byt {X : DSt} (h : X.byt) (keep : List Int) : (X.crash keep).byt := ⟨setS_byt h.1 h.2 _ _, by intro x hx; simp [DSt.crash] at hx⟩
theorem rWrite_byt {X : DSt} (h : X.byt) {c : List Int} (hc : Byt c) : (rWrite X c).1.byt := by
  unfold rWrite
  split
  · exact h
  · split
    · exact h
    · have h1 : (X.write ((rNext X).1 % 2) (rootP (rNext X).1 c)).byt := write_byt h _ (rootP_byt _ hc)
      dsimp only
      split
      · exact h1
      · split
        · exact sync_byt h1
        · exact sync_byt h1
theorem str97 : ((strOfNums [97, 98]).toList == [97, 98]) = true := by decide +kernel

set_option maxRecDepth 100000 in
set_option maxHeartbeats 2000000 in
theorem ralive_any (w : World) : Calls Try.prog 12 #[] w fun r w' => r = .returned (.bool true) ∧ Fr noB w w' := by
  have hst := str97
  have hby := newD_byt 4
  have hw := aliveW
  have hrd := aliveR
  have hpn := aliveN
  have hbX : XA.byt := rWrite_byt hby (by intro n hn; simp at hn; rcases hn with rfl | rfl <;> decide)
  have hX : (rWrite (newD 4) [97, 98]).1 = XA := rfl
  obtain ⟨X1, HX1⟩ : ∃ X, Hid (XA = X) := ⟨_, rfl⟩
  have hp0 : (newD 4).pend.length ≤ 90000 := by decide
  obtain ⟨X0, HX0⟩ : ∃ X, Hid (newD 4 = X) := ⟨_, rfl⟩
  rw [HX1.out] at hrd hpn hbX hX
  rw [HX0.out] at hby hw hX hp0
  have hwr := show Hid _ from fun (F : Nat → Prop) (g : Nat) (v : Value) (W : World) (h : Disk W F g X0) (hS : SlI .u8 W v [97, 98]) => rwrite_p g v [97, 98] W h hp0 hby hS
  simp only [hw, hX] at hwr
  have hrr := show Hid _ from fun (F : Nat → Prop) (g : Nat) (W : World) (h : Disk W F g X1) => rread_p g W h (by omega) hbX
  unfold ReadIs at hrr
  simp only [hrd] at hrr
  clear hw hrd hX hby hbX hpn hp0
  go_enter Try.func12, Try.ntmps12
  go_wp2_with (first
    | (go_at_call 8; go_must (refine (new_any 4 (by omega) _).mono ?_; rw [HX0.out]; rintro e w1 ⟨g, rfl, d1, f1⟩))
    | (refine at_conv 24 24 _ rfl ?_; refine wpList_const rfl _ rfl w1 _ _ _ [97, 98] rfl rfl rfl (by rfl) (by decide) rfl ?_; intro w2 f2 i2)
    | (go_at_call 10; go_must (refine (hwr.out _ g _ _ (d1.fr0 f2) i2).mono ?_; rintro e w3 ⟨rfl, d3, f3⟩))
    | (go_at_call 9; go_must (refine (hrr.out _ g _ d3).mono ?_; rintro e w4 ⟨v4, rfl, i4, n4, f4⟩))
    | (refine at_conv 24 9 _ rfl ?_; go_must (refine wpList_str rfl _ 24 9 5 rfl Try.underlying24 Try.underlying5 Try.underlying9 _ _ rfl i4 ?_)))
  go_ret
  have z1 := f1.size
  exact ⟨rfl, ((f1.thenN f2).thenT (S := noB) f3 (fun k hk q => by omega)).thenN f4⟩

theorem nmR : rRead (newD 4) = ([], 0, 51) := by kernel_rfl
theorem nmW : rWrite (newD 4) (List.replicate 187 0) = (newD 4, 0, 51) := by kernel_rfl
theorem nmR1 : rRead (newD 1) = ([], 0, 41) := by kernel_rfl
theorem nmX : rNext (newD 4) = (1, 0) := by kernel_rfl

set_option maxRecDepth 100000 in
set_option maxHeartbeats 2000000 in
theorem rnames_walk (w : World) : Calls Try.prog 3 #[] w fun r w' => r = .returned (.bool true) ∧ Below w.heap.size w w' := by
  have hby := newD_byt 4
  have hby1 := newD_byt 1
  have h1 := nmR
  have h2 := nmW
  have h3 := nmR1
  have h4 := nmX
  have hp0 : (newD 4).pend.length ≤ 90000 := by decide
  have hp1 : (newD 1).pend.length ≤ 90000 := by decide
  obtain ⟨X0, HX0⟩ : ∃ X, Hid (newD 4 = X) := ⟨_, rfl⟩
  obtain ⟨X1, HX1⟩ : ∃ X, Hid (newD 1 = X) := ⟨_, rfl⟩
  obtain ⟨Z, HZ⟩ : ∃ X, Hid (List.replicate 187 (0 : Int) = X) := ⟨_, rfl⟩
  have hZb : Byt Z := by rw [← HZ.out]; intro n hn; rw [List.eq_of_mem_replicate hn]; decide
  have hZl : Hid (Z.length = 187) := by show _ = _; rw [← HZ.out]; exact List.length_replicate
  rw [HX0.out] at hby hp0 h1 h2 h4
  rw [HX1.out] at hby1 hp1 h3
  rw [HZ.out] at h2
  have hwr := show Hid _ from fun (F : Nat → Prop) (g : Nat) (v : Value) (W : World) (h : Disk W F g X0) (hS : SlI .u8 W v Z) => rwrite_p g v Z W h hp0 hby hS
  simp only [h2] at hwr
  have hrr := show Hid _ from fun (F : Nat → Prop) (g : Nat) (W : World) (h : Disk W F g X0) => rread_p g W h (by omega) hby
  have hrr1 := show Hid _ from fun (F : Nat → Prop) (g : Nat) (W : World) (h : Disk W F g X1) => rread_p g W h (by omega) hby1
  have hnx := show Hid _ from fun (F : Nat → Prop) (g : Nat) (W : World) (h : Disk W F g X0) => rnext_p g W h (by omega) hby
  unfold ReadIs at hrr hrr1
  simp only [h1] at hrr
  simp only [h3] at hrr1
  simp only [h4] at hnx
  clear h1 h2 h3 h4 hby hby1 hp0 hp1
  go_enter Try.func3, Try.ntmps3
  go_wp2_with (first
    | (go_at_call 8; have d4' := d4; go_must (refine (new_any 1 (by omega) _).mono ?_; rw [HX1.out]; rintro e w5 ⟨g5, rfl, d5, f5⟩))
    | (go_at_call 8; go_must (refine (new_any 4 (by omega) _).mono ?_; rw [HX0.out]; rintro e w1 ⟨g, rfl, d1, f1⟩))
    | (go_at_call 9; have d5' := d5; go_must (refine (hrr1.out _ g5 _ d5).mono ?_; rintro e w6 ⟨v6, rfl, i6, n6, f6⟩))
    | (go_at_call 9; go_must (refine (hrr.out _ g _ d1).mono ?_; rintro e w2 ⟨v2, rfl, i2, n2, f2⟩))
    | (refine at_make 24 _ _ rfl ?_; go_must (refine wpList_mkB rfl _ _ rfl 187 187 rfl rfl rfl (by decide) ?_; rw [HZ.out]; intro g3 w3 b3 f3 s3; have i3 : SlI .u8 w3 (.slice (some ⟨g3, 0, none⟩) 187 187) Z := (by have := BxV.slI b3 hZb 0 187 187 (by have := hZl.out; omega) (by omega); rwa [List.drop_zero, List.take_of_length_le (by have := hZl.out; omega)] at this)))
    | (go_at_call 10; go_must (refine (hwr.out _ g _ _ ((d1.fr0 f2).fr0 f3) i3).mono ?_; rintro e w4 ⟨rfl, d4, f4⟩))
    | (go_at_call 11; go_must (refine (hnx.out _ g _ ((d4.fr0 f5).fr0 f6)).mono ?_; rintro e w7 ⟨rfl, f7⟩))
    | (go_at_call 12; go_must (refine (ralive_any _).mono ?_; rintro e w8 ⟨rfl, f8⟩)))
  go_ret
  have z1 := f1.size
  exact ⟨rfl, (((((((f1.thenN f2).thenN f3).thenT (S := noB) f4 (fun k hk q => by omega)).thenN f5).thenN f6).thenN f7).thenN f8).below⟩
end Go.Proofs.Ytijgfojnppcbjaa
/- How bytes become a string. -/
namespace Go.Proofs.Ytijgfojnppcbjaa
open Go.RowKit Go.Proofs.U

theorem conv_run {w : World} {v : Value} {l : List Int} (hS : SlI .u8 w v l) : (convert 24 9 v).run Try.prog w = .ok (.string (strOfNums l)) w := by
  obtain ⟨⟨ao, cap, rfl, hcap, hlen, hnone, hsome⟩, hwf⟩ := hS
  cases ao with
  | none =>
    obtain rfl := hnone rfl
    obtain rfl : l = [] := List.eq_nil_of_length_eq_zero (by omega)
    rw [run_convert_bytes_nil (P := Try.prog) w 24 5 Try.underlying24 Try.underlying5 _ _ 9 Try.underlying9]; rfl
  | some ad =>
    have hcell := hsome _ rfl
    by_cases hl0 : l.length = 0
    · obtain rfl : l = [] := List.eq_nil_of_length_eq_zero hl0
      have hl : (loadCells ad 0).run Try.prog w = .ok #[] w := by simpa using run_loadCells_list (P := Try.prog) w ad [] (by simp)
      rw [run_convert_bytes_string w 24 9 5 _ _ cap Try.underlying24 Try.underlying5 Try.underlying9]
      exact run_bytesToString w ad 0 cap [] hl
    obtain ⟨b, off, sp⟩ := ad
    have hsp : sp = none := by
      have := hcell 0 _ (List.getElem?_eq_getElem (by simp; omega))
      simpa [Addr.add] using World.cell?_spot this
    subst hsp
    refine run_convert_bytes_arg (P := Try.prog) w 24 5 Try.underlying24 Try.underlying5 b off l.length cap l rfl ?_ 9 Try.underlying9
    intro i hi
    have := hcell i (.int .u8 (l.getD i 0)) (by simp [List.getD, hi])
    have hadd : (⟨b, off, none⟩ : Addr).add i = ⟨b, off + i, none⟩ := by unfold Addr.add; split <;> simp_all
    rwa [hadd] at this
end Go.Proofs.Ytijgfojnppcbjaa
/- RootTurns. -/
namespace Go.Proofs.Ytijgfojnppcbjaa
open Go.RowKit Go.Proofs.U
set_option linter.unusedSimpArgs false
set_option linter.unusedVariables false
theorem putS_two {X : DSt} {p q : List Int} (h : Two X p q) (G : Int) {r : List Int} (hr : r.length = 256) (br : Byt r) (Y : DSt) (hp : Y.pages = [putS0 G r p, putS1 G r q]) (hq : Y.pend = []) (hb : Y.bad = X.bad) : Two Y (putS0 G r p) (putS1 G r q) := by
  refine ⟨hp, hq, by rw [hb]; exact h.bad, ?_, ?_, ?_, ?_⟩
  · unfold putS0; split; exact hr; exact h.lp
  · unfold putS1; split; exact h.lq; exact hr
  · unfold putS0; split; exact br; exact h.bp
  · unfold putS1; split; exact h.bq; exact br
theorem turn_ok {X : DSt} {p q : List Int} (h : Two X p q) (hd : X.down = false) (hl : X.left = -1) {last : Int} (h1 : (newest p q).1 = last) (h2 : top p q = last) (hb : last ≤ 1000) (c : List Int) (hc : c.length ≤ 186) (bc : Byt c) :
    rNext X = (last + 1, 0) ∧ ∃ Y p' q', rWrite X c = (Y, last + 1, 0) ∧ Two Y p' q' ∧ Y.down = false ∧ Y.left = -1 ∧ (newest p' q').1 = last + 1 ∧ top p' q' = last + 1 ∧ rRead Y = (c, last + 1, 0) := by
  have h0 := top_nn p q
  have hG : nextG X = last + 1 := by
    have := h.nxG.2.2.2.2
    rw [h1, h2] at this
    exact this (by omega)
  have hx := h.nx (by omega)
  rw [hG] at hx
  refine ⟨hx, ?_⟩
  have hw := h.goes (by omega) hd (by omega) c hc
  rw [hG, hl] at hw
  simp only [show ¬ ((-1 : Int) = 1) by decide, if_false, show ¬ ((0 : Int) < -1) by decide] at hw
  have hR := rootP_len (last + 1) c
  have bR := rootP_byt (last + 1) bc
  have hT := putS_two h (last + 1) hR bR _ (rfl : ({ X with left := -1, pages := [putS0 (last + 1) (rootP (last + 1) c) p, putS1 (last + 1) (rootP (last + 1) c) q] } : DSt).pages = _) h.pend rfl
  have hN := newest_new h.bp h.bq (G := last + 1) (by omega) (by omega) c hc
  refine ⟨_, _, _, hw, hT, hd, rfl, by rw [hN], ?_, ?_⟩
  · apply Int.le_antisymm
    · refine top_put (by omega) (by omega) (fun s hs => ?_)
      rw [genAt_root _ ⟨by omega, by omega⟩ _ s hs]; exact Int.le_refl _
    · have := newest_top hT.bp hT.bq
      rw [hN] at this; exact this
  · rw [hT.rd, hN]
    simp only
    rw [if_neg (by omega)]
theorem two_new : Two (newD 2) zeroP zeroP := ⟨rfl, rfl, fun _ => rfl, zeroP_len, zeroP_len, zeroP_byt, zeroP_byt⟩
theorem new_newest : newest zeroP zeroP = (0, []) := by kernel_rfl
theorem new_top : top zeroP zeroP = 0 := by kernel_rfl
theorem write_long {X : DSt} {c : List Int} (h : 186 < c.length) : rWrite X c = (X, 0, 51) := by unfold rWrite; rw [if_pos h]
theorem str_refl (l : List Int) : ((strOfNums l).toList == (strOfNums l).toList) = true := by simp

set_option maxRecDepth 100000 in
set_option maxHeartbeats 4000000 in
theorem turns5_walk (v : Value) (ls : List (List Int)) (w : World) (hS : SlB w v ls) :
    Calls Try.prog 6 #[v] w fun r w' => r = .returned (.bool true) ∧ Below w.heap.size w w' := by
  obtain ⟨a, cap, rfl, hcap⟩ := hS.opn
  obtain ⟨vs, hV, hin⟩ := hS
  by_cases hgr : 30 < ls.length
  · have hgr' : (30 : Int) < (ls.length : Int) := by omega
    go_enter Try.func6, Try.ntmps6
    go_wp2_with (first
      | (go_at_call 12; go_must (refine (ralive_any _).mono ?_; rintro e w1 ⟨rfl, f1⟩)))
    go_ret
    exact ⟨rfl, f1.below⟩
  · have hgr' : ¬ (30 : Int) < (ls.length : Int) := by omega
    have htwo := show Hid _ from two_new
    have hnw := show Hid _ from new_newest
    have htp := show Hid _ from new_top
    have hd0 : Hid ((newD 2).down = false) := rfl
    have hl0 : Hid ((newD 2).left = -1) := rfl
    obtain ⟨X0, HX0⟩ : ∃ X, Hid (newD 2 = X) := ⟨_, rfl⟩
    rw [HX0.out] at htwo hd0 hl0
    go_enter Try.func6, Try.ntmps6
    go_wp2_with (first
      | (go_at_call 12; go_must (refine (ralive_any _).mono ?_; rintro e w1 ⟨rfl, f1⟩))
      | (go_at_call 8; go_must (refine (new_any 2 (by omega) _).mono ?_; rw [HX0.out]; rintro e w2 ⟨g, rfl, d2, f2⟩)))
    have z1 := f1.size
    have d2 : Disk w2 (fun k => w.heap.size ≤ k) g X0 := d2.mono (fun k _ q => by omega)
    go_loopw [4, 22] (fun t i wr => ∃ (k : Nat) (X : DSt) (p q : List Int) (last : Int), k ≤ ls.length ∧ i = .int .i64 (k : Int) ∧ t = .int .u64 last ∧ Disk wr (fun k => w.heap.size ≤ k) g X ∧ Hid (Two X p q ∧ X.down = false ∧ X.left = -1 ∧ (newest p q).1 = last ∧ top p q = last) ∧ 0 ≤ last ∧ last ≤ k ∧ Fr noB w wr) (fun _ i _ => ls.length - (intOf i).toNat)
    case atStart => exact ⟨0, X0, zeroP, zeroP, 0, by omega, rfl, rfl, d2, show _ ∧ _ from ⟨htwo.out, hd0.out, hl0.out, by rw [hnw.out], htp.out⟩, by omega, by omega, f1.thenN f2⟩
    case round =>
      obtain ⟨k, X, p, q, last, hk, rfl, rfl, hD, hT, hl1, hl2, hf⟩ := hrel
      have hp0 : Hid (X.pend = []) := hT.out.1.pend
      have hby : X.byt := hT.out.1.byt
      by_cases hlt : k < ls.length
      · have hlt' : (k : Int) < (ls.length : Int) := by omega
        have hink := hin k hlt
        obtain ⟨c, HC⟩ : ∃ c, Hid (ls[k] = c) := ⟨ls[k], (rfl : ls[k] = ls[k])⟩
        rw [HC.out] at hink
        have hVr := hV.fr0 hf
        have hpl : X.pend.length ≤ 90000 := by rw [hp0.out]; simp
        have zf := hf.size
        by_cases hc : 186 < c.length
        · have hc' : (186 : Int) < (c.length : Int) := by omega
          have hwr := show Hid _ from fun (W : World) (v : Value) (h : Disk W (fun k => w.heap.size ≤ k) g X) (hS : SlI .u8 W v c) => rwrite_p g v c W h hpl hby hS
          simp only [write_long hc] at hwr
          have hnx := show Hid _ from fun (W : World) (h : Disk W (fun k => w.heap.size ≤ k) g X) => rnext_p g W h (by omega) hby
          obtain ⟨⟨N1, N2⟩, HN⟩ : ∃ R, Hid (rNext X = R) := ⟨_, rfl⟩
          simp only [HN.out] at hnx
          go_wp2_with (first
            | (refine at_idx 64 _ _ rfl ?_; go_must (refine wpList_idx1 rfl 64 _ _ rfl 24 Try.underlying64 size24 _ _ _ rfl hVr _ _ k rfl rfl hlt ?_; intro pa u hu hcell; have hul := (hink u hu).fr0 hf; obtain ⟨a2, c2, rfl, hc2⟩ := hul.opn))
            | (go_at_call 11; go_must (refine (hnx.out _ hD).mono ?_; rintro e w3 ⟨rfl, f3⟩))
            | (go_at_call 10; go_must (refine (hwr.out _ _ (hD.fr0 f3) (hul.fr0 f3)).mono ?_; rintro e w4 ⟨rfl, d4, f4⟩)))
          go_roundw
          case rel =>
            have z3 := f3.size
            exact ⟨k + 1, X, p, q, last, by omega, by go_num, rfl, d4.mono (fun b _ q => by rcases q with q | q; exact q; omega), hT, hl1, by omega, (hf.thenN f3).thenT f4 (fun b hb q => by omega)⟩
          case measure => simp [intOf]; omega
        · have hc' : ¬ (186 : Int) < (c.length : Int) := by omega
          have bc : Byt c := (hink _ (List.getElem?_eq_getElem (by have := hV; obtain ⟨_, _, _, _, h2, _⟩ := this; omega))).2
          obtain ⟨hx, Y, p', q', hw, hT', hd', hl', hn', ht', hr'⟩ := turn_ok hT.out.1 hT.out.2.1 hT.out.2.2.1 hT.out.2.2.2.1 hT.out.2.2.2.2 (by omega) c (by omega) bc
          have hbY : Y.byt := hT'.byt
          have hpY : Y.pend.length ≤ 90000 := by rw [hT'.pend]; simp
          have hwr := show Hid _ from fun (W : World) (v : Value) (h : Disk W (fun k => w.heap.size ≤ k) g X) (hS : SlI .u8 W v c) => rwrite_p g v c W h hpl hby hS
          simp only [hw] at hwr
          have hnx := show Hid _ from fun (W : World) (h : Disk W (fun k => w.heap.size ≤ k) g X) => rnext_p g W h (by omega) hby
          simp only [hx] at hnx
          have hrr := show Hid _ from fun (F : Nat → Prop) (W : World) (h : Disk W F g Y) => rread_p g W h (by omega) hbY
          unfold ReadIs at hrr
          simp only [hr'] at hrr
          have hT' : Hid (Two Y p' q' ∧ Y.down = false ∧ Y.left = -1 ∧ (newest p' q').1 = last + 1 ∧ top p' q' = last + 1) := ⟨hT', hd', hl', hn', ht'⟩
          have hst := str_refl c
          clear hx hw hd' hl' hn' ht' hr' hbY hpY
          go_wp2_with (first
            | (refine at_idx 64 _ _ rfl ?_; go_must (refine wpList_idx1 rfl 64 _ _ rfl 24 Try.underlying64 size24 _ _ _ rfl hVr _ _ k rfl rfl hlt ?_; intro pa u hu hcell; have hul := (hink u hu).fr0 hf; obtain ⟨a2, c2, rfl, hc2⟩ := hul.opn))
            | (go_at_call 11; go_must (refine (hnx.out _ hD).mono ?_; rintro e w3 ⟨rfl, f3⟩))
            | (go_at_call 10; go_must (refine (hwr.out _ _ (hD.fr0 f3) (hul.fr0 f3)).mono ?_; rintro e w4 ⟨rfl, d4, f4⟩))
            | (go_at_call 9; go_must (refine (hrr.out _ _ d4).mono ?_; rintro e w5 ⟨v5, rfl, i5, n5, f5⟩; have z3 := f3.size; have F4 : Fr noB w w4 := (hf.thenN f3).thenT f4 (fun b hb q => by omega); have I5 : SlI .u8 w5 (.slice a2 c.length c2) c := (hink _ hu).fr0 (F4.thenN f5); obtain ⟨a5, c5, rfl, hc5⟩ := i5.opn))
            | (refine at_conv 24 9 _ rfl ?_; first | (refine wpList_str rfl _ 24 9 5 rfl Try.underlying24 Try.underlying5 Try.underlying9 _ _ rfl i5 ?_) | (refine wpList_str rfl _ 24 9 5 rfl Try.underlying24 Try.underlying5 Try.underlying9 _ _ rfl I5 ?_)))
          go_roundw
          case rel =>
            have z4 := F4.size
            exact ⟨k + 1, Y, p', q', last + 1, by omega, by go_num, rfl, (d4.fr0 f5).mono (fun b _ q => by rcases q with q | q; exact q; omega), hT', by omega, by omega, F4.thenN f5⟩
          case measure => simp [intOf]; omega
      · have hlt' : ¬ (k : Int) < (ls.length : Int) := by omega
        go_wp2
        go_ret
        exact ⟨rfl, hf.below⟩
end Go.Proofs.Ytijgfojnppcbjaa
/- How a slice of slices of bytes, and an array of two bytes, that came in are opened. -/
namespace Go.Proofs.Ytijgfojnppcbjaa
open Go.RowKit Go.Proofs.U Go.ChangeShapes Go.WideShapes Go.ChangeAt

set_option maxRecDepth 100000 in
theorem opened_rows {H : Type} {enc : TypeId × Value → H} {W : World} {base : Nat} {v : Value} {d : DataW H} {p : List MemPlace}
    (hval : Value.okWide Try.prog W .any base 64 v) (h : DataW.Trod enc Try.prog W 0 (fun _ => true) true 64 v d p) : ∃ ls, SlB W v ls := by
  obtain ⟨a, len, cap, rfl⟩ := okWide_slice Try.underlying64 hval
  obtain ⟨fuel, hf⟩ := h
  rcases Deep.open_int_rows Try.underlying64 Try.underlying24 Try.underlying5 (by kernel_rfl) (by kernel_rfl) hf with ⟨hcs, _⟩ | ⟨x, l, c, A, L, C, Z, hcs, _, hl, hm, _, hcell⟩
  · simp [Value.cells] at hcs
    obtain ⟨rfl, rfl, rfl⟩ := hcs
    exact ⟨[], SlB.nil W⟩
  · simp [Value.cells] at hcs
    obtain ⟨rfl, rfl, rfl⟩ := hcs
    have e : ((List.range len).map fun r => (Z r).take (L r)).length = len := by simp
    refine ⟨(List.range len).map fun r => (Z r).take (L r), (List.range len).map fun r => .slice (A r) (L r) (C r), ?_, ?_⟩
    · rw [e]
      refine ⟨some x, cap, rfl, hl, by simp, (fun h => by cases h), fun y hy j u hj => ?_⟩
      cases hy
      have hj1 : j < len := by have := (List.getElem?_eq_some_iff.1 hj).1; simpa using this
      simp [hj1] at hj
      rw [← hj]; exact (hcell j (by omega)).1
    · intro j hj u hu
      have hj1 : j < len := by simpa using hj
      simp [hj1] at hu
      subst hu
      obtain ⟨h1, h2, h3, h4, h5, h6, h7⟩ := hcell j (by omega)
      simp only [List.getElem_map, List.getElem_range]
      have e2 : ((Z j).take (L j)).length = L j := by simp; omega
      refine ⟨?_, fun n hn => h5 n (List.mem_of_mem_take hn)⟩
      rw [e2]
      refine ⟨A j, C j, rfl, h2, by simp; omega, fun hn => h6 hn, fun y hy i u hi => ?_⟩
      have hi1 : i < L j := by have := (List.getElem?_eq_some_iff.1 hi).1; simp at this; omega
      have hi2 : i < (Z j).length := by omega
      have := (h7 y hy).2 i (by omega)
      rw [this]
      rw [List.getElem?_map, List.getElem?_take, if_pos hi1, List.getElem?_eq_getElem hi2] at hi
      simp at hi
      simp [List.getD, hi2, hi]

set_option maxRecDepth 100000 in
theorem opened_two {H : Type} {enc : TypeId × Value → H} {W : World} {base : Nat} {v : Value} {d : DataW H} {p : List MemPlace}
    (hval : Value.okWide Try.prog W .any base 66 v) (h : DataW.Trod enc Try.prog W 0 (fun _ => true) true 66 v d p) :
    ∃ m : Int × Int, v = .agg #[.int .u8 m.1, .int .u8 m.2] ∧ (Lit.int .u8 m.1).wf = true ∧ (Lit.int .u8 m.2).wf = true := by
  simp only [Value.okWide, Try.underlying66] at hval
  obtain ⟨cs, rfl, hsz, _⟩ := hval
  have hC : Try.prog.cellsOf 66 = 2 := by kernel_rfl
  have hc5 : Try.prog.cellsOf 5 = 1 := by kernel_rfl
  rw [hC] at hsz
  obtain ⟨fuel, hf⟩ := h
  obtain ⟨xs, m, _, _, _, hlen, hx⟩ := DataW.trod_array Try.underlying66 hf
  match cs, hsz with
  | ⟨[c0, c1]⟩, _ =>
    have h0 := hx 0 (by omega)
    have h1 := hx 1 (by omega)
    rw [hc5] at h0 h1
    simp [Value.cells] at h0 h1
    have g0 : xs[0]? = some xs[0] := List.getElem?_eq_getElem (by omega)
    have g1 : xs[1]? = some xs[1] := List.getElem?_eq_getElem (by omega)
    rw [g0] at h0
    rw [g1] at h1
    obtain ⟨z0, e0, _, w0⟩ := DataW.trod_int Try.underlying5 h0
    obtain ⟨z1, e1, _, w1⟩ := DataW.trod_int Try.underlying5 h1
    simp at e0 e1
    subst e0 e1
    exact ⟨(z0, z1), rfl, w0, w1⟩
end Go.Proofs.Ytijgfojnppcbjaa
/- RootTurns, with the opener of its argument. -/
