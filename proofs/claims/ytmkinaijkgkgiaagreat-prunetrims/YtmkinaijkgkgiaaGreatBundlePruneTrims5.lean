/- Texts A2, A3, A4, A5, A6, A7, B8, CM, C1, C2 of the proof of PruneTrims, one behind the other. -/
import Derived.Deep.QuietTactic
import Derived.Deep.RegionWith
import Derived.BigRegion
import Derived.RangeFuncNested
import Derived.RangeFuncBound
import Derived.RangeFuncCalls
import Derived.RangeFuncLeaves
import Derived.RangeFuncBox
import Derived.Shelf.Abstract
import Derived.Shelf.RegionOpen
import Derived.OwnWalkIn
import Derived.TacticsInMore
import Derived.LoopNIn
import Derived.LoopIn
import Derived.Test.YtmkinaijkgkgiaaGreatRows
import Derived.Laws.BitsAllLaws
import Derived.Test.YtmkinaijkgkgiaaGreatBundlePruneTrims1
import Derived.Test.YtmkinaijkgkgiaaGreatBundlePruneTrims2
import Derived.Test.YtmkinaijkgkgiaaGreatBundlePruneTrims3
import Derived.Test.YtmkinaijkgkgiaaGreatBundlePruneTrims4
/- Contract of ends.Put where it answers bytes, for lists of at most 10^12 numbers. -/
namespace Go.Proofs.YtmkinaijkgkgiaaGreat
open Go.RowKit Go.Proofs.U


def leB : Nat → Int → List Int
  | 0, _ => []
  | n + 1, x => x % 256 :: leB n (x / 256)
def putB (width : Nat) (l : List Int) : List Int := l.flatMap (leB width)

theorem leB_snoc (q : Nat) (x : Int) (_h : 0 ≤ x) : leB (q + 1) x = leB q x ++ [x / 256 ^ q % 256] := by
  induction q generalizing x with
  | zero => simp [leB]
  | succ q ih =>
    rw [leB, ih (x / 256) (by omega)]
    simp only [leB, List.cons_append]
    rw [Int.ediv_ediv_of_nonneg (by decide), Int.pow_succ, Int.mul_comm]
theorem leB_length (q : Nat) (x : Int) : (leB q x).length = q := by
  induction q generalizing x with
  | zero => rfl
  | succ q ih => simp [leB, ih]
theorem putB_length (W : Nat) (l : List Int) : (putB W l).length = l.length * W := by
  induction l with
  | nil => simp [putB]
  | cons x l ih => simp only [putB, List.flatMap_cons, List.length_append, leB_length, List.length_cons] at *; rw [ih, Nat.add_mul]; omega
theorem putB_take (W : Nat) (l : List Int) (k : Nat) (h : k < l.length) : putB W (l.take (k + 1)) = putB W (l.take k) ++ leB W l[k] := by
  unfold putB; rw [List.take_succ_eq_append_getElem h, List.flatMap_append]; simp
theorem div_step (x : Int) (q : Nat) : x / 256 ^ q / 256 = x / 256 ^ (q + 1) := by
  rw [Int.ediv_ediv_of_nonneg (Int.le_of_lt (Int.pow_pos (by decide))), Int.pow_succ]
theorem div_bd (x : Int) (q : Nat) (h : 0 ≤ x ∧ x < 18446744073709551616) : 0 ≤ x / 256 ^ q ∧ x / 256 ^ q < 18446744073709551616 := by
  have hp : (0 : Int) < 256 ^ q := Int.pow_pos (by decide)
  have h1 := Int.ediv_nonneg h.1 (Int.le_of_lt hp)
  have h2 := Int.ediv_le_self (256 ^ q) h.1
  omega

set_option maxHeartbeats 1000000 in
theorem put_yes (width : Int) (hwd : isW width = true) (vb vl : Value) (bs l : List Int) (w : World) (hb : SlI .u8 w vb bs) (hl : SlI .u64 w vl l) (hbm : bs.length ≤ 1000000000000) (hm : l.length ≤ 1000000000000) (hfit : l.all (fits width) = true) :
    Calls Tryz.prog 90 #[vb, .int .i64 width, vl] w fun e w' => ∃ v, e = .returned (.tuple #[v, .int .i64 0]) ∧ OwnI .u8 5 w' w.heap.size v (bs ++ putB width.toNat l) ∧ Fr noB w w' := by
  have hw1 : 1 ≤ width ∧ width ≤ 8 := by
    have : width = 1 ∨ width = 2 ∨ width = 4 ∨ width = 8 := by simpa [isW, or_assoc] using hwd
    omega
  obtain ⟨W, rfl⟩ := Int.eq_ofNat_of_zero_le (show 0 ≤ width by omega)
  obtain ⟨a, cap, rfl, hcap⟩ := hb.opn
  obtain ⟨a2, cap2, rfl, hcap2⟩ := hl.opn
  obtain ⟨i5, hi5, hz5, hs5, hy5⟩ := info_parts info5
  have Hwd : Hid (isW (W : Int) = true) := hwd
  have Hfit : Hid (l.all (fits W) = true) := hfit
  clear hwd hfit
  have hmul : (W : Int) * (l.length : Int) ≤ 8000000000000 := by
    have := Int.mul_le_mul (a := (W : Int)) (b := (l.length : Int)) (c := 8) (d := 1000000000000) (by omega) (by omega) (by omega) (by omega)
    omega
  have hmulN : W * l.length ≤ 8000000000000 := by have : ((W * l.length : Nat) : Int) = (W : Int) * (l.length : Int) := by simp
                                                  omega
  have hmul0 : 0 ≤ (W : Int) * (l.length : Int) := Int.mul_nonneg (by omega) (by omega)
  go_enter Tryz.func90, Tryz.ntmps90
  go_wp2_with (first | (go_at_call 104; refine (isWidth_any _ _).mono ?_; rintro e w' ⟨rfl, rfl⟩; rw [Hwd.out]) | (go_at_call 105; refine (allFit_any _ Hwd.out _ l _ hl hm).mono ?_; rintro e w' ⟨rfl, rfl⟩; rw [Hfit.out]) | (refine at_make 120 _ _ rfl ?_; go_must (refine wpList_make_own _ rfl _ _ 120 rfl w.heap.size 5 i5 _ 1 Tryz.underlying120 hi5 hz5 hs5 .i64 .i64 _ (bs.length + W * l.length) rfl rfl (by simp) ?hb2 ?hb3 (Nat.le_refl _) ?_; rotate_left 2; intro w1 hown hgr; have hf1 := Fr.of_grown hgr; have hbS := hb.1.fr0 hf1)) | (at_builtin; go_must (refine wpList_app rfl _ _ 120 rfl w.heap.size 5 _ 1 1 Tryz.underlying120 info5 rfl (by decide) _ _ _ rfl hown _ _ _ rfl hbS (ones _ _) ?hq1 ?hq2 hf1.size ?_; rotate_left 2; intro v2 w2 hown2 hgr2; have hf2 := hf1.grown hgr2 (owns_new hown))))
  case hb2 => rw [hy5]; omega
  case hb3 => unfold maxLen; omega
  case hq1 => unfold maxLen; omega
  case hq2 => omega
  have ho2 : OwnI .u8 5 w2 w.heap.size v2 bs := OwnI.mk _ hown2 (by simp)
  clear hown2 hgr2 hown hbS hgr
  go_loopw [8, 33] (fun out i wr => ∃ k : Nat, k ≤ l.length ∧ i = .int .i64 k ∧ OwnI .u8 5 wr w.heap.size out (bs ++ putB W (l.take k)) ∧ Fr noB w wr) (fun _ i _ => l.length - (intOf i).toNat)
  case atStart => exact ⟨0, Nat.zero_le _, rfl, by simpa [putB] using ho2, hf2⟩
  case round =>
    obtain ⟨k, hk, rfl, ho, hf⟩ := hrel
    rename_i out _ _
    by_cases hlt : k < l.length
    · have hbd := u64_bd (hl.2 l[k] (by simp))
      have hlS := hl.1.fr0 hf
      go_wp2_with (refine wpList_idx1 rfl 145 _ _ rfl 144 Tryz.underlying145 size26 _ _ _ rfl hlS _ _ k rfl rfl hlt ?_; intro p u hu hc; obtain rfl := getu _ _ _ _ hu)
      generalize hx : l[k] = x at *
      have HX := Hid.mk hx
      clear hx
      go_loopw [8, 10, 38] (fun out n j wr' => ∃ q : Nat, q ≤ W ∧ j = .int .i64 q ∧ n = .int .u64 (x / 256 ^ q) ∧ OwnI .u8 5 wr' w.heap.size out (bs ++ putB W (l.take k) ++ leB q x) ∧ Fr noB w wr') (fun _ _ j _ => W - (intOf j).toNat)
      case atStart => exact ⟨0, Nat.zero_le _, rfl, by simp, by simpa [leB] using ho, hf⟩
      case round =>
        obtain ⟨q, hq, rfl, rfl, ho', hf'⟩ := hrel
        have hxd := div_bd x q hbd
        generalize hy : x / 256 ^ q = y at *
        have HY := Hid.mk hy
        clear hy
        have hlen : (bs ++ putB W (l.take k) ++ leB q x).length ≤ 9000000000008 := by
          have h9 : k * W ≤ l.length * W := Nat.mul_le_mul_right _ hk
          simp [leB_length, putB_length, Nat.min_eq_left hk]
          rw [Nat.mul_comm l.length W] at h9; omega
        by_cases hqlt : q < W
        · go_wp2_with (at_builtin; go_must (refine wpList_app rfl _ _ 120 rfl w.heap.size 5 _ 1 1 Tryz.underlying120 info5 rfl (by decide) _ _ _ rfl (owns_alloc ho' _) _ _ _ rfl (Sl_one _ _ _) ?h1 ?hq1 ?hq2 ?hq3 ?_; rotate_left 4; intro v3 w3 hown3 hgr3))
          case h1 => simp [Value.oneCell']
          case hq1 => unfold maxLen; omega
          case hq2 => omega
          case hq3 => have := hf'.size; simp; omega
          have hf3 := (hf'.alloc _).grown hgr3 (owns_new ho')
          go_roundw
          case rel => exact ⟨q + 1, by omega, by go_num, by rw [← div_step, HY.out], OwnI.mk _ hown3 (by rw [leB_snoc q x hbd.1, HY.out]; simp), hf3⟩
          case measure => simp [intOf]; omega
        · go_wp2
          go_roundw
          case rel => exact ⟨k + 1, by omega, by go_num, by have eq : q = W := (by omega); rw [putB_take W l k hlt, HX.out, ← List.append_assoc]; rw [eq] at ho'; exact ho', hf'⟩
          case measure => simp [intOf]; omega
    · go_wp2
      go_ret2
      have e : k = l.length := by omega
      subst e
      simp only [List.take_length] at ho
      exact ⟨_, rfl, ho, hf⟩
end Go.Proofs.YtmkinaijkgkgiaaGreat
/- Contracts of ends.Put where it answers ErrWide, of copied, New, Left, Failed and Ended. -/
namespace Go.Proofs.YtmkinaijkgkgiaaGreat
open Go.RowKit Go.Proofs.U

set_option maxHeartbeats 1000000 in
theorem copied_any (vb : Value) (bs : List Int) (w : World) (hb : SlI .u8 w vb bs) (hbm : bs.length ≤ 1000000000000) :
    Calls Tryz.prog 123 #[vb] w fun e w' => ∃ v, e = .returned v ∧ OwnI .u8 5 w' w.heap.size v bs ∧ Fr noB w w' := by
  obtain ⟨a, cap, rfl, hcap⟩ := hb.opn
  obtain ⟨i5, hi5, hz5, hs5, hy5⟩ := info_parts info5
  go_enter Tryz.func123, Tryz.ntmps123
  go_wp2_with (first | (refine at_make 120 _ _ rfl ?_; go_must (refine wpList_make_full _ rfl _ _ 120 rfl w.heap.size 5 i5 _ 1 Tryz.underlying120 hi5 hz5 hs5 .i64 .i64 _ _ bs.length rfl rfl rfl rfl ?hb2 ?hb3 (Nat.le_refl _) ?_; rotate_left 2; intro w1 hown hgr; have hf1 := Fr.of_grown hgr; have hbS := hb.1.fr0 hf1)) | (refine wpList_cpy rfl _ _ 120 120 rfl 5 Tryz.underlying120 size5 w.heap.size 5 _ _ _ rfl hown _ _ _ rfl hbS (ones _ _) ?_; intro w2 hown2 hgr2; have hf2 := hf1.grown hgr2 (owns_new hown)))
  case hb2 => rw [hy5]; omega
  case hb3 => unfold maxLen; omega
  go_ret
  refine ⟨_, rfl, OwnI.mk _ hown2 ?_, hf2⟩
  have := hown.1
  rw [List.take_of_length_le (by simp), List.drop_of_length_le (by omega), List.append_nil]

/-- A reader at v: its bytes l, t of them taken, whether it failed. -/
def Rd (w : World) (b : Nat) (vb : Value) (l : List Int) (t : Nat) (f : Bool) : Prop :=
  w.cell? ⟨b, 0, none⟩ = some vb ∧ w.cell? ⟨b, 1, none⟩ = some (.int .i64 t) ∧ w.cell? ⟨b, 2, none⟩ = some (.bool f) ∧ (∀ i, w.frozen? ⟨b, i, none⟩ = false) ∧ SlI .u8 w vb l ∧ (∀ k, vb.ownBlock = some k → k ≠ b ∧ k < w.heap.size) ∧ t ≤ l.length ∧ l.length ≤ 1000000000000

set_option maxHeartbeats 1000000 in
theorem enew_any (vb : Value) (bs : List Int) (w : World) (hb : SlI .u8 w vb bs) (hbm : bs.length ≤ 1000000000000) :
    Calls Tryz.prog 109 #[vb] w fun e w' => ∃ b vb, e = .returned (.pointer (some ⟨b, 0, none⟩)) ∧ w.heap.size ≤ b ∧ (∀ k, vb.ownBlock = some k → w.heap.size ≤ k) ∧ Rd w' b vb bs 0 false ∧ Fr noB w w' := by
  obtain ⟨a, cap, rfl, hcap⟩ := hb.opn
  go_enter Tryz.func109, Tryz.ntmps109
  go_wp2_with (go_at_call 123; refine (copied_any _ _ _ hb hbm).mono ?_; rintro e w1 ⟨v, rfl, ho, hf⟩; obtain ⟨a3, c3, rfl⟩ := ho.opn)
  go_ret
  refine ⟨_, _, rfl, hf.size, fun k hk => (ho.newB k hk).1, ⟨by simp, by simp, by simp, fun i => by simp, (ho.sl hb.2).fr0 ((Fr.refl _ _).alloc _), fun k hk => ?_, Nat.zero_le _, hbm⟩, hf.alloc _⟩
  have := (ho.newB k hk).2; simp; omega

theorem Rd.fr {S : Nat → Prop} {w w' : World} {b : Nat} {vb : Value} {l : List Int} {t : Nat} {f : Bool} (h : Rd w b vb l t f) (hf : Fr S w w') (hb : ¬ S b) (hs : ∀ k, vb.ownBlock = some k → ¬ S k) : Rd w' b vb l t f := by
  obtain ⟨h0, h1, h2, h3, h4, h5, h6, h7⟩ := h
  exact ⟨hf.cell h0 hb, hf.cell h1 hb, hf.cell h2 hb, fun i => (World.frozen?_of_block (w := w) (hf.block b (World.block_lt_of_cell? w _ h0) hb)).trans (h3 i), h4.fr hf hs, fun k hk => ⟨(h5 k hk).1, Nat.lt_of_lt_of_le (h5 k hk).2 hf.size⟩, h6, h7⟩
theorem Rd.fr0 {w w' : World} {b : Nat} {vb : Value} {l : List Int} {t : Nat} {f : Bool} (h : Rd w b vb l t f) (hf : Fr noB w w') : Rd w' b vb l t f := h.fr hf (fun q => q) (fun _ _ q => q)

set_option maxHeartbeats 1000000 in
theorem left_any (b : Nat) (vb : Value) (l : List Int) (t : Nat) (f : Bool) (w : World) (hr : Rd w b vb l t f) :
    Calls Tryz.prog 125 #[.pointer (some ⟨b, 0, none⟩)] w fun e w' => e = .returned (.int .i64 ((l.length - t : Nat) : Int)) ∧ Fr noB w w' := by
  obtain ⟨h0, h1, h2, h3, h4, h5, h6, h7⟩ := hr
  obtain ⟨a, cap, rfl, hcap⟩ := h4.opn
  go_enter Tryz.func125, Tryz.ntmps125
  go_wp2
  go_quiet (fail)
  go_wp2
  go_ret
  refine ⟨?_, (Fr.refl _ _).drewN _⟩
  simp
  omega

end Go.Proofs.YtmkinaijkgkgiaaGreat
/- Contract of (*Reader).Take: where it fails and where it takes. -/
namespace Go.Proofs.YtmkinaijkgkgiaaGreat
open Go.RowKit Go.Proofs.U

theorem Rd.nf {w : World} {b : Nat} {vb : Value} {l : List Int} {t : Nat} {f : Bool} (h : Rd w b vb l t f) (i : Nat) : w.frozen? ⟨b, i, none⟩ = false := by
  obtain ⟨h0, h1, h2, h3, _⟩ := h; exact h3 i
/-- The reader's own block. -/
def onB (b : Nat) : Nat → Prop := fun k => k = b

theorem Rd.setF {w : World} {b : Nat} {vb : Value} {l : List Int} {t : Nat} {f : Bool} (h : Rd w b vb l t f) (f' : Bool) : Rd (w.setCell ⟨b, 2, none⟩ (.bool f')) b vb l t f' := by
  obtain ⟨h0, h1, h2, h3, h4, h5, h6, h7⟩ := h
  refine ⟨?_, ?_, ?_, fun i => ?_, h4.fr (S := onB b) ((Fr.refl _ _).setCell _ _ (fun _ => rfl)) (fun k hk q => (h5 k hk).1 q), fun k hk => ⟨(h5 k hk).1, by simpa [World.setCell] using (h5 k hk).2⟩, h6, h7⟩
  · refine (World.cell?_setCell_other (a := ⟨b, 2, none⟩) w _ _ (by simp)).trans ?_; exact h0
  · refine (World.cell?_setCell_other (a := ⟨b, 2, none⟩) w _ _ (by simp)).trans ?_; exact h1
  · exact World.cell?_setCell_same' _ _ _ (by rw [h2]; rfl)
  · rw [World.frozen?_setCell]; exact h3 i

set_option maxHeartbeats 1000000 in
theorem take_no (b : Nat) (vb : Value) (l : List Int) (t : Nat) (f : Bool) (n : Int) (w : World) (hr : Rd w b vb l t f) (hno : f = true ∨ n < 0 ∨ (l.length : Int) - t < n) :
    Calls Tryz.prog 111 #[.pointer (some ⟨b, 0, none⟩), .int .i64 n] w fun e w' => e = .returned (.slice none 0 0) ∧ Rd w' b vb l t true ∧ Fr (onB b) w w' := by
  have hr0 := hr
  obtain ⟨h0, h1, h2, h3, h4, h5, h6, h7⟩ := hr
  have h3' := h3 2
  by_cases hf : f = true
  · subst hf
    go_enter Tryz.func111, Tryz.ntmps111
    go_wp2
    go_ret
    exact ⟨rfl, hr0.setF _, (Fr.refl _ _).setCell _ _ (fun _ => rfl)⟩
  · obtain rfl : f = false := by simpa using hf
    by_cases hn : n < 0
    · go_enter Tryz.func111, Tryz.ntmps111
      go_wp2
      go_ret
      exact ⟨rfl, hr0.setF _, (Fr.refl _ _).setCell _ _ (fun _ => rfl)⟩
    · have hlt : ((l.length - t : Nat) : Int) < n := by rcases hno with h | h | h <;> first | exact absurd h hf | omega
      go_enter Tryz.func111, Tryz.ntmps111
      go_wp2_with (go_at_call 125; refine (left_any _ _ _ _ _ _ hr0).mono ?_; rintro e w1 ⟨rfl, hf1⟩; have h2' := hf1.cell h2 (fun q => q); have h3'' := (hr0.fr0 hf1).nf 2)
      go_ret
      exact ⟨rfl, (hr0.fr0 hf1).setF _, (hf1.mono (fun _ _ q => q.elim)).setCell _ _ (fun _ => rfl)⟩

theorem take_end {b : Nat} {vb : Value} {l L : List Int} {t n : Nat} {w w1 w2 : World} {v : Value} (hr : Rd w b vb l t false) (hn : n ≤ l.length - t) (hs : w.heap.size ≤ w1.heap.size) (hf : Fr noB w w2) (ho : OwnI .u8 5 w2 w1.heap.size v L) :
    ∃ v', Ending.returned v = .returned v' ∧ OwnI .u8 5 (w2.setCell ⟨b, 1, none⟩ (.int .i64 ((t : Int) + (n : Int)))) w.heap.size v' L ∧ Rd (w2.setCell ⟨b, 1, none⟩ (.int .i64 ((t : Int) + (n : Int)))) b vb l (t + n) false ∧ Fr (onB b) w (w2.setCell ⟨b, 1, none⟩ (.int .i64 ((t : Int) + (n : Int)))) := by
  have hbl : b < w.heap.size := by obtain ⟨h0, _⟩ := hr; exact World.block_lt_of_cell? w _ h0
  have hr2 := hr.fr0 hf
  obtain ⟨h0, h1, h2, h3, h4, h5, h6, h7⟩ := hr2
  refine ⟨v, rfl, (ho.fr (S := onB b) ((Fr.refl _ _).setCell ⟨b, 1, none⟩ _ (fun _ => rfl)) (fun k hk q => ?_)).rebase hs, ⟨?_, ?_, ?_, fun i => ?_, h4.fr (S := onB b) ((Fr.refl _ _).setCell ⟨b, 1, none⟩ _ (fun _ => rfl)) (fun k hk q => (h5 k hk).1 q), fun k hk => ⟨(h5 k hk).1, by simpa [World.setCell] using (h5 k hk).2⟩, by omega, h7⟩, (hf.mono (fun _ _ q => q.elim)).setCell ⟨b, 1, none⟩ _ (fun _ => rfl)⟩
  · have := (ho.newB k hk).1
    unfold onB at q; omega
  · refine (World.cell?_setCell_other (a := ⟨b, 1, none⟩) w2 _ _ (by simp)).trans ?_; exact h0
  · rw [World.cell?_setCell_same' _ _ _ (by rw [h1]; rfl)]; simp
  · refine (World.cell?_setCell_other (a := ⟨b, 1, none⟩) w2 _ _ (by simp)).trans ?_; exact h2
  · rw [World.frozen?_setCell]; exact h3 i

set_option maxHeartbeats 1000000 in
theorem take_yes (b : Nat) (vb : Value) (l : List Int) (t : Nat) (n : Nat) (w : World) (hr : Rd w b vb l t false) (hn : n ≤ l.length - t) :
    Calls Tryz.prog 111 #[.pointer (some ⟨b, 0, none⟩), .int .i64 n] w fun e w' => ∃ v, e = .returned v ∧ OwnI .u8 5 w' w.heap.size v ((l.drop t).take n) ∧ Rd w' b vb l (t + n) false ∧ Fr (onB b) w w' := by
  have hr0 := hr
  obtain ⟨h0, h1, h2, h3, h4, h5, h6, h7⟩ := hr
  obtain ⟨a, cap, rfl, hcap⟩ := h4.opn
  have h3' := h3 1
  have hlt : (n : Int) ≤ ((l.length - t : Nat) : Int) := by omega
  have hlt2 : ¬ ((l.length - t : Nat) : Int) < (n : Int) := by omega
  have hn0 : ¬ (n : Int) < 0 := by omega
  have hc1 : (t : Int) ≤ (t : Int) + (n : Int) := by omega
  have hc2 : (t : Int) + (n : Int) ≤ (cap : Int) := by omega
  have hwr : IntKind.i64.wrap ((t : Int) + (n : Int)) = (t : Int) + (n : Int) := by simp [IntKind.wrap, IntKind.bits, IntKind.signed]; omega
  have hsub : ((t : Int) + (n : Int)).toNat - t = n := by omega
  obtain ⟨av, cv, hav, Hcut⟩ : ∃ av cv, (∀ h : cap = t, n = 0 ∧ av = a ∧ cv = 0) ∧ (∀ h : ¬ cap = t, av = Option.map (fun x => x.add t) a ∧ cv = cap - t) ∧ ∀ wx, Fr noB w wx → SlI .u8 wx (.slice av n cv) ((l.drop t).take n) := by
    by_cases hct : cap = t
    · exact ⟨a, 0, fun _ => ⟨by omega, rfl, rfl⟩, fun h => absurd hct h, fun wx hf => (h4.fr0 hf).cut t n (by omega) (fun _ => rfl) (fun h => absurd hct h) (by omega)⟩
    · exact ⟨_, _, fun h => absurd h hct, fun _ => ⟨rfl, rfl⟩, fun wx hf => (h4.fr0 hf).cut t n (by omega) (fun h => absurd h hct) (fun _ => rfl) rfl⟩
  obtain ⟨hav2, Hcut⟩ := Hcut
  have hlen : ((l.drop t).take n).length ≤ 1000000000000 := by simp; omega
  generalize hL : (l.drop t).take n = L at *
  clear hL
  by_cases hct : cap = t
  · obtain ⟨hn00, rfl, rfl⟩ := hav hct
    rw [hn00] at Hcut
    clear hav hav2 hn00 hsub
    go_enter Tryz.func111, Tryz.ntmps111
    go_wp2_with (go_at_call 125; refine (left_any _ _ _ _ _ _ hr0).mono ?_; rintro e w1 ⟨rfl, hf1⟩; have h0' := hf1.cell h0 (fun q => q); have h1' := hf1.cell h1 (fun q => q); have h2' := hf1.cell h2 (fun q => q))
    go_region_with (go_at_call 123; refine (copied_any _ L _ (Hcut _ hf1.drew) hlen).mono ?_; rintro e w2 ⟨v, rfl, ho, hf2⟩; have hf3 : Fr noB w w2 := hf1.drew.thenN hf2; have q0 := hf3.cell h0 (fun q => q); have q1 := hf3.cell h1 (fun q => q); have q2 := hf3.cell h2 (fun q => q); have q3 := (hr0.fr0 hf3).nf 1)
    all_goals go_wp2
    all_goals go_ret
    all_goals exact take_end hr0 hn hf1.size hf3 ho
  · obtain ⟨rfl, rfl⟩ := hav2 hct
    clear hav hav2
    go_enter Tryz.func111, Tryz.ntmps111
    go_wp2_with (go_at_call 125; refine (left_any _ _ _ _ _ _ hr0).mono ?_; rintro e w1 ⟨rfl, hf1⟩; have h0' := hf1.cell h0 (fun q => q); have h1' := hf1.cell h1 (fun q => q); have h2' := hf1.cell h2 (fun q => q))
    go_region_with (go_at_call 123; refine (copied_any _ L _ (Hcut _ hf1.drew) hlen).mono ?_; rintro e w2 ⟨v, rfl, ho, hf2⟩; have hf3 : Fr noB w w2 := hf1.drew.thenN hf2; have q0 := hf3.cell h0 (fun q => q); have q1 := hf3.cell h1 (fun q => q); have q2 := hf3.cell h2 (fun q => q); have q3 := (hr0.fr0 hf3).nf 1)
    all_goals go_wp2
    all_goals go_ret
    all_goals exact take_end hr0 hn hf1.size hf3 ho
end Go.Proofs.YtmkinaijkgkgiaaGreat
/- Contract of slices.Backward over bytes, and of Take in one form. -/
namespace Go.Proofs.YtmkinaijkgkgiaaGreat
open Go.RowKit Go.Shelf Go.Proofs.U
attribute [local go_sem] Oper.semAt_some

def upto {α : Type} (f : Nat → α) (k : Nat) : List α := (List.range k).map f
theorem upto_succ {α : Type} (f : Nat → α) (k : Nat) : upto f (k + 1) = upto f k ++ [f k] := by simp [upto, List.range_succ]
theorem upto_length {α : Type} (f : Nat → α) (k : Nat) : (upto f k).length = k := by simp [upto]

/-- Below n₀ all blocks but B are as they were. -/
def KB (n₀ B : Nat) (W W' : World) : Prop := ∀ k, k < n₀ → k ≠ B → W'.heap[k]? = W.heap[k]?
theorem KB.refl (n₀ B : Nat) (W : World) : KB n₀ B W W := fun _ _ _ => rfl
theorem KB.t {n₀ B : Nat} {X Y Z : World} (h : KB n₀ B X Y) (k : KB n₀ B Y Z) : KB n₀ B X Z := fun i hi hb => (k i hi hb).trans (h i hi hb)
theorem KB.b {n₀ B : Nat} {w : World} (hn : n₀ ≤ w.heap.size) (W : World) (l : Nat) (o o' : Obj) (hl : w.heap.size ≤ l) (_h : W.heap[l]? = some o) (_ : o.isCells = false) (_ : o.isWalk = false) : KB n₀ B W (W.putObj l o') := fun k hk _ =>
  (grownBy_putObj' W l o').block k (by have := (Array.getElem?_eq_some_iff.1 _h).1; omega) (fun e => by cases e; omega)
theorem KB.cell {n₀ B : Nat} {W W' : World} (h : KB n₀ B W W') {p : Addr} (hp : p.block < n₀) (hb : p.block ≠ B) : W'.cell? p = W.cell? p := World.cell?_of_block (w := W) (h p.block hp hb)

def back (zs : List Int) (j : Nat) : Int × Int := (((zs.length : Int) - 1 - j), zs[zs.length - 1 - j]?.getD 0)

set_option maxRecDepth 100000 in
set_option maxHeartbeats 2000000 in
theorem backward1_in (F : Fence) (n : Nat) (h7 : F.fn 134) (hro : F.round = none) (hn : 1 ≤ n) (l Bs n₀ B b off cap : Nat) (zs : List Int) (hreach : zs.length ≤ 1000000000000) (hb : b < n₀) (hbB : b ≠ B) (hBs : Bs < n₀) (hBsB : Bs ≠ B) (J Jx : List (Int × Int) → World → Prop)
    (hY : ∀ pre x W, J pre W → pre.length < zs.length → YieldAt F (n - 1) Tryz.prog l #[.int .i64 x.1, .int .u8 x.2] W fun e W' =>
      (e = .returned (.bool true) ∧ J (pre ++ [x]) W' ∧ KB n₀ B W W') ∨ (e = .returned (.bool false) ∧ Jx (pre ++ [x]) W'))
    (W : World) (hc0 : W.cell? ⟨Bs, 0, none⟩ = some (.slice (some ⟨b, off, none⟩) zs.length cap)) (hc : ∀ j, j < zs.length → W.cell? ⟨b, off + j, none⟩ = some (.int .u8 (zs[j]?.getD 0))) (h0 : J [] W) :
    CallsIn F n Tryz.prog 134 #[.func (.yield l) #[] #[], .pointer (some ⟨Bs, 0, none⟩)] W fun e W' => (∃ v, e = .returned v) ∧
      ((∃ ys, ys = upto (back zs) zs.length ∧ J ys W') ∨ (∃ pre, (∃ k, k ≤ zs.length ∧ pre = upto (back zs) k) ∧ Jx pre W')) := by
  refine callsIn_of_wp Tryz.func134 rfl h7 ?_ hro
  simp only [Tryz.ntmps134, List.size_toArray, List.length_cons, List.length_nil, Nat.reduceAdd, Nat.reduceSub, Array.replicate_succ, Array.replicate_zero, List.push_toArray, List.append_toArray, List.nil_append, List.cons_append]
  gi_wp2
  gi_loopw [3] (fun i wr => ∃ k : Nat, k ≤ zs.length ∧ i = .int .i64 ((zs.length : Int) - 1 - k) ∧ J (upto (back zs) k) wr ∧ KB n₀ B W wr)
    (fun i _ => (intOf i + 1).toNat)
  case atStart => exact ⟨0, Nat.zero_le _, by simp, h0, KB.refl _ _ _⟩
  case round =>
    obtain ⟨k, hk, rfl, hJs, hnx⟩ := hrel
    have hc0' := (hnx.cell (p := ⟨Bs, 0, none⟩) hBs hBsB).trans hc0
    by_cases hlt : k < zs.length
    · obtain ⟨fn, tmps, assign, body, hy, hR⟩ := hY _ (back zs k) wr hJs (by rw [upto_length]; exact hlt)
      dsimp only [back] at hy
      have hcx : wr.cell? ⟨b, off + (zs.length - 1 - k), none⟩ = some (.int .u8 (zs[zs.length - 1 - k]?.getD 0)) := (hnx.cell (p := ⟨b, off + (zs.length - 1 - k), none⟩) hb hbB).trans (hc (zs.length - 1 - k) (by omega))
      have hi1 : (0 : Int) ≤ (zs.length : Int) - 1 - k := by omega
      have hi2 : (zs.length : Int) - 1 - k < (zs.length : Int) := by omega
      have hi3 : ((zs.length : Int) - 1 - k).toNat = zs.length - 1 - k := by omega
      gi_wp2
      refine hR.mono ?_
      rintro e W3 (⟨rfl, hJ3, hk3⟩ | ⟨rfl, hJx3⟩)
      · gi_wp2
        go_roundw
        case rel => exact ⟨k + 1, by omega, by go_num, by rw [upto_succ]; exact hJ3, hnx.t hk3⟩
        case measure => simp [intOf]; omega
      · gi_wp2
        refine bodyPost_ret (results_none rfl _ _ _) rfl ?_
        exact ⟨⟨_, rfl⟩, .inr ⟨_, ⟨k + 1, by omega, (upto_succ _ _).symm⟩, hJx3⟩⟩
    · obtain rfl : k = zs.length := by omega
      gi_wp2
      go_end0
      exact ⟨⟨_, rfl⟩, .inl ⟨_, rfl, hJs⟩⟩

set_option maxRecDepth 100000 in
set_option maxHeartbeats 1000000 in
theorem backward1_nil_in (F : Fence) (n : Nat) (h7 : F.fn 134) (hro : F.round = none) (l Bs : Nat) (a : Option Addr) (cap : Nat) (J : List (Int × Int) → World → Prop) (W : World) (hBs : W.cell? ⟨Bs, 0, none⟩ = some (.slice a 0 cap)) (h0 : J [] W) :
    CallsIn F n Tryz.prog 134 #[.func (.yield l) #[] #[], .pointer (some ⟨Bs, 0, none⟩)] W fun e W' => (∃ v, e = .returned v) ∧ J [] W' := by
  refine callsIn_of_wp Tryz.func134 rfl h7 ?_ hro
  simp only [Tryz.ntmps134, List.size_toArray, List.length_cons, List.length_nil, Nat.reduceAdd, Nat.reduceSub, Array.replicate_succ, Array.replicate_zero, List.push_toArray, List.append_toArray, List.nil_append, List.cons_append]
  gi_wp2
  gi_loopw [3] (fun i wr => i = .int .i64 (-1) ∧ J [] wr) (fun _ _ => 0)
  case atStart => exact ⟨rfl, h0⟩
  case round =>
    obtain ⟨rfl, hJs⟩ := hrel
    gi_wp2
    go_end0
    exact ⟨⟨_, rfl⟩, hJs⟩

set_option maxHeartbeats 1000000 in
theorem backward_in (F : Fence) (n : Nat) (h5 : F.fn 132) (hro : F.round = none) (a : Option Addr) (len cap : Nat) (w : World) :
    CallsIn F n Tryz.prog 132 #[.slice a len cap] w fun e w' => e = .returned (.func (.func 134) #[] #[.pointer (some ⟨w.heap.size, 0, none⟩)]) ∧ w' = w.alloc (.cells #[.slice a len cap] 120) := by
  refine callsIn_of_wp Tryz.func132 rfl h5 ?_ hro
  simp only [Tryz.ntmps132, List.size_toArray, List.length_cons, List.length_nil, Nat.reduceAdd, Nat.reduceSub, Array.replicate_succ, Array.replicate_zero, List.push_toArray, List.append_toArray, List.nil_append, List.cons_append]
  gi_wp2
  go_ret
  exact ⟨rfl, rfl⟩

/-- slices.Backward over bytes that lie below n₀, not in block B: for every body that keeps all but B there. -/
theorem backward_stops (F : Fence) (n : Nat) (h7 : F.fn 134) (hro : F.round = none) (hn : 1 ≤ n) (Bs n₀ B : Nat) (sv : Value) (zs : List Int) (hreach : zs.length ≤ 1000000000000) (w : World) (hn₀ : n₀ ≤ w.heap.size) (hBs : Bs < n₀) (hBsB : Bs ≠ B)
    (hc : w.cell? ⟨Bs, 0, none⟩ = some sv) (hI : SlI .u8 w sv zs) (hlt : ∀ k, sv.ownBlock = some k → k < n₀ ∧ k ≠ B) :
    SeqStopsK F n Tryz.prog 134 #[.pointer (some ⟨Bs, 0, none⟩)] (fun x : Int × Int => #[Value.int .i64 x.1, Value.int .u8 x.2]) (KB n₀ B) (fun ys => ys = upto (back zs) zs.length)
      (fun pre => ∃ k, k ≤ zs.length ∧ pre = upto (back zs) k) zs.length w := fun l J Jx W hW _ _ hY h0 => by
  have hc' := (hW.cell (p := ⟨Bs, 0, none⟩) (Nat.lt_of_lt_of_le hBs hn₀)).trans hc
  have hI' := hI.fr0 (Fr.of_below hW)
  obtain ⟨⟨ao, cap, rfl, hcap, hlen, hnone, hsome⟩, hwf⟩ := hI'
  by_cases hz : zs.length = 0
  · rw [hz] at hc'
    refine (backward1_nil_in F n h7 hro l Bs ao cap J W hc' h0).mono fun e W' ⟨he, hj⟩ => ⟨he, .inl ⟨[], ?_, hj⟩⟩
    simp [upto, hz]
  · cases ao with
    | none => have := hnone rfl; omega
    | some ad =>
      obtain ⟨b, off, sp⟩ := ad
      have hcell := hsome _ rfl
      have hsp : sp = none := by
        have := hcell 0 _ (List.getElem?_eq_getElem (by simp; omega))
        simpa [Addr.add] using World.cell?_spot this
      subst hsp
      obtain ⟨h1, h2⟩ := hlt b rfl
      refine backward1_in F n h7 hro hn l Bs n₀ B b off cap zs hreach h1 h2 hBs hBsB J Jx hY W hc' (fun j hj => ?_) h0
      have := hcell j (.int .u8 (zs[j]?.getD 0)) (by simp [hj])
      rwa [Addr.plain] at this

/-- What Take answers and leaves: the bytes, how many were taken, whether it failed. -/
def tkOk (l : List Int) (t : Nat) (f : Bool) (n : Int) : Bool := !f && decide (0 ≤ n) && decide (n ≤ ((l.length - t : Nat) : Int))
def tkL (l : List Int) (t : Nat) (f : Bool) (n : Int) : List Int := if tkOk l t f n then (l.drop t).take n.toNat else []
def tkT (l : List Int) (t : Nat) (f : Bool) (n : Int) : Nat := if tkOk l t f n then t + n.toNat else t
def tkF (l : List Int) (t : Nat) (f : Bool) (n : Int) : Bool := !tkOk l t f n

theorem take_any (b : Nat) (vb : Value) (l : List Int) (t : Nat) (f : Bool) (n : Int) (w : World) (hr : Rd w b vb l t f) :
    Calls Tryz.prog 111 #[.pointer (some ⟨b, 0, none⟩), .int .i64 n] w fun e w' => ∃ v, e = .returned v ∧ OwnI .u8 5 w' w.heap.size v (tkL l t f n) ∧ Rd w' b vb l (tkT l t f n) (tkF l t f n) ∧ Fr (onB b) w w' := by
  have ht : t ≤ l.length := by obtain ⟨h0, h1, h2, h3, h4, h5, h6, h7⟩ := hr; exact h6
  cases hk : tkOk l t f n with
  | true =>
    have hk' := hk
    simp [tkOk] at hk
    obtain ⟨⟨rfl, hn0⟩, hn⟩ := hk
    obtain ⟨m, rfl⟩ := Int.eq_ofNat_of_zero_le hn0
    refine (take_yes b vb l t m w hr (by omega)).mono ?_
    rintro e w' ⟨v, rfl, ho, hr', hf⟩
    refine ⟨v, rfl, ?_, ?_, hf⟩
    · simpa [tkL, hk'] using ho
    · simpa [tkT, tkF, hk'] using hr'
  | false =>
    have hk' := hk
    simp [tkOk] at hk
    refine (take_no b vb l t f n w hr ?_).mono ?_
    · by_cases hf : f = true
      · exact .inl hf
      · by_cases hn0 : 0 ≤ n
        · have := hk (by simpa using hf) hn0; omega
        · omega
    · rintro e w' ⟨rfl, hr', hf⟩
      refine ⟨_, rfl, ?_, ?_, hf⟩
      · simpa [tkL, hk'] using OwnI.mk (k := .u8) [] (World.ownsRow_nil w' w.heap.size 5 1) rfl
      · simpa [tkT, tkF, hk'] using hr'
end Go.Proofs.YtmkinaijkgkgiaaGreat
/- Contract of (*Reader).Num: a number is taken from its last byte on. -/
namespace Go.Proofs.YtmkinaijkgkgiaaGreat
open Go.RowKit Go.Shelf Go.Proofs.U
attribute [local go_sem] Oper.semAt_some

def leNum : List Int → Int
  | [] => 0
  | x :: xs => x + 256 * leNum xs

set_option maxHeartbeats 1000000 in
theorem num_nowidth (b : Nat) (vb : Value) (l : List Int) (t : Nat) (f : Bool) (width : Int) (w : World) (hr : Rd w b vb l t f) (hwd : isW width = false) :
    Calls Tryz.prog 124 #[.pointer (some ⟨b, 0, none⟩), .int .i64 width] w fun e w' => e = .returned (.int .u64 0) ∧ Rd w' b vb l t true ∧ Fr (onB b) w w' := by
  have hr0 := hr
  obtain ⟨h0, h1, h2, h3, h4, h5, h6, h7⟩ := hr
  have h3' := h3 2
  have Hwd := Hid.mk hwd
  clear hwd
  go_enter Tryz.func124, Tryz.ntmps124
  go_wp2_with (go_at_call 104; refine (isWidth_any _ _).mono ?_; rintro e w' ⟨rfl, rfl⟩; rw [Hwd.out])
  go_ret
  exact ⟨rfl, hr0.setF _, (Fr.refl _ _).setCell ⟨b, 2, none⟩ _ (fun _ => rfl)⟩




theorem ownFrom_fr {β : Type} {S : Nat → Prop} {w₀ : World} {B : Nat} (hB : w₀.heap.size ≤ B) : OwnFrom B (fun (_ : β) W => Fr S w₀ W) :=
  fun _ _ _ _ hs hg hr => hs.grown hg (fun k e hk => by have := (hr k e).1; omega)

def step8 (n c : Int) : Int := bits BinOp.or IntKind.u64 (IntKind.u64.wrap (n * 256)) (IntKind.u64.wrap c)
def foldS (ys : List (Int × Int)) : Int := ys.foldl (fun n x => step8 n x.2) 0
theorem foldS_snoc (ys : List (Int × Int)) (x : Int × Int) : foldS (ys ++ [x]) = step8 (foldS ys) x.2 := by simp [foldS]

theorem wrap_u64_id (x : Int) (h0 : 0 ≤ x) (h : x < 18446744073709551616) : IntKind.u64.wrap x = x := by
  simp [IntKind.wrap, IntKind.bits, IntKind.signed]; omega
theorem step8_eq (n c : Int) (h0 : 0 ≤ n) (h1 : n < 72057594037927936) (h2 : 0 ≤ c) (h3 : c < 256) : step8 n c = c + 256 * n := by
  unfold step8
  rw [wrap_u64_id _ (by omega) (by omega), wrap_u64_id c h2 (by omega), u64_or _ _ (by omega) (by omega) h2 (by omega)]
  obtain ⟨m, rfl⟩ := Int.eq_ofNat_of_zero_le h0
  obtain ⟨d, rfl⟩ := Int.eq_ofNat_of_zero_le h2
  have e1 : ((m : Int) * 256).toNat = m <<< 8 := by rw [Nat.shiftLeft_eq]; omega
  rw [e1, Int.toNat_natCast, ← Nat.shiftLeft_add_eq_or_of_lt (by omega), Nat.shiftLeft_eq]
  simp; omega
theorem back_snd (zs : List Int) : (upto (back zs) zs.length).map (·.2) = zs.reverse := by
  apply List.ext_getElem
  · simp [upto]
  · intro i h1 h2
    have : i < zs.length := by simpa using h2
    simp [upto, back]
    rw [List.getElem?_eq_getElem (by omega)]; rfl
theorem leNum_bd (zs : List Int) (h : ∀ x ∈ zs, 0 ≤ x ∧ x < 256) : 0 ≤ leNum zs ∧ leNum zs < 256 ^ zs.length := by
  induction zs with
  | nil => simp [leNum]
  | cons x zs ih =>
    have := ih (fun y hy => h y (by simp [hy]))
    have hx := h x (by simp)
    simp only [leNum, List.length_cons, Int.pow_succ]
    omega
theorem fold_leNum (zs : List Int) (h : ∀ x ∈ zs, 0 ≤ x ∧ x < 256) (hl : zs.length ≤ 8) : zs.foldr (fun x n => step8 n x) 0 = leNum zs := by
  induction zs with
  | nil => rfl
  | cons x zs ih =>
    have hz : ∀ y ∈ zs, 0 ≤ y ∧ y < 256 := fun y hy => h y (by simp [hy])
    simp only [List.length_cons] at hl
    have hb := leNum_bd zs hz
    have hx := h x (by simp)
    have hp : (256 : Int) ^ zs.length ≤ 256 ^ 7 := by
      have h7 : zs.length = 0 ∨ zs.length = 1 ∨ zs.length = 2 ∨ zs.length = 3 ∨ zs.length = 4 ∨ zs.length = 5 ∨ zs.length = 6 ∨ zs.length = 7 := by omega
      rcases h7 with e | e | e | e | e | e | e | e <;> rw [e] <;> decide
    rw [List.foldr_cons, ih hz (by omega), step8_eq _ _ hb.1 (by omega) hx.1 hx.2]
    rfl
theorem foldS_all (zs : List Int) (h : ∀ x ∈ zs, 0 ≤ x ∧ x < 256) (hl : zs.length ≤ 8) : foldS (upto (back zs) zs.length) = leNum zs := by
  have : foldS (upto (back zs) zs.length) = ((upto (back zs) zs.length).map (·.2)).foldl step8 0 := by simp [foldS, List.foldl_map]
  rw [this, back_snd, List.foldl_reverse, fold_leNum zs h hl]

set_option maxRecDepth 100000 in
set_option maxHeartbeats 2000000 in
theorem num_width (b : Nat) (vb : Value) (l : List Int) (t : Nat) (f : Bool) (width : Int) (w : World) (hr : Rd w b vb l t f) (hwd : isW width = true) :
    Calls Tryz.prog 124 #[.pointer (some ⟨b, 0, none⟩), .int .i64 width] w fun e w' => e = .returned (.int .u64 (leNum (tkL l t f width))) ∧ Rd w' b vb l (tkT l t f width) (tkF l t f width) ∧ Fr (onB b) w w' := by
  have Hwd := Hid.mk hwd
  clear hwd
  have hlL : (tkL l t f width).length ≤ 1000000000000 := by
    obtain ⟨h0, h1, h2, h3, h4, h5, h6, h7⟩ := hr
    unfold tkL; split
    · simp; omega
    · simp
  have hwfL : ∀ x ∈ tkL l t f width, (Lit.int .u8 x).wf = true := by
    obtain ⟨h0, h1, h2, h3, h4, h5, h6, h7⟩ := hr
    unfold tkL; split
    · exact fun x hx => h4.2 x (List.mem_of_mem_drop (List.mem_of_mem_take hx))
    · simp
  have hbl : b < w.heap.size := by obtain ⟨h0, _⟩ := hr; exact World.block_lt_of_cell? w _ h0
  have hr1 : Rd (w.alloc (.cells #[.int .u64 0] 144)) b vb l t f := hr.fr0 ((Fr.refl _ _).alloc _)
  have hL8 : (tkL l t f width).length ≤ 8 := by
    have hcase : width = 1 ∨ width = 2 ∨ width = 4 ∨ width = 8 := by simpa [isW, or_assoc] using Hwd.out
    unfold tkL; split
    · simp; omega
    · simp
  have hvb : ∀ k, vb.ownBlock = some k → k < w.heap.size := by
    obtain ⟨h0, h1, h2, h3, h4, h5, h6, h7⟩ := hr
    exact fun k hk => (h5 k hk).2
  have hta := take_any b vb l t f width _ hr1
  generalize tkL l t f width = L at *
  generalize tkT l t f width = t' at *
  generalize tkF l t f width = f' at *
  refine (callsIn_wide (n := 5)).1 ?_
  refine callsIn_of_wp_marks Tryz.func124 rfl trivial ?_ rfl
  simp only [Tryz.ntmps124, List.size_toArray, List.length_cons, List.length_nil, Nat.reduceAdd, Nat.reduceSub, Array.replicate_succ, Array.replicate_zero, List.push_toArray, List.append_toArray, List.nil_append, List.cons_append]
  gi_wp2_with (first | (refine ⟨trivial, ?_⟩; gi_at_call 104; refine (callsIn_wide.2 (isWidth_any _ _)).mono ?_; rintro e w' ⟨rfl, rfl⟩; rw [Hwd.out]) | (refine ⟨trivial, ?_⟩; gi_at_call 111; refine (callsIn_wide.2 hta).mono ?_; rintro e w1 ⟨v, rfl, ho, hr2, hf1⟩; obtain ⟨a3, c3, rfl⟩ := ho.opn) | (refine ⟨trivial, ?_⟩; gi_at_call 132; refine (backward_in Fence.wide _ trivial rfl _ _ _ _).mono ?_; rintro e w2 ⟨rfl, rfl⟩))
  clear hta
  have hsz1 : w.heap.size + 1 ≤ w1.heap.size := by have := hf1.size; simpa using this
  have hcn : w1.cell? ⟨w.heap.size, 0, none⟩ = some (.int .u64 0) := hf1.cell (p := ⟨w.heap.size, 0, none⟩) (by simp) (fun q => by unfold onB at q; simp at q; omega)
  have hfn : w1.frozen? ⟨w.heap.size, 0, none⟩ = false := (hf1.frozen (p := ⟨w.heap.size, 0, none⟩) (by simp; rfl) (fun q => by unfold onB at q; simp at q; omega)).trans (by simp)
  obtain ⟨W0, hW0⟩ : ∃ W0, w1.alloc (.cells #[.slice a3 L.length c3] 120) = W0 := ⟨_, rfl⟩
  have hsz0 : W0.heap.size = w1.heap.size + 1 := by rw [← hW0]; simp
  have hf10 : Fr noB w1 W0 := by rw [← hW0]; exact (Fr.refl _ _).alloc _
  have hbx : W0.cell? ⟨w1.heap.size, 0, none⟩ = some (.slice a3 L.length c3) := by rw [← hW0]; simp
  have hnew := ho.newB
  have hSl := (ho.sl hwfL).fr0 hf10
  rw [hW0]
  refine wpIn_rangeFunc_ownG (F := Fence.wide) rfl (by omega) (gf := 134) (lb := #[.pointer (some ⟨w1.heap.size, 0, none⟩)]) rfl trivial (enters_of Tryz.func134 (by kernel_rfl) rfl)
    (backward_stops Fence.wide (5 - 1) trivial rfl (by omega) w1.heap.size (w1.heap.size + 1) w.heap.size _ L hlL W0 (by omega) (by omega) (by omega) hbx hSl (fun k hk => by have := hnew k hk; simp at this; omega)) KB.t (KB.b (by omega)) (Below.refl _ _) (fun _ => rfl)
    (fun pre W => (W.cell? ⟨w.heap.size, 0, none⟩ = some (.int .u64 (foldS pre)) ∧ W.frozen? ⟨w.heap.size, 0, none⟩ = false) ∧ Fr (onB w.heap.size) W0 W)
    (fun _ _ _ => False)
    (OwnFrom.and (Own.from (fun s A B row hs hg hr => ⟨cell_kept hs.1 hg hr, (frozen_kept hs.1 hg hr).trans hs.2⟩) _) (ownFrom_fr (Nat.le_refl _)))
    (fun _ _ _ _ _ hs _ _ => hs)
    ⟨⟨hf10.cell hcn (fun q => q), (hf10.frozen hcn (fun q => q)).trans hfn⟩, Fr.refl _ _⟩
    (fun x => { tmps := #[.pointer (some ⟨b, 0, none⟩), .int .i64 width, undef, undef, .int .u64 0, .pointer (some ⟨w.heap.size, 0, none⟩), undef, .int .u8 x.2, .int .i64 width, .bool true, .bool false, undef, undef, undef, .pointer (some ⟨b, 0, none⟩), .int .i64 width, .slice a3 L.length c3, .func (.func 134) #[] #[.pointer (some ⟨w1.heap.size, 0, none⟩)], .int .i64 x.1, .int .u8 x.2, undef, undef, undef, undef, undef, undef], defers := [] }) ?assign ?body ?done ?stop
  case assign =>
    intro l x W K hK
    gi_wp2
    exact hK
  case body =>
    rintro l pre x W ⟨⟨hc, hf⟩, hB⟩ _
    gi_wp2
    refine ⟨(KeepsOthers.setCell _ _ _).from _, fun k hk hne => Below.heap_setCell _ _ _ _ hne, ⟨?_, ?_⟩, hB.setCell _ _ (fun _ => rfl)⟩
    · rw [foldS_snoc]; exact World.cell?_setCell_same' _ _ _ (by rw [hc]; rfl)
    · rw [World.frozen?_setCell]; exact hf
  case done =>
    rintro D ys W hD rfl ⟨⟨hc, _⟩, hB⟩ hK
    gi_wp2
    refine ⟨by simp, .inl ⟨_, _, rfl, run_takeDeferred hK, ?_⟩⟩
    refine ⟨_, results_tmp rfl _ _ _, ?_, ?_, ?_⟩
    · rw [← foldS_all L (fun x hx => u8_bd (hwfL x hx)) hL8]; rfl
    all_goals
      have hsD := hB.size
      have hfW : Fr (onB w.heap.size) W0 (W.putObj D (.deferred none)) := hB.grown (grownBy_putObj' W D _) (fun k e hk => by cases e; omega)
    · exact (hr2.fr0 hf10).fr hfW (fun q => by unfold onB at q; omega) (fun k hk q => by have := hvb k hk; unfold onB at q; omega)
    · exact ((((Fr.refl _ _).alloc _).thenT hf1 (fun i _ q => q)).thenN hf10).thenT hfW (fun i hi q => by unfold onB at q; omega)
  case stop =>
    rintro D c pre W _ _ h _
    exact h.elim
end Go.Proofs.YtmkinaijkgkgiaaGreat
/- Contract of endsAlive: it answers true. -/
namespace Go.Proofs.YtmkinaijkgkgiaaGreat
open Go.RowKit Go.Proofs.U

def nmV (l : List Int) (t : Nat) (f : Bool) (width : Int) : Int := if isW width then leNum (tkL l t f width) else 0
def nmT (l : List Int) (t : Nat) (f : Bool) (width : Int) : Nat := if isW width then tkT l t f width else t
def nmF (l : List Int) (t : Nat) (f : Bool) (width : Int) : Bool := if isW width then tkF l t f width else true
theorem num_any (b : Nat) (vb : Value) (l : List Int) (t : Nat) (f : Bool) (width : Int) (w : World) (hr : Rd w b vb l t f) :
    Calls Tryz.prog 124 #[.pointer (some ⟨b, 0, none⟩), .int .i64 width] w fun e w' => e = .returned (.int .u64 (nmV l t f width)) ∧ Rd w' b vb l (nmT l t f width) (nmF l t f width) ∧ Fr (onB b) w w' := by
  cases hwd : isW width with
  | true => simpa only [nmV, nmT, nmF, hwd, if_true] using num_width b vb l t f width w hr hwd
  | false => simpa only [nmV, nmT, nmF, hwd, if_false, Bool.false_eq_true] using num_nowidth b vb l t f width w hr hwd

end Go.Proofs.YtmkinaijkgkgiaaGreat
/- The walk of EndsHalves: it answers true for every uint64. -/
namespace Go.Proofs.YtmkinaijkgkgiaaGreat
open Go.RowKit Go.Proofs.U

theorem wf_app {k : IntKind} {a b : List Int} (ha : ∀ n ∈ a, (Lit.int k n).wf = true) (hb : ∀ n ∈ b, (Lit.int k n).wf = true) : ∀ n ∈ a ++ b, (Lit.int k n).wf = true := by
  intro n hn; rcases List.mem_append.1 hn with h | h
  · exact ha n h
  · exact hb n h

end Go.Proofs.YtmkinaijkgkgiaaGreat
/- Plain facts on a sum of bytes by division of polynomials; no condition. -/
namespace Go.Proofs.U

def polyB : BitVec 32 := 0x04c11db7#32
def ones32 : BitVec 32 := 0xffffffff#32
def stp (s : BitVec 32) : BitVec 32 := (s <<< 1) ^^^ (if s.msb then polyB else 0#32)
def stpN : Nat → BitVec 32 → BitVec 32
  | 0, s => s
  | n + 1, s => stpN n (stp s)
def byt (c : BitVec 8) : BitVec 32 := c.setWidth 32 <<< 24
def wb (s : BitVec 32) (c : BitVec 8) : BitVec 32 := stpN 8 (s ^^^ byt c)
def crcF (s : BitVec 32) (l : List (BitVec 8)) : BitVec 32 := l.foldl wb s

theorem stpN_add (m n : Nat) (a : BitVec 32) : stpN (m + n) a = stpN n (stpN m a) := by
  induction m generalizing a with
  | zero => simp [stpN]
  | succ m ih => rw [Nat.succ_add, stpN, ih, stpN]
theorem stpN_snoc (n : Nat) (a : BitVec 32) : stpN (n + 1) a = stp (stpN n a) := by rw [stpN_add]; rfl
theorem crcF_append (s : BitVec 32) (l m : List (BitVec 8)) : crcF s (l ++ m) = crcF (crcF s l) m := by simp [crcF]
end Go.Proofs.U
/- Contracts of withByte and Of of package crc. -/
namespace Go.Proofs.YtmkinaijkgkgiaaGreat
open Go.RowKit Go.Proofs.U

theorem bx32 (A B : BitVec 32) (a b : Int) (ha : a = (A.toNat : Int)) (hb : b = (B.toNat : Int)) : bits .xor .u32 a b = ((A ^^^ B).toNat : Int) := by
  subst ha hb
  rw [u32_xor_nat _ _ (by have := A.isLt; omega) (by have := B.isLt; omega), BitVec.toNat_xor]
theorem bn32 (A B : BitVec 32) (a b : Int) (ha : a = (A.toNat : Int)) (hb : b = (B.toNat : Int)) : bits .and .u32 a b = ((A &&& B).toNat : Int) := by
  subst ha hb
  rw [u32_and_nat _ _ (by have := A.isLt; omega) (by have := B.isLt; omega), BitVec.toNat_and]
theorem ofI8 (c : Int) (h0 : 0 ≤ c) (h1 : c < 256) : ((BitVec.ofInt 8 c).toNat : Int) = c := by
  rw [BitVec.toNat_ofInt]; omega
theorem byt_num (c : Int) (h0 : 0 ≤ c) (h1 : c < 256) : c * 16777216 = ((byt (BitVec.ofInt 8 c)).toNat : Int) := by
  have e := ofI8 c h0 h1
  unfold byt
  rw [BitVec.toNat_shiftLeft, BitVec.toNat_setWidth, Nat.shiftLeft_eq]
  omega
theorem stp_num (t : BitVec 32) : bits .xor .u32 ((t.toNat : Int) * 2 % 4294967296) (bits .and .u32 (-((t.toNat : Int) / 2147483648) % 4294967296) 79764919) = ((stp t).toNat : Int) := by
  have ht := t.isLt
  have e1 : ((t.toNat : Int) * 2 % 4294967296) = ((t <<< 1).toNat : Int) := by
    rw [BitVec.toNat_shiftLeft, Nat.shiftLeft_eq]; omega
  unfold stp
  by_cases hm : 2147483648 ≤ t.toNat
  · have hmsb : t.msb = true := by rw [BitVec.msb_eq_decide]; simpa using hm
    rw [hmsb]
    have e2 : -((t.toNat : Int) / 2147483648) % 4294967296 = (ones32.toNat : Int) := by
      have : ones32.toNat = 4294967295 := by decide
      omega
    refine bx32 _ _ _ _ e1 ?_
    rw [bn32 ones32 polyB _ _ e2 (by decide)]
    decide
  · have hmsb : t.msb = false := by rw [BitVec.msb_eq_decide]; simpa using hm
    rw [hmsb]
    have e2 : -((t.toNat : Int) / 2147483648) % 4294967296 = ((0#32).toNat : Int) := by
      have : (0#32).toNat = 0 := by decide
      omega
    refine bx32 _ _ _ _ e1 ?_
    rw [bn32 0#32 polyB _ _ e2 (by decide)]
    decide

set_option maxHeartbeats 1000000 in
theorem withByte_any (s : BitVec 32) (c : Int) (h0 : 0 ≤ c) (h1 : c < 256) (w : World) :
    Calls Tryz.prog 103 #[.int .u32 (s.toNat : Int), .int .u8 c] w fun e w' => e = .returned (.int .u32 ((wb s (BitVec.ofInt 8 c)).toNat : Int)) ∧ w = w' := by
  go_enter Tryz.func103, Tryz.ntmps103
  go_wp2
  go_loop [0, 11] (fun x i => ∃ k : Nat, k ≤ 8 ∧ i = .int .i64 k ∧ x = .int .u32 ((stpN k (s ^^^ byt (BitVec.ofInt 8 c))).toNat : Int)) (fun _ i => 8 - (intOf i).toNat)
  case atStart => exact ⟨0, by omega, rfl, by rw [bx32 s (byt (BitVec.ofInt 8 c)) _ _ rfl (byt_num c h0 h1)]; rfl⟩
  case round =>
    obtain ⟨k, hk, rfl, rfl⟩ := hrel
    generalize hgen : stpN k (s ^^^ byt (BitVec.ofInt 8 c)) = t at *
    have HG := Hid.mk hgen
    clear hgen
    have htb := t.isLt
    by_cases hlt : k < 8
    · go_wp2
      go_round
      case rel => exact ⟨k + 1, by omega, rfl, by rw [stp_num, stpN_snoc, HG.out]⟩
      case measure => simp [intOf]; omega
    · go_wp2
      go_ret
      obtain rfl : k = 8 := by omega
      exact ⟨by rw [← HG.out]; rfl, rfl⟩

/-- v is a slice of slices of bytes, that read as ls. -/
def SlB (w : World) (v : Value) (ls : List (List Int)) : Prop :=
  ∃ vs : List Value, Sl w 1 v ls.length vs ∧ ∀ (j : Nat) (h : j < ls.length) u, vs[j]? = some u → SlI .u8 w u ls[j]
theorem SlB.opn {w : World} {v : Value} {ls : List (List Int)} (h : SlB w v ls) : ∃ a cap, v = .slice a ls.length cap ∧ ls.length ≤ cap := by
  obtain ⟨vs, ⟨a, cap, hv, hl, _⟩, _⟩ := h; exact ⟨a, cap, hv, hl⟩
theorem SlB.nil (w : World) : SlB w (.slice none 0 0) [] := ⟨[], Sl.nil w 1, fun j h => by simp at h⟩
theorem SlB.fr0 {w w' : World} {v : Value} {ls : List (List Int)} (h : SlB w v ls) (hf : Fr noB w w') : SlB w' v ls := by
  obtain ⟨vs, h1, h2⟩ := h; exact ⟨vs, h1.fr0 hf, fun j hj u hu => (h2 j hj u hu).fr0 hf⟩
theorem SlB.one (w : World) (t : TypeId) (v : Value) (l : List Int) (h : SlI .u8 w v l) : SlB (w.alloc (.cells #[v] t)) (.slice (some ⟨w.heap.size, 0, none⟩) 1 1) [l] := by
  refine ⟨[v], Sl_one w t v, fun j hj u hu => ?_⟩
  obtain rfl : j = 0 := by simpa using hj
  simp at hu; subst hu
  exact h.fr0 ((Fr.refl _ _).alloc _)

def crcI (l : List Int) : Int := ((crcF ones32 (l.map (BitVec.ofInt 8))).toNat : Int)
theorem size24 : (Tryz.prog.info? 120).map (·.size) = some 1 := by kernel_rfl

def big (ls : List (List Int)) : Prop := ls.length ≤ 1000000000000 ∧ ∀ l ∈ ls, l.length ≤ 1000000000000

set_option maxHeartbeats 1000000 in
theorem of_any (v : Value) (ls : List (List Int)) (w : World) (h : SlB w v ls) (hb : big ls) :
    Calls Tryz.prog 89 #[v] w fun e w' => e = .returned (.int .u32 (crcI ls.flatten)) ∧ w = w' := by
  obtain ⟨a, cap, rfl, hcap⟩ := h.opn
  obtain ⟨vs, hS, hin⟩ := h
  obtain ⟨hb1, hb2⟩ := hb
  go_enter Tryz.func89, Tryz.ntmps89
  go_wp2
  go_loop [3, 10] (fun x i => ∃ k : Nat, k ≤ ls.length ∧ i = .int .i64 k ∧ x = .int .u32 ((crcF ones32 (((ls.take k).flatten).map (BitVec.ofInt 8))).toNat : Int)) (fun _ i => ls.length - (intOf i).toNat)
  case atStart => exact ⟨0, Nat.zero_le _, rfl, by rfl⟩
  case round =>
    obtain ⟨k, hk, rfl, rfl⟩ := hrel
    generalize hgen : crcF ones32 (((ls.take k).flatten).map (BitVec.ofInt 8)) = t at *
    have HG := Hid.mk hgen
    clear hgen
    by_cases hlt : k < ls.length
    · have hink := hin k hlt
      have hlb := hb2 ls[k] (by simp)
      go_wp2_with (refine wpList_idx1 rfl 140 _ _ rfl 120 Tryz.underlying140 size24 _ _ _ rfl hS _ _ k rfl rfl hlt ?_; intro p u hu hc; have hul := hink u hu; obtain ⟨a2, c2, rfl, hc2⟩ := hul.opn)
      generalize hl : ls[k] = l at *
      have HL := Hid.mk hl
      clear hl
      go_loop [3, 16] (fun x i => ∃ q : Nat, q ≤ l.length ∧ i = .int .i64 q ∧ x = .int .u32 ((crcF t ((l.take q).map (BitVec.ofInt 8))).toNat : Int)) (fun _ i => l.length - (intOf i).toNat)
      case atStart => exact ⟨0, Nat.zero_le _, rfl, by rfl⟩
      case round =>
        obtain ⟨q, hq, rfl, rfl⟩ := hrel
        generalize hgen : crcF t ((l.take q).map (BitVec.ofInt 8)) = t2 at *
        have HG2 := Hid.mk hgen
        clear hgen
        by_cases hqlt : q < l.length
        · have hbd := u8_bd (hul.2 l[q] (by simp))
          have hgd : l.getD q 0 = l[q] := by simp [List.getD, hqlt]
          go_wp2_with (first | (refine wpList_idx1 rfl 120 _ _ rfl 5 Tryz.underlying120 size5 _ _ _ rfl hul.1 _ _ q rfl rfl hqlt ?_; intro p u hu hc; obtain rfl := getu _ _ _ _ hu; rw [hgd] at hc) | (go_at_call 103; go_must (refine (withByte_any _ _ hbd.1 hbd.2 _).mono ?_; rintro e w' ⟨rfl, rfl⟩)))
          go_round
          case rel => exact ⟨q + 1, by omega, by go_num, by rw [List.take_succ_eq_append_getElem hqlt, List.map_append, crcF_append, HG2.out]; rfl⟩
          case measure => simp [intOf]; omega
        · go_wp2
          go_round
          case rel => 
            refine ⟨k + 1, by omega, by go_num, ?_⟩
            rw [List.take_succ_eq_append_getElem hlt, List.flatten_append, List.map_append, crcF_append, HG.out, HL.out, ← HG2.out]
            rw [List.take_of_length_le (by omega)]; simp
          case measure => simp [intOf]; omega
    · go_wp2
      go_ret
      refine ⟨?_, rfl⟩
      rw [← HG.out, List.take_of_length_le (by omega)]; rfl
end Go.Proofs.YtmkinaijkgkgiaaGreat
/- Contracts of Seal of package crc, and of bytes.Equal. -/
namespace Go.Proofs.U
open Go.RowKit
end Go.Proofs.U
namespace Go.Proofs.YtmkinaijkgkgiaaGreat
open Go.RowKit Go.Proofs.U

def be4I (n : Int) : List Int := [n / 16777216, n / 65536 % 256, n / 256 % 256, n % 256]
def sealI (l : List Int) : List Int := l ++ be4I (crcI l)
theorem crcI_bd (l : List Int) : 0 ≤ crcI l ∧ crcI l < 4294967296 := by
  unfold crcI; have := (crcF ones32 (l.map (BitVec.ofInt 8))).isLt; omega
theorem flat_le (ls : List (List Int)) (k : Nat) : (ls.take k).flatten.length ≤ ls.flatten.length := by
  conv => rhs; rw [← List.take_append_drop k ls, List.flatten_append, List.length_append]
  omega
theorem flat_succ (ls : List (List Int)) (k : Nat) (h : k < ls.length) : (ls.take (k + 1)).flatten = (ls.take k).flatten ++ ls[k] := by
  rw [List.take_succ_eq_append_getElem h, List.flatten_append]; simp
theorem mem_flat_wf {w : World} {v : Value} {ls : List (List Int)} (h : SlB w v ls) : ∀ n ∈ ls.flatten, (Lit.int .u8 n).wf = true := by
  obtain ⟨vs, hS, hin⟩ := h
  intro n hn
  obtain ⟨l, hl, hnl⟩ := List.mem_flatten.1 hn
  obtain ⟨j, hj, rfl⟩ := List.mem_iff_getElem.1 hl
  have hvl : vs.length = ls.length := by obtain ⟨_, _, _, _, h2, _⟩ := hS; simpa using h2
  exact (hin j hj _ (List.getElem?_eq_getElem (by omega))).2 n hnl
theorem wf_byte {n : Int} (h0 : 0 ≤ n) (h1 : n < 256) : (Lit.int .u8 n).wf = true := by
  simp [Lit.wf, IntKind.min, IntKind.max, IntKind.signed, IntKind.bits]; omega
theorem be4I_wf (n : Int) (h0 : 0 ≤ n) (h1 : n < 4294967296) : ∀ x ∈ be4I n, (Lit.int .u8 x).wf = true := by
  intro x hx
  simp only [be4I, List.mem_cons, List.not_mem_nil, or_false] at hx
  rcases hx with rfl | rfl | rfl | rfl <;> exact wf_byte (by omega) (by omega)
theorem sealI_wf (l : List Int) (h : ∀ n ∈ l, (Lit.int .u8 n).wf = true) : ∀ n ∈ sealI l, (Lit.int .u8 n).wf = true := by
  intro n hn
  rcases List.mem_append.1 hn with hn | hn
  · exact h n hn
  · exact be4I_wf _ (crcI_bd l).1 (crcI_bd l).2 n hn
theorem sealI_length (l : List Int) : (sealI l).length = l.length + 4 := by simp [sealI, be4I]

theorem parts (ls : List (List Int)) : ∃ F : Nat → List Int, F 0 = [] ∧ F ls.length = ls.flatten ∧ (∀ k (h : k < ls.length), F (k + 1) = F k ++ ls[k]) ∧ ∀ k, (F k).length ≤ ls.flatten.length :=
  ⟨fun k => (ls.take k).flatten, rfl, by simp, fun k h => flat_succ ls k h, fun k => flat_le ls k⟩
theorem of_one (v : Value) (l : List Int) (w : World) (t : TypeId) (h : SlI .u8 w v l) (hb : l.length ≤ 1000000000000) :
    Calls Tryz.prog 89 #[.slice (some ⟨w.heap.size, 0, none⟩) 1 1] (w.alloc (.cells #[v] t)) fun e w' => e = .returned (.int .u32 (crcI l)) ∧ w.alloc (.cells #[v] t) = w' := by
  have := of_any _ [l] _ (SlB.one w t v l h) ⟨by simp, by simpa using hb⟩
  simpa using this

set_option maxHeartbeats 1000000 in
theorem seal_any (v : Value) (ls : List (List Int)) (L : List Int) (hL : ls.flatten = L) (w : World) (h : SlB w v ls) (hb1 : ls.length ≤ 1000000000000) (hbf : L.length ≤ 1000000000000) :
    Calls Tryz.prog 66 #[v] w fun e w' => ∃ v', e = .returned v' ∧ OwnI .u8 5 w' w.heap.size v' (sealI L) ∧ Fr noB w w' := by
  have hB0 := h
  obtain ⟨a, cap, rfl, hcap⟩ := h.opn
  obtain ⟨vs, hS, hin⟩ := h
  obtain ⟨i5, hi5, hz5, hs5, hy5⟩ := info_parts info5
  have hwf := mem_flat_wf hB0
  obtain ⟨F, hF0, hFe, hFs, hFl⟩ := parts ls
  rw [hL] at hFe hFl hwf
  have HF0 := Hid.mk hF0
  have HFe := Hid.mk hFe
  have HFs := Hid.mk hFs
  clear hF0 hFe hFs hL hB0
  go_enter Tryz.func66, Tryz.ntmps66
  go_wp2
  go_loop [3, 12] (fun x i => ∃ k : Nat, k ≤ ls.length ∧ i = .int .i64 k ∧ x = .int .i64 (4 + ((F k).length : Int))) (fun _ i => ls.length - (intOf i).toNat)
  case atStart => exact ⟨0, Nat.zero_le _, rfl, by rw [HF0.out]; rfl⟩
  case round =>
    obtain ⟨k, hk, rfl, rfl⟩ := hrel
    by_cases hlt : k < ls.length
    · have hink := hin k hlt
      have hl1 := hFl (k + 1)
      rw [HFs.out k hlt, List.length_append] at hl1
      go_wp2_with (refine wpList_idx1 rfl 140 _ _ rfl 120 Tryz.underlying140 size24 _ _ _ rfl hS _ _ k rfl rfl hlt ?_; intro p u hu hc; have hul := hink u hu; obtain ⟨a2, c2, rfl, hc2⟩ := hul.opn)
      go_round
      case rel => exact ⟨k + 1, by omega, by go_num, by rw [HFs.out k hlt, List.length_append, Int.add_assoc]; simp⟩
      case measure => simp [intOf]; omega
    · obtain rfl : k = ls.length := by omega
      rw [HFe.out]
      go_wp2_with (refine at_make 120 _ _ rfl ?_; go_must (refine wpList_make_own _ rfl _ _ 120 rfl w.heap.size 5 i5 _ 1 Tryz.underlying120 hi5 hz5 hs5 .i64 .i64 _ (4 + L.length) rfl rfl (by simp) ?hb2 ?hb3 (Nat.le_refl _) ?_; rotate_left 2; intro w1 hown hgr; have hf1 := Fr.of_grown hgr))
      case hb2 => omega
      case hb3 => unfold maxLen; omega
      have ho1 : OwnI .u8 5 w1 w.heap.size _ [] := OwnI.mk _ hown rfl
      clear hown hgr
      go_loopw [6, 25] (fun out i wr => ∃ k : Nat, k ≤ ls.length ∧ i = .int .i64 k ∧ OwnI .u8 5 wr w.heap.size out (F k) ∧ Fr noB w wr) (fun _ i _ => ls.length - (intOf i).toNat)
      case atStart => exact ⟨0, Nat.zero_le _, rfl, by rw [HF0.out]; exact ho1, hf1⟩
      case round =>
        obtain ⟨k, hk, rfl, ho, hf⟩ := hrel
        by_cases hlt : k < ls.length
        · have hink := hin k hlt
          have hS' := hS.fr0 hf
          have hl1 := hFl (k + 1)
          rw [HFs.out k hlt, List.length_append] at hl1
          go_wp2_with (first | (refine wpList_idx1 rfl 140 _ _ rfl 120 Tryz.underlying140 size24 _ _ _ rfl hS' _ _ k rfl rfl hlt ?_; intro p u hu hc; have hul := (hink u hu).fr0 hf; obtain ⟨a2, c2, rfl, hc2⟩ := hul.opn) | (at_builtin; go_must (refine wpList_app rfl _ _ 120 rfl w.heap.size 5 _ 1 1 Tryz.underlying120 info5 rfl (by decide) _ _ _ rfl ho _ _ _ rfl hul.1 (ones _ _) ?hq1 ?hq2 hf.size ?_; rotate_left 2; intro v4 w4 hown4 hgr4)))
          case hq1 => unfold maxLen; omega
          case hq2 => omega
          go_roundw
          case rel => exact ⟨k + 1, by omega, by go_num, OwnI.mk _ hown4 (by rw [HFs.out k hlt]; simp), hf.grown hgr4 (owns_new ho)⟩
          case measure => simp [intOf]; omega
        · obtain rfl : k = ls.length := by omega
          rw [HFe.out] at ho
          have hsl := ho.sl hwf
          obtain ⟨a3, c3, rfl⟩ := ho.opn
          have hcb := crcI_bd L
          have Hof := Hid.mk (of_one _ _ _ 120 hsl hbf)
          obtain ⟨N, HN⟩ : ∃ N, Hid (crcI L = N) := ⟨_, rfl⟩
          rw [HN.out] at Hof hcb
          go_wp2_with (first | (go_at_call 89; go_must (refine Hof.out.mono ?_; rintro e w5 ⟨rfl, rfl⟩)) | (at_builtin; go_must (refine wpList_app rfl _ _ 120 rfl w.heap.size 5 _ 1 1 Tryz.underlying120 info5 rfl (by decide) _ _ _ rfl (owns_alloc (owns_alloc ho _) _) _ _ _ rfl (Sl_made _ _ _ 4 _ rfl (by simp)) ?h1 ?hq1 ?hq2 ?hq3 ?_; rotate_left 4; intro v4 w4 hown4 hgr4)))
          case h1 => simp [Value.oneCell']
          case hq1 => unfold maxLen; omega
          case hq2 => omega
          case hq3 => have := hf.size; simp; omega
          go_ret
          exact ⟨_, rfl, OwnI.mk _ hown4 (by simp [sealI, be4I, HN.out]), ((hf.alloc _).alloc _).grown hgr4 (owns_new ho)⟩

end Go.Proofs.YtmkinaijkgkgiaaGreat
