/- Contract of ends.Put where it answers bytes, for lists of at most 10^12 numbers. -/
import Derived.Test.YtcpkkdffedndiaaDoorA1
namespace Go.Proofs.YtcpkkdffedndiaaDoor
open Go.RowKit Go.Proofs.U

theorem Hid.mk {p : Prop} (h : p) : Hid p := h
theorem info5 : (Tryd.prog.info? 5).map (fun i => (i.zero, i.size, i.bytes)) = some (some (.int .u8 0), 1, 1) := by kernel_rfl

def leB : Nat → Int → List Int
  | 0, _ => []
  | n + 1, x => x % 256 :: leB n (x / 256)
def putB (width : Nat) (l : List Int) : List Int := l.flatMap (leB width)

theorem leB_snoc (q : Nat) (x : Int) (_h : 0 ≤ x) : leB (q + 1) x = leB q x ++ [x / 256 ^ q % 256] := by
  induction q generalizing x with
  | zero => simp [leB]
  | succ q ih =>
    rw [leB, ih (x / 256) (by omega)]
    simp only [leB, List.cons_append]
    rw [Int.ediv_ediv_of_nonneg (by decide), Int.pow_succ, Int.mul_comm]
theorem leB_length (q : Nat) (x : Int) : (leB q x).length = q := by
  induction q generalizing x with
  | zero => rfl
  | succ q ih => simp [leB, ih]
theorem putB_length (W : Nat) (l : List Int) : (putB W l).length = l.length * W := by
  induction l with
  | nil => simp [putB]
  | cons x l ih => simp only [putB, List.flatMap_cons, List.length_append, leB_length, List.length_cons] at *; rw [ih, Nat.add_mul]; omega
theorem putB_take (W : Nat) (l : List Int) (k : Nat) (h : k < l.length) : putB W (l.take (k + 1)) = putB W (l.take k) ++ leB W l[k] := by
  unfold putB; rw [List.take_succ_eq_append_getElem h, List.flatMap_append]; simp
theorem div_step (x : Int) (q : Nat) : x / 256 ^ q / 256 = x / 256 ^ (q + 1) := by
  rw [Int.ediv_ediv_of_nonneg (Int.le_of_lt (Int.pow_pos (by decide))), Int.pow_succ]
theorem div_bd (x : Int) (q : Nat) (h : 0 ≤ x ∧ x < 18446744073709551616) : 0 ≤ x / 256 ^ q ∧ x / 256 ^ q < 18446744073709551616 := by
  have hp : (0 : Int) < 256 ^ q := Int.pow_pos (by decide)
  have h1 := Int.ediv_nonneg h.1 (Int.le_of_lt hp)
  have h2 := Int.ediv_le_self (256 ^ q) h.1
  omega

set_option maxHeartbeats 1000000 in
theorem put_yes (width : Int) (hwd : isW width = true) (vb vl : Value) (bs l : List Int) (w : World) (hb : SlI .u8 w vb bs) (hl : SlI .u64 w vl l) (hbm : bs.length ≤ 1000000000000) (hm : l.length ≤ 1000000000000) (hfit : l.all (fits width) = true) :
    Calls Tryd.prog 31 #[vb, .int .i64 width, vl] w fun e w' => ∃ v, e = .returned (.tuple #[v, .int .i64 0]) ∧ OwnI .u8 5 w' w.heap.size v (bs ++ putB width.toNat l) ∧ Fr noB w w' := by
  have hw1 : 1 ≤ width ∧ width ≤ 8 := by
    have : width = 1 ∨ width = 2 ∨ width = 4 ∨ width = 8 := by simpa [isW, or_assoc] using hwd
    omega
  obtain ⟨W, rfl⟩ := Int.eq_ofNat_of_zero_le (show 0 ≤ width by omega)
  obtain ⟨a, cap, rfl, hcap⟩ := hb.opn
  obtain ⟨a2, cap2, rfl, hcap2⟩ := hl.opn
  obtain ⟨i5, hi5, hz5, hs5, hy5⟩ := info_parts info5
  have Hwd : Hid (isW (W : Int) = true) := hwd
  have Hfit : Hid (l.all (fits W) = true) := hfit
  clear hwd hfit
  have hmul : (W : Int) * (l.length : Int) ≤ 8000000000000 := by
    have := Int.mul_le_mul (a := (W : Int)) (b := (l.length : Int)) (c := 8) (d := 1000000000000) (by omega) (by omega) (by omega) (by omega)
    omega
  have hmulN : W * l.length ≤ 8000000000000 := by have : ((W * l.length : Nat) : Int) = (W : Int) * (l.length : Int) := by simp
                                                  omega
  have hmul0 : 0 ≤ (W : Int) * (l.length : Int) := Int.mul_nonneg (by omega) (by omega)
  go_enter Tryd.func31, Tryd.ntmps31
  go_wp2_with (first | (go_at_call 38; refine (isWidth_any _ _).mono ?_; rintro e w' ⟨rfl, rfl⟩; rw [Hwd.out]) | (go_at_call 39; refine (allFit_any _ Hwd.out _ l _ hl hm).mono ?_; rintro e w' ⟨rfl, rfl⟩; rw [Hfit.out]) | (refine at_make 38 _ _ rfl ?_; go_must (refine wpList_make_own _ rfl _ _ 38 rfl w.heap.size 5 i5 _ 1 Tryd.underlying38 hi5 hz5 hs5 .i64 .i64 _ (bs.length + W * l.length) rfl rfl (by simp) ?hb2 ?hb3 (Nat.le_refl _) ?_; rotate_left 2; intro w1 hown hgr; have hf1 := Fr.of_grown hgr; have hbS := hb.1.fr0 hf1)) | (at_builtin; go_must (refine wpList_app rfl _ _ 38 rfl w.heap.size 5 _ 1 1 Tryd.underlying38 info5 rfl (by decide) _ _ _ rfl hown _ _ _ rfl hbS (ones _ _) ?hq1 ?hq2 hf1.size ?_; rotate_left 2; intro v2 w2 hown2 hgr2; have hf2 := hf1.grown hgr2 (owns_new hown))))
  case hb2 => rw [hy5]; omega
  case hb3 => unfold maxLen; omega
  case hq1 => unfold maxLen; omega
  case hq2 => omega
  have ho2 : OwnI .u8 5 w2 w.heap.size v2 bs := OwnI.mk _ hown2 (by simp)
  clear hown2 hgr2 hown hbS hgr
  go_loopw [8, 33] (fun out i wr => ∃ k : Nat, k ≤ l.length ∧ i = .int .i64 k ∧ OwnI .u8 5 wr w.heap.size out (bs ++ putB W (l.take k)) ∧ Fr noB w wr) (fun _ i _ => l.length - (intOf i).toNat)
  case atStart => exact ⟨0, Nat.zero_le _, rfl, by simpa [putB] using ho2, hf2⟩
  case round =>
    obtain ⟨k, hk, rfl, ho, hf⟩ := hrel
    rename_i out _ _
    by_cases hlt : k < l.length
    · have hbd := u64_bd (hl.2 l[k] (by simp))
      have hlS := hl.1.fr0 hf
      go_wp2_with (refine wpList_idx1 rfl 50 _ _ rfl 51 Tryd.underlying50 size26 _ _ _ rfl hlS _ _ k rfl rfl hlt ?_; intro p u hu hc; obtain rfl := getu _ _ _ _ hu)
      generalize hx : l[k] = x at *
      have HX := Hid.mk hx
      clear hx
      go_loopw [8, 10, 38] (fun out n j wr' => ∃ q : Nat, q ≤ W ∧ j = .int .i64 q ∧ n = .int .u64 (x / 256 ^ q) ∧ OwnI .u8 5 wr' w.heap.size out (bs ++ putB W (l.take k) ++ leB q x) ∧ Fr noB w wr') (fun _ _ j _ => W - (intOf j).toNat)
      case atStart => exact ⟨0, Nat.zero_le _, rfl, by simp, by simpa [leB] using ho, hf⟩
      case round =>
        obtain ⟨q, hq, rfl, rfl, ho', hf'⟩ := hrel
        have hxd := div_bd x q hbd
        generalize hy : x / 256 ^ q = y at *
        have HY := Hid.mk hy
        clear hy
        have hlen : (bs ++ putB W (l.take k) ++ leB q x).length ≤ 9000000000008 := by
          have h9 : k * W ≤ l.length * W := Nat.mul_le_mul_right _ hk
          simp [leB_length, putB_length, Nat.min_eq_left hk]
          rw [Nat.mul_comm l.length W] at h9; omega
        by_cases hqlt : q < W
        · go_wp2_with (at_builtin; go_must (refine wpList_app rfl _ _ 38 rfl w.heap.size 5 _ 1 1 Tryd.underlying38 info5 rfl (by decide) _ _ _ rfl (owns_alloc ho' _) _ _ _ rfl (Sl_one _ _ _) ?h1 ?hq1 ?hq2 ?hq3 ?_; rotate_left 4; intro v3 w3 hown3 hgr3))
          case h1 => simp [Value.oneCell']
          case hq1 => unfold maxLen; omega
          case hq2 => omega
          case hq3 => have := hf'.size; simp; omega
          have hf3 := (hf'.alloc _).grown hgr3 (owns_new ho')
          go_roundw
          case rel => exact ⟨q + 1, by omega, by go_num, by rw [← div_step, HY.out], OwnI.mk _ hown3 (by rw [leB_snoc q x hbd.1, HY.out]; simp), hf3⟩
          case measure => simp [intOf]; omega
        · go_wp2
          go_roundw
          case rel => exact ⟨k + 1, by omega, by go_num, by have eq : q = W := (by omega); rw [putB_take W l k hlt, HX.out, ← List.append_assoc]; rw [eq] at ho'; exact ho', hf'⟩
          case measure => simp [intOf]; omega
    · go_wp2
      go_ret2
      have e : k = l.length := by omega
      subst e
      simp only [List.take_length] at ho
      exact ⟨_, rfl, ho, hf⟩
end Go.Proofs.YtcpkkdffedndiaaDoor
