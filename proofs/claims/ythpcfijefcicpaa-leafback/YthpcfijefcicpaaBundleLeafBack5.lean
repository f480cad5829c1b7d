/- Texts A6, A7, B8, B3, B7, B6m, CM, C1, C2, V1, Open, OpenD of the proof of LeafBack, one behind the other. -/
import Derived.Test.YthpcfijefcicpaaRows
import Derived.Laws.BitsAllLaws
import Derived.ProofKit
import Derived.OpenShut
import Derived.Deep.SlicePairs
import Derived.Test.YthpcfijefcicpaaBundleLeafBack1
import Derived.Test.YthpcfijefcicpaaBundleLeafBack2
import Derived.Test.YthpcfijefcicpaaBundleLeafBack3
import Derived.Test.YthpcfijefcicpaaBundleLeafBack4
/- Contract of (*Reader).Num: a number is taken from its last byte on. -/
namespace Go.Proofs.Ythpcfijefcicpaa
open Go.RowKit Go.Shelf Go.Proofs.U
attribute [local go_sem] Oper.semAt_some

def leNum : List Int → Int
  | [] => 0
  | x :: xs => x + 256 * leNum xs

set_option maxHeartbeats 1000000 in
theorem num_nowidth (b : Nat) (vb : Value) (l : List Int) (t : Nat) (f : Bool) (width : Int) (w : World) (hr : Rd w b vb l t f) (hwd : isW width = false) :
    Calls Try.prog 34 #[.pointer (some ⟨b, 0, none⟩), .int .i64 width] w fun e w' => e = .returned (.int .u64 0) ∧ Rd w' b vb l t true ∧ Fr (onB b) w w' := by
  have hr0 := hr
  obtain ⟨h0, h1, h2, h3, h4, h5, h6, h7⟩ := hr
  have h3' := h3 2
  have Hwd := Hid.mk hwd
  clear hwd
  go_enter Try.func34, Try.ntmps34
  go_wp2_with (go_at_call 31; refine (isWidth_any _ _).mono ?_; rintro e w' ⟨rfl, rfl⟩; rw [Hwd.out])
  go_ret
  exact ⟨rfl, hr0.setF _, (Fr.refl _ _).setCell ⟨b, 2, none⟩ _ (fun _ => rfl)⟩




theorem ownFrom_fr {β : Type} {S : Nat → Prop} {w₀ : World} {B : Nat} (hB : w₀.heap.size ≤ B) : OwnFrom B (fun (_ : β) W => Fr S w₀ W) :=
  fun _ _ _ _ hs hg hr => hs.grown hg (fun k e hk => by have := (hr k e).1; omega)

def step8 (n c : Int) : Int := bits BinOp.or IntKind.u64 (IntKind.u64.wrap (n * 256)) (IntKind.u64.wrap c)
def foldS (ys : List (Int × Int)) : Int := ys.foldl (fun n x => step8 n x.2) 0
theorem foldS_snoc (ys : List (Int × Int)) (x : Int × Int) : foldS (ys ++ [x]) = step8 (foldS ys) x.2 := by simp [foldS]

theorem wrap_u64_id (x : Int) (h0 : 0 ≤ x) (h : x < 18446744073709551616) : IntKind.u64.wrap x = x := by
  simp [IntKind.wrap, IntKind.bits, IntKind.signed]; omega
theorem step8_eq (n c : Int) (h0 : 0 ≤ n) (h1 : n < 72057594037927936) (h2 : 0 ≤ c) (h3 : c < 256) : step8 n c = c + 256 * n := by
  unfold step8
  rw [wrap_u64_id _ (by omega) (by omega), wrap_u64_id c h2 (by omega), u64_or _ _ (by omega) (by omega) h2 (by omega)]
  obtain ⟨m, rfl⟩ := Int.eq_ofNat_of_zero_le h0
  obtain ⟨d, rfl⟩ := Int.eq_ofNat_of_zero_le h2
  have e1 : ((m : Int) * 256).toNat = m <<< 8 := by rw [Nat.shiftLeft_eq]; omega
  rw [e1, Int.toNat_natCast, ← Nat.shiftLeft_add_eq_or_of_lt (by omega), Nat.shiftLeft_eq]
  simp; omega
theorem back_snd (zs : List Int) : (upto (back zs) zs.length).map (·.2) = zs.reverse := by
  apply List.ext_getElem
  · simp [upto]
  · intro i h1 h2
    have : i < zs.length := by simpa using h2
    simp [upto, back]
    rw [List.getElem?_eq_getElem (by omega)]; rfl
theorem leNum_bd (zs : List Int) (h : ∀ x ∈ zs, 0 ≤ x ∧ x < 256) : 0 ≤ leNum zs ∧ leNum zs < 256 ^ zs.length := by
  induction zs with
  | nil => simp [leNum]
  | cons x zs ih =>
    have := ih (fun y hy => h y (by simp [hy]))
    have hx := h x (by simp)
    simp only [leNum, List.length_cons, Int.pow_succ]
    omega
theorem fold_leNum (zs : List Int) (h : ∀ x ∈ zs, 0 ≤ x ∧ x < 256) (hl : zs.length ≤ 8) : zs.foldr (fun x n => step8 n x) 0 = leNum zs := by
  induction zs with
  | nil => rfl
  | cons x zs ih =>
    have hz : ∀ y ∈ zs, 0 ≤ y ∧ y < 256 := fun y hy => h y (by simp [hy])
    simp only [List.length_cons] at hl
    have hb := leNum_bd zs hz
    have hx := h x (by simp)
    have hp : (256 : Int) ^ zs.length ≤ 256 ^ 7 := by
      have h7 : zs.length = 0 ∨ zs.length = 1 ∨ zs.length = 2 ∨ zs.length = 3 ∨ zs.length = 4 ∨ zs.length = 5 ∨ zs.length = 6 ∨ zs.length = 7 := by omega
      rcases h7 with e | e | e | e | e | e | e | e <;> rw [e] <;> decide
    rw [List.foldr_cons, ih hz (by omega), step8_eq _ _ hb.1 (by omega) hx.1 hx.2]
    rfl
theorem foldS_all (zs : List Int) (h : ∀ x ∈ zs, 0 ≤ x ∧ x < 256) (hl : zs.length ≤ 8) : foldS (upto (back zs) zs.length) = leNum zs := by
  have : foldS (upto (back zs) zs.length) = ((upto (back zs) zs.length).map (·.2)).foldl step8 0 := by simp [foldS, List.foldl_map]
  rw [this, back_snd, List.foldl_reverse, fold_leNum zs h hl]

set_option maxRecDepth 100000 in
set_option maxHeartbeats 2000000 in
theorem num_width (b : Nat) (vb : Value) (l : List Int) (t : Nat) (f : Bool) (width : Int) (w : World) (hr : Rd w b vb l t f) (hwd : isW width = true) :
    Calls Try.prog 34 #[.pointer (some ⟨b, 0, none⟩), .int .i64 width] w fun e w' => e = .returned (.int .u64 (leNum (tkL l t f width))) ∧ Rd w' b vb l (tkT l t f width) (tkF l t f width) ∧ Fr (onB b) w w' := by
  have Hwd := Hid.mk hwd
  clear hwd
  have hlL : (tkL l t f width).length ≤ 1000000000000 := by
    obtain ⟨h0, h1, h2, h3, h4, h5, h6, h7⟩ := hr
    unfold tkL; split
    · simp; omega
    · simp
  have hwfL : ∀ x ∈ tkL l t f width, (Lit.int .u8 x).wf = true := by
    obtain ⟨h0, h1, h2, h3, h4, h5, h6, h7⟩ := hr
    unfold tkL; split
    · exact fun x hx => h4.2 x (List.mem_of_mem_drop (List.mem_of_mem_take hx))
    · simp
  have hbl : b < w.heap.size := by obtain ⟨h0, _⟩ := hr; exact World.block_lt_of_cell? w _ h0
  have hr1 : Rd (w.alloc (.cells #[.int .u64 0] 60)) b vb l t f := hr.fr0 ((Fr.refl _ _).alloc _)
  have hL8 : (tkL l t f width).length ≤ 8 := by
    have hcase : width = 1 ∨ width = 2 ∨ width = 4 ∨ width = 8 := by simpa [isW, or_assoc] using Hwd.out
    unfold tkL; split
    · simp; omega
    · simp
  have hvb : ∀ k, vb.ownBlock = some k → k < w.heap.size := by
    obtain ⟨h0, h1, h2, h3, h4, h5, h6, h7⟩ := hr
    exact fun k hk => (h5 k hk).2
  have hta := take_any b vb l t f width _ hr1
  generalize tkL l t f width = L at *
  generalize tkT l t f width = t' at *
  generalize tkF l t f width = f' at *
  refine (callsIn_wide (n := 5)).1 ?_
  refine callsIn_of_wp_marks Try.func34 rfl trivial ?_ rfl
  simp only [Try.ntmps34, List.size_toArray, List.length_cons, List.length_nil, Nat.reduceAdd, Nat.reduceSub, Array.replicate_succ, Array.replicate_zero, List.push_toArray, List.append_toArray, List.nil_append, List.cons_append]
  gi_wp2_with (first | (refine ⟨trivial, ?_⟩; gi_at_call 31; refine (callsIn_wide.2 (isWidth_any _ _)).mono ?_; rintro e w' ⟨rfl, rfl⟩; rw [Hwd.out]) | (refine ⟨trivial, ?_⟩; gi_at_call 26; refine (callsIn_wide.2 hta).mono ?_; rintro e w1 ⟨v, rfl, ho, hr2, hf1⟩; obtain ⟨a3, c3, rfl⟩ := ho.opn) | (refine ⟨trivial, ?_⟩; gi_at_call 37; refine (backward_in Fence.wide _ trivial rfl _ _ _ _).mono ?_; rintro e w2 ⟨rfl, rfl⟩))
  clear hta
  have hsz1 : w.heap.size + 1 ≤ w1.heap.size := by have := hf1.size; simpa using this
  have hcn : w1.cell? ⟨w.heap.size, 0, none⟩ = some (.int .u64 0) := hf1.cell (p := ⟨w.heap.size, 0, none⟩) (by simp) (fun q => by unfold onB at q; simp at q; omega)
  have hfn : w1.frozen? ⟨w.heap.size, 0, none⟩ = false := (hf1.frozen (p := ⟨w.heap.size, 0, none⟩) (by simp; rfl) (fun q => by unfold onB at q; simp at q; omega)).trans (by simp)
  obtain ⟨W0, hW0⟩ : ∃ W0, w1.alloc (.cells #[.slice a3 L.length c3] 45) = W0 := ⟨_, rfl⟩
  have hsz0 : W0.heap.size = w1.heap.size + 1 := by rw [← hW0]; simp
  have hf10 : Fr noB w1 W0 := by rw [← hW0]; exact (Fr.refl _ _).alloc _
  have hbx : W0.cell? ⟨w1.heap.size, 0, none⟩ = some (.slice a3 L.length c3) := by rw [← hW0]; simp
  have hnew := ho.newB
  have hSl := (ho.sl hwfL).fr0 hf10
  rw [hW0]
  refine wpIn_rangeFunc_ownG (F := Fence.wide) rfl (by omega) (gf := 39) (lb := #[.pointer (some ⟨w1.heap.size, 0, none⟩)]) rfl trivial (enters_of Try.func39 (by kernel_rfl) rfl)
    (backward_stops Fence.wide (5 - 1) trivial rfl (by omega) w1.heap.size (w1.heap.size + 1) w.heap.size _ L hlL W0 (by omega) (by omega) (by omega) hbx hSl (fun k hk => by have := hnew k hk; simp at this; omega)) KB.t (KB.b (by omega)) (Below.refl _ _) (fun _ => rfl)
    (fun pre W => (W.cell? ⟨w.heap.size, 0, none⟩ = some (.int .u64 (foldS pre)) ∧ W.frozen? ⟨w.heap.size, 0, none⟩ = false) ∧ Fr (onB w.heap.size) W0 W)
    (fun _ _ _ => False)
    (OwnFrom.and (Own.from (fun s A B row hs hg hr => ⟨cell_kept hs.1 hg hr, (frozen_kept hs.1 hg hr).trans hs.2⟩) _) (ownFrom_fr (Nat.le_refl _)))
    (fun _ _ _ _ _ hs _ _ => hs)
    ⟨⟨hf10.cell hcn (fun q => q), (hf10.frozen hcn (fun q => q)).trans hfn⟩, Fr.refl _ _⟩
    (fun x => { tmps := #[.pointer (some ⟨b, 0, none⟩), .int .i64 width, undef, undef, .int .u64 0, .pointer (some ⟨w.heap.size, 0, none⟩), undef, .int .u8 x.2, .int .i64 width, .bool true, .bool false, undef, undef, undef, .pointer (some ⟨b, 0, none⟩), .int .i64 width, .slice a3 L.length c3, .func (.func 39) #[] #[.pointer (some ⟨w1.heap.size, 0, none⟩)], .int .i64 x.1, .int .u8 x.2, undef, undef, undef, undef, undef, undef], defers := [] }) ?assign ?body ?done ?stop
  case assign =>
    intro l x W K hK
    gi_wp2
    exact hK
  case body =>
    rintro l pre x W ⟨⟨hc, hf⟩, hB⟩ _
    gi_wp2
    refine ⟨(KeepsOthers.setCell _ _ _).from _, fun k hk hne => Below.heap_setCell _ _ _ _ hne, ⟨?_, ?_⟩, hB.setCell _ _ (fun _ => rfl)⟩
    · rw [foldS_snoc]; exact World.cell?_setCell_same' _ _ _ (by rw [hc]; rfl)
    · rw [World.frozen?_setCell]; exact hf
  case done =>
    rintro D ys W hD rfl ⟨⟨hc, _⟩, hB⟩ hK
    gi_wp2
    refine ⟨by simp, .inl ⟨_, _, rfl, run_takeDeferred hK, ?_⟩⟩
    refine ⟨_, results_tmp rfl _ _ _, ?_, ?_, ?_⟩
    · rw [← foldS_all L (fun x hx => u8_bd (hwfL x hx)) hL8]; rfl
    all_goals
      have hsD := hB.size
      have hfW : Fr (onB w.heap.size) W0 (W.putObj D (.deferred none)) := hB.grown (grownBy_putObj' W D _) (fun k e hk => by cases e; omega)
    · exact (hr2.fr0 hf10).fr hfW (fun q => by unfold onB at q; omega) (fun k hk q => by have := hvb k hk; unfold onB at q; omega)
    · exact ((((Fr.refl _ _).alloc _).thenT hf1 (fun i _ q => q)).thenN hf10).thenT hfW (fun i hi q => by unfold onB at q; omega)
  case stop =>
    rintro D c pre W _ _ h _
    exact h.elim
end Go.Proofs.Ythpcfijefcicpaa
/- Contract of endsAlive: it answers true. -/
namespace Go.Proofs.Ythpcfijefcicpaa
open Go.RowKit Go.Proofs.U

def nmV (l : List Int) (t : Nat) (f : Bool) (width : Int) : Int := if isW width then leNum (tkL l t f width) else 0
def nmT (l : List Int) (t : Nat) (f : Bool) (width : Int) : Nat := if isW width then tkT l t f width else t
def nmF (l : List Int) (t : Nat) (f : Bool) (width : Int) : Bool := if isW width then tkF l t f width else true
theorem num_any (b : Nat) (vb : Value) (l : List Int) (t : Nat) (f : Bool) (width : Int) (w : World) (hr : Rd w b vb l t f) :
    Calls Try.prog 34 #[.pointer (some ⟨b, 0, none⟩), .int .i64 width] w fun e w' => e = .returned (.int .u64 (nmV l t f width)) ∧ Rd w' b vb l (nmT l t f width) (nmF l t f width) ∧ Fr (onB b) w w' := by
  cases hwd : isW width with
  | true => simpa only [nmV, nmT, nmF, hwd, if_true] using num_width b vb l t f width w hr hwd
  | false => simpa only [nmV, nmT, nmF, hwd, if_false, Bool.false_eq_true] using num_nowidth b vb l t f width w hr hwd

theorem Sl1 (w : World) (t : TypeId) (k : IntKind) (n : Int) (h : (Lit.int k n).wf = true) : SlI k (w.alloc (.cells #[.int k n] t)) (.slice (some ⟨w.heap.size, 0, none⟩) 1 1) [n] := ⟨by simpa using Sl_one w t (.int k n), by simpa using h⟩

theorem str21 : ((strOfNums [2, 1]).toList == [2, 1]) = true := by decide +kernel
theorem put258 : ([] : List Int) ++ putB (2 : Int).toNat [258] = [2, 1] := by decide

end Go.Proofs.Ythpcfijefcicpaa
/- The walk of EndsHalves: it answers true for every uint64. -/
namespace Go.Proofs.Ythpcfijefcicpaa
open Go.RowKit Go.Proofs.U

theorem leB_wf (q : Nat) (x : Int) : ∀ n ∈ leB q x, (Lit.int .u8 n).wf = true := by
  induction q generalizing x with
  | zero => simp [leB]
  | succ q ih =>
    intro n hn
    simp only [leB, List.mem_cons] at hn
    rcases hn with rfl | hn
    · simp [Lit.wf, IntKind.min, IntKind.max, IntKind.signed, IntKind.bits]; omega
    · exact ih _ n hn
theorem putB_wf (q : Nat) (l : List Int) : ∀ n ∈ putB q l, (Lit.int .u8 n).wf = true := by
  intro n hn; simp only [putB, List.mem_flatMap] at hn; obtain ⟨x, _, h⟩ := hn; exact leB_wf q x n h
theorem wf_app {k : IntKind} {a b : List Int} (ha : ∀ n ∈ a, (Lit.int k n).wf = true) (hb : ∀ n ∈ b, (Lit.int k n).wf = true) : ∀ n ∈ a ++ b, (Lit.int k n).wf = true := by
  intro n hn; rcases List.mem_append.1 hn with h | h
  · exact ha n h
  · exact hb n h

theorem put84 (n : Int) : ([] : List Int) ++ putB (4 : Int).toNat [n % 4294967296, n / 4294967296] = leB 8 n := by
  have e : (4 : Int).toNat = 4 := rfl
  simp only [e, List.nil_append, putB, List.flatMap_cons, List.flatMap_nil, leB, List.cons_append, List.append_nil, List.cons.injEq]
  refine ⟨by omega, by omega, by omega, by omega, by omega, by omega, by omega, by omega, trivial⟩
theorem put21 (n : Int) : ([] : List Int) ++ putB (1 : Int).toNat [n % 256, n / 256 % 256] = leB 2 (n % 65536) := by
  have e : (1 : Int).toNat = 1 := rfl
  simp only [e, List.nil_append, putB, List.flatMap_cons, List.flatMap_nil, leB, List.cons_append, List.append_nil, List.cons.injEq]
  refine ⟨by omega, by omega, trivial⟩

theorem u64_wf {x : Int} (h0 : 0 ≤ x) (h1 : x < 18446744073709551616) : (Lit.int .u64 x).wf = true := by
  simp [Lit.wf, IntKind.min, IntKind.max, IntKind.signed, IntKind.bits]; omega

theorem Sl2 (w : World) (t : TypeId) (k : IntKind) (x y : Int) (hx : (Lit.int k x).wf = true) (hy : (Lit.int k y).wf = true) : SlI k (w.alloc (.cells #[.int k x, .int k y] t)) (.slice (some ⟨w.heap.size, 0, none⟩) 2 2) [x, y] := by
  refine ⟨⟨_, _, rfl, Nat.le_refl _, by simp, (fun h => by cases h), fun z hz => ?_⟩, by simp [hx, hy]⟩
  cases hz
  intro j u hj
  rw [Addr.plain]
  match j, hj with
  | 0, hj => simp at hj; subst hj; simp
  | 1, hj => simp at hj; subst hj; simp
  | j + 2, hj => simp at hj

end Go.Proofs.Ythpcfijefcicpaa
/- The walk of EndsNames: it answers true. -/
namespace Go.Proofs.Ythpcfijefcicpaa
open Go.RowKit Go.Proofs.U

end Go.Proofs.Ythpcfijefcicpaa
/- The walk of EndsJoin: it answers true for every width and every two lists of numbers. -/
namespace Go.Proofs.Ythpcfijefcicpaa
open Go.RowKit Go.Proofs.U

theorem info26 : (Try.prog.info? 60).map (fun i => (i.zero, i.size, i.bytes)) = some (some (.int .u64 0), 1, 8) := by kernel_rfl

end Go.Proofs.Ythpcfijefcicpaa
/- Plain facts on numbers put as bytes and read back; no condition but what each states. -/
namespace Go.Proofs.Ythpcfijefcicpaa
open Go.RowKit Go.Proofs.U

theorem leNum_leB (q : Nat) (x : Int) (h0 : 0 ≤ x) (h : x < 256 ^ q) : leNum (leB q x) = x := by
  induction q generalizing x with
  | zero => simp [leB, leNum] at *; omega
  | succ q ih =>
    simp only [leB, leNum]
    have hp : (0 : Int) < 256 ^ q := Int.pow_pos (by decide)
    rw [ih (x / 256) (by omega) (by rw [Int.pow_succ] at h; omega)]
    omega

theorem fits_pow (W : Nat) (hw : isW W = true) (x : Int) (h : fits W x = true) : x < 256 ^ W := by
  have hc : (W : Int) = 1 ∨ (W : Int) = 2 ∨ (W : Int) = 4 ∨ (W : Int) = 8 := by simpa [isW, or_assoc] using hw
  have hc' : W = 1 ∨ W = 2 ∨ W = 4 ∨ W = 8 := by omega
  rcases hc' with rfl | rfl | rfl | rfl <;> simpa [fits, lim] using h

theorem putB_drop (W : Nat) (l : List Int) (k : Nat) : (putB W l).drop (k * W) = putB W (l.drop k) := by
  induction k generalizing l with
  | zero => simp
  | succ k ih =>
    cases l with
    | nil => simp [putB]
    | cons x l =>
      have e : putB W (x :: l) = leB W x ++ putB W l := by simp [putB]
      rw [e, Nat.succ_mul, Nat.add_comm (k * W) W, ← List.drop_drop, List.drop_append]
      simp only [leB_length, Nat.sub_self, List.drop_zero]
      have e2 : (leB W x).drop W = [] := List.drop_of_length_le (by rw [leB_length]; exact Nat.le_refl _)
      rw [e2, List.nil_append, ih]
      rfl
theorem putB_piece (W : Nat) (l : List Int) (k : Nat) (h : k < l.length) : ((putB W l).drop (k * W)).take W = leB W l[k] := by
  rw [putB_drop, List.drop_eq_getElem_cons h]
  simp only [putB, List.flatMap_cons]
  rw [List.take_append, leB_length]
  simp [List.take_of_length_le, leB_length]

/-- A number that lies there whole is read. -/
theorem nm_whole (Z : List Int) (t W : Nat) (x : Int) (hw : isW W = true) (hl : t + W ≤ Z.length) (hz : (Z.drop t).take W = leB W x) (h0 : 0 ≤ x) (hx : fits W x = true) :
    nmV Z t false W = x ∧ nmT Z t false W = t + W ∧ nmF Z t false W = false := by
  have hk : tkOk Z t false W = true := by simp [tkOk]; omega
  refine ⟨?_, ?_, ?_⟩
  · simp only [nmV, hw, if_true, tkL, hk, Int.toNat_natCast, hz]
    exact leNum_leB W x h0 (fits_pow W hw x hx)
  · simp [nmT, hw, tkT, hk]
  · simp [nmF, hw, tkF, hk]
/-- One that doesn't isn't. -/
theorem nm_short (Z : List Int) (t W : Nat) (hw : isW W = true) (hl : Z.length < t + W) (ht : t ≤ Z.length) :
    nmV Z t false W = 0 ∧ nmT Z t false W = t ∧ nmF Z t false W = true := by
  have hk : tkOk Z t false W = false := by simp [tkOk]; omega
  refine ⟨?_, ?_, ?_⟩
  · simp [nmV, hw, tkL, hk, leNum]
  · simp [nmT, hw, tkT, hk]
  · simp [nmF, hw, tkF, hk]
end Go.Proofs.Ythpcfijefcicpaa
/- Plain facts on a sum of bytes by division of polynomials; no condition. -/
namespace Go.Proofs.U

def polyB : BitVec 32 := 0x04c11db7#32
def ones32 : BitVec 32 := 0xffffffff#32
def stp (s : BitVec 32) : BitVec 32 := (s <<< 1) ^^^ (if s.msb then polyB else 0#32)
def stpN : Nat → BitVec 32 → BitVec 32
  | 0, s => s
  | n + 1, s => stpN n (stp s)
def byt (c : BitVec 8) : BitVec 32 := c.setWidth 32 <<< 24
def wb (s : BitVec 32) (c : BitVec 8) : BitVec 32 := stpN 8 (s ^^^ byt c)
def crcF (s : BitVec 32) (l : List (BitVec 8)) : BitVec 32 := l.foldl wb s

theorem xor4 (a b c d : BitVec 32) : (a ^^^ b) ^^^ (c ^^^ d) = (a ^^^ c) ^^^ (b ^^^ d) := by
  rw [BitVec.xor_assoc, ← BitVec.xor_assoc b c d, BitVec.xor_comm b c, BitVec.xor_assoc c b d, ← BitVec.xor_assoc]
theorem stp_xor (a b : BitVec 32) : stp (a ^^^ b) = stp a ^^^ stp b := by
  unfold stp
  rw [BitVec.shiftLeft_xor_distrib, BitVec.msb_xor, xor4]
  congr 1
  cases a.msb <;> cases b.msb <;> simp
theorem stp_zero : stp 0#32 = 0#32 := by decide
theorem stpN_xor (n : Nat) (a b : BitVec 32) : stpN n (a ^^^ b) = stpN n a ^^^ stpN n b := by
  induction n generalizing a b with
  | zero => rfl
  | succ n ih => rw [stpN, stp_xor, ih]; rfl
theorem stpN_zero (n : Nat) : stpN n 0#32 = 0#32 := by
  induction n with
  | zero => rfl
  | succ n ih => rw [stpN, stp_zero, ih]
theorem stpN_add (m n : Nat) (a : BitVec 32) : stpN (m + n) a = stpN n (stpN m a) := by
  induction m generalizing a with
  | zero => simp [stpN]
  | succ m ih => rw [Nat.succ_add, stpN, ih, stpN]
theorem stpN_snoc (n : Nat) (a : BitVec 32) : stpN (n + 1) a = stp (stpN n a) := by rw [stpN_add]; rfl
theorem stp_inj0 (a : BitVec 32) (h : stp a = 0#32) : a = 0#32 := by
  unfold stp at h
  cases hm : a.msb with
  | true =>
    rw [hm] at h
    have := congrArg (fun x : BitVec 32 => x.getLsbD 0) h
    simp [polyB] at this
  | false =>
    rw [hm] at h
    simp at h
    apply BitVec.eq_of_getLsbD_eq
    intro i hi
    by_cases h31 : i = 31
    · subst h31; simpa [BitVec.msb_eq_getLsbD_last] using hm
    · have := congrArg (fun x : BitVec 32 => x.getLsbD (i + 1)) h
      simp at this
      have := this (by omega)
      simpa using this
theorem stpN_inj0 (n : Nat) (a : BitVec 32) (h : stpN n a = 0#32) : a = 0#32 := by
  induction n generalizing a with
  | zero => exact h
  | succ n ih => exact stp_inj0 _ (ih _ h)
theorem byt_xor (a b : BitVec 8) : byt (a ^^^ b) = byt a ^^^ byt b := by
  unfold byt; rw [BitVec.setWidth_xor, BitVec.shiftLeft_xor_distrib]
theorem wb_xor (s t : BitVec 32) (a b : BitVec 8) : wb (s ^^^ t) (a ^^^ b) = wb s a ^^^ wb t b := by
  unfold wb; rw [byt_xor, xor4, stpN_xor]
theorem crcF_xor (s t : BitVec 32) (l m : List (BitVec 8)) (h : l.length = m.length) : crcF (s ^^^ t) (List.zipWith (· ^^^ ·) l m) = crcF s l ^^^ crcF t m := by
  induction l generalizing m s t with
  | nil => cases m with
    | nil => rfl
    | cons _ _ => simp at h
  | cons x l ih => cases m with
    | nil => simp at h
    | cons y m =>
      simp at h
      simp only [crcF, List.zipWith_cons_cons, List.foldl_cons] at ih ⊢
      rw [wb_xor]; exact ih _ _ _ h
theorem crcF_append (s : BitVec 32) (l m : List (BitVec 8)) : crcF s (l ++ m) = crcF (crcF s l) m := by simp [crcF]
theorem wb_zero (s : BitVec 32) : wb s 0#8 = stpN 8 s := by
  unfold wb; congr 1; simp [byt]
theorem crcF_zeros (s : BitVec 32) (n : Nat) : crcF s (List.replicate n 0#8) = stpN (8 * n) s := by
  induction n generalizing s with
  | zero => rfl
  | succ n ih => rw [List.replicate_succ, crcF, List.foldl_cons, wb_zero]; show crcF _ _ = _; rw [ih, ← stpN_add]; congr 1; omega

/-- the four bytes of a sum, the highest first. -/
def be4 (s : BitVec 32) : List (BitVec 8) := [(s >>> 24).setWidth 8, (s >>> 16).setWidth 8, (s >>> 8).setWidth 8, s.setWidth 8]
theorem stp_small (x : BitVec 32) (h : x.msb = false) : stp x = x <<< 1 := by unfold stp; rw [h]; simp
theorem stpN_small (n : Nat) (x : BitVec 32) (h : ∀ i, i < n → (x <<< i).msb = false) : stpN n x = x <<< n := by
  induction n with
  | zero => simp [stpN]
  | succ n ih =>
    rw [stpN_snoc, ih (fun i hi => h i (by omega)), stp_small _ (h n (by omega)), ← BitVec.shiftLeft_add]
end Go.Proofs.U
/- Contracts of withByte and Of of package crc. -/
namespace Go.Proofs.Ythpcfijefcicpaa
open Go.RowKit Go.Proofs.U

theorem bx32 (A B : BitVec 32) (a b : Int) (ha : a = (A.toNat : Int)) (hb : b = (B.toNat : Int)) : bits .xor .u32 a b = ((A ^^^ B).toNat : Int) := by
  subst ha hb
  rw [u32_xor_nat _ _ (by have := A.isLt; omega) (by have := B.isLt; omega), BitVec.toNat_xor]
theorem bn32 (A B : BitVec 32) (a b : Int) (ha : a = (A.toNat : Int)) (hb : b = (B.toNat : Int)) : bits .and .u32 a b = ((A &&& B).toNat : Int) := by
  subst ha hb
  rw [u32_and_nat _ _ (by have := A.isLt; omega) (by have := B.isLt; omega), BitVec.toNat_and]
theorem ofI8 (c : Int) (h0 : 0 ≤ c) (h1 : c < 256) : ((BitVec.ofInt 8 c).toNat : Int) = c := by
  rw [BitVec.toNat_ofInt]; omega
theorem byt_num (c : Int) (h0 : 0 ≤ c) (h1 : c < 256) : c * 16777216 = ((byt (BitVec.ofInt 8 c)).toNat : Int) := by
  have e := ofI8 c h0 h1
  unfold byt
  rw [BitVec.toNat_shiftLeft, BitVec.toNat_setWidth, Nat.shiftLeft_eq]
  omega
theorem stp_num (t : BitVec 32) : bits .xor .u32 ((t.toNat : Int) * 2 % 4294967296) (bits .and .u32 (-((t.toNat : Int) / 2147483648) % 4294967296) 79764919) = ((stp t).toNat : Int) := by
  have ht := t.isLt
  have e1 : ((t.toNat : Int) * 2 % 4294967296) = ((t <<< 1).toNat : Int) := by
    rw [BitVec.toNat_shiftLeft, Nat.shiftLeft_eq]; omega
  unfold stp
  by_cases hm : 2147483648 ≤ t.toNat
  · have hmsb : t.msb = true := by rw [BitVec.msb_eq_decide]; simpa using hm
    rw [hmsb]
    have e2 : -((t.toNat : Int) / 2147483648) % 4294967296 = (ones32.toNat : Int) := by
      have : ones32.toNat = 4294967295 := by decide
      omega
    refine bx32 _ _ _ _ e1 ?_
    rw [bn32 ones32 polyB _ _ e2 (by decide)]
    decide
  · have hmsb : t.msb = false := by rw [BitVec.msb_eq_decide]; simpa using hm
    rw [hmsb]
    have e2 : -((t.toNat : Int) / 2147483648) % 4294967296 = ((0#32).toNat : Int) := by
      have : (0#32).toNat = 0 := by decide
      omega
    refine bx32 _ _ _ _ e1 ?_
    rw [bn32 0#32 polyB _ _ e2 (by decide)]
    decide

set_option maxHeartbeats 1000000 in
theorem withByte_any (s : BitVec 32) (c : Int) (h0 : 0 ≤ c) (h1 : c < 256) (w : World) :
    Calls Try.prog 30 #[.int .u32 (s.toNat : Int), .int .u8 c] w fun e w' => e = .returned (.int .u32 ((wb s (BitVec.ofInt 8 c)).toNat : Int)) ∧ w = w' := by
  go_enter Try.func30, Try.ntmps30
  go_wp2
  go_loop [0, 11] (fun x i => ∃ k : Nat, k ≤ 8 ∧ i = .int .i64 k ∧ x = .int .u32 ((stpN k (s ^^^ byt (BitVec.ofInt 8 c))).toNat : Int)) (fun _ i => 8 - (intOf i).toNat)
  case atStart => exact ⟨0, by omega, rfl, by rw [bx32 s (byt (BitVec.ofInt 8 c)) _ _ rfl (byt_num c h0 h1)]; rfl⟩
  case round =>
    obtain ⟨k, hk, rfl, rfl⟩ := hrel
    generalize hgen : stpN k (s ^^^ byt (BitVec.ofInt 8 c)) = t at *
    have HG := Hid.mk hgen
    clear hgen
    have htb := t.isLt
    by_cases hlt : k < 8
    · go_wp2
      go_round
      case rel => exact ⟨k + 1, by omega, rfl, by rw [stp_num, stpN_snoc, HG.out]⟩
      case measure => simp [intOf]; omega
    · go_wp2
      go_ret
      obtain rfl : k = 8 := by omega
      exact ⟨by rw [← HG.out]; rfl, rfl⟩

/-- v is a slice of slices of bytes, that read as ls. -/
def SlB (w : World) (v : Value) (ls : List (List Int)) : Prop :=
  ∃ vs : List Value, Sl w 1 v ls.length vs ∧ ∀ (j : Nat) (h : j < ls.length) u, vs[j]? = some u → SlI .u8 w u ls[j]
theorem SlB.opn {w : World} {v : Value} {ls : List (List Int)} (h : SlB w v ls) : ∃ a cap, v = .slice a ls.length cap ∧ ls.length ≤ cap := by
  obtain ⟨vs, ⟨a, cap, hv, hl, _⟩, _⟩ := h; exact ⟨a, cap, hv, hl⟩
theorem SlB.nil (w : World) : SlB w (.slice none 0 0) [] := ⟨[], Sl.nil w 1, fun j h => by simp at h⟩
theorem SlB.fr0 {w w' : World} {v : Value} {ls : List (List Int)} (h : SlB w v ls) (hf : Fr noB w w') : SlB w' v ls := by
  obtain ⟨vs, h1, h2⟩ := h; exact ⟨vs, h1.fr0 hf, fun j hj u hu => (h2 j hj u hu).fr0 hf⟩
theorem SlB.one (w : World) (t : TypeId) (v : Value) (l : List Int) (h : SlI .u8 w v l) : SlB (w.alloc (.cells #[v] t)) (.slice (some ⟨w.heap.size, 0, none⟩) 1 1) [l] := by
  refine ⟨[v], Sl_one w t v, fun j hj u hu => ?_⟩
  obtain rfl : j = 0 := by simpa using hj
  simp at hu; subst hu
  exact h.fr0 ((Fr.refl _ _).alloc _)

def crcI (l : List Int) : Int := ((crcF ones32 (l.map (BitVec.ofInt 8))).toNat : Int)
theorem size24 : (Try.prog.info? 45).map (·.size) = some 1 := by kernel_rfl

def big (ls : List (List Int)) : Prop := ls.length ≤ 1000000000000 ∧ ∀ l ∈ ls, l.length ≤ 1000000000000

set_option maxHeartbeats 1000000 in
theorem of_any (v : Value) (ls : List (List Int)) (w : World) (h : SlB w v ls) (hb : big ls) :
    Calls Try.prog 22 #[v] w fun e w' => e = .returned (.int .u32 (crcI ls.flatten)) ∧ w = w' := by
  obtain ⟨a, cap, rfl, hcap⟩ := h.opn
  obtain ⟨vs, hS, hin⟩ := h
  obtain ⟨hb1, hb2⟩ := hb
  go_enter Try.func22, Try.ntmps22
  go_wp2
  go_loop [3, 10] (fun x i => ∃ k : Nat, k ≤ ls.length ∧ i = .int .i64 k ∧ x = .int .u32 ((crcF ones32 (((ls.take k).flatten).map (BitVec.ofInt 8))).toNat : Int)) (fun _ i => ls.length - (intOf i).toNat)
  case atStart => exact ⟨0, Nat.zero_le _, rfl, by rfl⟩
  case round =>
    obtain ⟨k, hk, rfl, rfl⟩ := hrel
    generalize hgen : crcF ones32 (((ls.take k).flatten).map (BitVec.ofInt 8)) = t at *
    have HG := Hid.mk hgen
    clear hgen
    by_cases hlt : k < ls.length
    · have hink := hin k hlt
      have hlb := hb2 ls[k] (by simp)
      go_wp2_with (refine wpList_idx1 rfl 56 _ _ rfl 45 Try.underlying56 size24 _ _ _ rfl hS _ _ k rfl rfl hlt ?_; intro p u hu hc; have hul := hink u hu; obtain ⟨a2, c2, rfl, hc2⟩ := hul.opn)
      generalize hl : ls[k] = l at *
      have HL := Hid.mk hl
      clear hl
      go_loop [3, 16] (fun x i => ∃ q : Nat, q ≤ l.length ∧ i = .int .i64 q ∧ x = .int .u32 ((crcF t ((l.take q).map (BitVec.ofInt 8))).toNat : Int)) (fun _ i => l.length - (intOf i).toNat)
      case atStart => exact ⟨0, Nat.zero_le _, rfl, by rfl⟩
      case round =>
        obtain ⟨q, hq, rfl, rfl⟩ := hrel
        generalize hgen : crcF t ((l.take q).map (BitVec.ofInt 8)) = t2 at *
        have HG2 := Hid.mk hgen
        clear hgen
        by_cases hqlt : q < l.length
        · have hbd := u8_bd (hul.2 l[q] (by simp))
          have hgd : l.getD q 0 = l[q] := by simp [List.getD, hqlt]
          go_wp2_with (first | (refine wpList_idx1 rfl 45 _ _ rfl 5 Try.underlying45 size5 _ _ _ rfl hul.1 _ _ q rfl rfl hqlt ?_; intro p u hu hc; obtain rfl := getu _ _ _ _ hu; rw [hgd] at hc) | (go_at_call 30; go_must (refine (withByte_any _ _ hbd.1 hbd.2 _).mono ?_; rintro e w' ⟨rfl, rfl⟩)))
          go_round
          case rel => exact ⟨q + 1, by omega, by go_num, by rw [List.take_succ_eq_append_getElem hqlt, List.map_append, crcF_append, HG2.out]; rfl⟩
          case measure => simp [intOf]; omega
        · go_wp2
          go_round
          case rel => 
            refine ⟨k + 1, by omega, by go_num, ?_⟩
            rw [List.take_succ_eq_append_getElem hlt, List.flatten_append, List.map_append, crcF_append, HG.out, HL.out, ← HG2.out]
            rw [List.take_of_length_le (by omega)]; simp
          case measure => simp [intOf]; omega
    · go_wp2
      go_ret
      refine ⟨?_, rfl⟩
      rw [← HG.out, List.take_of_length_le (by omega)]; rfl
end Go.Proofs.Ythpcfijefcicpaa
/- Contracts of Seal of package crc, and of bytes.Equal. -/
namespace Go.Proofs.U
open Go.RowKit
end Go.Proofs.U
namespace Go.Proofs.Ythpcfijefcicpaa
open Go.RowKit Go.Proofs.U

def be4I (n : Int) : List Int := [n / 16777216, n / 65536 % 256, n / 256 % 256, n % 256]
def sealI (l : List Int) : List Int := l ++ be4I (crcI l)
theorem crcI_bd (l : List Int) : 0 ≤ crcI l ∧ crcI l < 4294967296 := by
  unfold crcI; have := (crcF ones32 (l.map (BitVec.ofInt 8))).isLt; omega
theorem flat_le (ls : List (List Int)) (k : Nat) : (ls.take k).flatten.length ≤ ls.flatten.length := by
  conv => rhs; rw [← List.take_append_drop k ls, List.flatten_append, List.length_append]
  omega
theorem flat_succ (ls : List (List Int)) (k : Nat) (h : k < ls.length) : (ls.take (k + 1)).flatten = (ls.take k).flatten ++ ls[k] := by
  rw [List.take_succ_eq_append_getElem h, List.flatten_append]; simp
theorem mem_flat_wf {w : World} {v : Value} {ls : List (List Int)} (h : SlB w v ls) : ∀ n ∈ ls.flatten, (Lit.int .u8 n).wf = true := by
  obtain ⟨vs, hS, hin⟩ := h
  intro n hn
  obtain ⟨l, hl, hnl⟩ := List.mem_flatten.1 hn
  obtain ⟨j, hj, rfl⟩ := List.mem_iff_getElem.1 hl
  have hvl : vs.length = ls.length := by obtain ⟨_, _, _, _, h2, _⟩ := hS; simpa using h2
  exact (hin j hj _ (List.getElem?_eq_getElem (by omega))).2 n hnl
theorem wf_byte {n : Int} (h0 : 0 ≤ n) (h1 : n < 256) : (Lit.int .u8 n).wf = true := by
  simp [Lit.wf, IntKind.min, IntKind.max, IntKind.signed, IntKind.bits]; omega
theorem be4I_wf (n : Int) (h0 : 0 ≤ n) (h1 : n < 4294967296) : ∀ x ∈ be4I n, (Lit.int .u8 x).wf = true := by
  intro x hx
  simp only [be4I, List.mem_cons, List.not_mem_nil, or_false] at hx
  rcases hx with rfl | rfl | rfl | rfl <;> exact wf_byte (by omega) (by omega)
theorem sealI_wf (l : List Int) (h : ∀ n ∈ l, (Lit.int .u8 n).wf = true) : ∀ n ∈ sealI l, (Lit.int .u8 n).wf = true := by
  intro n hn
  rcases List.mem_append.1 hn with hn | hn
  · exact h n hn
  · exact be4I_wf _ (crcI_bd l).1 (crcI_bd l).2 n hn
theorem sealI_length (l : List Int) : (sealI l).length = l.length + 4 := by simp [sealI, be4I]

theorem parts (ls : List (List Int)) : ∃ F : Nat → List Int, F 0 = [] ∧ F ls.length = ls.flatten ∧ (∀ k (h : k < ls.length), F (k + 1) = F k ++ ls[k]) ∧ ∀ k, (F k).length ≤ ls.flatten.length :=
  ⟨fun k => (ls.take k).flatten, rfl, by simp, fun k h => flat_succ ls k h, fun k => flat_le ls k⟩
theorem of_one (v : Value) (l : List Int) (w : World) (t : TypeId) (h : SlI .u8 w v l) (hb : l.length ≤ 1000000000000) :
    Calls Try.prog 22 #[.slice (some ⟨w.heap.size, 0, none⟩) 1 1] (w.alloc (.cells #[v] t)) fun e w' => e = .returned (.int .u32 (crcI l)) ∧ w.alloc (.cells #[v] t) = w' := by
  have := of_any _ [l] _ (SlB.one w t v l h) ⟨by simp, by simpa using hb⟩
  simpa using this

set_option maxHeartbeats 1000000 in
theorem seal_any (v : Value) (ls : List (List Int)) (L : List Int) (hL : ls.flatten = L) (w : World) (h : SlB w v ls) (hb1 : ls.length ≤ 1000000000000) (hbf : L.length ≤ 1000000000000) :
    Calls Try.prog 15 #[v] w fun e w' => ∃ v', e = .returned v' ∧ OwnI .u8 5 w' w.heap.size v' (sealI L) ∧ Fr noB w w' := by
  have hB0 := h
  obtain ⟨a, cap, rfl, hcap⟩ := h.opn
  obtain ⟨vs, hS, hin⟩ := h
  obtain ⟨i5, hi5, hz5, hs5, hy5⟩ := info_parts info5
  have hwf := mem_flat_wf hB0
  obtain ⟨F, hF0, hFe, hFs, hFl⟩ := parts ls
  rw [hL] at hFe hFl hwf
  have HF0 := Hid.mk hF0
  have HFe := Hid.mk hFe
  have HFs := Hid.mk hFs
  clear hF0 hFe hFs hL hB0
  go_enter Try.func15, Try.ntmps15
  go_wp2
  go_loop [3, 12] (fun x i => ∃ k : Nat, k ≤ ls.length ∧ i = .int .i64 k ∧ x = .int .i64 (4 + ((F k).length : Int))) (fun _ i => ls.length - (intOf i).toNat)
  case atStart => exact ⟨0, Nat.zero_le _, rfl, by rw [HF0.out]; rfl⟩
  case round =>
    obtain ⟨k, hk, rfl, rfl⟩ := hrel
    by_cases hlt : k < ls.length
    · have hink := hin k hlt
      have hl1 := hFl (k + 1)
      rw [HFs.out k hlt, List.length_append] at hl1
      go_wp2_with (refine wpList_idx1 rfl 56 _ _ rfl 45 Try.underlying56 size24 _ _ _ rfl hS _ _ k rfl rfl hlt ?_; intro p u hu hc; have hul := hink u hu; obtain ⟨a2, c2, rfl, hc2⟩ := hul.opn)
      go_round
      case rel => exact ⟨k + 1, by omega, by go_num, by rw [HFs.out k hlt, List.length_append, Int.add_assoc]; simp⟩
      case measure => simp [intOf]; omega
    · obtain rfl : k = ls.length := by omega
      rw [HFe.out]
      go_wp2_with (refine at_make 45 _ _ rfl ?_; go_must (refine wpList_make_own _ rfl _ _ 45 rfl w.heap.size 5 i5 _ 1 Try.underlying45 hi5 hz5 hs5 .i64 .i64 _ (4 + L.length) rfl rfl (by simp) ?hb2 ?hb3 (Nat.le_refl _) ?_; rotate_left 2; intro w1 hown hgr; have hf1 := Fr.of_grown hgr))
      case hb2 => omega
      case hb3 => unfold maxLen; omega
      have ho1 : OwnI .u8 5 w1 w.heap.size _ [] := OwnI.mk _ hown rfl
      clear hown hgr
      go_loopw [6, 25] (fun out i wr => ∃ k : Nat, k ≤ ls.length ∧ i = .int .i64 k ∧ OwnI .u8 5 wr w.heap.size out (F k) ∧ Fr noB w wr) (fun _ i _ => ls.length - (intOf i).toNat)
      case atStart => exact ⟨0, Nat.zero_le _, rfl, by rw [HF0.out]; exact ho1, hf1⟩
      case round =>
        obtain ⟨k, hk, rfl, ho, hf⟩ := hrel
        by_cases hlt : k < ls.length
        · have hink := hin k hlt
          have hS' := hS.fr0 hf
          have hl1 := hFl (k + 1)
          rw [HFs.out k hlt, List.length_append] at hl1
          go_wp2_with (first | (refine wpList_idx1 rfl 56 _ _ rfl 45 Try.underlying56 size24 _ _ _ rfl hS' _ _ k rfl rfl hlt ?_; intro p u hu hc; have hul := (hink u hu).fr0 hf; obtain ⟨a2, c2, rfl, hc2⟩ := hul.opn) | (at_builtin; go_must (refine wpList_app rfl _ _ 45 rfl w.heap.size 5 _ 1 1 Try.underlying45 info5 rfl (by decide) _ _ _ rfl ho _ _ _ rfl hul.1 (ones _ _) ?hq1 ?hq2 hf.size ?_; rotate_left 2; intro v4 w4 hown4 hgr4)))
          case hq1 => unfold maxLen; omega
          case hq2 => omega
          go_roundw
          case rel => exact ⟨k + 1, by omega, by go_num, OwnI.mk _ hown4 (by rw [HFs.out k hlt]; simp), hf.grown hgr4 (owns_new ho)⟩
          case measure => simp [intOf]; omega
        · obtain rfl : k = ls.length := by omega
          rw [HFe.out] at ho
          have hsl := ho.sl hwf
          obtain ⟨a3, c3, rfl⟩ := ho.opn
          have hcb := crcI_bd L
          have Hof := Hid.mk (of_one _ _ _ 45 hsl hbf)
          obtain ⟨N, HN⟩ : ∃ N, Hid (crcI L = N) := ⟨_, rfl⟩
          rw [HN.out] at Hof hcb
          go_wp2_with (first | (go_at_call 22; go_must (refine Hof.out.mono ?_; rintro e w5 ⟨rfl, rfl⟩)) | (at_builtin; go_must (refine wpList_app rfl _ _ 45 rfl w.heap.size 5 _ 1 1 Try.underlying45 info5 rfl (by decide) _ _ _ rfl (owns_alloc (owns_alloc ho _) _) _ _ _ rfl (Sl_made _ _ _ 4 _ rfl (by simp)) ?h1 ?hq1 ?hq2 ?hq3 ?_; rotate_left 4; intro v4 w4 hown4 hgr4)))
          case h1 => simp [Value.oneCell']
          case hq1 => unfold maxLen; omega
          case hq2 => omega
          case hq3 => have := hf.size; simp; omega
          go_ret
          exact ⟨_, rfl, OwnI.mk _ hown4 (by simp [sealI, be4I, HN.out]), ((hf.alloc _).alloc _).grown hgr4 (owns_new ho)⟩

theorem sealone_any (v : Value) (l : List Int) (w : World) (t : TypeId) (h : SlI .u8 w v l) (hb : l.length ≤ 1000000000000) :
    Calls Try.prog 15 #[.slice (some ⟨w.heap.size, 0, none⟩) 1 1] (w.alloc (.cells #[v] t)) fun e w' => ∃ v', e = .returned v' ∧ OwnI .u8 5 w' w.heap.size v' (sealI l) ∧ Fr noB w w' := by
  refine (seal_any _ [l] l (by simp) _ (SlB.one w t v l h) (by simp) hb).mono ?_
  rintro e w' ⟨v', rfl, ho, hf⟩
  exact ⟨v', rfl, ho.rebase (by simp), ((Fr.refl noB w).alloc _).thenN hf⟩

/-- whether two strings of bytes are one. -/
theorem strs_eq (l m : List Int) (hl : ∀ n ∈ l, (Lit.int .u8 n).wf = true) (hm : ∀ n ∈ m, (Lit.int .u8 n).wf = true) : strOfNums l = strOfNums m ↔ l = m := by
  constructor
  · intro h
    have h1 : (l.map fun n => UInt8.ofNat n.toNat) = (m.map fun n => UInt8.ofNat n.toNat) := by
      have := congrArg (fun b : ByteArray => b.data.toList) h
      simpa [strOfNums] using this
    have key : ∀ (l : List Int), (∀ n ∈ l, (Lit.int .u8 n).wf = true) → (l.map fun n => UInt8.ofNat n.toNat).map (fun u => (u.toNat : Int)) = l := by
      intro l hl
      rw [List.map_map]
      conv => rhs; rw [← List.map_id l]
      apply List.map_congr_left
      intro n hn
      have := u8_bd (hl n hn)
      simp
      omega
    rw [← key l hl, ← key m hm, h1]
  · intro h; rw [h]

theorem strs_beq (l m : List Int) (hl : ∀ n ∈ l, (Lit.int .u8 n).wf = true) (hm : ∀ n ∈ m, (Lit.int .u8 n).wf = true) : ((strOfNums l).toList == (strOfNums m).toList) = decide (l = m) := by
  have h := strs_eq l m hl hm
  by_cases e : l = m
  · subst e; simp
  · have h2 : strOfNums l ≠ strOfNums m := fun q => e (h.1 q)
    simp only [ByteArray.toList_eq]
    have h3 : (strOfNums l).data.toList ≠ (strOfNums m).data.toList := fun q => h2 (by
      cases hA : strOfNums l; cases hB : strOfNums m; rw [hA, hB] at q; simp at q; rw [q])
    rw [beq_eq_false_iff_ne.2 h3]; simp [e]

end Go.Proofs.Ythpcfijefcicpaa
/- Roots as pages, plain: what a page of a generation and a content is, and what a page tells. -/
namespace Go.Proofs.Ythpcfijefcicpaa
open Go.RowKit Go.Proofs.U
set_option linter.unusedSimpArgs false
set_option linter.unusedVariables false

/-- What a list of numbers has at a place. -/
theorem getD_map (f : Nat → Int) (n i : Nat) (h : i < n) : ((List.range n).map f).getD i 0 = f i := by simp [List.getD, h]
theorem ext_getD {a b : List Int} (hl : a.length = b.length) (h : ∀ i, i < a.length → a.getD i 0 = b.getD i 0) : a = b := by
  apply List.ext_getElem hl
  intro i h1 h2
  have := h i h1
  simpa [List.getD, h1, h2] using this
/-- ds in the place of as many numbers, from o on. -/
def putI (l : List Int) (o : Nat) (ds : List Int) : List Int := l.take o ++ ds ++ l.drop (o + ds.length)
theorem putI_len (l : List Int) (o : Nat) (ds : List Int) (h : o + ds.length ≤ l.length) : (putI l o ds).length = l.length := by
  simp [putI]; omega
theorem putI_get (l : List Int) (o : Nat) (ds : List Int) (h : o + ds.length ≤ l.length) (i : Nat) : (putI l o ds).getD i 0 = if o ≤ i ∧ i < o + ds.length then ds.getD (i - o) 0 else l.getD i 0 := by
  have ht : (l.take o).length = o := by simp; omega
  have e : putI l o ds = l.take o ++ (ds ++ l.drop (o + ds.length)) := by simp [putI]
  rw [e]
  simp only [List.getD]
  by_cases h1 : i < o
  · rw [if_neg (by omega), List.getElem?_append_left (by omega), List.getElem?_take, if_pos h1]
  · rw [List.getElem?_append_right (by omega), ht]
    by_cases h2 : i < o + ds.length
    · rw [if_pos (by omega), List.getElem?_append_left (by omega)]
    · rw [if_neg (by omega), List.getElem?_append_right (by omega), List.getElem?_drop]
      congr 2; omega
theorem putAt_putI (l : List Int) (o : Nat) (ds : List Int) : putAt (pgv l) o (pgv ds) = pgv (putI l o ds) := by
  simp [putAt, putI, pgv, List.map_take, List.map_drop]
theorem putI_wf {k : IntKind} {l : List Int} {o : Nat} {ds : List Int} (h1 : ∀ n ∈ l, (Lit.int k n).wf = true) (h2 : ∀ n ∈ ds, (Lit.int k n).wf = true) : ∀ n ∈ putI l o ds, (Lit.int k n).wf = true := by
  intro n hn
  unfold putI at hn
  rcases List.mem_append.1 hn with hn | hn
  · rcases List.mem_append.1 hn with hn | hn
    · exact h1 n (List.mem_of_mem_take hn)
    · exact h2 n hn
  · exact h1 n (List.mem_of_mem_drop hn)
theorem drop_take_get (l : List Int) (o n i : Nat) (h : i < n) : ((l.drop o).take n).getD i 0 = l.getD (o + i) 0 := by
  simp [List.getD, List.getElem?_take, h, List.getElem?_drop]

/-- Bytes alone. -/
def Byt (l : List Int) : Prop := ∀ n ∈ l, (Lit.int .u8 n).wf = true
theorem Byt.at {l : List Int} (h : Byt l) (i : Nat) : 0 ≤ l.getD i 0 ∧ l.getD i 0 < 256 := by
  by_cases hi : i < l.length
  · have := u8_bd (h l[i] (by simp))
    simpa [List.getD, hi] using this
  · simp [List.getD, hi]
theorem byt_of {l : List Int} (h : ∀ i, i < l.length → 0 ≤ l.getD i 0 ∧ l.getD i 0 < 256) : Byt l := by
  intro n hn
  obtain ⟨i, hi, rfl⟩ := List.mem_iff_getElem.1 hn
  have := h i hi
  simp [List.getD, hi] at this
  exact wf_byte this.1 this.2
theorem Byt.take {l : List Int} (h : Byt l) (n : Nat) : Byt (l.take n) := fun x hx => h x (List.mem_of_mem_take hx)
theorem Byt.drop {l : List Int} (h : Byt l) (n : Nat) : Byt (l.drop n) := fun x hx => h x (List.mem_of_mem_drop hx)
theorem Byt.app {a b : List Int} (h : Byt a) (k : Byt b) : Byt (a ++ b) := wf_app h k
theorem byt_map (f : Nat → Int) (n : Nat) (h : ∀ i, i < n → 0 ≤ f i ∧ f i < 256) : Byt ((List.range n).map f) := by
  intro x hx
  obtain ⟨i, hi, rfl⟩ := List.mem_map.1 hx
  have := h i (by simpa using hi)
  exact wf_byte this.1 this.2
theorem byt_le (q : Nat) (x : Int) : Byt (leB q x) := leB_wf q x
theorem zeroP_byt : Byt zeroP := by
  intro n hn
  rw [show n = 0 from List.eq_of_mem_replicate hn]; decide

/-- The stream of a content, as far as it goes; and with the zeros behind it. -/
def strm (c : List Int) : List Int := sealI (leB 2 c.length ++ c)
theorem strm_len (c : List Int) : (strm c).length = c.length + 6 := by simp [strm, sealI_length, leB_length]; omega
theorem strm_byt {c : List Int} (h : Byt c) : Byt (strm c) := sealI_wf _ ((byt_le 2 _).app h)
def st192 (c : List Int) : List Int := (List.range 192).map fun j => (strm c).getD j 0
theorem st192_len (c : List Int) : (st192 c).length = 192 := by unfold st192; rw [List.length_map, List.length_range]
theorem st192_byt {c : List Int} (h : Byt c) : Byt (st192 c) := byt_map _ _ fun i _ => (strm_byt h).at i
theorem st192_eq (c : List Int) (h : c.length ≤ 186) : st192 c = strm c ++ List.replicate (186 - c.length) 0 := by
  have hl := strm_len c
  apply ext_getD
  · simp [st192_len, hl]; omega
  · intro i hi
    rw [st192_len] at hi
    rw [st192, getD_map _ _ _ hi]
    simp only [List.getD]
    by_cases h1 : i < (strm c).length
    · rw [List.getElem?_append_left h1]
    · rw [List.getElem?_append_right (by omega), List.getElem?_eq_none (by omega), List.getElem?_replicate]
      split <;> rfl

/-- The root of a generation and a content. -/
def rootP (g : Int) (c : List Int) : List Int := (List.range 256).map fun i => if i % 32 < 8 then (leB 8 g).getD (i % 32) 0 else (st192 c).getD (i / 32 * 24 + (i % 32 - 8)) 0
theorem rootP_len (g : Int) (c : List Int) : (rootP g c).length = 256 := by unfold rootP; rw [List.length_map, List.length_range]
theorem rootP_get (g : Int) (c : List Int) (i : Nat) (h : i < 256) : (rootP g c).getD i 0 = if i % 32 < 8 then (leB 8 g).getD (i % 32) 0 else (st192 c).getD (i / 32 * 24 + (i % 32 - 8)) 0 := getD_map _ _ _ h
theorem rootP_byt (g : Int) {c : List Int} (h : Byt c) : Byt (rootP g c) := by
  refine byt_map _ _ fun i hi => ?_
  split
  · exact (byt_le 8 g).at _
  · exact (st192_byt h).at _
/-- The root's first k sectors, zeros behind them. -/
def rootK (g : Int) (c : List Int) (k : Nat) : List Int := (List.range 256).map fun i => if i / 32 < k then (rootP g c).getD i 0 else 0
theorem rootK_len (g : Int) (c : List Int) (k : Nat) : (rootK g c k).length = 256 := by unfold rootK; rw [List.length_map, List.length_range]
theorem rootK_zero (g : Int) (c : List Int) : rootK g c 0 = zeroP := by
  apply ext_getD
  · rw [rootK_len, zeroP_len]
  · intro i hi
    rw [rootK_len] at hi
    rw [rootK, getD_map _ _ _ hi, if_neg (by omega)]
    unfold zeroP
    rw [List.getD, List.getElem?_replicate, if_pos hi]; rfl
theorem rootK_end (g : Int) (c : List Int) : rootK g c 8 = rootP g c := by
  apply ext_getD
  · rw [rootK_len, rootP_len]
  · intro i hi
    rw [rootK_len] at hi
    rw [rootK, getD_map _ _ _ hi, if_pos (by omega)]
theorem rootK_succ (g : Int) (c : List Int) (s : Nat) (hs : s < 8) :
    rootK g c (s + 1) = putI (putI (rootK g c s) (s * 32) (leB 8 g)) (s * 32 + 8) (((st192 c).drop (s * 24)).take 24) := by
  have h8 := leB_length 8 g
  have h24 : (((st192 c).drop (s * 24)).take 24).length = 24 := by simp [st192_len]; omega
  have hk := rootK_len g c s
  have h1 : (putI (rootK g c s) (s * 32) (leB 8 g)).length = 256 := by rw [putI_len _ _ _ (by omega), hk]
  apply ext_getD
  · rw [putI_len _ _ _ (by omega), h1, rootK_len]
  · intro i hi
    rw [rootK_len] at hi
    rw [putI_get _ _ _ (by omega), putI_get _ _ _ (by omega), h24, h8]
    simp only [rootK]
    rw [getD_map _ _ _ hi, getD_map _ _ _ hi, rootP_get g c i hi]
    by_cases c1 : i / 32 = s
    · have d1 : i / 32 < s + 1 := by omega
      have d2 : ¬ i / 32 < s := by omega
      by_cases c2 : i % 32 < 8
      · have d3 : ¬ (s * 32 + 8 ≤ i ∧ i < s * 32 + 8 + 24) := by omega
        have d4 : s * 32 ≤ i ∧ i < s * 32 + 8 := by omega
        simp only [d1, c2, d3, d4, if_true, if_false, and_self]
        congr 1; omega
      · have d3 : s * 32 + 8 ≤ i ∧ i < s * 32 + 8 + 24 := by omega
        simp only [d1, c2, d3, if_true, if_false, and_self]
        rw [drop_take_get _ _ _ _ (by omega)]
        congr 1; omega
    · have d3 : ¬ (s * 32 + 8 ≤ i ∧ i < s * 32 + 8 + 24) := by omega
      have d4 : ¬ (s * 32 ≤ i ∧ i < s * 32 + 8) := by omega
      have d5 : (i / 32 < s + 1) = (i / 32 < s) := by rw [eq_iff_iff]; omega
      simp only [d3, d4, d5, if_false]

/-- What stands where a sector has its generation. -/
def genAt (p : List Int) (s : Nat) : Int := leNum ((p.drop (s * 32)).take 8)
/-- What the sectors have beside their generations. -/
def strmOf (p : List Int) : List Int := (List.range 192).map fun j => p.getD (j / 24 * 32 + 8 + j % 24) 0
theorem strmOf_len (p : List Int) : (strmOf p).length = 192 := by unfold strmOf; rw [List.length_map, List.length_range]
theorem strmOf_byt {p : List Int} (h : Byt p) : Byt (strmOf p) := byt_map _ _ fun i _ => h.at _
def strmK (p : List Int) (k : Nat) : List Int := (List.range 192).map fun j => if j / 24 < k then (strmOf p).getD j 0 else 0
theorem strmK_len (p : List Int) (k : Nat) : (strmK p k).length = 192 := by unfold strmK; rw [List.length_map, List.length_range]
theorem strmK_zero (p : List Int) : strmK p 0 = List.replicate 192 0 := by
  apply ext_getD
  · rw [strmK_len, List.length_replicate]
  · intro i hi
    rw [strmK_len] at hi
    rw [strmK, getD_map _ _ _ hi, if_neg (by omega), List.getD, List.getElem?_replicate, if_pos hi]; rfl
theorem strmK_end (p : List Int) : strmK p 8 = strmOf p := by
  apply ext_getD
  · rw [strmK_len, strmOf_len]
  · intro i hi
    rw [strmK_len] at hi
    rw [strmK, getD_map _ _ _ hi, if_pos (by omega)]
theorem strmK_succ (p : List Int) (hp : p.length = 256) (s : Nat) (hs : s < 8) : strmK p (s + 1) = putI (strmK p s) (s * 24) ((p.drop (s * 32 + 8)).take 24) := by
  have h24 : ((p.drop (s * 32 + 8)).take 24).length = 24 := by simp [hp]; omega
  have hk := strmK_len p s
  apply ext_getD
  · rw [putI_len _ _ _ (by omega), hk, strmK_len]
  · intro i hi
    rw [strmK_len] at hi
    rw [putI_get _ _ _ (by omega), h24]
    simp only [strmK]
    rw [getD_map _ _ _ hi, getD_map _ _ _ hi]
    by_cases c1 : i / 24 = s
    · rw [if_pos (by omega), if_pos (by omega), drop_take_get _ _ _ _ (by omega), strmOf, getD_map _ _ _ hi]
      congr 1; omega
    · by_cases c2 : i / 24 < s
      · rw [if_pos (by omega), if_neg (by omega), if_pos c2]
      · rw [if_neg (by omega), if_neg (by omega), if_neg c2]
theorem strmK_byt {p : List Int} (h : Byt p) (k : Nat) : Byt (strmK p k) := by
  refine byt_map _ _ fun i _ => ?_
  split
  · exact (strmOf_byt h).at i
  · omega
/-- How many bytes the content of a page seems to have. -/
def lenOf (p : List Int) : Int := leNum ((strmOf p).take 2)
def contOf (p : List Int) : List Int := ((strmOf p).drop 2).take (lenOf p).toNat
/-- What a page tells: its generation and its content; nought, if it is no root. -/
def rootOf (p : List Int) : Int × List Int := if 186 < lenOf p then (0, []) else if rootP (genAt p 0) (contOf p) == p then (genAt p 0, contOf p) else (0, [])
theorem genAt_bd {p : List Int} (h : Byt p) (s : Nat) : 0 ≤ genAt p s ∧ genAt p s < 18446744073709551616 := by
  have h1 := leNum_bd ((p.drop (s * 32)).take 8) (fun x hx => u8_bd (((h.drop _).take _) x hx))
  have h2 : ((p.drop (s * 32)).take 8).length ≤ 8 := by simp; omega
  refine ⟨h1.1, Int.lt_of_lt_of_le h1.2 ?_⟩
  generalize ((p.drop (s * 32)).take 8).length = n at h2
  clear h1
  have : n = 0 ∨ n = 1 ∨ n = 2 ∨ n = 3 ∨ n = 4 ∨ n = 5 ∨ n = 6 ∨ n = 7 ∨ n = 8 := by omega
  rcases this with rfl | rfl | rfl | rfl | rfl | rfl | rfl | rfl | rfl <;> decide
theorem lenOf_bd {p : List Int} (h : Byt p) : 0 ≤ lenOf p ∧ lenOf p < 65536 := by
  have h1 := leNum_bd ((strmOf p).take 2) (fun x hx => u8_bd (((strmOf_byt h).take _) x hx))
  have h2 : ((strmOf p).take 2).length = 2 := by simp [strmOf_len]
  rw [h2] at h1
  exact h1
theorem contOf_byt {p : List Int} (h : Byt p) : Byt (contOf p) := ((strmOf_byt h).drop 2).take _
theorem contOf_len {p : List Int} (h : Byt p) (hl : lenOf p ≤ 186) : (contOf p).length = (lenOf p).toNat := by
  simp [contOf, strmOf_len]; omega
theorem rootOf_byt {p : List Int} (h : Byt p) : Byt (rootOf p).2 := by
  unfold rootOf; split
  · intro n hn; simp at hn
  · split
    · exact contOf_byt h
    · intro n hn; simp at hn
theorem rootOf_bd {p : List Int} (h : Byt p) : 0 ≤ (rootOf p).1 ∧ (rootOf p).1 < 18446744073709551616 := by
  unfold rootOf; split
  · decide
  · split
    · exact genAt_bd h 0
    · decide

/-- The root of the greater generation of those in their slots. -/
def inSlot (p : List Int) (s : Nat) : Int × List Int := if (rootOf p).1 % 2 = s then rootOf p else (0, [])
def newest (p q : List Int) : Int × List Int :=
  let a := if (rootOf p).1 % 2 = 0 ∧ 0 < (rootOf p).1 then rootOf p else (0, [])
  if (rootOf q).1 % 2 = 1 ∧ a.1 < (rootOf q).1 then rootOf q else a
/-- The greatest of the first k generations. -/
def topK (p : List Int) (t : Int) (k : Nat) : Int := (List.range k).foldl (fun t s => max t (genAt p s)) t
def top (p q : List Int) : Int := topK q (topK p 0 8) 8
theorem topK_succ (p : List Int) (t : Int) (k : Nat) : topK p t (k + 1) = max (topK p t k) (genAt p k) := by
  unfold topK; rw [List.range_succ, List.foldl_append]; rfl
theorem topK_bd {p : List Int} (h : Byt p) (t : Int) (ht : 0 ≤ t ∧ t < 18446744073709551616) (k : Nat) : 0 ≤ topK p t k ∧ topK p t k < 18446744073709551616 := by
  induction k with
  | zero => exact ht
  | succ k ih => rw [topK_succ]; have := genAt_bd h k; omega
theorem top_bd {p q : List Int} (h : Byt p) (k : Byt q) : 0 ≤ top p q ∧ top p q < 18446744073709551616 := topK_bd k _ (topK_bd h _ (by decide) 8) 8
theorem newest_bd {p q : List Int} (h : Byt p) (k : Byt q) : 0 ≤ (newest p q).1 ∧ (newest p q).1 < 18446744073709551616 := by
  have h1 := rootOf_bd h
  have h2 := rootOf_bd k
  have h3 : 0 ≤ (0 : Int) ∧ (0 : Int) < 18446744073709551616 := by decide
  unfold newest
  simp only
  split <;> split <;> assumption
theorem newest_byt {p q : List Int} (h : Byt p) (k : Byt q) : Byt (newest p q).2 := by
  have h1 := rootOf_byt h
  have h2 := rootOf_byt k
  have h3 : Byt [] := by intro n hn; simp at hn
  unfold newest
  simp only
  split <;> split <;> assumption

/-- What Read, Next and Write answer. -/
def rdE (X : DSt) : Int := if (readP X 0).2 = 0 then (readP X 1).2 else (readP X 0).2
def nwst (X : DSt) : Int × List Int := newest (readP X 0).1 (readP X 1).1
def rRead (X : DSt) : List Int × Int × Int := if rdE X = 0 then (if (nwst X).1 = 0 then ([], 0, 51) else ((nwst X).2, (nwst X).1, 0)) else ([], 0, rdE X)
def tp (X : DSt) : Int := top (readP X 0).1 (readP X 1).1
def nextG (X : DSt) : Int := if (nwst X).1 ≠ 0 ∧ (tp X + 1) % 2 = (nwst X).1 % 2 then tp X + 2 else tp X + 1
def rNext (X : DSt) : Int × Int := if rdE X = 0 then (if 18446744073709551612 < tp X then (0, 51) else (nextG X, 0)) else (0, rdE X)
def rWrite (X : DSt) (c : List Int) : DSt × Int × Int :=
  if 186 < c.length then (X, 0, 51)
  else if (rNext X).2 ≠ 0 then (X, 0, (rNext X).2)
  else
    let g := (rNext X).1
    let Y := X.write (g % 2) (rootP g c)
    if X.writeE (g % 2) ≠ 0 then (Y, 0, X.writeE (g % 2))
    else if Y.actE ≠ 0 then (Y.sync, 0, Y.actE) else (Y.sync, g, 0)
end Go.Proofs.Ythpcfijefcicpaa
/- How a slice of integers that came in is opened. -/
namespace Go.Proofs.U
open Go.RowKit Go.ChangeShapes Go.WideShapes Go.ChangeAt

/-- A slice of integers that came in, opened. -/
theorem slI_of_trod {P : Program} {H : Type} {enc : TypeId × Value → H} {W : World} {base t e : Nat} {k : IntKind} {v : Value} {d : DataW H} {p : List MemPlace}
    (hu : P.underlying t = some (.slice e)) (he : P.underlying e = some (.int k)) (hc : P.cellsOf e = 1) (hval : Value.okWide P W .any base t v)
    (h : DataW.Trod enc P W 0 (fun _ => true) true t v d p) : ∃ l, SlI k W v l := by
  obtain ⟨a, len, cap, rfl⟩ := okWide_slice hu hval
  obtain ⟨fuel, hf⟩ := h
  rcases open_ints hu he hc hf with ⟨hcs, _⟩ | ⟨x, l, c, zs, hcs, _, hl, hm, hz, _, hcell, hwz⟩
  · simp [Value.cells] at hcs
    obtain ⟨rfl, rfl, rfl⟩ := hcs
    exact ⟨[], SlI.nil k W⟩
  · simp [Value.cells] at hcs
    obtain ⟨rfl, rfl, rfl⟩ := hcs
    have hzl : zs.length = cap := by simpa using hz
    have e : (zs.take len).length = len := by simp; omega
    refine ⟨zs.take len, ?_, fun n hn => hwz n (List.mem_of_mem_take hn)⟩
    rw [e]
    refine ⟨_, _, rfl, hl, by simp; omega, (fun h => by cases h), fun y hy j u hj => ?_⟩
    cases hy
    have hj1 : j < len := by
      have := (List.getElem?_eq_some_iff.1 hj).1
      simp at this; omega
    rw [List.map_take, List.getElem?_take, if_pos hj1] at hj
    have hc1 := hcell j (by omega)
    have hjz : j < zs.length := by omega
    simp [hjz] at hj
    rw [← hj]
    simpa [List.getD, hjz] using hc1
end Go.Proofs.U
/- How a slice of acts, and one of bools, that came in are opened. -/
namespace Go.Proofs.Ythpcfijefcicpaa
open Go.RowKit Go.Proofs.U Go.ChangeShapes Go.WideShapes Go.ChangeAt
set_option linter.unusedSimpArgs false
set_option linter.unusedVariables false

/-- An act as it lies in memory: its kind, its place, its byte, its slice, and what that slice holds. -/
structure ActR where
  kind : Int
  at' : Int
  byte : Int
  kv : Value
  keep : List Int
def encA (x : ActR) : List Value := [.int .i64 x.kind, .int .i64 x.at', .int .u8 x.byte, x.kv]
def ActOk (w : World) (x : ActR) : Prop := (Lit.int .i64 x.kind).wf = true ∧ (Lit.int .i64 x.at').wf = true ∧ (Lit.int .u8 x.byte).wf = true ∧ SlI .u8 w x.kv x.keep
def SlA (w : World) (v : Value) (l : List ActR) : Prop := SlR encA 4 w v l ∧ ∀ x ∈ l, ActOk w x

theorem slI_of_cells {P : Program} {H : Type} {enc : TypeId × Value → H} {W : World} {t e fuel : Nat} {k : IntKind} {v : Value} {x : DataW H × List MemPlace}
    (hu : P.underlying t = some (.slice e)) (he : P.underlying e = some (.int k)) (hc : P.cellsOf e = 1)
    (hf : DataW.trod enc P W 0 (fun _ => true) true fuel t [v] = some x) : ∃ l, SlI k W v l := by
  rcases open_ints hu he hc hf with ⟨hcs, _⟩ | ⟨x, len, cap, zs, hcs, _, hl, hm, hz, _, hcell, hwz⟩
  · simp at hcs
    subst hcs
    exact ⟨[], SlI.nil k W⟩
  · simp at hcs
    subst hcs
    have hzl : zs.length = cap := by simpa using hz
    have e : (zs.take len).length = len := by simp; omega
    refine ⟨zs.take len, ?_, fun n hn => hwz n (List.mem_of_mem_take hn)⟩
    rw [e]
    refine ⟨_, _, rfl, hl, by simp; omega, (fun h => by cases h), fun y hy j u hj => ?_⟩
    cases hy
    have hj1 : j < len := by
      have := (List.getElem?_eq_some_iff.1 hj).1
      simp at this; omega
    rw [List.map_take, List.getElem?_take, if_pos hj1] at hj
    have hc1 := hcell j (by omega)
    have hjz : j < zs.length := by omega
    simp [hjz] at hj
    rw [← hj]
    simpa [List.getD, hjz] using hc1
set_option maxRecDepth 100000 in
theorem opened_bools {H : Type} {enc : TypeId × Value → H} {W : World} {base : Nat} {v : Value} {d : DataW H} {p : List MemPlace}
    (hval : Value.okWide Try.prog W .any base 83 v) (h : DataW.Trod enc Try.prog W 0 (fun _ => true) true 83 v d p) : ∃ l, SlR encB 1 W v l := by
  obtain ⟨a, len, cap, rfl⟩ := okWide_slice Try.underlying83 hval
  obtain ⟨fuel, hf⟩ := h
  rcases Deep.open_slice Try.underlying83 hf with ⟨hcs, _⟩ | ⟨x, l, c, m, n, D, Pl, hcs, _, hl, hm, hmm, _, hcell⟩
  · simp [Value.cells] at hcs
    obtain ⟨rfl, rfl, rfl⟩ := hcs
    exact ⟨[], by simp, Sl.nil W 1⟩
  · simp [Value.cells] at hcs
    obtain ⟨rfl, rfl, rfl⟩ := hcs
    have hmc : m = cap := by simpa using hmm
    have ce : Try.prog.cellsOf 4 = 1 := by kernel_rfl
    have each : ∀ i, i < m → ∃ q : Bool, W.cell? (x.add i) = some (.bool q) := by
      intro i hi
      obtain ⟨cs', h1, h2⟩ := hcell i hi
      rw [ce] at h1
      obtain ⟨_, hlen, hcl⟩ := World.cells?_some h1
      obtain ⟨z, hz, _⟩ := DataW.trod_bool Try.underlying4 h2
      subst hz
      have hh := hcl 0 (by omega)
      rw [Deep.add_add] at hh
      exact ⟨z, by simpa using hh⟩
    let g : Nat → Bool := fun i => if h : i < m then (each i h).choose else false
    have hg : ∀ i, i < m → W.cell? (x.add i) = some (.bool (g i)) := by
      intro i hi
      simp only [g, dif_pos hi]
      exact (each i hi).choose_spec
    refine ⟨(List.range len).map g, fun y _ => rfl, ?_⟩
    have hflat : ∀ L : List Bool, L.flatMap encB = L.map Value.bool := by
      intro L; induction L with
      | nil => rfl
      | cons z L ih => simp [List.flatMap_cons, ih]
    rw [hflat]
    refine ⟨some x, cap, by simp, by simpa using hl, by simp, (fun h => by cases h), fun y hy j u hj => ?_⟩
    cases hy
    have hjl : j < len := by have h2 := (List.getElem?_eq_some_iff.1 hj).1; simpa using h2
    simp [hjl] at hj
    rw [← hj]
    exact hg j (by omega)
end Go.Proofs.Ythpcfijefcicpaa
