/- Contract of (*Reader).Num: a number is taken from its last byte on. -/
import Derived.Test.YtffdgbimpodopaaA5
namespace Go.Proofs.Ytffdgbimpodopaa
open Go.RowKit Go.Shelf Go.Proofs.U
attribute [local go_sem] Oper.semAt_some

def leNum : List Int → Int
  | [] => 0
  | x :: xs => x + 256 * leNum xs

set_option maxHeartbeats 1000000 in
theorem num_nowidth (b : Nat) (vb : Value) (l : List Int) (t : Nat) (f : Bool) (width : Int) (w : World) (hr : Rd w b vb l t f) (hwd : isW width = false) :
    Calls Try.prog 12 #[.pointer (some ⟨b, 0, none⟩), .int .i64 width] w fun e w' => e = .returned (.int .u64 0) ∧ Rd w' b vb l t true ∧ Fr (onB b) w w' := by
  have hr0 := hr
  obtain ⟨h0, h1, h2, h3, h4, h5, h6, h7⟩ := hr
  have h3' := h3 2
  have Hwd := Hid.mk hwd
  clear hwd
  go_enter Try.func12, Try.ntmps12
  go_wp2_with (go_at_call 20; refine (isWidth_any _ _).mono ?_; rintro e w' ⟨rfl, rfl⟩; rw [Hwd.out])
  go_ret
  exact ⟨rfl, hr0.setF _, (Fr.refl _ _).setCell ⟨b, 2, none⟩ _ (fun _ => rfl)⟩



theorem u8_bd {x : Int} (h : (Lit.int .u8 x).wf = true) : 0 ≤ x ∧ x < 256 := by
  simp [Lit.wf, IntKind.min, IntKind.max, IntKind.signed, IntKind.bits] at h; omega

theorem ownFrom_fr {β : Type} {S : Nat → Prop} {w₀ : World} {B : Nat} (hB : w₀.heap.size ≤ B) : OwnFrom B (fun (_ : β) W => Fr S w₀ W) :=
  fun _ _ _ _ hs hg hr => hs.grown hg (fun k e hk => by have := (hr k e).1; omega)

def step8 (n c : Int) : Int := bits BinOp.or IntKind.u64 (IntKind.u64.wrap (n * 256)) (IntKind.u64.wrap c)
def foldS (ys : List (Int × Int)) : Int := ys.foldl (fun n x => step8 n x.2) 0
theorem foldS_snoc (ys : List (Int × Int)) (x : Int × Int) : foldS (ys ++ [x]) = step8 (foldS ys) x.2 := by simp [foldS]

theorem wrap_u64_id (x : Int) (h0 : 0 ≤ x) (h : x < 18446744073709551616) : IntKind.u64.wrap x = x := by
  simp [IntKind.wrap, IntKind.bits, IntKind.signed]; omega
theorem step8_eq (n c : Int) (h0 : 0 ≤ n) (h1 : n < 72057594037927936) (h2 : 0 ≤ c) (h3 : c < 256) : step8 n c = c + 256 * n := by
  unfold step8
  rw [wrap_u64_id _ (by omega) (by omega), wrap_u64_id c h2 (by omega), u64_or _ _ (by omega) (by omega) h2 (by omega)]
  obtain ⟨m, rfl⟩ := Int.eq_ofNat_of_zero_le h0
  obtain ⟨d, rfl⟩ := Int.eq_ofNat_of_zero_le h2
  have e1 : ((m : Int) * 256).toNat = m <<< 8 := by rw [Nat.shiftLeft_eq]; omega
  rw [e1, Int.toNat_natCast, ← Nat.shiftLeft_add_eq_or_of_lt (by omega), Nat.shiftLeft_eq]
  simp; omega
theorem back_snd (zs : List Int) : (upto (back zs) zs.length).map (·.2) = zs.reverse := by
  apply List.ext_getElem
  · simp [upto]
  · intro i h1 h2
    have : i < zs.length := by simpa using h2
    simp [upto, back]
    rw [List.getElem?_eq_getElem (by omega)]; rfl
theorem leNum_bd (zs : List Int) (h : ∀ x ∈ zs, 0 ≤ x ∧ x < 256) : 0 ≤ leNum zs ∧ leNum zs < 256 ^ zs.length := by
  induction zs with
  | nil => simp [leNum]
  | cons x zs ih =>
    have := ih (fun y hy => h y (by simp [hy]))
    have hx := h x (by simp)
    simp only [leNum, List.length_cons, Int.pow_succ]
    omega
theorem fold_leNum (zs : List Int) (h : ∀ x ∈ zs, 0 ≤ x ∧ x < 256) (hl : zs.length ≤ 8) : zs.foldr (fun x n => step8 n x) 0 = leNum zs := by
  induction zs with
  | nil => rfl
  | cons x zs ih =>
    have hz : ∀ y ∈ zs, 0 ≤ y ∧ y < 256 := fun y hy => h y (by simp [hy])
    simp only [List.length_cons] at hl
    have hb := leNum_bd zs hz
    have hx := h x (by simp)
    have hp : (256 : Int) ^ zs.length ≤ 256 ^ 7 := by
      have h7 : zs.length = 0 ∨ zs.length = 1 ∨ zs.length = 2 ∨ zs.length = 3 ∨ zs.length = 4 ∨ zs.length = 5 ∨ zs.length = 6 ∨ zs.length = 7 := by omega
      rcases h7 with e | e | e | e | e | e | e | e <;> rw [e] <;> decide
    rw [List.foldr_cons, ih hz (by omega), step8_eq _ _ hb.1 (by omega) hx.1 hx.2]
    rfl
theorem foldS_all (zs : List Int) (h : ∀ x ∈ zs, 0 ≤ x ∧ x < 256) (hl : zs.length ≤ 8) : foldS (upto (back zs) zs.length) = leNum zs := by
  have : foldS (upto (back zs) zs.length) = ((upto (back zs) zs.length).map (·.2)).foldl step8 0 := by simp [foldS, List.foldl_map]
  rw [this, back_snd, List.foldl_reverse, fold_leNum zs h hl]

set_option maxRecDepth 100000 in
set_option maxHeartbeats 2000000 in
theorem num_width (b : Nat) (vb : Value) (l : List Int) (t : Nat) (f : Bool) (width : Int) (w : World) (hr : Rd w b vb l t f) (hwd : isW width = true) :
    Calls Try.prog 12 #[.pointer (some ⟨b, 0, none⟩), .int .i64 width] w fun e w' => e = .returned (.int .u64 (leNum (tkL l t f width))) ∧ Rd w' b vb l (tkT l t f width) (tkF l t f width) ∧ Fr (onB b) w w' := by
  have Hwd := Hid.mk hwd
  clear hwd
  have hlL : (tkL l t f width).length ≤ 1000000000000 := by
    obtain ⟨h0, h1, h2, h3, h4, h5, h6, h7⟩ := hr
    unfold tkL; split
    · simp; omega
    · simp
  have hwfL : ∀ x ∈ tkL l t f width, (Lit.int .u8 x).wf = true := by
    obtain ⟨h0, h1, h2, h3, h4, h5, h6, h7⟩ := hr
    unfold tkL; split
    · exact fun x hx => h4.2 x (List.mem_of_mem_drop (List.mem_of_mem_take hx))
    · simp
  have hbl : b < w.heap.size := by obtain ⟨h0, _⟩ := hr; exact World.block_lt_of_cell? w _ h0
  have hr1 : Rd (w.alloc (.cells #[.int .u64 0] 26)) b vb l t f := hr.fr0 ((Fr.refl _ _).alloc _)
  have hL8 : (tkL l t f width).length ≤ 8 := by
    have hcase : width = 1 ∨ width = 2 ∨ width = 4 ∨ width = 8 := by simpa [isW, or_assoc] using Hwd.out
    unfold tkL; split
    · simp; omega
    · simp
  have hvb : ∀ k, vb.ownBlock = some k → k < w.heap.size := by
    obtain ⟨h0, h1, h2, h3, h4, h5, h6, h7⟩ := hr
    exact fun k hk => (h5 k hk).2
  have hta := take_any b vb l t f width _ hr1
  generalize tkL l t f width = L at *
  generalize tkT l t f width = t' at *
  generalize tkF l t f width = f' at *
  refine (callsIn_wide (n := 5)).1 ?_
  refine callsIn_of_wp_marks Try.func12 rfl trivial ?_ rfl
  simp only [Try.ntmps12, List.size_toArray, List.length_cons, List.length_nil, Nat.reduceAdd, Nat.reduceSub, Array.replicate_succ, Array.replicate_zero, List.push_toArray, List.append_toArray, List.nil_append, List.cons_append]
  gi_wp2_with (first | (refine ⟨trivial, ?_⟩; gi_at_call 20; refine (callsIn_wide.2 (isWidth_any _ _)).mono ?_; rintro e w' ⟨rfl, rfl⟩; rw [Hwd.out]) | (refine ⟨trivial, ?_⟩; gi_at_call 19; refine (callsIn_wide.2 hta).mono ?_; rintro e w1 ⟨v, rfl, ho, hr2, hf1⟩; obtain ⟨a3, c3, rfl⟩ := ho.opn) | (refine ⟨trivial, ?_⟩; gi_at_call 23; refine (backward_in Fence.wide _ trivial rfl _ _ _ _).mono ?_; rintro e w2 ⟨rfl, rfl⟩))
  clear hta
  have hsz1 : w.heap.size + 1 ≤ w1.heap.size := by have := hf1.size; simpa using this
  have hcn : w1.cell? ⟨w.heap.size, 0, none⟩ = some (.int .u64 0) := hf1.cell (p := ⟨w.heap.size, 0, none⟩) (by simp) (fun q => by unfold onB at q; simp at q; omega)
  have hfn : w1.frozen? ⟨w.heap.size, 0, none⟩ = false := (hf1.frozen (p := ⟨w.heap.size, 0, none⟩) (by simp; rfl) (fun q => by unfold onB at q; simp at q; omega)).trans (by simp)
  obtain ⟨W0, hW0⟩ : ∃ W0, w1.alloc (.cells #[.slice a3 L.length c3] 22) = W0 := ⟨_, rfl⟩
  have hsz0 : W0.heap.size = w1.heap.size + 1 := by rw [← hW0]; simp
  have hf10 : Fr noB w1 W0 := by rw [← hW0]; exact (Fr.refl _ _).alloc _
  have hbx : W0.cell? ⟨w1.heap.size, 0, none⟩ = some (.slice a3 L.length c3) := by rw [← hW0]; simp
  have hnew := ho.newB
  have hSl := (ho.sl hwfL).fr0 hf10
  rw [hW0]
  refine wpIn_rangeFunc_ownG (F := Fence.wide) rfl (by omega) (gf := 26) (lb := #[.pointer (some ⟨w1.heap.size, 0, none⟩)]) rfl trivial (enters_of Try.func26 (by kernel_rfl) rfl)
    (backward_stops Fence.wide (5 - 1) trivial rfl (by omega) w1.heap.size (w1.heap.size + 1) w.heap.size _ L hlL W0 (by omega) (by omega) (by omega) hbx hSl (fun k hk => by have := hnew k hk; simp at this; omega)) KB.t (KB.b (by omega)) (Below.refl _ _) (fun _ => rfl)
    (fun pre W => (W.cell? ⟨w.heap.size, 0, none⟩ = some (.int .u64 (foldS pre)) ∧ W.frozen? ⟨w.heap.size, 0, none⟩ = false) ∧ Fr (onB w.heap.size) W0 W)
    (fun _ _ _ => False)
    (OwnFrom.and (Own.from (fun s A B row hs hg hr => ⟨cell_kept hs.1 hg hr, (frozen_kept hs.1 hg hr).trans hs.2⟩) _) (ownFrom_fr (Nat.le_refl _)))
    (fun _ _ _ _ _ hs _ _ => hs)
    ⟨⟨hf10.cell hcn (fun q => q), (hf10.frozen hcn (fun q => q)).trans hfn⟩, Fr.refl _ _⟩
    (fun x => { tmps := #[.pointer (some ⟨b, 0, none⟩), .int .i64 width, undef, undef, .int .u64 0, .pointer (some ⟨w.heap.size, 0, none⟩), undef, .int .u8 x.2, .int .i64 width, .bool true, .bool false, undef, undef, undef, .pointer (some ⟨b, 0, none⟩), .int .i64 width, .slice a3 L.length c3, .func (.func 26) #[] #[.pointer (some ⟨w1.heap.size, 0, none⟩)], .int .i64 x.1, .int .u8 x.2, undef, undef, undef, undef, undef, undef], defers := [] }) ?assign ?body ?done ?stop
  case assign =>
    intro l x W K hK
    gi_wp2
    exact hK
  case body =>
    rintro l pre x W ⟨⟨hc, hf⟩, hB⟩ _
    gi_wp2
    refine ⟨(KeepsOthers.setCell _ _ _).from _, fun k hk hne => Below.heap_setCell _ _ _ _ hne, ⟨?_, ?_⟩, hB.setCell _ _ (fun _ => rfl)⟩
    · rw [foldS_snoc]; exact World.cell?_setCell_same' _ _ _ (by rw [hc]; rfl)
    · rw [World.frozen?_setCell]; exact hf
  case done =>
    rintro D ys W hD rfl ⟨⟨hc, _⟩, hB⟩ hK
    gi_wp2
    refine ⟨by simp, .inl ⟨_, _, rfl, run_takeDeferred hK, ?_⟩⟩
    refine ⟨_, results_tmp rfl _ _ _, ?_, ?_, ?_⟩
    · rw [← foldS_all L (fun x hx => u8_bd (hwfL x hx)) hL8]; rfl
    all_goals
      have hsD := hB.size
      have hfW : Fr (onB w.heap.size) W0 (W.putObj D (.deferred none)) := hB.grown (grownBy_putObj' W D _) (fun k e hk => by cases e; omega)
    · exact (hr2.fr0 hf10).fr hfW (fun q => by unfold onB at q; omega) (fun k hk q => by have := hvb k hk; unfold onB at q; omega)
    · exact ((((Fr.refl _ _).alloc _).thenT hf1 (fun i _ q => q)).thenN hf10).thenT hfW (fun i hi q => by unfold onB at q; omega)
  case stop =>
    rintro D c pre W _ _ h _
    exact h.elim
end Go.Proofs.Ytffdgbimpodopaa
