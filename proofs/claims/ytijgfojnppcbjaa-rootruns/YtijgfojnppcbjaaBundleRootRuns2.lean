/- Texts P2, Base3, P3, P4, OR of the proof of RootRuns, one behind the other. -/
import Derived.Laws.ShiftsVarLaws
import Derived.Test.YtijgfojnppcbjaaBundleRootRuns1
/- Pages: the document's mix. -/
namespace Go.Proofs.Ytijgfojnppcbjaa
open Go.RowKit Go.Proofs.U
set_option linter.unusedSimpArgs false
set_option linter.unusedVariables false

/-- Is the bit of byte i's sector set? -/
def bitAt (mask : Int) (i : Nat) : Bool := mask / 2 ^ (i / 32) % 2 == 1
theorem bit_eq (mask : Int) (k : Nat) (h : 0 ≤ mask) : ((mask / 2 ^ (k / 32)).tmod 2 == 1) = bitAt mask k := by
  unfold bitAt
  rw [Int.tmod_eq_emod_of_nonneg (Int.ediv_nonneg h (Int.le_of_lt (Int.pow_pos (by decide))))]
def mixK (old next : List Int) (mask : Int) (k : Nat) : List Int := (List.range 256).map fun i => if i < k && bitAt mask i then next.getD i 0 else old.getD i 0
theorem mix_len (old next : List Int) (mask : Int) (k : Nat) : (mixK old next mask k).length = 256 := by simp only [mixK, List.length_map, List.length_range]
theorem mix_zero (old next : List Int) (mask : Int) (h : old.length = 256) : mixK old next mask 0 = old := by
  apply List.ext_getElem
  · rw [mix_len, h]
  · intro i h1 h2
    simp only [mixK, List.getElem_map, List.getElem_range, Nat.not_lt_zero, decide_false, Bool.false_and, Bool.false_eq_true, if_false]
    simp [List.getD, h2]
theorem mix_no (old next : List Int) (mask : Int) (k : Nat) (hb : bitAt mask k = false) : mixK old next mask (k + 1) = mixK old next mask k := by
  unfold mixK
  apply List.map_congr_left
  intro i _
  by_cases hik : i = k
  · subst hik; simp only [hb, Bool.and_false]
  · have : decide (i < k + 1) = decide (i < k) := by apply decide_eq_decide.2; omega
    rw [this]
theorem mix_yes (old next : List Int) (mask : Int) (k : Nat) (hk : k < 256) (hb : bitAt mask k = true) : mixK old next mask (k + 1) = (mixK old next mask k).set k (next.getD k 0) := by
  apply List.ext_getElem
  · rw [List.length_set, mix_len, mix_len]
  · intro i h1 h2
    rw [List.getElem_set]
    by_cases hik : k = i
    · subst hik
      rw [if_pos rfl]
      simp only [mixK, List.getElem_map, List.getElem_range, hb, Nat.lt_succ_self, decide_true, Bool.and_true, if_true]
    · rw [if_neg hik]
      simp only [mixK, List.getElem_map, List.getElem_range]
      have : decide (i < k + 1) = decide (i < k) := by apply decide_eq_decide.2; omega
      rw [this]
theorem mix_get (old next : List Int) (mask : Int) (k : Nat) (hk : k < 256) : (mixK old next mask k)[k]? = some (old.getD k 0) := by
  have hl : k < (mixK old next mask k).length := by rw [mix_len]; exact hk
  rw [List.getElem?_eq_getElem hl]
  simp only [mixK, List.getElem_map, List.getElem_range, Nat.lt_irrefl, decide_false, Bool.false_and, Bool.false_eq_true, if_false]

set_option maxRecDepth 100000 in
set_option maxHeartbeats 1000000 in
theorem mix_any (old next : List Int) (mask : Int) (hm : 0 ≤ mask ∧ mask < 256) (ho : old.length = 256) (hn : next.length = 256) (w : World) :
    Calls Try.prog 56 #[pgV old, pgV next, .int .u8 mask] w fun r w' => r = .returned (pgV (mixK old next mask 256)) ∧ Fr noB w w' := by
  obtain ⟨R, HR⟩ : ∃ R, Hid (mixK old next mask 256 = R) := ⟨_, rfl⟩
  rw [HR.out]
  obtain ⟨Z, HZ⟩ : ∃ Z, Hid (zeroP = Z) := ⟨_, rfl⟩
  have hZl : Hid (Z.length = 256) := by show _ = _; rw [← HZ.out]; exact zeroP_len
  have hol := show Hid _ from ho
  have hnl := show Hid _ from hn
  clear ho hn
  go_enter Try.func56, Try.ntmps56
  go_wp2_with (first
    | (with_reducible refine at_wpP ?_; refine wpList_boxV rfl 46 _ rfl (pgv next) rfl ?_; intro g2 w2 hg2 b2 f2 s2; have c1 := b1.fr0 f2; have hl1 := b1.lt; have hl2 := b2.lt; have F2 := f1.thenN f2)
    | (with_reducible refine at_wpP ?_; refine wpList_boxV rfl 46 _ rfl (pgv old) rfl ?_; intro g1 w1 hg1 b1 f1 s1; have z1 := f1.size)
    | (with_reducible refine at_wpP ?_; refine wpList_allocP rfl rfl ?_; rw [HZ.out]; intro g3 w3 hg3 b3 f3 s3; have d1 := c1.fr0 f3; have d2 := b2.fr0 f3; have F3 := F2.thenN f3; have hl3 := b3.lt))
  go_loopw [8] (fun i wr => ∃ (k : Nat) (p : List Int), k ≤ 256 ∧ i = .int .i64 (k : Int) ∧ Hid (p = mixK old next mask k) ∧ BxV wr g1 46 (pgv p) ∧ BxV wr g2 46 (pgv next) ∧ BxV wr g3 46 (pgv Z) ∧ Fr noB w wr) (fun i _ => 256 - (intOf i).toNat)
  case atStart => exact ⟨0, old, by omega, rfl, show _ = _ by rw [mix_zero old next mask hol.out], d1, d2, b3, F3⟩
  case round =>
    obtain ⟨k, p, hk, rfl, hp, hb1, hb2, hb3, hf⟩ := hrel
    have hpl : Hid (p.length = 256) := by show _ = _; rw [hp.out, mix_len]
    by_cases hlt : k < 256
    · have e1 : (0 : Int) ≤ (k : Int) := by omega
      have e2 : (k : Int) < 256 := by omega
      obtain ⟨x, Hx⟩ : ∃ x, Hid (next.getD k 0 = x) := ⟨_, rfl⟩
      have k2 : wr.cell? ⟨g2, k, none⟩ = some (.int .u8 x) := by
        have := (hb2.cell k _ (pgv_get next k (by rw [hnl.out]; exact hlt))).1
        rw [this, ← Hx.out]; simp [List.getD, hnl.out, hlt]
      have hbe := bit_eq mask k hm.1
      obtain ⟨bt, Hbt⟩ : ∃ b, Hid (bitAt mask k = b) := ⟨_, rfl⟩
      rw [Hbt.out] at hbe
      cases bt with
      | true =>
        go_wp2_with (with_reducible refine at_wpP ?_; refine wpList_store1 rfl 5 _ _ rfl g1 k (by simp [Act.eval]) (.int .u8 x) rfl rfl _ _ hb1 size_u8 (by rw [pgv_len, hpl.out]; exact hlt) ?_; intro w4 b4 f4)
        rw [pgv_set] at b4
        go_roundw
        case rel => exact ⟨k + 1, p.set k x, by omega, by go_num, show _ = _ by rw [mix_yes old next mask k hlt Hbt.out, hp.out, Hx.out], b4, hb2.ne f4 (by omega), hb3.ne f4 (by omega), hf.thenT f4 (fun i hi q => by unfold onB1 at q; omega)⟩
        case measure => simp [intOf]; omega
      | false =>
        go_wp2
        go_roundw
        case rel => exact ⟨k + 1, p, by omega, by go_num, show _ = _ by rw [mix_no old next mask k Hbt.out, hp.out], hb1, hb2, hb3, hf⟩
        case measure => simp [intOf]; omega
    · obtain rfl : k = 256 := by omega
      have hpR : p = R := by rw [hp.out, HR.out]
      subst hpR
      go_wp2_with (first
        | (with_reducible refine at_wpP ?_; refine wpList_loadP rfl _ rfl g1 rfl _ hb1 hpl.out ?_)
        | (with_reducible refine at_wpP ?_; refine wpList_storeP rfl _ _ rfl g3 rfl _ rfl _ hb3 hpl.out hZl.out ?_; intro w5 b5 f5))
      refine bodyPost_ret (v := pgV p) (results_page Try.results56 _ w5 g3 p rfl b5 hpl.out) rfl ⟨rfl, ?_⟩
      exact hf.thenT f5 (fun i hi q => by unfold onB1 at q; omega)
end Go.Proofs.Ytijgfojnppcbjaa
/- Slices whose elements take several cells: what they hold, and the law of an index; no condition. -/
namespace Go.Proofs.U
open Go.RowKit

/-- v is a slice of the things l, each of sz cells, told by ec. -/
def SlR {α : Type} (ec : α → List Value) (sz : Nat) (w : World) (v : Value) (l : List α) : Prop := (∀ x ∈ l, (ec x).length = sz) ∧ Sl w sz v l.length (l.flatMap ec)
theorem SlR.fr0 {α : Type} {ec : α → List Value} {sz : Nat} {w w' : World} {v : Value} {l : List α} (h : SlR ec sz w v l) (hf : Fr noB w w') : SlR ec sz w' v l := ⟨h.1, h.2.fr0 hf⟩
theorem SlR.fr {α : Type} {S : Nat → Prop} {ec : α → List Value} {sz : Nat} {w w' : World} {v : Value} {l : List α} (h : SlR ec sz w v l) (hf : Fr S w w') (hs : ∀ k, v.ownBlock = some k → ¬ S k) : SlR ec sz w' v l := ⟨h.1, h.2.fr hf hs⟩
theorem SlR.opn {α : Type} {ec : α → List Value} {sz : Nat} {w : World} {v : Value} {l : List α} (h : SlR ec sz w v l) : ∃ a cap, v = .slice a l.length cap ∧ l.length ≤ cap := by
  obtain ⟨_, a, cap, hv, hl, _⟩ := h; exact ⟨a, cap, hv, hl⟩

theorem flat_at {α : Type} (ec : α → List Value) (sz : Nat) (l : List α) (h : ∀ x ∈ l, (ec x).length = sz) (j : Nat) (hj : j < l.length) (i : Nat) (hi : i < sz) : (l.flatMap ec)[j * sz + i]? = (ec l[j])[i]? := by
  induction l generalizing j with
  | nil => simp at hj
  | cons x l ih =>
    have hx := h x (by simp)
    simp only [List.flatMap_cons]
    cases j with
    | zero => rw [List.getElem?_append_left (by omega)]; simp
    | succ j =>
      rw [List.getElem?_append_right (by rw [hx, Nat.succ_mul]; omega), hx]
      have e : (j + 1) * sz + i - sz = j * sz + i := by rw [Nat.succ_mul]; omega
      rw [e, ih (fun y hy => h y (by simp [hy])) j (by simpa using hj)]
      simp

section
variable {P : Program} {w : World} {ops : Array Oper} {rest : List Oper} {o : Oper} {a : Act} {Q : Exit → Act → World → Prop}

/-- x[i], x a slice of things of several cells: the place of the thing, and its cells. -/
theorem wpList_idxR {α : Type} (hgd : Region.wanted o (yielded ops a.tmps) = true) (t : TypeId) (x i : Operand) (ho : o.op = .indexAddr t x i) (e : TypeId) (ht : P.underlying t = some (.slice e)) (sz : Nat) (hsz : (P.info? e).map (·.size) = some sz)
    (ec : α → List Value) (v : Value) (l : List α) (hx : a.eval x = v) (hS : SlR ec sz w v l) (h0 : 0 < sz) (k : IntKind) (z : Int) (j : Nat) (hi : a.eval i = .int k z) (hz : z = (j : Int)) (hj : j < l.length)
    (h : ∀ b off, v.ownBlock = some b → (∀ q u, (ec l[j])[q]? = some u → w.cell? ⟨b, off + q, none⟩ = some u) → wpList P ops Q rest (a.put o.dst (.pointer (some ⟨b, off, none⟩))) w) : wpList P ops Q (o :: rest) a w := by
  refine wpList_wanted hgd fun K hK => ?_
  obtain ⟨hlen, ao, cap, rfl, hcap, hcl, hnone, hsome⟩ := hS
  cases ao with
  | none => have := hnone rfl; omega
  | some ad =>
    have hcell := hsome ad rfl
    subst hz
    have hjl : j * sz < (l.flatMap ec).length := by rw [hcl]; exact (Nat.mul_lt_mul_right h0).2 hj
    have hc0 := hcell 0 _ (List.getElem?_eq_getElem (Nat.lt_of_le_of_lt (Nat.zero_le _) hjl))
    obtain ⟨b, off, sp⟩ := ad
    have hsp : sp = none := by simpa [Addr.add] using World.cell?_spot hc0
    subst hsp
    obtain ⟨ii, hinf, hsz'⟩ := Option.map_eq_some_iff.1 hsz
    have hrun : (Instr.indexAt t (.slice (some ⟨b, off, none⟩) l.length cap) (.int k (j : Int))).run P w = .ok (.pointer (some ⟨b, off + j * sz, none⟩)) w := by
      have h1 : (0 : Int) ≤ (j : Int) ∧ (j : Int) < (l.length : Int) := by omega
      simp [Instr.indexAt, asIntOf, run_underlying ht, h1, sizeOf, typeInfo, hinf, hsz', go_sem, Addr.plain]
      omega
    unfold Oper.wp
    simp [execOp, ho, hx, hi, hrun, Result.andThen]
    refine hK _ _ (h b (off + j * sz) rfl (fun q u hq => ?_))
    have hlj := hlen l[j] (by simp)
    have hqs : q < sz := by rw [← hlj]; exact (List.getElem?_eq_some_iff.1 hq).1
    have := hcell (j * sz + q) u (by rw [flat_at ec sz l hlen j hj q hqs]; exact hq)
    rwa [Addr.plain, ← Nat.add_assoc] at this
end
end Go.Proofs.U
/- The document's disk: There, act and Cut. -/
namespace Go.Proofs.Ytijgfojnppcbjaa
open Go.RowKit Go.Proofs.U
set_option linter.unusedSimpArgs false
set_option linter.unusedVariables false

/-- The document's disk as a value. -/
abbrev dkL (v1 v2 v3 : Value) (c : Bool) (l : Int) (d : Bool) : List Value := [v1, v2, v3, .bool c, .int .i64 l, .bool d]
abbrev dkV (v1 v2 v3 : Value) (c : Bool) (l : Int) (d : Bool) : Value := .agg #[v1, v2, v3, .bool c, .int .i64 l, .bool d]
theorem zero_disk : (Try.prog.info? 39).map (·.zero) = some (some (.agg (dkL (.slice none 0 0) (.slice none 0 0) (.slice none 0 0) false 0 false).toArray)) := by kernel_rfl
theorem size_disk : (Try.prog.info? 39).map (·.size) = some 6 := by kernel_rfl
theorem size_int : (Try.prog.info? 3).map (·.size) = some 1 := by kernel_rfl
theorem size_bool : (Try.prog.info? 4).map (·.size) = some 1 := by kernel_rfl

/-- A slice as a value. -/
def isSl (v : Value) : Prop := ∃ a n c, v = .slice a n c

section
variable {w : World} {ops : Array Oper} {rest : List Oper} {o : Oper} {a : Act} {Q : Exit → Act → World → Prop}
theorem wpList_stD (hgd : o.guard = none) (x y : Operand) (ho : o.op = .store 39 x y) (g : Nat) (hx : a.eval x = .pointer (some ⟨g, 0, none⟩)) (v1 v2 v3 : Value) (c : Bool) (l : Int) (d : Bool) (hy : a.eval y = dkV v1 v2 v3 c l d) (cs : List Value) (hA : BxV w g 39 cs) (hl : cs.length = 6)
    (h1 : isSl v1) (h2 : isSl v2) (h3 : isSl v3)
    (h : ∀ w', BxV w' g 39 (dkL v1 v2 v3 c l d) → Fr (onB1 g) w w' → wpList Try.prog ops Q rest (a.put o.dst undef) w') : wpList Try.prog ops Q (o :: rest) a w := by
  refine wpList_storeV hgd 39 x y ho g 0 hx (dkL v1 v2 v3 c l d) hy 39 cs hA (by rw [size_disk]; rfl) (by rw [hl]; exact Nat.le_refl _) ?_ ?_
  · obtain ⟨_, _, _, rfl⟩ := h1
    obtain ⟨_, _, _, rfl⟩ := h2
    obtain ⟨_, _, _, rfl⟩ := h3
    intro v hv
    simp at hv
    rcases hv with rfl | rfl | rfl | rfl | rfl | rfl <;> rfl
  · intro w' b f
    rw [putAt_all _ _ (by rw [hl]; rfl)] at b
    exact h w' b f
theorem wpList_ldD (hgd : o.guard = none) (x : Operand) (ho : o.op = .load 39 x) (g : Nat) (hx : a.eval x = .pointer (some ⟨g, 0, none⟩)) (v1 v2 v3 : Value) (c : Bool) (l : Int) (d : Bool) (hA : BxV w g 39 (dkL v1 v2 v3 c l d))
    (h : wpList Try.prog ops Q rest (a.put o.dst (dkV v1 v2 v3 c l d)) w) : wpList Try.prog ops Q (o :: rest) a w :=
  wpList_loadV hgd 39 x ho g 0 hx 39 (dkL v1 v2 v3 c l d) (dkL v1 v2 v3 c l d) _ hA Try.underlying39 rfl (by rw [size_disk]; rfl) (by simp) h
theorem wpList_allocD (hgd : Region.wanted o (yielded ops a.tmps) = true) (ho : o.op = .alloc 39)
    (h : ∀ g w', Hid (g = w.heap.size) → BxV w' g 39 (dkL (.slice none 0 0) (.slice none 0 0) (.slice none 0 0) false 0 false) → Fr noB w w' → w.heap.size ≤ g → wpList Try.prog ops Q rest (a.put o.dst (.pointer (some ⟨g, 0, none⟩))) w') : wpList Try.prog ops Q (o :: rest) a w :=
  wpList_allocV hgd 39 ho _ zero_disk h
end
/-- A disk and an error's number handed back. -/
theorem results_disk2 {fn : Func} {q u : Tmp} (h : fn.results = #[.cell q 39, .tmp u]) (tmps : Array Value) (w : World) (g : Nat) (v1 v2 v3 : Value) (c : Bool) (l : Int) (d : Bool) (hq : tmps.getD q undef = .pointer (some ⟨g, 0, none⟩)) (hA : BxV w g 39 (dkL v1 v2 v3 c l d)) :
    (results fn tmps).run Try.prog w = .ok (.tuple #[dkV v1 v2 v3 c l d, tmps.getD u undef]) w := by
  rw [results_cell_tmp h, hq]
  have hr := run_loadVar_mid (P := Try.prog) w g 0 39 (dkL v1 v2 v3 c l d) _ (hA.range 0 _ (by simp)) Try.underlying39 rfl (by rw [size_disk]; rfl)
  simp only [asAddr, Sem.run_pure, Result.andThen_ok, hr]

theorem results_disk1 {fn : Func} {q : Tmp} (h : fn.results = #[.cell q 39]) (tmps : Array Value) (w : World) (g : Nat) (v1 v2 v3 : Value) (c : Bool) (l : Int) (d : Bool) (hq : tmps.getD q undef = .pointer (some ⟨g, 0, none⟩)) (hA : BxV w g 39 (dkL v1 v2 v3 c l d)) :
    (results fn tmps).run Try.prog w = .ok (dkV v1 v2 v3 c l d) w :=
  results_cell_row h tmps w g 39 (dkL v1 v2 v3 c l d).toArray (0, 0) _ hq hA Try.underlying39 rfl (by rw [size_disk]; rfl)

set_option maxHeartbeats 1000000 in
theorem there_any (a : Option Addr) (n cap : Nat) (v2 v3 : Value) (c : Bool) (l : Int) (d : Bool) (i : Int) (w : World) :
    Calls Try.prog 40 #[dkV (.slice a n cap) v2 v3 c l d, .int .i64 i] w fun r w' => r = .returned (.bool (decide (0 ≤ i) && decide (i < (n : Int)))) ∧ Fr noB w w' := by
  by_cases h0 : 0 ≤ i
  · go_enter Try.func40, Try.ntmps40
    go_wp2_with (with_reducible refine at_wpP ?_; refine wpList_boxV rfl 39 _ rfl (dkL (.slice a n cap) v2 v3 c l d) rfl ?_; intro g1 w1 hg1 b1 f1 s1; obtain ⟨k0, k1, k2, k3, k4, k5⟩ := b1.six)
    go_ret
    exact ⟨by simp [h0], f1⟩
  · have h1 : decide (0 ≤ i) = false := by simpa using h0
    go_enter Try.func40, Try.ntmps40
    go_wp2_with (with_reducible refine at_wpP ?_; refine wpList_boxV rfl 39 _ rfl (dkL (.slice a n cap) v2 v3 c l d) rfl ?_; intro g1 w1 hg1 b1 f1 s1; obtain ⟨k0, k1, k2, k3, k4, k5⟩ := b1.six)
    go_ret
    exact ⟨rfl, f1⟩

/-- What an act does: counted, left, down, error. -/
def actR (c : Bool) (l : Int) (d : Bool) : Int × Bool × Int := if d || (c && l == 0) then (l, true, 42) else if c then (l - 1, d, 0) else (l, d, 0)

set_option maxHeartbeats 2000000 in
theorem ract_any (v1 v2 v3 : Value) (h1 : isSl v1) (h2 : isSl v2) (h3 : isSl v3) (c : Bool) (l : Int) (hl : c = true → -9223372036854775808 < l ∧ l ≤ 9223372036854775807) (d : Bool) (w : World) :
    Calls Try.prog 41 #[dkV v1 v2 v3 c l d] w fun r w' => r = .returned (.tuple #[dkV v1 v2 v3 c (actR c l d).1 (actR c l d).2.1, .int .i64 (actR c l d).2.2]) ∧ Fr noB w w' := by
  cases d with
  | true =>
    have hr : actR c l true = (l, true, 42) := by simp [actR]
    rw [hr]
    go_enter Try.func41, Try.ntmps41
    go_wp2_with (first
      | (with_reducible refine at_wpP ?_; refine wpList_boxV rfl 39 _ rfl (dkL v1 v2 v3 c l true) rfl ?_; intro g1 w1 hg1 b1 f1 s1)
      | (with_reducible refine at_wpP ?_; refine wpList_allocD rfl rfl ?_; intro g2 w2 hg2 b2 f2 s2; have c2 := b1.fr0 f2; have hl1 := b1.lt; have hl2 := b2.lt; obtain ⟨k0, k1, k2, k3, k4, k5⟩ := c2.six)
      | (with_reducible refine at_wpP ?_; refine wpList_store1 rfl 4 _ _ rfl g1 5 rfl (.bool true) rfl rfl _ _ c2 size_bool (by simp) ?_; go_must (intro w3 c3 f3; have c3 : BxV w3 g1 39 (dkL v1 v2 v3 c l true) := (by simpa using c3); have b3 := b2.ne f3 (by omega)))
      | (with_reducible refine at_wpP ?_; refine wpList_ldD rfl _ rfl g1 rfl v1 v2 v3 c (l) true c3 ?_)
      | (with_reducible refine at_wpP ?_; refine wpList_stD rfl _ _ rfl g2 rfl v1 v2 v3 c (l) true rfl _ b3 rfl h1 h2 h3 ?_; intro w4 b4 f4))
    refine bodyPost_ret (v := .tuple #[dkV v1 v2 v3 c (l) true, .int .i64 42]) (results_disk2 Try.results41 _ w4 g2 v1 v2 v3 c (l) true rfl b4) rfl ⟨rfl, ?_⟩
    exact ((f1.thenN f2).thenT f3 (fun i hi q => by unfold onB1 at q; have := f1.size; omega)).thenT f4 (fun i hi q => by unfold onB1 at q; have := f1.size; omega)
  | false =>
    cases c with
    | false =>
      have hr : actR false l false = (l, false, 0) := by simp [actR]
      rw [hr]
      go_enter Try.func41, Try.ntmps41
      go_wp2_with (first
        | (with_reducible refine at_wpP ?_; refine wpList_boxV rfl 39 _ rfl (dkL v1 v2 v3 false l false) rfl ?_; intro g1 w1 hg1 b1 f1 s1)
        | (with_reducible refine at_wpP ?_; refine wpList_allocD rfl rfl ?_; intro g2 w2 hg2 b2 f2 s2; have c2 := b1.fr0 f2; have hl1 := b1.lt; have hl2 := b2.lt; obtain ⟨k0, k1, k2, k3, k4, k5⟩ := c2.six)
        | (with_reducible refine at_wpP ?_; refine wpList_ldD rfl _ rfl g1 rfl v1 v2 v3 false (l) false c2 ?_)
        | (with_reducible refine at_wpP ?_; refine wpList_stD rfl _ _ rfl g2 rfl v1 v2 v3 false (l) false rfl _ b2 rfl h1 h2 h3 ?_; intro w4 b4 f4))
      refine bodyPost_ret (v := .tuple #[dkV v1 v2 v3 false (l) false, .int .i64 0]) (results_disk2 Try.results41 _ w4 g2 v1 v2 v3 false (l) false rfl b4) rfl ⟨rfl, ?_⟩
      exact (f1.thenN f2).thenT f4 (fun i hi q => by unfold onB1 at q; have := f1.size; omega)
    | true =>
      have hl := hl rfl
      by_cases h0 : l = 0
      · subst h0
        have hr : actR true 0 false = (0, true, 42) := by simp [actR]
        rw [hr]
        go_enter Try.func41, Try.ntmps41
        go_wp2_with (first
          | (with_reducible refine at_wpP ?_; refine wpList_boxV rfl 39 _ rfl (dkL v1 v2 v3 true 0 false) rfl ?_; intro g1 w1 hg1 b1 f1 s1)
          | (with_reducible refine at_wpP ?_; refine wpList_allocD rfl rfl ?_; intro g2 w2 hg2 b2 f2 s2; have c2 := b1.fr0 f2; have hl1 := b1.lt; have hl2 := b2.lt; obtain ⟨k0, k1, k2, k3, k4, k5⟩ := c2.six)
          | (with_reducible refine at_wpP ?_; refine wpList_store1 rfl 4 _ _ rfl g1 5 rfl (.bool true) rfl rfl _ _ c2 size_bool (by simp) ?_; go_must (intro w3 c3 f3; have c3 : BxV w3 g1 39 (dkL v1 v2 v3 true 0 true) := (by simpa using c3); have b3 := b2.ne f3 (by omega)))
          | (with_reducible refine at_wpP ?_; refine wpList_ldD rfl _ rfl g1 rfl v1 v2 v3 true (0) true c3 ?_)
          | (with_reducible refine at_wpP ?_; refine wpList_stD rfl _ _ rfl g2 rfl v1 v2 v3 true (0) true rfl _ b3 rfl h1 h2 h3 ?_; intro w4 b4 f4))
        refine bodyPost_ret (v := .tuple #[dkV v1 v2 v3 true (0) true, .int .i64 42]) (results_disk2 Try.results41 _ w4 g2 v1 v2 v3 true (0) true rfl b4) rfl ⟨rfl, ?_⟩
        exact ((f1.thenN f2).thenT f3 (fun i hi q => by unfold onB1 at q; have := f1.size; omega)).thenT f4 (fun i hi q => by unfold onB1 at q; have := f1.size; omega)
      · have hb : (l == 0) = false := by simpa using h0
        have hr : actR true l false = (l - 1, false, 0) := by simp [actR, hb]
        rw [hr]
        go_enter Try.func41, Try.ntmps41
        go_wp2_with (first
          | (with_reducible refine at_wpP ?_; refine wpList_boxV rfl 39 _ rfl (dkL v1 v2 v3 true l false) rfl ?_; intro g1 w1 hg1 b1 f1 s1)
          | (with_reducible refine at_wpP ?_; refine wpList_allocD rfl rfl ?_; intro g2 w2 hg2 b2 f2 s2; have c2 := b1.fr0 f2; have hl1 := b1.lt; have hl2 := b2.lt; obtain ⟨k0, k1, k2, k3, k4, k5⟩ := c2.six)
          | (with_reducible refine at_wpP ?_; refine wpList_store1 rfl 3 _ _ rfl g1 4 rfl (.int .i64 (l - 1)) rfl rfl _ _ c2 size_int (by simp) ?_; go_must (intro w3 c3 f3; have c3 : BxV w3 g1 39 (dkL v1 v2 v3 true (l - 1) false) := (by simpa using c3); have b3 := b2.ne f3 (by omega)))
          | (with_reducible refine at_wpP ?_; refine wpList_ldD rfl _ rfl g1 rfl v1 v2 v3 true (l - 1) false c3 ?_)
          | (with_reducible refine at_wpP ?_; refine wpList_stD rfl _ _ rfl g2 rfl v1 v2 v3 true (l - 1) false rfl _ b3 rfl h1 h2 h3 ?_; intro w4 b4 f4))
        refine bodyPost_ret (v := .tuple #[dkV v1 v2 v3 true (l - 1) false, .int .i64 0]) (results_disk2 Try.results41 _ w4 g2 v1 v2 v3 true (l - 1) false rfl b4) rfl ⟨rfl, ?_⟩
        exact ((f1.thenN f2).thenT f3 (fun i hi q => by unfold onB1 at q; have := f1.size; omega)).thenT f4 (fun i hi q => by unfold onB1 at q; have := f1.size; omega)

set_option maxHeartbeats 1000000 in
theorem rcut_any (v1 v2 v3 : Value) (h1 : isSl v1) (h2 : isSl v2) (h3 : isSl v3) (c : Bool) (l : Int) (d : Bool) (n : Int) (w : World) :
    Calls Try.prog 20 #[dkV v1 v2 v3 c l d, .int .i64 n] w fun r w' => r = .returned (dkV v1 v2 v3 (decide (0 ≤ n)) n d) ∧ Fr noB w w' := by
  obtain ⟨b, Hb⟩ : ∃ b, Hid (decide (0 ≤ n) = b) := ⟨_, rfl⟩
  rw [Hb.out]
  have hb := Hb.out
  go_enter Try.func20, Try.ntmps20
  go_wp2_with (first
    | (with_reducible refine at_wpP ?_; refine wpList_boxV rfl 39 _ rfl (dkL v1 v2 v3 c l d) rfl ?_; intro g1 w1 hg1 b1 f1 s1)
    | (with_reducible refine at_wpP ?_; refine wpList_allocD rfl rfl ?_; intro g2 w2 hg2 b2 f2 s2; have c2 := b1.fr0 f2; have hl1 := b1.lt; have hl2 := b2.lt)
    | (with_reducible refine at_wpP ?_; refine wpList_store1 rfl 4 _ _ rfl g1 3 rfl (.bool b) rfl rfl _ _ c2 size_bool (by simp) ?_; go_must (intro w3 c3 f3; have c3 : BxV w3 g1 39 (dkL v1 v2 v3 b l d) := (by simpa using c3); have b3 := b2.ne f3 (by omega)))
    | (with_reducible refine at_wpP ?_; refine wpList_store1 rfl 3 _ _ rfl g1 4 rfl (.int .i64 n) rfl rfl _ _ c3 size_int (by simp) ?_; go_must (intro w4 c4 f4; have c4 : BxV w4 g1 39 (dkL v1 v2 v3 b n d) := (by simpa using c4); have b4 := b3.ne f4 (by omega)))
    | (with_reducible refine at_wpP ?_; refine wpList_ldD rfl _ rfl g1 rfl v1 v2 v3 b n d c4 ?_)
    | (with_reducible refine at_wpP ?_; refine wpList_stD rfl _ _ rfl g2 rfl v1 v2 v3 b n d rfl _ b4 rfl h1 h2 h3 ?_; intro w5 b5 f5))
  refine bodyPost_ret (v := dkV v1 v2 v3 b n d) (results_disk1 Try.results20 _ w5 g2 v1 v2 v3 b n d rfl b5) rfl ⟨rfl, ?_⟩
  have z1 := f1.size
  exact (((f1.thenN f2).thenT f3 (fun i hi q => by unfold onB1 at q; omega)).thenT f4 (fun i hi q => by unfold onB1 at q; omega)).thenT f5 (fun i hi q => by unfold onB1 at q; omega)
end Go.Proofs.Ytijgfojnppcbjaa
/- The document's disk: Read. -/
namespace Go.Proofs.Ytijgfojnppcbjaa
open Go.RowKit Go.Proofs.U
set_option linter.unusedSimpArgs false
set_option linter.unusedVariables false

abbrev encB (b : Bool) : List Value := [.bool b]
def encW (x : Int × List Int) : List Value := .int .i64 x.1 :: pgv x.2
abbrev SlPg (w : World) (v : Value) (l : List (List Int)) : Prop := SlR pgv 256 w v l
abbrev SlBo (w : World) (v : Value) (l : List Bool) : Prop := SlR encB 1 w v l
abbrev SlWr (w : World) (v : Value) (l : List (Int × List Int)) : Prop := SlR encW 257 w v l
theorem SlR.isSl {α : Type} {ec : α → List Value} {sz : Nat} {w : World} {v : Value} {l : List α} (h : SlR ec sz w v l) : isSl v := by
  obtain ⟨a, c, rfl, _⟩ := h.opn; exact ⟨_, _, _, rfl⟩
theorem write_size : (Try.prog.info? 91).map (·.size) = some 257 := by kernel_rfl

/-- What a page reads as: the last write of it, or what is stable. -/
def lastW (pend : List (Int × List Int)) (i : Int) (p : List Int) : List Int := pend.foldl (fun q x => if x.1 == i then x.2 else q) p
theorem lastW_none (i : Int) (p : List Int) (l : List (Int × List Int)) (h : ∀ x ∈ l, (x.1 == i) = false) : lastW l i p = p := by
  unfold lastW
  induction l generalizing p with
  | nil => rfl
  | cons x l ih => rw [List.foldl_cons, h x (by simp)]; exact ih p (fun y hy => h y (by simp [hy]))
theorem lastW_hit (i : Int) (p : List Int) (l : List (Int × List Int)) (k : Nat) (hk : k < l.length) (hx : (l[k].1 == i) = true) (h : ∀ j (hj : j < l.length), k < j → (l[j].1 == i) = false) : lastW l i p = l[k].2 := by
  have e : l = l.take (k + 1) ++ l.drop (k + 1) := (List.take_append_drop _ _).symm
  have h2 : ∀ x ∈ l.drop (k + 1), (x.1 == i) = false := by
    intro x hx
    obtain ⟨j, hj, rfl⟩ := List.mem_iff_getElem.1 hx
    rw [List.getElem_drop]
    exact h _ _ (by omega)
  have : lastW l i p = lastW (l.drop (k + 1)) i (lastW (l.take (k + 1)) i p) := by
    conv => lhs; rw [e]
    unfold lastW; rw [List.foldl_append]
  rw [this, lastW_none _ _ _ h2, List.take_succ_eq_append_getElem hk]
  unfold lastW
  rw [List.foldl_append, List.foldl_cons, List.foldl_nil, hx]
  rfl

theorem results_page2 {fn : Func} {q u : Tmp} (h : fn.results = #[.cell q 46, .tmp u]) (tmps : Array Value) (w : World) (g : Nat) (p : List Int) (hq : tmps.getD q undef = .pointer (some ⟨g, 0, none⟩)) (hA : BxV w g 46 (pgv p)) (hp : p.length = 256) :
    (results fn tmps).run Try.prog w = .ok (.tuple #[pgV p, tmps.getD u undef]) w := by
  rw [results_cell_tmp h, hq]
  have hr := run_loadVar_mid (P := Try.prog) w g 0 46 (pgv p) _ (hA.range 0 _ (by simp)) Try.underlying46 rfl (by rw [size_page, pgv_len, hp])
  simp only [asAddr, Sem.run_pure, Result.andThen_ok, hr]
  rfl

theorem range_of {w : World} {b o : Nat} {cs : List Value} (h : ∀ (j : Nat) (v : Value), cs[j]? = some v → w.cell? ⟨b, o + j, none⟩ = some v) : w.rangeAt b o cs := by
  intro j v hj
  exact h j v hj
section
variable {w : World} {ops : Array Oper} {rest : List Oper} {o : Oper} {a : Act} {Q : Exit → Act → World → Prop}
/-- A page read out of the midst of a block. -/
theorem wpList_ldPm (hgd : o.guard = none) (x : Operand) (ho : o.op = .load 46 x) (b off : Nat) (hx : a.eval x = .pointer (some ⟨b, off, none⟩)) (p : List Int) (hc : w.rangeAt b off (pgv p)) (hp : p.length = 256)
    (h : wpList Try.prog ops Q rest (a.put o.dst (pgV p)) w) : wpList Try.prog ops Q (o :: rest) a w :=
  wpList_load_mid hgd 46 x ho b off hx (pgv p) _ hc Try.underlying46 rfl (by rw [size_page, pgv_len, hp]) h
end

def readR (pages : List (List Int)) (bad : List Bool) (pend : List (Int × List Int)) (i : Int) : List Int × Int :=
  if 0 ≤ i ∧ i < (pages.length : Int) then (if bad.getD i.toNat false then (zeroP, 43) else (lastW pend i (pages.getD i.toNat []), 0)) else (zeroP, 41)

set_option maxRecDepth 100000 in
set_option maxHeartbeats 2000000 in
theorem rread_any (v1 v2 v3 : Value) (pages : List (List Int)) (bad : List Bool) (pend : List (Int × List Int)) (c : Bool) (l : Int) (d : Bool) (i : Int) (w : World)
    (h1 : SlPg w v1 pages) (h2 : SlBo w v2 bad) (h3 : SlWr w v3 pend) (hlb : bad.length = pages.length) (hm : pages.length ≤ 100000) (hm3 : pend.length ≤ 100000) :
    Calls Try.prog 45 #[dkV v1 v2 v3 c l d, .int .i64 i] w fun r w' => r = .returned (.tuple #[pgV (readR pages bad pend i).1, .int .i64 (readR pages bad pend i).2]) ∧ Fr noB w w' := by
  obtain ⟨a1, c1, rfl, _⟩ := h1.opn
  obtain ⟨a2, c2', rfl, _⟩ := h2.opn
  obtain ⟨a3, c3', rfl, _⟩ := h3.opn
  obtain ⟨Z, HZ⟩ : ∃ Z, Hid (zeroP = Z) := ⟨_, rfl⟩
  have hZl : Hid (Z.length = 256) := by show _ = _; rw [← HZ.out]; exact zeroP_len
  have Hlb := show Hid _ from hlb
  clear hlb
  by_cases hi : 0 ≤ i ∧ i < (pages.length : Int)
  · obtain ⟨n, rfl⟩ : ∃ n : Nat, i = n := ⟨i.toNat, by omega⟩
    have hn : n < pages.length := by omega
    have hnb : n < bad.length := by rw [Hlb.out]; exact hn
    have ht : (decide (0 ≤ (n : Int)) && decide ((n : Int) < (pages.length : Int))) = true := by simp; omega
    have hr : readR pages bad pend (n : Int) = if bad[n] then (Z, 43) else (lastW pend (n : Int) pages[n], 0) := by
      unfold readR; rw [if_pos hi, HZ.out]; simp [List.getD, hn, hnb]
    rw [hr]
    clear hr
    obtain ⟨bn, Hbn⟩ : ∃ b, Hid (bad[n] = b) := ⟨bad[n], (rfl : bad[n] = bad[n])⟩
    rw [Hbn.out]
    cases bn with
    | true =>
      simp only [if_true]
      go_enter Try.func45, Try.ntmps45
      go_wp2_with (first
        | (with_reducible refine at_wpP ?_; refine wpList_boxV rfl 39 _ rfl (dkL (.slice a1 pages.length c1) (.slice a2 bad.length c2') (.slice a3 pend.length c3') c l d) rfl ?_; intro g1 w1 hg1 b1 f1 s1)
        | (with_reducible refine at_wpP ?_; refine wpList_allocP rfl rfl ?_; rw [HZ.out]; intro g2 w2 hg2 b2 f2 s2; have c2 := b1.fr0 f2; have hl1 := b1.lt; have hl2 := b2.lt)
        | (with_reducible refine at_wpP ?_; refine wpList_ldD rfl _ rfl g1 rfl _ _ _ c l d c2 ?_)
        | (go_at_call 40; go_must (refine (there_any _ _ _ _ _ _ _ _ _ _).mono ?_; rintro e w3 ⟨rfl, f3⟩; have b3 := b2.fr0 f3; have c3 := c2.fr0 f3; obtain ⟨k0, k1, k2, k3, k4, k5⟩ := c3.six))
        | (refine at_idx 36 _ _ rfl ?_; go_must (refine wpList_idxR rfl 36 _ _ rfl 4 Try.underlying36 1 size_bool _ _ _ rfl (h2.fr0 ((f1.thenN f2).thenN f3)) (by decide) _ _ n rfl rfl hnb ?_; rw [Hbn.out]; intro ba oa hba hca; have p0 := hca 0 _ rfl; rw [Nat.add_zero] at p0))
        | (with_reducible refine at_wpP ?_; refine wpList_buildP rfl rfl ?_; rw [HZ.out])
        | (with_reducible refine at_wpP ?_; refine wpList_storeP rfl _ _ rfl g2 rfl _ rfl _ b3 hZl.out hZl.out ?_; intro w4 b4 f4))
      refine bodyPost_ret (v := .tuple #[pgV Z, .int .i64 43]) (results_page2 Try.results45 _ w4 g2 Z rfl b4 hZl.out) rfl ⟨rfl, ?_⟩
      exact ((f1.thenN f2).thenN f3).thenT f4 (fun i hi q => by unfold onB1 at q; have := f1.size; omega)
    | false =>
      simp only [Bool.false_eq_true, if_false]
      obtain ⟨R, HR⟩ : ∃ R, Hid (lastW pend (n : Int) pages[n] = R) := ⟨lastW pend (n : Int) pages[n], (rfl : _ = _)⟩
      rw [HR.out]
      have hPl := h1.1
      have hWl := h3.1
      go_enter Try.func45, Try.ntmps45
      go_wp2_with (first
        | (with_reducible refine at_wpP ?_; refine wpList_boxV rfl 39 _ rfl (dkL (.slice a1 pages.length c1) (.slice a2 bad.length c2') (.slice a3 pend.length c3') c l d) rfl ?_; intro g1 w1 hg1 b1 f1 s1)
        | (with_reducible refine at_wpP ?_; refine wpList_allocP rfl rfl ?_; rw [HZ.out]; intro g2 w2 hg2 b2 f2 s2; have c2 := b1.fr0 f2; have hl1 := b1.lt; have hl2 := b2.lt)
        | (with_reducible refine at_wpP ?_; refine wpList_ldD rfl _ rfl g1 rfl _ _ _ c l d c2 ?_)
        | (go_at_call 40; go_must (refine (there_any _ _ _ _ _ _ _ _ _ _).mono ?_; rintro e w3 ⟨rfl, f3⟩; have b3 := b2.fr0 f3; have c3 := c2.fr0 f3; obtain ⟨k0, k1, k2, k3, k4, k5⟩ := c3.six))
        | (refine at_idx 36 _ _ rfl ?_; go_must (refine wpList_idxR rfl 36 _ _ rfl 4 Try.underlying36 1 size_bool _ _ _ rfl (h2.fr0 ((f1.thenN f2).thenN f3)) (by decide) _ _ n rfl rfl hnb ?_; rw [Hbn.out]; intro ba oa hba hca; have p0 := hca 0 _ rfl; rw [Nat.add_zero] at p0)))
      have F3 := (f1.thenN f2).thenN f3
      have z1 := f1.size
      go_loop [6] (fun kk => ∃ m : Nat, m ≤ pend.length ∧ kk = .int .i64 ((m : Int) - 1) ∧ Hid (∀ j (hj : j < pend.length), m ≤ j → (pend[j].1 == (n : Int)) = false)) (fun kk => (intOf kk + 1).toNat)
      case atStart => exact ⟨pend.length, Nat.le_refl _, rfl, show ∀ j (hj : j < pend.length), _ from fun j hj h => by omega⟩
      case round =>
        obtain ⟨m, hm', rfl, hall⟩ := hrel
        rcases m with _ | k
        · have hR : Hid (pages[n] = R) := by
            show _ = _
            rw [← HR.out, lastW_none]
            intro x hx
            obtain ⟨j, hj, rfl⟩ := List.mem_iff_getElem.1 hx
            exact hall.out j hj (Nat.zero_le _)
          have hRl : R.length = 256 := by rw [← hR.out, ← pgv_len]; exact hPl _ (by simp)
          have e1 : ¬ ((0 : Int) ≤ ((0 : Nat) : Int) - 1) := by omega
          go_wp2_with (first
            | (refine at_idx 35 _ _ rfl ?_; go_must (refine wpList_idxR rfl 35 _ _ rfl 46 Try.underlying35 256 size_page _ _ _ rfl (h1.fr0 F3) (by decide) _ _ n rfl rfl hn ?_; rw [hR.out]; intro ba oa hba hca))
            | (with_reducible refine at_wpP ?_; refine wpList_ldPm rfl _ rfl ba oa rfl R (range_of fun j v hj => hca j v hj) hRl ?_)
            | (with_reducible refine at_wpP ?_; refine wpList_storeP rfl _ _ rfl g2 rfl _ rfl _ b3 hRl hZl.out ?_; intro w4 b4 f4))
          refine bodyPost_ret (v := .tuple #[pgV R, .int .i64 0]) (results_page2 Try.results45 _ w4 g2 R rfl b4 hRl) rfl ⟨rfl, ?_⟩
          exact F3.thenT f4 (fun i hi q => by unfold onB1 at q; omega)
        · have hk : k < pend.length := by omega
          have e1 : ((0 : Int) ≤ ((k + 1 : Nat) : Int) - 1) := by omega
          have e2 : ((k + 1 : Nat) : Int) - 1 = (k : Int) := by omega
          obtain ⟨X, HX⟩ : ∃ X, Hid (pend[k] = X) := ⟨pend[k], (rfl : pend[k] = pend[k])⟩
          obtain ⟨x1, x2⟩ := X
          by_cases hx : x1 = (n : Int)
          · have hR : x2 = R := by
              rw [← HR.out, lastW_hit (n : Int) pages[n] pend k hk (by rw [HX.out]; simpa using hx) (fun j hj hkj => hall.out j hj (by omega)), HX.out]
            subst hR
            subst hx
            have hRl : x2.length = 256 := by
              have := hWl pend[k] (by simp)
              rw [HX.out] at this
              simpa [encW, pgv_len] using this
            rw [e2]
            go_wp2_with (first
              | (refine at_idx 37 _ _ rfl ?_; go_must (refine wpList_idxR rfl 37 _ _ rfl 91 Try.underlying37 257 write_size _ _ _ rfl (h3.fr0 F3) (by decide) _ _ k rfl rfl hk ?_; rw [HX.out]; intro ba oa hba hca; have p0 := hca 0 _ rfl; rw [Nat.add_zero] at p0))
              | (with_reducible refine at_wpP ?_; refine wpList_ldPm rfl _ rfl ba (oa + 1) rfl x2 (range_of fun j v hj => by have := hca (j + 1) v (by simpa [encW] using hj); rwa [show oa + (j + 1) = oa + 1 + j by omega] at this) hRl ?_)
              | (with_reducible refine at_wpP ?_; refine wpList_storeP rfl _ _ rfl g2 rfl _ rfl _ b3 hRl hZl.out ?_; intro w4 b4 f4))
            refine bodyPost_ret (v := .tuple #[pgV x2, .int .i64 0]) (results_page2 Try.results45 _ w4 g2 x2 rfl b4 hRl) rfl ⟨rfl, ?_⟩
            exact F3.thenT f4 (fun i hi q => by unfold onB1 at q; omega)
          · have hxb : (x1 == (n : Int)) = false := by simpa using hx
            rw [e2]
            go_wp2_with (refine at_idx 37 _ _ rfl ?_; go_must (refine wpList_idxR rfl 37 _ _ rfl 91 Try.underlying37 257 write_size _ _ _ rfl (h3.fr0 F3) (by decide) _ _ k rfl rfl hk ?_; rw [HX.out]; intro ba oa hba hca; have p0 := hca 0 _ rfl; rw [Nat.add_zero] at p0))
            go_round
            case rel =>
              refine ⟨k, by omega, by go_num, ?_⟩
              show ∀ j (hj : j < pend.length), _
              intro j hj hkj
              by_cases hjk : j = k
              · subst hjk; rw [HX.out]; exact hxb
              · exact hall.out j hj (by omega)
            case measure => simp [intOf]
  · have hr : readR pages bad pend i = (Z, 41) := by unfold readR; rw [if_neg hi, HZ.out]
    rw [hr]
    have ht : (decide (0 ≤ i) && decide (i < (pages.length : Int))) = false := by
      rw [Bool.and_eq_false_iff]; simp; omega
    go_enter Try.func45, Try.ntmps45
    go_wp2_with (first
      | (with_reducible refine at_wpP ?_; refine wpList_boxV rfl 39 _ rfl (dkL (.slice a1 pages.length c1) (.slice a2 bad.length c2') (.slice a3 pend.length c3') c l d) rfl ?_; intro g1 w1 hg1 b1 f1 s1)
      | (with_reducible refine at_wpP ?_; refine wpList_allocP rfl rfl ?_; rw [HZ.out]; intro g2 w2 hg2 b2 f2 s2; have c2 := b1.fr0 f2; have hl1 := b1.lt; have hl2 := b2.lt)
      | (with_reducible refine at_wpP ?_; refine wpList_ldD rfl _ rfl g1 rfl _ _ _ c l d c2 ?_)
      | (go_at_call 40; go_must (refine (there_any _ _ _ _ _ _ _ _ _ _).mono ?_; rintro e w3 ⟨rfl, f3⟩; have b3 := b2.fr0 f3))
      | (with_reducible refine at_wpP ?_; refine wpList_buildP rfl rfl ?_; rw [HZ.out])
      | (with_reducible refine at_wpP ?_; refine wpList_storeP rfl _ _ rfl g2 rfl _ rfl _ b3 hZl.out hZl.out ?_; intro w4 b4 f4))
    refine bodyPost_ret (v := .tuple #[pgV Z, .int .i64 41]) (results_page2 Try.results45 _ w4 g2 Z rfl b4 hZl.out) rfl ⟨rfl, ?_⟩
    exact ((f1.thenN f2).thenN f3).thenT f4 (fun i hi q => by unfold onB1 at q; have := f1.size; omega)
end Go.Proofs.Ytijgfojnppcbjaa
/- Rows of the call's own making whose elements take several cells: read, stored, appended to; no condition. -/
namespace Go.Proofs.U
open Go.RowKit
set_option linter.unusedSimpArgs false
set_option linter.unusedVariables false

def OwnR {α : Type} (ec : α → List Value) (sz : Nat) (e : TypeId) (w : World) (base : Nat) (v : Value) (l : List α) : Prop := (∀ x ∈ l, (ec x).length = sz) ∧ w.ownsRow base e sz v l.length (l.flatMap ec)

section
variable {α : Type} {ec : α → List Value} {sz : Nat} {e : TypeId} {w w' : World} {base : Nat} {v : Value} {l : List α}
theorem OwnR.sl (h : OwnR ec sz e w base v l) : SlR ec sz w v l := ⟨h.1, Sl.of_owns h.2⟩
theorem OwnR.opn (h : OwnR ec sz e w base v l) : ∃ a cap, v = .slice a l.length cap := by
  obtain ⟨a, cap, hv, _⟩ := h.sl.opn; exact ⟨a, cap, hv⟩
theorem OwnR.newB (h : OwnR ec sz e w base v l) : ∀ j, v.ownBlock = some j → base ≤ j ∧ j < w.heap.size := World.ownsRow.lt h.2
theorem OwnR.fr {S : Nat → Prop} (h : OwnR ec sz e w base v l) (hf : Fr S w w') (hs : ∀ k, v.ownBlock = some k → ¬ S k) : OwnR ec sz e w' base v l := by
  refine ⟨h.1, h.2.1, ?_⟩
  rcases h.2.2 with h0 | ⟨g, cap, cur, hv, h1, h2, h3⟩
  · exact Or.inl h0
  · exact Or.inr ⟨g, cap, cur, hv, h1, (hf.block g (Array.getElem?_eq_some_iff.1 h2).1 (hs g (by rw [hv]; rfl))).trans h2, h3⟩
theorem OwnR.fr0 (h : OwnR ec sz e w base v l) (hf : Fr noB w w') : OwnR ec sz e w' base v l := h.fr hf (fun _ _ q => q)
theorem OwnR.ne {g : Nat} (h : OwnR ec sz e w base v l) (hf : Fr (onB1 g) w w') (hg : ∀ k, v.ownBlock = some k → k ≠ g) : OwnR ec sz e w' base v l := h.fr hf (fun k hk q => hg k hk q)
theorem OwnR.rebase {b : Nat} (h : OwnR ec sz e w base v l) (hb : b ≤ base) : OwnR ec sz e w b v l := by
  refine ⟨h.1, h.2.1, ?_⟩
  rcases h.2.2 with h0 | ⟨g, cap, cur, hv, h1, h3⟩
  · exact Or.inl h0
  · exact Or.inr ⟨g, cap, cur, hv, Nat.le_trans hb h1, h3⟩
/-- Rows of other types lie apart. -/
theorem OwnR.apart {β : Type} {ec' : β → List Value} {sz' : Nat} {e' : TypeId} {base' : Nat} {v' : Value} {l' : List β} (h : OwnR ec sz e w base v l) (h' : OwnR ec' sz' e' w base' v' l') (hne : e ≠ e') : ∀ q, v.ownBlock = some q → v'.ownBlock = some q → False := by
  intro q hq hq'
  rcases h.2.2 with ⟨rfl, _⟩ | ⟨g, cap, cur, rfl, _, h2, _⟩
  · simp [Value.ownBlock] at hq
  rcases h'.2.2 with ⟨rfl, _⟩ | ⟨g', cap', cur', rfl, _, h2', _⟩
  · simp [Value.ownBlock] at hq'
  simp [Value.ownBlock] at hq hq'
  subst hq hq'
  rw [h2] at h2'
  simp at h2'
  exact hne h2'.2
/-- Its block, where there is an element. -/
theorem OwnR.bx (h : OwnR ec sz e w base v l) (hl : 0 < l.length) :
    ∃ g cap cur, v = .slice (some ⟨g, 0, none⟩) l.length cap ∧ base ≤ g ∧ BxV w g e cur ∧ l.length * sz ≤ cur.length ∧ cur.take (l.length * sz) = l.flatMap ec ∧
      ∀ (w' : World) (cur' : List Value) (l' : List α), BxV w' g e cur' → cur'.length = cur.length → l'.length = l.length → (∀ x ∈ l', (ec x).length = sz) → cur'.take (l.length * sz) = l'.flatMap ec → OwnR ec sz e w' base v l' := by
  rcases h.2.2 with ⟨_, hn⟩ | ⟨g, cap, cur, hv, h1, h2, h3, h4, h5, h6⟩
  · omega
  · have hlen : l.length * sz ≤ cur.toList.length := by
      have : cur.toList.length = cap * sz := by rw [← h5]; exact Array.length_toList
      rw [this]; exact Nat.mul_le_mul_right _ h3
    refine ⟨g, cap, cur.toList, hv, h1, h2, hlen, h6, ?_⟩
    intro w' cur' l' hb hc hl' hall htk
    refine ⟨hall, ?_, Or.inr ⟨g, cap, cur'.toArray, by rw [hl']; exact hv, h1, hb, by rw [hl']; exact h3, h4, ?_, ?_⟩⟩
    · rw [← htk, List.length_take, hc, hl']; omega
    · rw [List.size_toArray, hc, Array.length_toList, h5]
    · rw [hl']; exact htk
theorem flat_put (l : List α) (hall : ∀ x ∈ l, (ec x).length = sz) (j : Nat) (hj : j < l.length) (x : α) (hx : (ec x).length = sz) (cur : List Value) (hlen : l.length * sz ≤ cur.length) (hc : cur.take (l.length * sz) = l.flatMap ec) :
    (putAt cur (j * sz) (ec x)).take (l.length * sz) = (l.set j x).flatMap ec := by
  have e1 : cur = l.flatMap ec ++ cur.drop (l.length * sz) := by rw [← hc, List.take_append_drop]
  have hfl : ∀ m : List α, (∀ x ∈ m, (ec x).length = sz) → (m.flatMap ec).length = m.length * sz := by
    intro m hm
    induction m with
    | nil => simp
    | cons y m ih => rw [List.flatMap_cons, List.length_append, hm y (by simp), ih (fun z hz => hm z (by simp [hz])), List.length_cons, Nat.succ_mul]; omega
  have hsp : l = l.take j ++ l[j] :: l.drop (j + 1) := by rw [List.getElem_cons_drop, List.take_append_drop]
  have hset : l.set j x = l.take j ++ x :: l.drop (j + 1) := by rw [List.set_eq_take_append_cons_drop, if_pos hj]
  have hA : ((l.take j).flatMap ec).length = j * sz := by rw [hfl _ (fun y hy => hall y (List.mem_of_mem_take hy))]; rw [List.length_take, Nat.min_eq_left (by omega)]
  have hlj := hall l[j] (by simp)
  have hflat : l.flatMap ec = (l.take j).flatMap ec ++ (ec l[j] ++ (l.drop (j + 1)).flatMap ec) := by
    conv => lhs; rw [hsp]
    rw [List.flatMap_append, List.flatMap_cons]
  have htake : cur.take (j * sz) = (l.take j).flatMap ec := by
    rw [e1, hflat, List.append_assoc, List.take_left' hA]
  have hdrop : cur.drop (j * sz + sz) = (l.drop (j + 1)).flatMap ec ++ cur.drop (l.length * sz) := by
    conv => lhs; rw [e1]
    rw [hflat]
    simp only [List.append_assoc]
    rw [← List.append_assoc, List.drop_left' (by rw [List.length_append, hA, hlj])]
  unfold putAt
  rw [hx, htake, hdrop, hset, List.flatMap_append, List.flatMap_cons]
  have hB : ((l.drop (j + 1)).flatMap ec).length = (l.length - (j + 1)) * sz := by rw [hfl _ (fun y hy => hall y (List.mem_of_mem_drop hy))]; simp
  have htot : ((l.take j).flatMap ec ++ ec x ++ (l.drop (j + 1)).flatMap ec).length = l.length * sz := by
    rw [List.length_append, List.length_append, hA, hx, hB]
    have : l.length = j + 1 + (l.length - (j + 1)) := by omega
    conv => rhs; rw [this, Nat.add_mul, Nat.add_mul, Nat.one_mul]
  rw [← List.append_assoc, List.take_left' htot, List.append_assoc]

variable {P : Program} {ops : Array Oper} {rest : List Oper} {o : Oper} {a : Act} {Q : Exit → Act → World → Prop}
/-- x[j], x a row of the call's own making. -/
theorem wpList_idxO (hgd : Region.wanted o (yielded ops a.tmps) = true) (t : TypeId) (x i : Operand) (ho : o.op = .indexAddr t x i) (et : TypeId) (ht : P.underlying t = some (.slice et)) (hsz : (P.info? et).map (·.size) = some sz)
    (g n cap : Nat) (hx : a.eval x = .slice (some ⟨g, 0, none⟩) n cap) (k : IntKind) (z : Int) (j : Nat) (hi : a.eval i = .int k z) (hz : z = (j : Int)) (hj : j < n)
    (h : wpList P ops Q rest (a.put o.dst (.pointer (some ⟨g, j * sz, none⟩))) w) : wpList P ops Q (o :: rest) a w := by
  refine wpList_wanted hgd fun K hK => ?_
  subst hz
  obtain ⟨ii, hinf, hsz'⟩ := Option.map_eq_some_iff.1 hsz
  have hrun : (Instr.indexAt t (.slice (some ⟨g, 0, none⟩) n cap) (.int k (j : Int))).run P w = .ok (.pointer (some ⟨g, j * sz, none⟩)) w := by
    have h1 : (0 : Int) ≤ (j : Int) ∧ (j : Int) < (n : Int) := by omega
    simp [Instr.indexAt, asIntOf, run_underlying ht, h1, sizeOf, typeInfo, hinf, hsz', go_sem, Addr.plain]
    omega
  unfold Oper.wp
  simp [execOp, ho, hx, hi, hrun, Result.andThen]
  exact hK _ _ h
theorem run_idxO (t et : TypeId) (ht : P.underlying t = some (.slice et)) (hsz : (P.info? et).map (·.size) = some sz) (g n cap : Nat) (k : IntKind) (j : Nat) (hj : j < n) :
    (Instr.indexAt t (.slice (some ⟨g, 0, none⟩) n cap) (.int k (j : Int))).run P w = .ok (.pointer (some ⟨g, j * sz, none⟩)) w := by
  obtain ⟨ii, hinf, hsz'⟩ := Option.map_eq_some_iff.1 hsz
  have h1 : (0 : Int) ≤ (j : Int) ∧ (j : Int) < (n : Int) := by omega
  simp [Instr.indexAt, asIntOf, run_underlying ht, h1, sizeOf, typeInfo, hinf, hsz', go_sem, Addr.plain]
  omega
/-- Where an element lies. -/
theorem OwnR.rangeK {g n cap : Nat} (hO : OwnR ec sz e w base (.slice (some ⟨g, 0, none⟩) n cap) l) (j : Nat) (hj : j < l.length) : w.rangeAt g (j * sz) (ec l[j]) := by
  obtain ⟨g', cap', cur, hv, h1, hB, h3, h4, h5⟩ := hO.bx (by omega)
  cases hv
  intro q u hq
  have hql : q < sz := by rw [← hO.1 l[j] (by simp)]; exact (List.getElem?_eq_some_iff.1 hq).1
  refine (hB.cell (j * sz + q) u ?_).1
  have hfl := flat_at ec sz l hO.1 j hj q hql
  rw [hq, ← h4, List.getElem?_take] at hfl
  split at hfl
  · exact hfl
  · cases hfl
theorem wp_stR {K : Act → World → Prop} (t : TypeId) (x y : Operand) (ho : o.op = .store t x y) (g n cap : Nat) (hO : OwnR ec sz e w base (.slice (some ⟨g, 0, none⟩) n cap) l) (j : Nat) (hj : j < l.length) (hx : a.eval x = .pointer (some ⟨g, j * sz, none⟩))
    (b : α) (hy : a.eval y = .agg (ec b).toArray) (hb : (ec b).length = sz) (hb1 : ∀ u ∈ ec b, u.oneCell' = true) (hi : (P.info? t).map (·.size) = some sz)
    (h : ∀ w', OwnR ec sz e w' base (.slice (some ⟨g, 0, none⟩) n cap) (l.set j b) → Fr (onB1 g) w w' → K (a.put o.dst undef) w') : o.wp P a w K Q := by
  obtain ⟨g', cap', cur, hv, h1, hB, h3, h4, h5⟩ := hO.bx (by omega)
  cases hv
  have hle : j * sz + sz ≤ cur.length := by
    have : (j + 1) * sz ≤ l.length * sz := Nat.mul_le_mul_right _ (by omega)
    rw [Nat.add_mul, Nat.one_mul] at this; omega
  refine wp_store_mid t x y ho g (j * sz) (ec b).toArray hx hy (by simpa using hB.thereR (j * sz) (ec b).length (by rw [hb]; exact hle)) (by rw [hi]; simp [hb]) (all_oneCell_toArray hb1) (h _ ?_ (setCells_fr1 w g _ _))
  have hB' := setCells_bx (ec b) (j * sz) w cur hB (by rw [hb]; exact hle)
  refine h5 _ _ _ hB' ?_ (by simp) ?_ (flat_put l hO.1 j hj b hb cur h3 h4)
  · unfold putAt; simp [hb]; omega
  · intro z hz
    rcases List.mem_or_eq_of_mem_set hz with hz | rfl
    · exact hO.1 z hz
    · exact hb
/-- x[j] = y, y a value of several cells. -/
theorem wpList_stR (hgd : o.guard = none) (t : TypeId) (x y : Operand) (ho : o.op = .store t x y) (g n cap : Nat) (hO : OwnR ec sz e w base (.slice (some ⟨g, 0, none⟩) n cap) l) (j : Nat) (hj : j < l.length) (hx : a.eval x = .pointer (some ⟨g, j * sz, none⟩))
    (b : α) (hy : a.eval y = .agg (ec b).toArray) (hb : (ec b).length = sz) (hb1 : ∀ u ∈ ec b, u.oneCell' = true) (hi : (P.info? t).map (·.size) = some sz)
    (h : ∀ w', OwnR ec sz e w' base (.slice (some ⟨g, 0, none⟩) n cap) (l.set j b) → Fr (onB1 g) w w' → wpList P ops Q rest (a.put o.dst undef) w') : wpList P ops Q (o :: rest) a w := by
  obtain ⟨g', cap', cur, hv, h1, hB, h3, h4, h5⟩ := hO.bx (by omega)
  cases hv
  have hle : j * sz + sz ≤ cur.length := by
    have : (j + 1) * sz ≤ l.length * sz := Nat.mul_le_mul_right _ (by omega)
    rw [Nat.add_mul, Nat.one_mul] at this; omega
  refine wpList_storeV hgd t x y ho g (j * sz) hx (ec b) hy e cur hB (by rw [hi, hb]) (by rw [hb]; exact hle) hb1 ?_
  intro w' hB' hf
  refine h w' (h5 w' _ _ hB' ?_ (by simp) ?_ (flat_put l hO.1 j hj b hb cur h3 h4)) hf
  · unfold putAt; simp [hb]; omega
  · intro z hz
    rcases List.mem_or_eq_of_mem_set hz with hz | rfl
    · exact hO.1 z hz
    · exact hb
/-- x[j] = y, y of one cell. -/
theorem wpList_stR1 {ec : α → List Value} {l : List α} (hgd : o.guard = none) (t : TypeId) (x y : Operand) (ho : o.op = .store t x y) (g n cap : Nat) (hO : OwnR ec 1 e w base (.slice (some ⟨g, 0, none⟩) n cap) l) (j : Nat) (hj : j < l.length) (hx : a.eval x = .pointer (some ⟨g, j, none⟩))
    (b : α) (u : Value) (hb : ec b = [u]) (hy : a.eval y = u) (hb1 : u.oneCell' = true) (hi : (P.info? t).map (·.size) = some 1)
    (h : ∀ w', OwnR ec 1 e w' base (.slice (some ⟨g, 0, none⟩) n cap) (l.set j b) → Fr (onB1 g) w w' → wpList P ops Q rest (a.put o.dst undef) w') : wpList P ops Q (o :: rest) a w := by
  obtain ⟨g', cap', cur, hv, h1, hB, h3, h4, h5⟩ := hO.bx (by omega)
  cases hv
  refine wpList_store1 hgd t x y ho g (j * 1) (by rw [Nat.mul_one]; exact hx) u hy hb1 e cur hB hi (by omega) ?_
  intro w' hB' hf
  have hp : cur.set (j * 1) u = putAt cur (j * 1) (ec b) := by
    rw [hb]; unfold putAt
    rw [List.set_eq_take_append_cons_drop, if_pos (by omega)]; simp
  rw [hp] at hB'
  refine h w' (h5 w' _ _ hB' ?_ (by simp) ?_ (flat_put l hO.1 j hj b (by rw [hb]; rfl) cur h3 h4)) hf
  · rw [← hp]; simp
  · intro z hz
    rcases List.mem_or_eq_of_mem_set hz with hz | rfl
    · exact hO.1 z hz
    · rw [hb]; rfl
/-- append(s, x...). -/
theorem wpList_appR (hgd : o.guard = none) (s x : Operand) (t : TypeId) (ho : o.op = .call { callee := .builtin .append, args := #[s, x], argTypes := #[t, t] })
    (base : Nat) (e : TypeId) (z : Value) (bytes : Nat) (ht : P.underlying t = some (.slice e)) (hinfo : (P.info? e).map (fun i => (i.zero, i.size, i.bytes)) = some (some z, sz, bytes)) (hzs : z.cells.size = sz) (hsz : 0 < sz)
    (v : Value) (l : List α) (hs : a.eval s = v) (hO : OwnR ec sz e w base v l) (vx : Value) (m : List α) (hx : a.eval x = vx) (hS : SlR ec sz w vx m) (h1 : ∀ y ∈ m, ∀ u ∈ ec y, u.oneCell' = true)
    (h63 : l.length + m.length ≤ maxLen) (hbytes : (l.length + m.length) * bytes ≤ 140737488355328) (hbase : base ≤ w.heap.size)
    (h : ∀ v' w', OwnR ec sz e w' base v' (l ++ m) → w.grownBy w' v.ownBlock → wpList P ops Q rest (a.put o.dst v') w') : wpList P ops Q (o :: rest) a w := by
  refine wpList_app hgd s x t ho base e z sz bytes ht hinfo hzs hsz v l.length (l.flatMap ec) hs hO.2 vx m.length (m.flatMap ec) hx hS.2 ?_ h63 hbytes hbase ?_
  · intro u hu
    obtain ⟨y, hy, hu⟩ := List.mem_flatMap.1 hu
    exact h1 y hy u hu
  · intro v' w' ho' hg
    refine h v' w' ⟨?_, by rw [List.length_append, List.flatMap_append]; exact ho'⟩ hg
    intro y hy
    rcases List.mem_append.1 hy with hy | hy
    · exact hO.1 y hy
    · exact hS.1 y hy
/-- []T{}: a row of no elements, its block a letter. -/
theorem wpList_mk0 (ec : α → List Value) (sz : Nat) (hgd : Region.wanted o (yielded ops a.tmps) = true) (t : TypeId) (ho : o.op = .buildSlice t 0 #[]) (e : TypeId) (ht : P.underlying t = some (.slice e)) (hsz : (P.info? e).map (·.size) = some sz)
    (h : ∀ g w', OwnR ec sz e w' w.heap.size (.slice (some ⟨g, 0, none⟩) 0 0) ([] : List α) → Fr noB w w' → w.heap.size ≤ g → g < w'.heap.size → wpList P ops Q rest (a.put o.dst (.slice (some ⟨g, 0, none⟩) 0 0)) w') : wpList P ops Q (o :: rest) a w := by
  refine wpList_wanted hgd fun K hK => ?_
  obtain ⟨ii, hinf, hsz'⟩ := Option.map_eq_some_iff.1 hsz
  have hrun : (execOp a.eval o).run P w = .ok (.value (.slice (some ⟨w.heap.size, 0, none⟩) 0 0)) (w.alloc (.cells #[] e)) := by
    simp only [execOp, ho]
    simp [go_sem, run_underlying ht, sizeOf, typeInfo, hinf, hsz']
  unfold Oper.wp
  rw [hrun]
  exact hK _ _ (h w.heap.size _ ⟨by simp, World.ownsRow_made w #[] 0 (Nat.le_refl _) (Nat.zero_le _) (by simp)⟩ ((Fr.refl _ _).alloc _) (Nat.le_refl _) (by simp))
theorem OwnR.empty (w : World) (e : TypeId) (hb : base ≤ w.heap.size) : OwnR ec sz e (w.alloc (.cells #[] e)) base (.slice (some ⟨w.heap.size, 0, none⟩) 0 0) ([] : List α) :=
  ⟨by simp, World.ownsRow_made w #[] 0 hb (Nat.zero_le _) (by simp)⟩
theorem OwnR.none (w : World) (e : TypeId) : OwnR ec sz e w base (.slice .none 0 0) ([] : List α) := ⟨by simp, by simp, Or.inl ⟨rfl, rfl⟩⟩
theorem OwnR.grown {S : Nat → Prop} {b0 : World} (h : OwnR ec sz e w base v l) (hf : Fr S b0 w) (hb : b0.heap.size ≤ base) (hg : w.grownBy w' v.ownBlock) : Fr S b0 w' :=
  hf.grown hg (fun k hk hlt => absurd (h.newB k hk).1 (by omega))
end
end Go.Proofs.U
