/- The program's disk: Sync, Crash, Write. -/
import Derived.Test.YtejjfpdcmaefiaaK5
import Derived.Maps.AppendAt
namespace Go.Proofs.Ytejjfpdcmaefiaa
open Go.RowKit Go.Proofs.U Go.Maps
set_option linter.unusedSimpArgs false
set_option linter.unusedVariables false

theorem sync1_any (a b : Value) (W : World) : Calls Try.prog 34 #[a, b] W fun r W' => r = .returned (.bool true) ∧ W = W' := by
  go_enter Try.func34, Try.ntmps34
  go_wp2
  go_ret
  exact ⟨rfl, rfl⟩

set_option maxRecDepth 100000 in
theorem and1_fin : ∀ x : Fin 256, bits .and .u8 ((x.val : Nat) : Int) 1 = ((x.val : Nat) : Int) % 2 := by decide
theorem and1 (x : Int) (h0 : 0 ≤ x) (h1 : x < 256) : bits .and .u8 x 1 = x % 2 := by
  obtain ⟨n, rfl⟩ := Int.eq_ofNat_of_zero_le h0
  exact and1_fin ⟨n, by omega⟩
def stayK (keep : List Int) (k s : Nat) : Bool := decide (k < keep.length) && (keep.getD k 0 / 2 ^ s % 2 == 1)

set_option maxHeartbeats 1000000 in
theorem crash1_any (kb : Nat) (vk : Value) (keep : List Int) (W : World) (hb : BxV W kb 41 [vk]) (hS : SlI .u8 W vk keep) (k s : Nat) (hs : s < 8) :
    Calls Try.prog 38 #[.int .i64 (k : Int), .int .i64 (s : Int), ptr kb] W fun r W' => r = .returned (.bool (stayK keep k s)) ∧ W = W' := by
  obtain ⟨a, cap, rfl, _⟩ := hS.opn
  obtain ⟨q1, _⟩ := hb.cell 0 _ rfl
  unfold stayK
  by_cases hk : k < keep.length
  · have hk' : (k : Int) < (keep.length : Int) := by omega
    have hg : (keep.map (Value.int .u8))[k]? = some (.int .u8 (keep.getD k 0)) := by simp [List.getD, hk]
    obtain ⟨m, Hm⟩ : ∃ m, Hid (keep.getD k 0 = m) := ⟨_, rfl⟩
    have hm8 : 0 ≤ m ∧ m < 256 := by
      have := hS.2 keep[k] (by simp)
      have e9 : keep[k] = m := by rw [← Hm.out]; simp [List.getD, hk]
      rw [e9] at this
      simp [Lit.wf, IntKind.min, IntKind.max, IntKind.signed, IntKind.bits] at this; omega
    rw [Hm.out] at hg ⊢
    go_enter Try.func38, Try.ntmps38
    go_wp2_with (first
      | (refine at_idx 41 _ _ rfl ?_; go_must (refine wpList_idx1 rfl 41 _ _ rfl 5 Try.underlying41 size_u8 _ _ _ rfl hS.1 _ _ k rfl rfl (by simpa using hk) ?_; intro p u hu hp; rw [hg] at hu; cases hu)))
    go_ret
    refine ⟨?_, rfl⟩
    have hd0 : 0 ≤ m / 2 ^ s := Int.ediv_nonneg hm8.1 (Int.le_of_lt (Int.pow_pos (by decide)))
    have hd1 : m / 2 ^ s < 256 := by
      have := Int.ediv_le_self (2 ^ s) hm8.1
      omega
    have hb1 := and1 (m / 2 ^ s) hd0 hd1
    simp [hb1, hk]
  · have hk' : ¬ (k : Int) < (keep.length : Int) := by omega
    go_enter Try.func38, Try.ntmps38
    go_wp2
    go_ret
    exact ⟨by simp [hk], rfl⟩

/-- The box of the variable that the closure holds. -/
def DSt.crash (X : DSt) (keep : List Int) : DSt := { X with pages := setS X.pages X.pend (stayK keep) X.pend.length, pend := [], down := false, left := -1 }
def DSt.sync (X : DSt) : DSt := if X.actE = 0 then X.act.settle (fun _ _ => true) else X.act
def orNew (F : Nat → Prop) (w : World) : Nat → Prop := fun k => F k ∨ w.heap.size ≤ k

set_option maxHeartbeats 1000000 in
theorem sync_any {F : Nat → Prop} {X : DSt} (g : Nat) (w : World) (h : Disk w F g X) (hm : X.pend.length ≤ 100000) :
    Calls Try.prog 14 #[ptr g] w fun r w' => r = .returned (.int .i64 X.actE) ∧ Disk w' F g X.sync ∧ Fr F w w' := by
  obtain ⟨E, HE⟩ : ∃ E, Hid (X.actE = E) := ⟨_, rfl⟩
  have hpe : X.act.pend = X.pend := rfl
  obtain ⟨X1, HX1⟩ : ∃ Y, Hid (X.act = Y) := ⟨_, rfl⟩
  unfold DSt.sync
  have ha := act_any g w h
  rw [← hpe, HX1.out] at hm
  rw [HE.out, HX1.out] at ha
  rw [HE.out, HX1.out]
  by_cases he : E = 0
  · subst he
    obtain ⟨Y, HY⟩ : ∃ Y, Hid (X1.settle (fun _ _ => true) = Y) := ⟨_, rfl⟩
    rw [if_pos rfl, HY.out]
    go_enter Try.func14, Try.ntmps14
    go_wp2_with (first
      | (go_at_call 32; go_must (refine ha.mono ?_; rintro e w1 ⟨rfl, d1, f1⟩))
      | (go_at_call 33; go_must (refine (settle_sync g (fun _ _ => true) _ d1 hm (fun W hW k s _ _ => sync1_any _ _ W)).mono ?_; rw [HY.out]; rintro e w2 ⟨rfl, d2, f2⟩)))
    go_ret
    exact ⟨rfl, d2, f1.trans f2⟩
  · rw [if_neg he]
    go_enter Try.func14, Try.ntmps14
    go_wp2_with (first
      | (go_at_call 32; go_must (refine ha.mono ?_; rintro e w1 ⟨rfl, d1, f1⟩)))
    go_ret
    exact ⟨rfl, d1, f1⟩

theorem size_bytes : (Try.prog.info? 41).map (·.size) = some 1 := by kernel_rfl
set_option maxHeartbeats 1000000 in
theorem crash_anyW {F : Nat → Prop} {X : DSt} (g : Nat) (vk : Value) (keep : List Int) (w : World) (h : Disk w F g X) (hm : X.pend.length ≤ 100000) (hkW : ∀ W, Fr (fun k => F k ∧ k < w.heap.size) w W → SlI .u8 W vk keep) :
    Calls Try.prog 23 #[ptr g, vk] w fun r w' => r = .returned (.tuple #[]) ∧ Disk w' F g (X.crash keep) ∧ Fr F w w' := by
  have hk := hkW w (Fr.refl _ _)
  obtain ⟨ka, kc, rfl, _⟩ := hk.opn
  have f0 : Fr noB w (w.alloc (.cells #[.slice ka keep.length kc] 41)) := (Fr.refl _ _).alloc _
  have hd0 : Disk (w.alloc (.cells #[.slice ka keep.length kc] 41)) (fun k => F k ∧ k < w.heap.size) g X := (h.mono (fun k hk hF => ⟨hF, hk⟩)).fr0 f0
  have hb0 : BxV (w.alloc (.cells #[.slice ka keep.length kc] 41)) w.heap.size 41 [.slice ka keep.length kc] := by
    show (w.heap.push _)[w.heap.size]? = _
    rw [Array.getElem?_push, if_pos rfl]
  have hcr := settle_crash g w.heap.size (stayK keep) _ hd0 hm (fun W hW k s _ hs => crash1_any w.heap.size _ keep W (hb0.fr hW (fun q => by have := q.2; omega)) (hkW W ((f0.mono (fun _ _ q => q.elim)).thenT hW (fun _ _ q => q))) k s hs)
  obtain ⟨Y, HY⟩ : ∃ Y, Hid (X.settle (stayK keep) = Y) := ⟨_, rfl⟩
  rw [HY.out] at hcr
  have hcrash : X.crash keep = { Y with down := false, left := -1 } := by rw [← HY.out]; rfl
  rw [hcrash]
  go_enter Try.func23, Try.ntmps23
  go_wp2_with (first
    | (go_at_call 33; go_must (refine hcr.mono ?_; rintro e w2 ⟨rfl, ⟨v1, m, v3, d2⟩, f2⟩; have e2 := d2.bx))
    | (with_reducible refine at_wpP ?_; refine at_st 4 _ _ rfl ?_; go_must (refine wpList_store1 rfl 4 _ _ rfl g 3 rfl (.bool false) rfl rfl _ _ e2 size_bool (by simp) ?_; intro w3 b3 f3; have b3 : BxV w3 g 66 (pdL v1 m v3 false Y.left) := (by simpa using b3)))
    | (with_reducible refine at_wpP ?_; refine at_st 3 _ _ rfl ?_; go_must (refine wpList_store1 rfl 3 _ _ rfl g 4 rfl (.int .i64 (-1)) rfl rfl _ _ b3 size_int (by simp) ?_; intro w4 b4 f4; have b4 : BxV w4 g 66 (pdL v1 m v3 false (-1)) := (by simpa using b4))))
  go_end0
  have f34 : Fr (onB1 g) w2 w4 := f3.trans f4
  have hl := d2.fg
  have hfin := d2.put f34 b4 (by omega)
  have hF2 : Fr F w w2 := (f0.mono (fun _ _ q => q.elim)).thenT f2 (fun k _ q => q.1)
  exact ⟨rfl, ⟨v1, m, v3, hfin.mono (fun k _ q => q.1)⟩, hF2.thenT f34 (fun k _ q => by unfold onB1 at q; exact q ▸ d2.fg.1)⟩
theorem crash_any {F : Nat → Prop} {X : DSt} (g : Nat) (vk : Value) (keep : List Int) (w : World) (h : Disk w F g X) (hm : X.pend.length ≤ 100000) (hk : SlI .u8 w vk keep) (hkF : ∀ b, vk.ownBlock = some b → b < w.heap.size → ¬ F b) :
    Calls Try.prog 23 #[ptr g, vk] w fun r w' => r = .returned (.tuple #[]) ∧ Disk w' F g (X.crash keep) ∧ Fr F w w' :=
  crash_anyW g vk keep w h hm (fun W f => hk.fr f (fun b hb q => hkF b hb q.2 q.1))
end Go.Proofs.Ytejjfpdcmaefiaa
