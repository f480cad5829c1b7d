/- The program's disk: Spoil, Pending. -/
import Derived.Test.YtejjfpdcmaefiaaK2
namespace Go.Proofs.Ytejjfpdcmaefiaa
open Go.RowKit Go.Proofs.U Go.Maps
set_option linter.unusedSimpArgs false
set_option linter.unusedVariables false

def DSt.spoil (X : DSt) (i : Int) (b : Bool) : DSt := if inR X.pages.length i then { X with bad := fun x => if x == i then b else X.bad x } else X
theorem badK_put (bad : Int → Bool) (i : Int) (b : Bool) (kl : Lit) (h : kl ≠ .int .i64 i) : badK (fun x => if x == i then b else bad x) kl = badK bad kl := by
  unfold badK
  split
  · rename_i x
    have : x ≠ i := fun e => h (by rw [e])
    simp [this]
  · rfl

set_option maxRecDepth 100000 in
set_option maxHeartbeats 1000000 in
theorem spoil_any {F : Nat → Prop} {X : DSt} (g : Nat) (i : Int) (hi : -9223372036854775808 ≤ i ∧ i ≤ 9223372036854775807) (b : Bool) (w : World) (h : Disk w F g X) :
    Calls Try.prog 11 #[ptr g, .int .i64 i, .bool b] w fun r w' => r = .returned (.int .i64 (if inR X.pages.length i then 0 else 41)) ∧ Disk w' F g (X.spoil i b) ∧ Fr F w w' := by
  have hD := h
  unfold DSt.spoil
  cases hin : inR X.pages.length i with
  | false =>
    go_enter Try.func11, Try.ntmps11
    go_wp2_with (first
      | (go_at_call 30; go_must (refine (has_any g i _ hD).mono ?_; rintro e w' ⟨rfl, rfl⟩; rw [hin])))
    go_ret
    exact ⟨rfl, hD, Fr.refl _ _⟩
  | true =>
    obtain ⟨v1, m, v3, h⟩ := h
    have hir : 0 ≤ i ∧ i < (X.pages.length : Int) := by simpa [inR] using hin
    have hwf : (Lit.int .i64 i).wf = true := WalkArith.wf_i64 hi
    obtain ⟨D, ho, hh⟩ := h.mp.tight h.bin
    have hlen := h.len
    have hD2 : ∀ (w' : World) (n : Nat) (D' : DataW Unit), w'.ownsMap Try.prog 3 unitElem m n D' → w.mapTurned w' m → (∀ kl, kl ≠ .int .i64 i → Maps.has D' kl = Maps.has D kl) → Maps.has D' (.int .i64 i) = b →
        Disk w' F g { X with bad := fun x => if x == i then b else X.bad x } ∧ Fr F w w' := by
      intro w' n D' ho' ht h1 h2
      have f1 : Fr (onB1 m) w w' := (Fr.refl _ _).grown ht.grown (fun k hk _ => (Option.some.inj hk).symm)
      refine ⟨⟨v1, m, v3, ?_⟩, f1.mono (fun k _ q => by unfold onB1 at q; exact q ▸ h.fm)⟩
      exact { h with
        bx := h.bx.ne f1 (fun e => h.gm e.symm)
        st := h.st.ne f1 h.m1
        pd := h.pd.ne f1 h.m3
        mp := ⟨n, D', ho', fun kl => by
          by_cases hk : kl = .int .i64 i
          · subst hk; rw [h2]; simp [badK]
          · rw [h1 kl hk, hh, badK_put _ _ _ _ hk]⟩
        bin := fun x hx => by
          by_cases hk : x = i
          · subst hk; exact hir
          · simp [hk] at hx; exact h.bin x hx }
    obtain ⟨k0, k1, k2, k3, k4⟩ := h.bx.five
    obtain ⟨Y, HY⟩ : ∃ Y, Hid (({ X with bad := fun x => if x == i then b else X.bad x } : DSt) = Y) := ⟨_, rfl⟩
    rw [HY.out] at hD2
    simp only [if_true]
    rw [HY.out]
    cases b with
    | true =>
      go_enter Try.func11, Try.ntmps11
      go_wp2_with (first
        | (go_at_call 30; go_must (refine (has_any g i _ hD).mono ?_; rintro e w' ⟨rfl, rfl⟩; rw [hin]))
        | (at_mapUpdate; go_must (refine wpList_mapUpdate_in _ rfl _ _ _ 63 rfl 3 68 keyI Try.underlying63 _ m _ D rfl ho (by unfold maxLen; omega) _ _ _ rfl rfl (keyOf_int_mk Try.underlying3 hwf) _ [] unitElem_mk ?_; intro w1 ho1 ht1)))
      go_ret
      have := hD2 w1 _ _ ho1 ht1 (fun kl hk => has_put_other hk _) (has_put_same ho.isMap (by trivial) _)
      exact ⟨rfl, this.1, this.2⟩
    | false =>
      go_enter Try.func11, Try.ntmps11
      go_wp2_with (first
        | (go_at_call 30; go_must (refine (has_any g i _ hD).mono ?_; rintro e w' ⟨rfl, rfl⟩; rw [hin]))
        | (at_delete; go_must (refine wpList_delete_own _ rfl _ _ 63 3 rfl 68 keyI Try.underlying63 _ m _ D rfl ho _ _ rfl (keyOf_int_mk Try.underlying3 hwf) ?_; intro w1 ho1 ht1)))
      go_ret
      have := hD2 w1 _ _ ho1 ht1 (fun kl hk => has_del_other hk) has_del_same
      exact ⟨rfl, this.1, this.2⟩

abbrev en64 (z : Int) : List Value := [Value.int .i64 z]
theorem info_int : (Try.prog.info? 3).map (fun i => (i.zero, i.size, i.bytes)) = some (some (.int .i64 0), 1, 8) := by kernel_rfl
theorem info_int2 : (Try.prog.info? 3).map (fun i => (i.zero, i.size)) = some (some (.int .i64 0), 1) := by kernel_rfl
theorem pwrite_size : (Try.prog.info? 74).map (·.size) = some 257 := by kernel_rfl
theorem pzero_write : (Try.prog.info? 74).map (·.zero) = some (some (.agg (encW (0, zeroP)).toArray)) := by kernel_rfl
theorem punder_write : Try.prog.underlying 74 = some (.struct (Try.prog.fieldsOf 74)) := by kernel_rfl

set_option maxRecDepth 100000 in
set_option maxHeartbeats 1000000 in
theorem pending_any {F : Nat → Prop} {X : DSt} (g : Nat) (w : World) (h : Disk w F g X) (hm : X.pend.length ≤ 100000) :
    Calls Try.prog 28 #[ptr g] w fun r w' => ∃ v, r = .returned v ∧ OwnR en64 1 3 w' w.heap.size v (X.pend.map (·.1)) ∧ Fr noB w w' := by
  have hD := h
  obtain ⟨v1, m, v3, h⟩ := h
  obtain ⟨a3, c3, rfl⟩ := h.pd.opn
  obtain ⟨k0, k1, k2, k3, k4⟩ := h.bx.five
  obtain ⟨pages, bad, pend, d, l⟩ := X
  have hO := h.pd
  have hbx := h.bx
  simp only at *
  clear hD h
  go_enter Try.func28, Try.ntmps28
  go_wp2_with (first
    | (refine at_make 56 _ _ rfl ?_; go_must (refine wpList_make0R en64 1 rfl _ _ 56 rfl w.heap.size 3 _ 8 Try.underlying56 info_int .i64 .i64 _ pend.length rfl rfl rfl ?hb2 ?hb3 (Nat.le_refl _) ?_; rotate_left 2; intro g1 w1 o1 f1 s1 t1; obtain ⟨k0, k1, k2, k3, k4⟩ := (hbx.fr0 f1).five)))
  case hb2 => omega
  case hb3 => unfold maxLen; omega
  go_loopw [17, 3] (fun i v wr => ∃ (k : Nat), k ≤ pend.length ∧ i = .int .i64 (k : Int) ∧ OwnR en64 1 3 wr w.heap.size v ((pend.take k).map (·.1)) ∧ Fr noB w wr) (fun i _ _ => pend.length - (intOf i).toNat)
  case atStart => exact ⟨0, Nat.zero_le _, rfl, o1, f1⟩
  case round =>
    obtain ⟨k, hk, rfl, ho, hf⟩ := hrel
    by_cases hlt : k < pend.length
    · obtain ⟨x, Hx⟩ : ∃ X, Hid (pend[k] = X) := ⟨pend[k], (rfl : pend[k] = pend[k])⟩
      have hlX := hO.1 pend[k] (by simp)
      rw [Hx.out] at hlX
      obtain ⟨x1, pg⟩ := x
      have hpgl : Hid (pg.length = 256) := by show _ = _; simpa [encW, pgv_len] using hlX
      clear hlX
      obtain ⟨L, HL⟩ : ∃ L, Hid ((pend.take k).map (·.1) = L) := ⟨_, rfl⟩
      have hLl : Hid (L.length = k) := by show _ = _; rw [← HL.out]; simp; omega
      rw [HL.out] at ho
      obtain ⟨a5, c5, rfl⟩ := ho.opn
      have hnx : Hid ((pend.take (k + 1)).map (·.1) = L ++ [x1]) := by
        show _ = _
        rw [← HL.out, List.take_succ_eq_append_getElem hlt, List.map_append, Hx.out]; rfl
      have zf := hf.size
      go_wp2_with (first
        | (refine at_idx 64 _ _ rfl ?_; go_must (refine wpList_idxR rfl 64 _ _ rfl 74 Try.underlying64 257 pwrite_size _ _ _ rfl (hO.sl.fr0 hf) (by decide) _ _ k rfl rfl hlt ?_; rw [Hx.out]; intro ba oa hba hca))
        | (with_reducible refine at_wpP ?_; refine at_ld 74 _ rfl ?_; go_must (refine wpList_load_mid rfl 74 _ rfl ba oa rfl (encW (x1, pg)) _ (range_of fun j v hj => hca j v hj) punder_write rfl (by rw [pwrite_size, encW_len _ hpgl.out]) ?_))
        | (with_reducible refine at_wpP ?_; refine wpList_allocV rfl 74 rfl _ pzero_write ?_; intro g7 w6 hg7 b6 f6 s6; have o6 := ho.fr0 f6; have F6 := hf.thenN f6; have l7 := b6.lt)
        | (with_reducible refine at_wpP ?_; refine at_st 74 _ _ rfl ?_; go_must (refine wpList_storeV rfl 74 _ _ rfl g7 0 rfl (encW (x1, pg)) rfl _ _ b6 (by rw [pwrite_size, encW_len _ hpgl.out]) (by rw [encW_len _ hpgl.out, encW_len _ zeroP_len]; decide) (encW_one _) ?_; intro w7 b7 f7; rw [putAt_all _ _ (by rw [encW_len _ hpgl.out, encW_len _ zeroP_len])] at b7; have o7 := o6.ne f7 (fun k hk => by have := (ho.newB k hk).2; omega); have F7 := F6.thenT (S := noB) f7 (fun i hi q => by unfold onB1 at q; omega); obtain ⟨q1, _⟩ := b7.cell 0 _ rfl))
        | (with_reducible refine at_wpP ?_; refine wpList_mk1 (ec := en64) (sz := 1) rfl 56 _ rfl 3 Try.underlying56 _ info_int2 (by decide) (by decide) x1 _ rfl rfl rfl ?_; intro g8 w8 s8 f8 r8 t8; have o8 := o7.fr0 f8; have F8 := F7.thenN f8; have z8 := f8.size)
        | (at_builtin; go_must (refine wpList_appR (ec := en64) (sz := 1) rfl _ _ 56 rfl w.heap.size 3 _ 8 Try.underlying56 info_int rfl (by decide) _ L rfl o8 _ [x1] rfl s8 (by intro y hy u hu; simp at hu; subst hu; rfl) ?hr1 ?hr2 ?hr3 ?_; rotate_left 3; intro v9 w9 o9 hg9; have F9 := o8.grown F8 (Nat.le_refl _) hg9)))
      case hr1 => have := hLl.out; unfold maxLen; simp; omega
      case hr2 => have := hLl.out; simp; omega
      case hr3 => have := F8.size; omega
      go_roundw
      case rel => exact ⟨k + 1, by omega, by go_num, by rw [hnx.out]; exact o9, F9⟩
      case measure => simp [intOf]; omega
    · obtain rfl : k = pend.length := by omega
      go_wp2
      go_ret
      exact ⟨_, rfl, by rw [List.take_length] at ho; exact ho, hf⟩
end Go.Proofs.Ytejjfpdcmaefiaa
