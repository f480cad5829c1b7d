/- The document's disk: New. -/
import Derived.Test.YtejjfpdcmaefiaaP8
namespace Go.Proofs.Ytejjfpdcmaefiaa
open Go.RowKit Go.Proofs.U
set_option linter.unusedSimpArgs false
set_option linter.unusedVariables false

def newN (n : Int) : Nat := min n.toNat 244
theorem info_page2 : (Try.prog.info? 25).map (fun i => (i.zero, i.size)) = some (some (.agg (pgv zeroP).toArray), 256) := by kernel_rfl
theorem info_bool2 : (Try.prog.info? 4).map (fun i => (i.zero, i.size)) = some (some (.bool false), 1) := by kernel_rfl
theorem built_disk0 : Try.prog.built 39 [] = some (dkL (.slice none 0 0) (.slice none 0 0) (.slice none 0 0) false 0 false).toArray := by kernel_rfl

set_option maxRecDepth 100000 in
set_option maxHeartbeats 2000000 in
theorem rnew_any (n : Int) (hn : -9223372036854775808 ≤ n ∧ n ≤ 9223372036854775807) (w : World) :
    Calls Try.prog 17 #[.int .i64 n] w fun r w' => ∃ v1 v2, r = .returned (dkV v1 v2 (.slice none 0 0) false 0 false) ∧ SlPg w' v1 (List.replicate (newN n) zeroP) ∧ SlBo w' v2 (List.replicate (newN n) false) ∧ Fr noB w w' ∧ (∀ q, v1.ownBlock = some q → w.heap.size ≤ q ∧ q < w'.heap.size) ∧ (∀ q, v2.ownBlock = some q → w.heap.size ≤ q ∧ q < w'.heap.size) := by
  obtain ⟨Z, HZ⟩ : ∃ Z, Hid (zeroP = Z) := ⟨_, rfl⟩
  have hZl : Hid (Z.length = 256) := by show _ = _; rw [← HZ.out]; exact zeroP_len
  rw [HZ.out]
  go_enter Try.func17, Try.ntmps17
  go_wp2_with (first
    | (with_reducible refine at_wpP ?_; refine wpList_allocD rfl rfl ?_; intro g3 w3 hg3 b3 f3 s3; have e3 := b2.fr0 f3; have l3 := b3.lt; have F3 := f2.thenN f3)
    | (with_reducible refine at_wpP ?_; refine wpList_allocD rfl rfl ?_; intro g2 w2 hg2 b2 f2 s2; have l2 := b2.lt; have z2 := f2.size)
    | (with_reducible refine at_wpP ?_; refine at_st 39 _ _ rfl ?_; go_must (refine wpList_stD rfl _ _ rfl g3 rfl _ _ _ false 0 false rfl _ b3 rfl (isSl_mk _ _ _) (isSl_mk _ _ _) (isSl_mk _ _ _) ?_; intro w4 b4 f4; have e4 := e3.ne f4 (by omega); have F4 := F3.thenT (S := noB) f4 (fun i hi q => by unfold onB1 at q; omega))))
  go_loopw [4] (fun i wr => ∃ (k : Nat) (v1 v2 : Value), (k : Int) ≤ max n 0 ∧ k ≤ 244 ∧ i = .int .i64 (k : Int) ∧ OwnR pgv 256 25 wr w4.heap.size v1 (List.replicate k Z) ∧ OwnR encB 1 4 wr w4.heap.size v2 (List.replicate k false) ∧ BxV wr g3 39 (dkL v1 v2 (.slice none 0 0) false 0 false) ∧ BxV wr g2 39 (dkL (.slice none 0 0) (.slice none 0 0) (.slice none 0 0) false 0 false) ∧ Fr noB w wr ∧ w4.heap.size ≤ wr.heap.size) (fun i _ => 244 - (intOf i).toNat)
  case atStart => exact ⟨0, .slice none 0 0, .slice none 0 0, by omega, by omega, rfl, OwnR.none _ _, OwnR.none _ _, b4, e4, F4, Nat.le_refl _⟩
  case round =>
    obtain ⟨k, v1, v2, hk1, hk2, rfl, o1, o2, hb, he, hf, hz⟩ := hrel
    have hlb := hb.lt
    have hle := he.lt
    have m2 := b4.lt
    have m3 := e4.lt
    obtain ⟨P1, HP1⟩ : ∃ Y, Hid (List.replicate k Z = Y) := ⟨_, rfl⟩
    obtain ⟨P2, HP2⟩ : ∃ Y, Hid (List.replicate k false = Y) := ⟨_, rfl⟩
    have hP1 : Hid (P1.length = k) := by show _ = _; rw [← HP1.out, List.length_replicate]
    have hP2 : Hid (P2.length = k) := by show _ = _; rw [← HP2.out, List.length_replicate]
    rw [HP1.out] at o1
    rw [HP2.out] at o2
    obtain ⟨a1, c1, rfl⟩ := o1.opn
    obtain ⟨a2, c2, rfl⟩ := o2.opn
    obtain ⟨k0, k1, k2, k3, k4, k5⟩ := hb.six
    by_cases hlt : (k : Int) < n ∧ k < 244
    · have d1 : (k : Int) < n := hlt.1
      have d2 : (k : Int) < 244 := by omega
      go_wp2_with (first
        | (with_reducible refine at_wpP ?_; refine wpList_buildP rfl rfl ?_; rw [HZ.out])
        | (with_reducible refine at_wpP ?_; refine wpList_mk1 (ec := pgv) (sz := 256) rfl 35 _ rfl 25 Try.underlying35 _ info_page2 (by decide) (by decide) Z _ rfl rfl (by rw [pgv_len, hZl.out]) ?_; intro g5 w5 s5 f5 r5 t5; have p1 := o1.fr0 f5; have p2 := o2.fr0 f5; have b5 := hb.fr0 f5; have e5 := he.fr0 f5; have F5 := hf.thenN f5; have z5 := f5.size)
        | (at_builtin; have x2' := x2; go_must (refine wpList_appR (ec := encB) (sz := 1) rfl _ _ 36 rfl w4.heap.size 4 _ 1 Try.underlying36 info_bool rfl (by decide) _ P2 rfl x2 _ [false] rfl s8 (by intro y hy u hu; simp at hu; subst hu; rfl) ?hr1 ?hr2 ?hr3 ?_; rotate_left 3; intro v9 w9 o9 hg9; have hg9 : w8.grownBy w9 (Value.slice a2 P2.length c2).ownBlock := hg9; have f9 : Fr (fun q => (Value.slice a2 P2.length c2).ownBlock = some q) w8 w9 := (Fr.refl _ _).grown hg9 (fun k hk _ => hk); have b9 := b8.fr f9 (fun q => by have := (x2.newB g3 q).1; omega); have e9 := e8.fr f9 (fun q => by have := (x2.newB g2 q).1; omega); have y1 := o8.fr f9 (fun q hq hq' => o8.apart x2 (by decide) q hq hq'); have F9 := F8.thenT (S := noB) f9 (fun k hk q => by have := (x2.newB k q).1; omega); have z9 := f9.size; obtain ⟨X2, HX2⟩ : ∃ X, Hid (P2 ++ [false] = X) := ⟨_, rfl⟩; rw [HX2.out] at o9; obtain ⟨a9, c9, rfl⟩ := o9.opn))
        | (at_builtin; go_must (refine wpList_appR (ec := pgv) (sz := 256) rfl _ _ 35 rfl w4.heap.size 25 _ 256 Try.underlying35 info_page (by simp [Value.cells, pgv_len, zeroP_len]) (by decide) _ P1 rfl p1 _ [Z] rfl s5 (by intro y hy u hu; exact pgv_one y u hu) ?hq1 ?hq2 ?hq3 ?_; rotate_left 3; intro v6 w6 o6 hg6; have hg6 : w5.grownBy w6 (Value.slice a1 P1.length c1).ownBlock := hg6; have f6 : Fr (fun q => (Value.slice a1 P1.length c1).ownBlock = some q) w5 w6 := (Fr.refl _ _).grown hg6 (fun k hk _ => hk); have b6 := b5.fr f6 (fun q => by have := (p1.newB g3 q).1; omega); have e6 := e5.fr f6 (fun q => by have := (p1.newB g2 q).1; omega); have q2 := p2.fr f6 (fun q hq hq' => p1.apart p2 (by decide) q hq' hq); have F6 := F5.thenT (S := noB) f6 (fun k hk q => by have := (p1.newB k q).1; omega); have z6 := f6.size; obtain ⟨X1, HX1⟩ : ∃ X, Hid (P1 ++ [Z] = X) := ⟨_, rfl⟩; rw [HX1.out] at o6; obtain ⟨a6, c6, rfl⟩ := o6.opn))
        | (with_reducible refine at_wpP ?_; refine at_st 35 _ _ rfl ?_; go_must (refine wpList_store1 rfl 35 _ _ rfl g3 0 rfl (.slice a6 X1.length c6) rfl rfl _ _ b6 size_spage (by simp) ?_; intro w7 b7 f7; have b7 : BxV w7 g3 39 (dkL (.slice a6 X1.length c6) (.slice a2 P2.length c2) (.slice none 0 0) false 0 false) := (by simpa using b7); have e7 := e6.ne f7 (by omega); have o7 := o6.ne f7 (fun k hk => by have := (o6.newB k hk).1; omega); have r2 := q2.ne f7 (fun k hk => by have := (q2.newB k hk).1; omega); have F7 := F6.thenT (S := noB) f7 (fun i hi q => by unfold onB1 at q; omega); have z7 := f7.size; obtain ⟨k0, k1, k2, k3, k4, k5⟩ := b7.six))
        | (with_reducible refine at_wpP ?_; refine wpList_mk1 (ec := encB) (sz := 1) rfl 36 _ rfl 4 Try.underlying36 _ info_bool2 (by decide) (by decide) false _ rfl rfl rfl ?_; intro g8 w8 s8 f8 r8 t8; have o8 := o7.fr0 f8; have x2 := r2.fr0 f8; have b8 := b7.fr0 f8; have e8 := e7.fr0 f8; have F8 := F7.thenN f8; have z8 := f8.size)
        | (with_reducible refine at_wpP ?_; refine at_st 36 _ _ rfl ?_; go_must (refine wpList_store1 rfl 36 _ _ rfl g3 1 rfl (.slice a9 X2.length c9) rfl rfl _ _ b9 size_sbool (by simp) ?_; intro w10 b10 f10; have b10 : BxV w10 g3 39 (dkL (.slice a6 X1.length c6) (.slice a9 X2.length c9) (.slice none 0 0) false 0 false) := (by simpa using b10); have e10 := e9.ne f10 (by omega); have y2 := y1.ne f10 (fun k hk => by have := (y1.newB k hk).1; omega); have y3 := o9.ne f10 (fun k hk => by have := (o9.newB k hk).1; omega); have F10 := F9.thenT (S := noB) f10 (fun i hi q => by unfold onB1 at q; omega); have z10 := f10.size)))
      case hq1 => have := hP1.out; unfold maxLen; simp; omega
      case hq2 => have := hP1.out; simp; omega
      case hq3 => omega
      case hr1 => have := hP2.out; unfold maxLen; simp; omega
      case hr2 => have := hP2.out; simp; omega
      case hr3 => omega
      have y2' : OwnR pgv 256 25 w10 w4.heap.size (.slice a6 X1.length c6) (List.replicate (k + 1) Z) := by rw [List.replicate_succ', HP1.out, HX1.out]; exact y2
      have y3' : OwnR encB 1 4 w10 w4.heap.size (.slice a9 X2.length c9) (List.replicate (k + 1) false) := by rw [List.replicate_succ', HP2.out, HX2.out]; exact y3
      go_roundw
      case rel => exact ⟨k + 1, _, _, by omega, by omega, by go_num, y2', y3', b10, e10, F10, by omega⟩
      case measure => simp [intOf]; omega
    · have hkn : k = newN n := by unfold newN; omega
      by_cases d1 : (k : Int) < n
      · have d2 : ¬ (k : Int) < 244 := by omega
        go_wp2_with (first
          | (with_reducible refine at_wpP ?_; refine wpList_ldD rfl _ rfl g3 rfl _ _ _ false 0 false hb ?_)
          | (with_reducible refine at_wpP ?_; refine at_st 39 _ _ rfl ?_; go_must (refine wpList_stD rfl _ _ rfl g2 rfl _ _ _ false 0 false rfl _ he rfl (isSl_mk _ _ _) (isSl_mk _ _ _) (isSl_mk _ _ _) ?_; intro w8 b8 f8)))
        have F8 := hf.thenT (S := noB) f8 (fun i hi q => by unfold onB1 at q; omega)
        refine bodyPost_ret (v := dkV _ _ (.slice none 0 0) false 0 false) (results_disk1 Try.results17 _ w8 g2 _ _ _ false 0 false rfl b8) rfl ⟨_, _, rfl, ?_, ?_, F8, fun q h => by have := o1.newB q h; have := F4.size; have := f8.size; omega, fun q h => by have := o2.newB q h; have := F4.size; have := f8.size; omega⟩
        · rw [← hkn, HP1.out]; exact (o1.ne f8 (fun k hk => by have := (o1.newB k hk).1; omega)).sl
        · rw [← hkn, HP2.out]; exact (o2.ne f8 (fun k hk => by have := (o2.newB k hk).1; omega)).sl
      · go_wp2_with (first
          | (with_reducible refine at_wpP ?_; refine wpList_ldD rfl _ rfl g3 rfl _ _ _ false 0 false hb ?_)
          | (with_reducible refine at_wpP ?_; refine at_st 39 _ _ rfl ?_; go_must (refine wpList_stD rfl _ _ rfl g2 rfl _ _ _ false 0 false rfl _ he rfl (isSl_mk _ _ _) (isSl_mk _ _ _) (isSl_mk _ _ _) ?_; intro w8 b8 f8)))
        have F8 := hf.thenT (S := noB) f8 (fun i hi q => by unfold onB1 at q; omega)
        refine bodyPost_ret (v := dkV _ _ (.slice none 0 0) false 0 false) (results_disk1 Try.results17 _ w8 g2 _ _ _ false 0 false rfl b8) rfl ⟨_, _, rfl, ?_, ?_, F8, fun q h => by have := o1.newB q h; have := F4.size; have := f8.size; omega, fun q h => by have := o2.newB q h; have := F4.size; have := f8.size; omega⟩
        · rw [← hkn, HP1.out]; exact (o1.ne f8 (fun k hk => by have := (o1.newB k hk).1; omega)).sl
        · rw [← hkn, HP2.out]; exact (o2.ne f8 (fun k hk => by have := (o2.newB k hk).1; omega)).sl
end Go.Proofs.Ytejjfpdcmaefiaa
