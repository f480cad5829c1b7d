/- The walk of EndsRuns: it answers true for every bytes and every list of acts. -/
import Derived.Test.YtffdgbimpodopaaR4
import Derived.Test.YtffdgbimpodopaaB5a
import Derived.Test.YtffdgbimpodopaaOpenP
namespace Go.Proofs.Ytffdgbimpodopaa
open Go.RowKit Go.Proofs.U

theorem act_size : (Try.prog.info? 40).map (·.size) = some 2 := by kernel_rfl

theorem conv_run {w : World} {v : Value} {l : List Int} (hS : SlI .u8 w v l) : (convert 22 9 v).run Try.prog w = .ok (.string (strOfNums l)) w := by
  obtain ⟨⟨ao, cap, rfl, hcap, hlen, hnone, hsome⟩, hwf⟩ := hS
  cases ao with
  | none =>
    obtain rfl := hnone rfl
    obtain rfl : l = [] := List.eq_nil_of_length_eq_zero (by omega)
    rw [run_convert_bytes_nil (P := Try.prog) w 22 5 Try.underlying22 Try.underlying5 _ _ 9 Try.underlying9]; rfl
  | some ad =>
    have hcell := hsome _ rfl
    by_cases hl0 : l.length = 0
    · obtain rfl : l = [] := List.eq_nil_of_length_eq_zero hl0
      have hl : (loadCells ad 0).run Try.prog w = .ok #[] w := by simpa using run_loadCells_list (P := Try.prog) w ad [] (by simp)
      rw [run_convert_bytes_string w 22 9 5 _ _ cap Try.underlying22 Try.underlying5 Try.underlying9]
      exact run_bytesToString w ad 0 cap [] hl
    obtain ⟨b, off, sp⟩ := ad
    have hsp : sp = none := by
      have := hcell 0 _ (List.getElem?_eq_getElem (by simp; omega))
      simpa [Addr.add] using World.cell?_spot this
    subst hsp
    refine run_convert_bytes_arg (P := Try.prog) w 22 5 Try.underlying22 Try.underlying5 b off l.length cap l rfl ?_ 9 Try.underlying9
    intro i hi
    have := hcell i (.int .u8 (l.getD i 0)) (by simp [List.getD, hi])
    rwa [Addr.plain] at this

theorem heap_set3 {w : World} {B : Nat} {x y z : Value} {T : TypeId} (h : w.heap[B]? = some (.cells #[x, y, z] T (0, 0))) (x' y' z' : Value) (o : Obj) :
    ((((w.setCell ⟨B, 0, none⟩ x').setCell ⟨B, 1, none⟩ y').setCell ⟨B, 2, none⟩ z').alloc o).heap[B]? = some (.cells #[x', y', z'] T (0, 0)) := by
  have hlt : B < w.heap.size := (Array.getElem?_eq_some_iff.1 h).1
  rw [Below.heap_alloc _ _ _ (by simpa [World.setCell] using hlt)]
  simp [World.setCell, Array.getElem?_modify, h]
theorem fr_set3 (w : World) (B : Nat) (x' y' z' : Value) (o : Obj) : Fr (onB B) w ((((w.setCell ⟨B, 0, none⟩ x').setCell ⟨B, 1, none⟩ y').setCell ⟨B, 2, none⟩ z').alloc o) :=
  ((((Fr.refl (onB B) w).setCell ⟨B, 0, none⟩ _ (fun _ => rfl)).setCell ⟨B, 1, none⟩ _ (fun _ => rfl)).setCell ⟨B, 2, none⟩ _ (fun _ => rfl)).alloc _

set_option maxRecDepth 100000 in
set_option maxHeartbeats 2000000 in
theorem runs_walk (vs : Value) (bs : List Int) (va : Value) (acts : List (Int × Int)) (w : World) (hb : SlI .u8 w vs bs) (ha : SlP .i64 .i64 w va acts) :
    Calls Try.prog 5 #[vs, va] w fun e w' => e = .returned (.bool true) ∧ Below w.heap.size w w' := by
  obtain ⟨a1, c1, rfl, hc1⟩ := hb.opn
  obtain ⟨a2, c2, rfl, hc2⟩ := ha.1.opn
  by_cases hA : (500 : Int) < (bs.length : Int)
  · go_enter Try.func5, Try.ntmps5
    go_wp2_with (go_at_call 11; go_must (refine (alive_any _).mono ?_; rintro e w1 ⟨rfl, hf1⟩))
    go_ret
    exact ⟨rfl, hf1.below⟩
  by_cases hB : (100 : Int) < (acts.length : Int)
  · go_enter Try.func5, Try.ntmps5
    go_wp2_with (go_at_call 11; go_must (refine (alive_any _).mono ?_; rintro e w1 ⟨rfl, hf1⟩))
    go_ret
    exact ⟨rfl, hf1.below⟩
  go_enter Try.func5, Try.ntmps5
  go_wp2_with (first
    | (go_at_call 11; go_must (refine (alive_any _).mono ?_; rintro e w1 ⟨rfl, hf1⟩))
    | (at_builtin; go_must (refine wpList_app rfl _ _ 22 rfl w1.heap.size 5 _ 1 1 Try.underlying22 info5 rfl (by decide) _ _ _ rfl (World.ownsRow_made _ #[] 0 (Nat.le_refl _) (Nat.zero_le _) rfl) _ _ _ rfl (hb.1.fr0 (hf1.alloc _)) (ones _ _) ?hq1 ?hq2 ?hq3 ?_; rotate_left 3; intro v2 w2 hown2 hgr2; have hf2 := ((Fr.refl noB w1).alloc _).grown hgr2 (owns_new (World.ownsRow_made (e := 5) (size := 1) w1 #[] 0 (Nat.le_refl _) (Nat.zero_le _) rfl)); have o2 : OwnI .u8 5 w2 w1.heap.size v2 bs := OwnI.mk bs hown2 (by simp); obtain ⟨a3, c3, rfl⟩ := o2.opn))
    | (go_at_call 10; go_must (refine (new_any _ bs _ (o2.sl hb.2) (by omega)).mono ?_; rintro e w3 ⟨b, vb, rfl, hbb, hvb, hr3, hf3⟩)))
  case hq1 => unfold maxLen; omega
  case hq2 => omega
  case hq3 => simp
  have g2 := hf1.thenN hf2
  have g3 := g2.thenN hf3
  have o3 := o2.fr hf3 (fun _ _ q => q)
  have hbw : w2.heap.size ≤ b := hbb
  have hbw2 : w.heap.size ≤ b := Nat.le_trans g2.size hbb
  clear hown2 hgr2
  have hg3 : 0 < bs.length → ∃ g, a3 = some ⟨g, 0, none⟩ ∧ w1.heap.size ≤ g ∧ g < w2.heap.size := by
    intro h
    obtain ⟨g, cp, cur, hv, hbase, hh, _⟩ := o2.some h
    cases hv
    exact ⟨g, rfl, hbase, (Array.getElem?_eq_some_iff.1 hh).1⟩
  go_loopw [33] (fun i wr => ∃ (k : Nat) (l' : List Int), k ≤ bs.length ∧ i = .int .i64 k ∧ l'.length = bs.length ∧ OwnI .u8 5 wr w1.heap.size (.slice a3 bs.length c3) l' ∧ Rd wr b vb bs 0 false ∧ Fr noB w wr) (fun i _ => bs.length - (intOf i).toNat)
  case atStart => exact ⟨0, bs, Nat.zero_le _, rfl, rfl, o3, hr3, g3⟩
  case round =>
    obtain ⟨k, l', hk, rfl, hl', ho, hr, hg⟩ := hrel
    by_cases hlt : k < bs.length
    · obtain ⟨gb, hv, hb1, hb2⟩ := hg3 (by omega)
      subst hv
      obtain ⟨q0, q1⟩ := ho.cellK k (by omega)
      have hkg := ho.setK k (by omega)
      have hfs : ∀ u, Fr (onB gb) wr (wr.setCell ⟨gb, k, none⟩ u) := fun u => (Fr.refl _ _).setCell ⟨gb, k, none⟩ _ (fun _ => rfl)
      go_wp2_with fail
      go_roundw
      case rel => exact ⟨k + 1, _, by omega, by go_num, by rw [List.length_set]; exact hl', hkg _, hr.fr (hfs _) (fun q => by unfold onB at q; omega) (fun j hj q => by have := hvb j hj; unfold onB at q; omega), hg.setCell _ _ (fun h => by have := hf1.size; simp at h; omega)⟩
      case measure => simp [intOf]; omega
    · go_wp2_with fail
      clear hk hlt hl' ho hg3 o3 o2
      have hbl : b < wr.heap.size := World.block_lt_of_cell? wr _ hr.1
      obtain ⟨B, HB⟩ : ∃ B, Hid (B = wr.heap.size) := ⟨_, rfl⟩
      have hbB : b ≠ B := by rw [HB.out]; omega
      have hwB : w.heap.size ≤ B := by rw [HB.out]; exact hg.size
      obtain ⟨W0, hW0⟩ : ∃ W0, wr.alloc (.cells #[.slice a1 bs.length c1, .int .i64 0, .bool false] 38) = W0 := ⟨_, rfl⟩
      have hbox : W0.heap[B]? = some (.cells #[.slice a1 bs.length c1, .int .i64 0, .bool false] 38 (0, 0)) := by rw [← hW0, HB.out]; exact World.alloc_heap_new _ _
      have hr0 : Rd W0 b vb bs 0 false := by rw [← hW0]; exact hr.fr0 ((Fr.refl _ _).alloc _)
      have hg0 : Fr noB w W0 := by rw [← hW0]; exact hg.alloc _
      rw [hW0, ← HB.out]
      have hvB : ∀ k, vb.ownBlock = some k → k ≠ B := fun k hk => by have := (hr.2.2.2.2.2.1 k hk).2; rw [HB.out]; omega
      clear hW0 hr hg hbl
      go_loopw [47] (fun i wq => ∃ (k t : Nat) (f : Bool), k ≤ acts.length ∧ i = .int .i64 k ∧ t ≤ bs.length ∧ Rd wq b vb bs t f ∧ Hid (wq.heap[B]? = some (.cells #[.slice a1 bs.length c1, .int .i64 t, .bool f] 38 (0, 0))) ∧ Fr noB w wq) (fun i _ => acts.length - (intOf i).toNat)
      case atStart => exact ⟨0, 0, false, Nat.zero_le _, rfl, Nat.zero_le _, hr0, hbox, hg0⟩
      case round =>
        obtain ⟨k, t, f, hk, rfl, ht, hr, hbx, hg⟩ := hrel
        by_cases hlt : k < acts.length
        · have hA := ha.1.fr0 hg
          obtain ⟨b00, b01, b02, b03, b04, b05⟩ := box3 hbx.out
          obtain ⟨x, HX⟩ : ∃ x, Hid (x = acts[k]) := ⟨acts[k], rfl⟩
          have hBl : B < wr.heap.size := (Array.getElem?_eq_some_iff.1 hbx.out).1
          by_cases h0 : (x.1 == 0) = true
          · go_wp2_with (first
              | (refine at_idx 36 _ _ rfl ?_; go_must (refine wpList_idxR rfl 36 _ _ rfl 40 Try.underlying36 2 act_size _ _ _ rfl hA (by decide) _ _ k rfl rfl hlt ?_; rw [← HX.out]; intro ba oa hba hca; have p0 := hca 0 _ rfl; have p1 := hca 1 _ rfl; rw [Nat.add_zero] at p0; clear hca)))
            have fA : Fr noB wr (wr.alloc (.cells #[.int .i64 x.1, .int .i64 x.2] 40)) := (Fr.refl _ _).alloc _
            refine (rnum_any _ bs t f x.2 _ (hb.fr0 (hg.thenN fA)) ht (by omega)).mono ?_
            rintro e w4 ⟨rfl, hf4⟩
            have g4 := fA.thenN hf4
            have hnum := num_any b vb bs t f x.2
            have hr4 := hr.fr0 g4
            obtain ⟨c00, c01, c02, c03, c04, c05⟩ := box3 ((g4.block B hBl (fun q => q)).trans hbx.out)
            have d1 : w4.cell? ⟨wr.heap.size, 1, none⟩ = some (.int .i64 x.2) := hf4.cell (p := ⟨wr.heap.size, 1, none⟩) (by simp) (fun q => q)
            have hs4 := hf4.size
            rw [World.size_alloc] at hs4
            have hB4 : B < w4.heap.size := by omega
            have hA4 : wr.heap.size < w4.heap.size := by omega
            generalize hT : nmT bs t f x.2 = t' at *
            generalize hF : nmF bs t f x.2 = f' at *
            generalize hV : nmV bs t f x.2 = v' at *
            have Hnum := Hid.mk hnum
            clear hT hF hV hnum
            go_wp2_with fail
            have hf5 := fr_set3 w4 B (.slice a1 bs.length c1) (.int .i64 t') (.bool f') (.cells #[.slice a1 bs.length c1, .int .i64 t', .bool f'] 38)
            have hb5 := heap_set3 ((g4.block B hBl (fun q => q)).trans hbx.out) (.slice a1 bs.length c1) (.int .i64 t') (.bool f') (.cells #[.slice a1 bs.length c1, .int .i64 t', .bool f'] 38)
            generalize ((((w4.setCell ⟨B, 0, none⟩ (.slice a1 bs.length c1)).setCell ⟨B, 1, none⟩ (.int .i64 t')).setCell ⟨B, 2, none⟩ (.bool f')).alloc (.cells #[.slice a1 bs.length c1, .int .i64 t', .bool f'] 38)) = W5 at *
            have hr5 := hr4.fr hf5 hbB hvB
            refine (Hnum.out W5 hr5).mono ?_
            rintro e w6 ⟨rfl, hr6, hf6⟩
            have hb6 := (hf6.block B (Array.getElem?_eq_some_iff.1 hb5).1 (fun q => hbB q.symm)).trans hb5
            have g6 : Fr noB w w6 := (((hg.thenN g4).thenT hf5 (fun i hi q => by unfold onB at q; omega)).thenT hf6 (fun i hi q => by unfold onB at q; omega))
            clear b00 b01 b02 b03 b04 b05 c00 c01 c02 c03 c04 c05 p0 p1 d1 Hnum
            obtain ⟨c00, c01, c02, c03, c04, c05⟩ := box3 hb6
            have ht' : t' ≤ bs.length := hr6.2.2.2.2.2.2.1
            have hL1 : (((bs.length - t' : Nat) : Int) != (bs.length : Int) - (t' : Int)) = false := by simp; omega
            cases f' with
            | true =>
              go_wp2_with fail
              go_quiet ((first | (go_at_call 14; exact Calls.quiet_of (left_q b vb bs t' true _ (hr6.q _))) | (go_at_call 13; exact Calls.quiet_of (failed_q b vb bs t' true _ (hr6.q _))) | (go_at_call 15; exact Calls.quiet_of (ended_q b vb bs t' true _ (hr6.q _)))))
              go_wp2_with fail
              go_roundw
              case rel => exact ⟨k + 1, t', true, by omega, by go_num, ht', hr6.q _, hb6, g6.drewN _⟩
              case measure => simp [intOf]; omega
            | false =>
              by_cases hz : bs.length = t'
              · have hz1 : ((bs.length : Int) - (t' : Int) == 0) = true := by simp; omega
                have hz2 : (decide (bs.length = t') && !false) = true := by simp [hz]
                have hen := ended_q b vb bs t' false
                rw [hz2] at hen
                have Hen := Hid.mk hen
                clear hen hz hz2
                go_wp2_with fail
                go_quiet ((first | (go_at_call 14; exact Calls.quiet_of (left_q b vb bs t' false _ (hr6.q _))) | (go_at_call 13; exact Calls.quiet_of (failed_q b vb bs t' false _ (hr6.q _))) | (go_at_call 15; exact Calls.quiet_of (Hen.out _ (hr6.q _)))))
                go_wp2_with fail
                go_roundw
                case rel => exact ⟨k + 1, t', false, by omega, by go_num, ht', hr6.q _, hb6, g6.drewN _⟩
                case measure => simp [intOf]; omega
              · have hz1 : ((bs.length : Int) - (t' : Int) == 0) = false := by simp; omega
                have hz2 : (decide (bs.length = t') && !false) = false := by simp [hz]
                have hen := ended_q b vb bs t' false
                rw [hz2] at hen
                have Hen := Hid.mk hen
                clear hen hz hz2
                go_wp2_with fail
                go_quiet ((first | (go_at_call 14; exact Calls.quiet_of (left_q b vb bs t' false _ (hr6.q _))) | (go_at_call 13; exact Calls.quiet_of (failed_q b vb bs t' false _ (hr6.q _))) | (go_at_call 15; exact Calls.quiet_of (Hen.out _ (hr6.q _)))))
                go_wp2_with fail
                go_roundw
                case rel => exact ⟨k + 1, t', false, by omega, by go_num, ht', hr6.q _, hb6, g6.drewN _⟩
                case measure => simp [intOf]; omega
          · skip
            have h0' : (x.1 == 0) = false := by simpa using h0
            clear h0
            by_cases h1 : (x.1 == 1) = true
            · go_wp2_with (first
                | (refine at_idx 36 _ _ rfl ?_; go_must (refine wpList_idxR rfl 36 _ _ rfl 40 Try.underlying36 2 act_size _ _ _ rfl hA (by decide) _ _ k rfl rfl hlt ?_; rw [← HX.out]; intro ba oa hba hca; have p0 := hca 0 _ rfl; have p1 := hca 1 _ rfl; rw [Nat.add_zero] at p0; clear hca)))
              have fA : Fr noB wr (wr.alloc (.cells #[.int .i64 x.1, .int .i64 x.2] 40)) := (Fr.refl _ _).alloc _
              refine (rtake_any _ bs t f x.2 _ (hb.fr0 (hg.thenN fA)) ht (by omega)).mono ?_
              rintro e w4 ⟨v4, rfl, ho4, hf4⟩
              obtain ⟨a4, c4, rfl⟩ := ho4.opn
              have g4 := fA.thenN hf4
              have htk := take_any b vb bs t f x.2
              have hwL : ∀ n ∈ tkL bs t f x.2, (Lit.int .u8 n).wf = true := by
                unfold tkL; split
                · exact fun n hn => hb.2 n (List.mem_of_mem_drop (List.mem_of_mem_take hn))
                · simp
              have s4 := ho4.sl hwL
              have hn4 := ho4.newB
              have hr4 := hr.fr0 g4
              obtain ⟨c00, c01, c02, c03, c04, c05⟩ := box3 ((g4.block B hBl (fun q => q)).trans hbx.out)
              have d1 : w4.cell? ⟨wr.heap.size, 1, none⟩ = some (.int .i64 x.2) := hf4.cell (p := ⟨wr.heap.size, 1, none⟩) (by simp) (fun q => q)
              have hs4 := hf4.size
              rw [World.size_alloc] at hs4 hn4
              have hB4 : B < w4.heap.size := by omega
              have hA4 : wr.heap.size < w4.heap.size := by omega
              generalize hT : tkT bs t f x.2 = t' at *
              generalize hF : tkF bs t f x.2 = f' at *
              generalize hV : tkL bs t f x.2 = L at *
              have Htk := Hid.mk htk
              clear hT hF hV htk
              go_wp2_with fail
              have hf5 := fr_set3 w4 B (.slice a1 bs.length c1) (.int .i64 t') (.bool f') (.cells #[.slice a1 bs.length c1, .int .i64 t', .bool f'] 38)
              have hb5 := heap_set3 ((g4.block B hBl (fun q => q)).trans hbx.out) (.slice a1 bs.length c1) (.int .i64 t') (.bool f') (.cells #[.slice a1 bs.length c1, .int .i64 t', .bool f'] 38)
              generalize ((((w4.setCell ⟨B, 0, none⟩ (.slice a1 bs.length c1)).setCell ⟨B, 1, none⟩ (.int .i64 t')).setCell ⟨B, 2, none⟩ (.bool f')).alloc (.cells #[.slice a1 bs.length c1, .int .i64 t', .bool f'] 38)) = W5 at *
              have hr5 := (hr4.fr hf5 hbB hvB).fr0 (Fr.refl _ _).drew
              have s5 := s4.fr hf5 (fun j hj q => by have := (hn4 j hj).1; unfold onB at q; omega)
              have d5 := hf5.cell d1 (fun q => by unfold onB at q; simp at q; omega)
              have hbW5 : b < wr.heap.size := World.block_lt_of_cell? wr _ hr.1
              have hcvB : (convert 22 9 (.slice a4 L.length c4)).run Try.prog W5.drew = .ok (.string (strOfNums L)) W5.drew := conv_run (s5.fr0 (Fr.refl _ _).drew)
              clear b00 b01 b02 b03 b04 b05 c00 c01 c02 c03 c04 c05 p0 p1 d1
              go_region_with (go_at_call 19; refine (Htk.out W5.drew hr5).mono ?_; rintro e w6 ⟨v6, rfl, ho6, hr6, hf6⟩; obtain ⟨a6, c6, rfl⟩ := ho6.opn; have hcvA := conv_run (ho6.sl hwL); have hcvC := conv_run ((s5.fr0 (Fr.refl _ _).drew).fr hf6 (fun j hj q => by have := (hn4 j hj).1; unfold onB at q; omega)))
              all_goals
                have hb6 := (hf6.block B (Array.getElem?_eq_some_iff.1 hb5).1 (fun q => hbB q.symm)).trans hb5
                have g6 : Fr noB w w6 := ((((hg.thenN g4).thenT hf5 (fun i hi q => by unfold onB at q; omega))).drew).thenT hf6 (fun i hi q => by unfold onB at q; omega)
                obtain ⟨c00, c01, c02, c03, c04, c05⟩ := box3 hb6
                clear hcvA hcvB hcvC
                have ht' : t' ≤ bs.length := hr6.2.2.2.2.2.2.1
                have hL1 : (((bs.length - t' : Nat) : Int) != (bs.length : Int) - (t' : Int)) = false := by simp; omega
                cases f' with
                | true =>
                  go_wp2_with fail
                  go_quiet ((first | (go_at_call 14; exact Calls.quiet_of (left_q b vb bs t' true _ (hr6.q _))) | (go_at_call 13; exact Calls.quiet_of (failed_q b vb bs t' true _ (hr6.q _))) | (go_at_call 15; exact Calls.quiet_of (ended_q b vb bs t' true _ (hr6.q _)))))
                  go_wp2_with fail
                  go_roundw
                  case rel => exact ⟨k + 1, t', true, by omega, by go_num, ht', hr6.q _, hb6, g6.drewN _⟩
                  case measure => simp [intOf]; omega
                | false =>
                  by_cases hz : bs.length = t'
                  · have hz1 : ((bs.length : Int) - (t' : Int) == 0) = true := by simp; omega
                    have hz2 : (decide (bs.length = t') && !false) = true := by simp [hz]
                    have hen := ended_q b vb bs t' false
                    rw [hz2] at hen
                    have Hen := Hid.mk hen
                    clear hen hz hz2
                    go_wp2_with fail
                    go_quiet ((first | (go_at_call 14; exact Calls.quiet_of (left_q b vb bs t' false _ (hr6.q _))) | (go_at_call 13; exact Calls.quiet_of (failed_q b vb bs t' false _ (hr6.q _))) | (go_at_call 15; exact Calls.quiet_of (Hen.out _ (hr6.q _)))))
                    go_wp2_with fail
                    go_roundw
                    case rel => exact ⟨k + 1, t', false, by omega, by go_num, ht', hr6.q _, hb6, g6.drewN _⟩
                    case measure => simp [intOf]; omega
                  · have hz1 : ((bs.length : Int) - (t' : Int) == 0) = false := by simp; omega
                    have hz2 : (decide (bs.length = t') && !false) = false := by simp [hz]
                    have hen := ended_q b vb bs t' false
                    rw [hz2] at hen
                    have Hen := Hid.mk hen
                    clear hen hz hz2
                    go_wp2_with fail
                    go_quiet ((first | (go_at_call 14; exact Calls.quiet_of (left_q b vb bs t' false _ (hr6.q _))) | (go_at_call 13; exact Calls.quiet_of (failed_q b vb bs t' false _ (hr6.q _))) | (go_at_call 15; exact Calls.quiet_of (Hen.out _ (hr6.q _)))))
                    go_wp2_with fail
                    go_roundw
                    case rel => exact ⟨k + 1, t', false, by omega, by go_num, ht', hr6.q _, hb6, g6.drewN _⟩
                    case measure => simp [intOf]; omega
            · have h1' : (x.1 == 1) = false := by simpa using h1
              clear h1
              go_wp2_with (first
                | (refine at_idx 36 _ _ rfl ?_; go_must (refine wpList_idxR rfl 36 _ _ rfl 40 Try.underlying36 2 act_size _ _ _ rfl hA (by decide) _ _ k rfl rfl hlt ?_; rw [← HX.out]; intro ba oa hba hca; have p0 := hca 0 _ rfl; have p1 := hca 1 _ rfl; rw [Nat.add_zero] at p0; clear hca)))
              have hB4 : B < wr.heap.size := hBl
              have fA : Fr noB wr (wr.alloc (.cells #[.int .i64 x.1, .int .i64 x.2] 40)) := (Fr.refl _ _).alloc _
              have hr6 := hr.fr0 fA
              have hb6 := (fA.block B hBl (fun q => q)).trans hbx.out
              have g6 := hg.thenN fA
              clear b00 b01 b02 b03 b04 b05 p0 p1
              obtain ⟨c00, c01, c02, c03, c04, c05⟩ := box3 hb6
              generalize wr.alloc (.cells #[.int .i64 x.1, .int .i64 x.2] 40) = w6 at *
              have hL1 : (((bs.length - t : Nat) : Int) != (bs.length : Int) - (t : Int)) = false := by simp; omega
              cases f with
              | true =>
                go_wp2_with fail
                go_quiet ((first | (go_at_call 14; exact Calls.quiet_of (left_q b vb bs t true _ (hr6.q _))) | (go_at_call 13; exact Calls.quiet_of (failed_q b vb bs t true _ (hr6.q _))) | (go_at_call 15; exact Calls.quiet_of (ended_q b vb bs t true _ (hr6.q _)))))
                go_wp2_with fail
                go_roundw
                case rel => exact ⟨k + 1, t, true, by omega, by go_num, ht, hr6.q _, hb6, g6.drewN _⟩
                case measure => simp [intOf]; omega
              | false =>
                by_cases hz : bs.length = t
                · have hz1 : ((bs.length : Int) - (t : Int) == 0) = true := by simp; omega
                  have hz2 : (decide (bs.length = t) && !false) = true := by simp [hz]
                  have hen := ended_q b vb bs t false
                  rw [hz2] at hen
                  have Hen := Hid.mk hen
                  clear hen hz hz2
                  go_wp2_with fail
                  go_quiet ((first | (go_at_call 14; exact Calls.quiet_of (left_q b vb bs t false _ (hr6.q _))) | (go_at_call 13; exact Calls.quiet_of (failed_q b vb bs t false _ (hr6.q _))) | (go_at_call 15; exact Calls.quiet_of (Hen.out _ (hr6.q _)))))
                  go_wp2_with fail
                  go_roundw
                  case rel => exact ⟨k + 1, t, false, by omega, by go_num, ht, hr6.q _, hb6, g6.drewN _⟩
                  case measure => simp [intOf]; omega
                · have hz1 : ((bs.length : Int) - (t : Int) == 0) = false := by simp; omega
                  have hz2 : (decide (bs.length = t) && !false) = false := by simp [hz]
                  have hen := ended_q b vb bs t false
                  rw [hz2] at hen
                  have Hen := Hid.mk hen
                  clear hen hz hz2
                  go_wp2_with fail
                  go_quiet ((first | (go_at_call 14; exact Calls.quiet_of (left_q b vb bs t false _ (hr6.q _))) | (go_at_call 13; exact Calls.quiet_of (failed_q b vb bs t false _ (hr6.q _))) | (go_at_call 15; exact Calls.quiet_of (Hen.out _ (hr6.q _)))))
                  go_wp2_with fail
                  go_roundw
                  case rel => exact ⟨k + 1, t, false, by omega, by go_num, ht, hr6.q _, hb6, g6.drewN _⟩
                  case measure => simp [intOf]; omega
        · go_wp2_with fail
          go_ret
          exact ⟨rfl, hg.below⟩

/-- The acts that came in, opened. -/
theorem opened_acts {H : Type} {enc : TypeId × Value → H} {W : World} {base : Nat} {v : Value} {d : DataW H} {p : List MemPlace} (hval : Value.okWide Try.prog W .any base 36 v)
    (h : DataW.Trod enc Try.prog W 0 (fun _ => true) true 36 v d p) : ∃ l, SlP .i64 .i64 W v l :=
  slP_of_trod Try.underlying36 Try.underlying40 (by kernel_rfl) rfl rfl (by kernel_rfl) (by kernel_rfl) Try.underlying3 Try.underlying3 hval h
end Go.Proofs.Ytffdgbimpodopaa
