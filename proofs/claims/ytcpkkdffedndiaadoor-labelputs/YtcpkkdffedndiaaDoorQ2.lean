/- Contracts of the document's Fields at pairs of four and a number, and of its Put. -/
import Derived.Test.YtcpkkdffedndiaaDoorR0
import Derived.Test.YtcpkkdffedndiaaDoorQ1
namespace Go.Proofs.YtcpkkdffedndiaaDoor
open Go.RowKit Go.Proofs.U
set_option linter.unusedSimpArgs false
set_option linter.unusedVariables false

/-- A pair of numbers lies in block g. -/
def B2 (w : World) (g : Nat) (e s : Int) : Prop := w.heap[g]? = some (.cells #[.int .u64 e, .int .u64 s] 55 (0, 0))
theorem B2.all {w : World} {g : Nat} {e s : Int} (h : B2 w g e s) :
    w.cell? ⟨g, 0, none⟩ = some (.int .u64 e) ∧ w.cell? ⟨g, 1, none⟩ = some (.int .u64 s) ∧ w.frozen? ⟨g, 0, none⟩ = false ∧ w.frozen? ⟨g, 1, none⟩ = false := by
  have h' : w.heap[g]? = _ := h
  exact ⟨by simp [World.cell?, h'], by simp [World.cell?, h'], by simp [World.frozen?, h'], by simp [World.frozen?, h']⟩
theorem B2.lt {w : World} {g : Nat} {e s : Int} (h : B2 w g e s) : g < w.heap.size := (Array.getElem?_eq_some_iff.mp h).1
theorem B2.made (w : World) (e s : Int) : B2 (w.alloc (.cells #[.int .u64 e, .int .u64 s] 55)) w.heap.size e s := by
  show (w.heap.push _)[w.heap.size]? = _
  rw [Array.getElem?_push, if_pos rfl]
theorem B2.set {w : World} {g : Nat} {a b e s : Int} (h : B2 w g a b) :
    B2 ((w.setCell ⟨g, 0, none⟩ (.int .u64 e)).setCell ⟨g, 1, none⟩ (.int .u64 s)) g e s ∧ Fr (onL g) w ((w.setCell ⟨g, 0, none⟩ (.int .u64 e)).setCell ⟨g, 1, none⟩ (.int .u64 s)) := by
  refine ⟨?_, Fr.setCell (S := onL g) (Fr.setCell (S := onL g) (Fr.refl _ _) ⟨g, 0, none⟩ _ (fun _ => rfl)) ⟨g, 1, none⟩ _ (fun _ => rfl)⟩
  have h' : w.heap[g]? = _ := h
  have hlt := h.lt
  have e1 : w.heap[g] = .cells #[.int .u64 a, .int .u64 b] 55 (0, 0) := by
    rw [Array.getElem?_eq_getElem hlt] at h'; exact Option.some.inj h'
  show _ = _
  simp [World.setCell, Array.getElem_modify, hlt, e1]
section
variable {ops : Array Oper} {rest : List Oper} {o : Oper} {a : Act} {w : World} {Q : Exit → Act → World → Prop}
theorem wpList_st2 (hgd : o.guard = none) (x y : Operand) (ho : o.op = .store 55 x y) (g : Nat) (hx : a.eval x = .pointer (some ⟨g, 0, none⟩)) (e s b c : Int) (hy : a.eval y = .agg #[.int .u64 e, .int .u64 s]) (hA : B2 w g b c)
    (h : ∀ w', B2 w' g e s → Fr (onL g) w w' → wpList Tryd.prog ops Q rest (a.put o.dst undef) w') : wpList Tryd.prog ops Q (o :: rest) a w := by
  obtain ⟨k1, k2, k3, k4⟩ := hA.all
  have hs := hA.set (e := e) (s := s)
  refine wpList_store_mid hgd 55 x y ho g 0 #[.int .u64 e, .int .u64 s] hx hy ?_ (by kernel_rfl) (by simp [Value.oneCell']) (h _ hs.1 hs.2)
  intro j hj
  have hj : j < 2 := hj
  rcases j with _ | _ | j
  · exact ⟨by rw [k1]; rfl, k3⟩
  · exact ⟨by rw [k2]; rfl, k4⟩
  · omega
end

/-- A number, and ahead of it its width: four. -/
abbrev p4 (x : Int) : List Value := [.int .u64 4, .int .u64 x]
theorem arr2_size : (Tryd.prog.info? 55).map (·.size) = some 2 := by kernel_rfl

set_option maxHeartbeats 2000000 in
theorem fields_any (v : Value) (l : List Int) (w : World) (hl : SlR p4 2 w v l) (hbd : ∀ n ∈ l, 0 ≤ n ∧ n < 4294967296) (hm : l.length ≤ 1000000) :
    Calls Tryd.prog 32 #[v] w fun e w' => ∃ v', e = .returned v' ∧ OwnI .u8 5 w' w.heap.size v' (putB 4 l) ∧ Fr noB w w' := by
  obtain ⟨a, cap, rfl, hcap⟩ := hl.opn
  go_enter Tryd.func32, Tryd.ntmps32
  go_wp2
  go_loopw [3, 11] (fun out i wr => ∃ k : Nat, k ≤ l.length ∧ i = .int .i64 k ∧ OwnI .u8 5 wr w.heap.size out (putB 4 (l.take k)) ∧ Fr noB w wr) (fun _ i _ => l.length - (intOf i).toNat)
  case atStart => exact ⟨0, Nat.zero_le _, rfl, OwnI.mk [] (World.ownsRow_made _ #[] 0 (Nat.le_refl _) (Nat.zero_le _) rfl) rfl, (Fr.refl _ _).alloc _⟩
  case round =>
    obtain ⟨k, hk, rfl, ho, hf⟩ := hrel
    by_cases hlt : k < l.length
    · have hS := hl.fr0 hf
      have hsucc := show Hid _ from putB_take 4 l k hlt
      have hux := hbd l[k] (by simp)
      have hn2 := show Hid _ from putB_length 4 (l.take k)
      obtain ⟨Z, HZ⟩ : ∃ Z, Hid (l[k] = Z) := ⟨l[k], (rfl : l[k] = l[k])⟩
      rw [HZ.out] at hsucc hux
      have hkl : Hid ((l.take k).length = k) := by show _ = _; simp; omega
      have hfs := hf.size
      obtain ⟨a1, c1, rfl⟩ := ho.opn
      go_wp2_with (first
        | (refine at_idx 67 _ _ rfl ?_; go_must (refine wpList_idxR rfl 67 _ _ rfl 55 Tryd.underlying67 2 arr2_size _ _ _ rfl hS (by decide) _ _ k rfl rfl hlt ?_; rw [HZ.out]; intro ba oa hba hca; have p0 := hca 0 _ rfl; have p1 := hca 1 _ rfl; rw [Nat.add_zero] at p0; clear hca))
        | (with_reducible refine at_wp ?_; refine wpList_st2 rfl _ _ rfl wr.heap.size rfl _ _ _ _ rfl (B2.made wr 0 0) ?_; go_must (intro w2 b2 f2; obtain ⟨m1, m2, m3, m4⟩ := b2.all; have o2 : OwnI .u8 5 w2 w.heap.size _ _ := (OwnI.fr (S := noB) ho ((Fr.refl _ _).alloc _) (fun _ _ q => q)).fr f2 (fun q hq h' => by have := (ho.newB q hq).2; unfold onL at h'; omega); have g2 : Fr noB w w2 := (hf.alloc _).thenT f2 (fun i hi q => by unfold onL at q; omega); have hs2 := g2.size))
        | (go_at_call 40; go_must (refine (bytes_any Z 4 _ ⟨by omega, by omega⟩ (by decide)).mono ?_; rintro e w3 ⟨v3, rfl, ho3, hf3⟩; have o3 := OwnI.fr (S := noB) o2 hf3 (fun _ _ q => q); have l3 := leB_length 4 Z; obtain ⟨a3, c3, rfl⟩ := ho3.opn))
        | (at_builtin; go_must (refine wpList_app rfl _ _ 38 rfl w.heap.size 5 _ 1 1 Tryd.underlying38 info5 rfl (by decide) _ _ _ rfl o3 _ _ _ rfl (Sl.of_owns ho3) ?h1 ?hq1 ?hq2 ?hq3 ?_; rotate_left 4; intro v4 w4 hown4 hgr4)))
      case h1 => exact ones _ _
      case hq1 => have := hn2.out; rw [hkl.out] at this; unfold maxLen; omega
      case hq2 => have := hn2.out; rw [hkl.out] at this; omega
      case hq3 => have := hf3.size; omega
      have o4 : OwnI .u8 5 w4 w.heap.size v4 (putB 4 (l.take (k + 1))) := OwnI.mk _ hown4 (by rw [hsucc.out]; simp)
      obtain ⟨a4, c4, rfl⟩ := o4.opn
      have hf4 := (g2.thenN hf3).grown hgr4 (owns_new o3)
      go_roundw
      case rel => exact ⟨k + 1, by omega, by go_num, o4, hf4⟩
      case measure => simp [intOf]; omega
    · obtain rfl : k = l.length := by omega
      rw [List.take_length] at ho
      obtain ⟨a1, c1, rfl⟩ := ho.opn
      go_wp2
      go_ret
      exact ⟨_, rfl, ho, hf⟩

theorem Sl_made2 (w : World) (t : TypeId) (cs : Array Value) (n b : Nat) (hn : cs.size = n * 2) (hb : w.heap.size = b) : Sl (w.alloc (.cells cs t)) 2 (.slice (some ⟨b, 0, none⟩) n n) n cs.toList := by
  subst hb
  refine ⟨_, _, rfl, Nat.le_refl _, by simp [hn], (fun h => by cases h), fun x hx => ?_⟩
  cases hx
  intro j u hj
  rw [Addr.plain, Nat.zero_add]
  have h1 : cs[j]? = some u := by simpa using hj
  have h2 : (w.alloc (.cells cs t)).heap[w.heap.size]? = some (.cells cs t) := by
    show (w.heap.push _)[w.heap.size]? = _
    simp
  unfold World.cell?
  rw [h2]
  exact h1

theorem putB_two (l : List (Int × Int)) (k : Nat) (h : k < l.length) : putB 4 (nums (l.take (k + 1))) = putB 4 (nums (l.take k)) ++ putB 4 [l[k].1, l[k].2] := by
  rw [nums_succ l k h]; unfold putB; rw [List.flatMap_append]

set_option maxHeartbeats 2000000 in
theorem rput_any (vb vl : Value) (bs : List Int) (l : List (Int × Int)) (w : World) (hb : SlI .u8 w vb bs) (hl : SlL w vl l) (hU : ∀ x ∈ l, U2 x.1 x.2) (hbm : bs.length ≤ 1000000) (hm : l.length ≤ 1000000) :
    Calls Tryd.prog 23 #[vb, vl] w fun e w' => ∃ v, e = .returned v ∧ OwnI .u8 5 w' w.heap.size v (bs ++ putB 4 (nums l)) ∧ Fr noB w w' := by
  obtain ⟨a, cap, rfl, hcap⟩ := hl.opn
  have hbS := hb.1
  go_enter Tryd.func23, Tryd.ntmps23
  go_wp2_with (at_builtin; go_must (refine wpList_app rfl _ _ 38 rfl w.heap.size 5 _ 1 1 Tryd.underlying38 info5 rfl (by decide) _ _ _ rfl (World.ownsRow_made w #[] 0 (Nat.le_refl _) (Nat.zero_le _) rfl) _ _ _ rfl (hbS.fr0 ((Fr.refl _ _).alloc _)) (ones _ _) ?hq1 ?hq2 ?hq3 ?_; rotate_left 3; intro v2 w2 hown2 hgr2))
  case hq1 => unfold maxLen; omega
  case hq2 => omega
  case hq3 => simp
  have o2 : OwnI .u8 5 w2 w.heap.size v2 bs := OwnI.mk _ hown2 (by simp)
  have own0 : (w.alloc (.cells #[] 5)).ownsRow w.heap.size 5 1 (.slice (some ⟨w.heap.size, 0, none⟩) 0 0) 0 [] := World.ownsRow_made w #[] 0 (Nat.le_refl _) (Nat.zero_le _) rfl
  have hf2 : Fr noB w w2 := ((Fr.refl _ _).alloc _).grown hgr2 (owns_new own0)
  clear hown2 hgr2 own0
  obtain ⟨a2, c2, rfl⟩ := o2.opn
  go_loopw [5, 13] (fun out i wr => ∃ k : Nat, k ≤ l.length ∧ i = .int .i64 k ∧ OwnI .u8 5 wr w.heap.size out (bs ++ putB 4 (nums (l.take k))) ∧ Fr noB w wr) (fun _ i _ => l.length - (intOf i).toNat)
  case atStart => exact ⟨0, Nat.zero_le _, rfl, by simpa [nums, putB] using o2, hf2⟩
  case round =>
    obtain ⟨k, hk, rfl, ho, hf⟩ := hrel
    by_cases hlt : k < l.length
    · have hS := hl.fr0 hf
      have hsucc : Hid (bs ++ putB 4 (nums (l.take (k + 1))) = (bs ++ putB 4 (nums (l.take k))) ++ putB 4 [l[k].1, l[k].2]) := by
        show _ = _
        rw [putB_two l k hlt, List.append_assoc]
      have hux := hU l[k] (by simp)
      have hn2 : Hid ((bs ++ putB 4 (nums (l.take k))).length ≤ bs.length + 8 * k) := by
        show _ ≤ _
        rw [List.length_append, putB_length, nums_length, List.length_take]; omega
      obtain ⟨X0, HX0⟩ : ∃ X, Hid (bs ++ putB 4 (nums (l.take k)) = X) := ⟨_, rfl⟩
      rw [HX0.out] at ho hn2 hsucc
      obtain ⟨Z, HZ⟩ : ∃ Z, Hid (l[k] = Z) := ⟨l[k], (rfl : l[k] = l[k])⟩
      rw [HZ.out] at hsucc hux
      obtain ⟨u1, u2, u3, u4⟩ := hux
      have hfs := hf.size
      obtain ⟨a1, c1, rfl⟩ := ho.opn
      have hfd : ∀ w2 : World, Calls Tryd.prog 32 #[.slice (some ⟨w2.heap.size, 0, none⟩) 2 2] (w2.alloc (.cells #[.int .u64 4, .int .u64 Z.1, .int .u64 4, .int .u64 Z.2] 55)) fun e w' => ∃ v', e = .returned v' ∧ OwnI .u8 5 w' (w2.alloc (.cells #[.int .u64 4, .int .u64 Z.1, .int .u64 4, .int .u64 Z.2] 55)).heap.size v' (putB 4 [Z.1, Z.2]) ∧ Fr noB (w2.alloc (.cells #[.int .u64 4, .int .u64 Z.1, .int .u64 4, .int .u64 Z.2] 55)) w' := fun w2 =>
        fields_any _ [Z.1, Z.2] _ ⟨fun _ _ => rfl, Sl_made2 w2 _ _ 2 _ rfl rfl⟩ (by intro n hn; simp at hn; rcases hn with rfl | rfl <;> omega) (by simp)
      have hpl := show Hid _ from putB_length 4 [Z.1, Z.2]
      obtain ⟨Y, HY⟩ : ∃ Y, Hid (putB 4 [Z.1, Z.2] = Y) := ⟨_, rfl⟩
      rw [HY.out] at hfd hpl hsucc
      go_wp2_with (first
        | (refine at_idx 30 _ _ rfl ?_; go_must (refine wpList_idxR rfl 30 _ _ rfl 24 Tryd.underlying30 2 lab_size _ _ _ rfl hS (by decide) _ _ k rfl rfl hlt ?_; rw [HZ.out]; intro ba oa hba hca; have p0 := hca 0 _ rfl; have p1 := hca 1 _ rfl; rw [Nat.add_zero] at p0; clear hca))
        | (with_reducible refine at_wp ?_; refine wpList_stL rfl _ _ rfl wr.heap.size rfl _ _ _ _ rfl (Bx.made wr 0 0) ?_; go_must (intro w2 b2 f2 z2; clear z2; obtain ⟨m1, m2, m3, m4⟩ := b2.all; have o2 : OwnI .u8 5 w2 w.heap.size _ _ := (OwnI.fr (S := noB) ho ((Fr.refl _ _).alloc _) (fun _ _ q => q)).fr f2 (fun q hq h' => by have := (ho.newB q hq).2; unfold onL at h'; omega); have g2 : Fr noB w w2 := (hf.alloc _).thenT f2 (fun i hi q => by unfold onL at q; omega); have hs2 := g2.size))
        | (go_at_call 32; go_must (refine (hfd w2).mono ?_; rintro e w3 ⟨v3, rfl, ho3, hf3⟩; have g3 : Fr noB w w3 := (g2.alloc _).thenN hf3; have o3 := OwnI.fr (S := noB) (OwnI.fr (S := noB) o2 ((Fr.refl _ _).alloc _) (fun _ _ q => q)) hf3 (fun _ _ q => q); obtain ⟨a3, c3, rfl⟩ := ho3.opn))
        | (at_builtin; go_must (refine wpList_app rfl _ _ 38 rfl w.heap.size 5 _ 1 1 Tryd.underlying38 info5 rfl (by decide) _ _ _ rfl o3 _ _ _ rfl (Sl.of_owns ho3) (ones _ _) ?hq1 ?hq2 ?hq3 ?_; rotate_left 3; intro v4 w4 hown4 hgr4)))
      case hq1 => have := hn2.out; have h2 := hpl.out; simp at h2; unfold maxLen; omega
      case hq2 => have := hn2.out; have h2 := hpl.out; simp at h2; omega
      case hq3 => exact g3.size
      have o4 : OwnI .u8 5 w4 w.heap.size v4 (bs ++ putB 4 (nums (l.take (k + 1)))) := OwnI.mk _ hown4 (by rw [hsucc.out, List.map_append])
      obtain ⟨a4, c4, rfl⟩ := o4.opn
      have hf4 := g3.grown hgr4 (owns_new o3)
      go_roundw
      case rel => exact ⟨k + 1, by omega, by go_num, o4, hf4⟩
      case measure => simp [intOf]; omega
    · obtain rfl : k = l.length := by omega
      rw [List.take_length] at ho
      obtain ⟨X, HX⟩ : ∃ X, Hid (bs ++ putB 4 (nums l) = X) := ⟨_, rfl⟩
      rw [HX.out] at ho
      obtain ⟨a1, c1, rfl⟩ := ho.opn
      go_wp2
      go_ret
      exact ⟨_, rfl, by rw [HX.out]; exact ho, hf⟩
end Go.Proofs.YtcpkkdffedndiaaDoor
