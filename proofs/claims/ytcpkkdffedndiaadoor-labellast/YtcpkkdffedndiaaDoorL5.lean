/- Contracts of Last, of the program and of the document. -/
import Derived.Test.YtcpkkdffedndiaaDoorL3
import Derived.Test.YtcpkkdffedndiaaDoorBase3
namespace Go.Proofs.YtcpkkdffedndiaaDoor
open Go.RowKit Go.Proofs.U
set_option linter.unusedSimpArgs false
set_option linter.unusedVariables false

abbrev lc (x : Int × Int) : List Value := [.int .u32 x.1, .int .u32 x.2]
/-- v is a slice of the labels l. -/
abbrev SlL (w : World) (v : Value) (l : List (Int × Int)) : Prop := SlR lc 2 w v l
def upL (c x : Int × Int) : Int × Int := if 0 < cmpL x.1 x.2 c.1 c.2 then x else c
def lastL (l : List (Int × Int)) : Int × Int := l.foldl upL (0, 0)
theorem lastL_succ (l : List (Int × Int)) (k : Nat) (h : k < l.length) : lastL (l.take (k + 1)) = upL (lastL (l.take k)) l[k] := by
  unfold lastL
  rw [List.take_succ_eq_append_getElem h, List.foldl_append]
  rfl
theorem lab_size : (Tryd.prog.info? 24).map (·.size) = some 2 := by kernel_rfl

theorem lessL_pos (a b c d : Int) : lessL c d a b = decide (0 < cmpL a b c d) := by
  unfold lessL cmpL c1
  by_cases h1 : a < c
  · have h3 : ¬ c < a := by omega
    have h4 : ¬ c = a := by omega
    simp [h1, h3, h4]
  · by_cases h2 : c < a
    · simp [h1, h2]
    · have h3 : a = c := by omega
      subst h3
      by_cases h4 : b < d
      · have h5 : ¬ d < b := by omega
        simp [h4, h5]
      · by_cases h5 : d < b
        · simp [h4, h5]
        · simp [h4, h5]

set_option maxHeartbeats 1000000 in
theorem last_any (v : Value) (l : List (Int × Int)) (w : World) (hl : SlL w v l) (hm : l.length ≤ 1000000000000) :
    Calls Tryd.prog 13 #[v] w fun r w' => r = .returned (lab (lastL l).1 (lastL l).2) ∧ Fr noB w w' := by
  obtain ⟨a, cap, rfl, hcap⟩ := hl.opn
  obtain ⟨n, Hn⟩ : ∃ n, Hid (n = w.heap.size) := ⟨_, rfl⟩
  go_enter Tryd.func13, Tryd.ntmps13
  go_wp2
  go_loopw [8] (fun i wr => ∃ k : Nat, k ≤ l.length ∧ i = .int .i64 k ∧ Bx wr (w.heap.size + 1) (lastL (l.take k)).1 (lastL (l.take k)).2 ∧ Bx wr w.heap.size 0 0 ∧ Fr noB w wr) (fun i _ => l.length - (intOf i).toNat)
  case atStart =>
    refine ⟨0, Nat.zero_le _, rfl, ?_, ?_, ((Fr.refl _ _).alloc _).alloc _⟩
    · have := Bx.made (w.alloc (.cells #[.int .u32 0, .int .u32 0] 24)) 0 0
      simpa [lastL] using this
    · exact (Bx.made w 0 0).alloc _
  case round =>
    obtain ⟨k, hk, rfl, hb, hr, hf⟩ := hrel
    by_cases hlt : k < l.length
    · have hS := hl.fr0 hf
      have hsucc : Hid (lastL (l.take (k + 1)) = upL (lastL (l.take k)) l[k]) := lastL_succ l k hlt
      obtain ⟨X, HX⟩ : ∃ X, Hid (l[k] = X) := ⟨l[k], (rfl : l[k] = l[k])⟩
      obtain ⟨C, HC⟩ : ∃ C, Hid (lastL (l.take k) = C) := ⟨lastL (l.take k), (rfl : _ = _)⟩
      rw [HX.out, HC.out] at hsucc
      rw [HC.out] at hb
      have hlt1 := hb.lt
      obtain ⟨k1, k2, k3, k4⟩ := hb.all
      by_cases hpos : 0 < cmpL X.1 X.2 C.1 C.2
      · have hup : Hid (lastL (l.take (k + 1)) = X) := by have := hsucc.out; unfold upL at this; rwa [if_pos hpos] at this
        go_wp2_with (first
          | (refine at_idx 30 _ _ rfl ?_; go_must (refine wpList_idxR rfl 30 _ _ rfl 24 Tryd.underlying30 2 lab_size _ _ _ rfl hS (by decide) _ _ k rfl rfl hlt ?_; rw [HX.out]; intro ba oa hba hca; have p0 := hca 0 _ rfl; have p1 := hca 1 _ rfl; rw [Nat.add_zero] at p0; clear hca))
          | (go_at_call 18; go_must (refine (cmp_any _ _ _ _ _).mono ?_; rintro e1 w3 ⟨rfl, f3⟩; have b3 := b2.fr0 f3; have c3 := c2.fr0 f3; obtain ⟨r1, r2, r3, r4⟩ := b3.all; obtain ⟨s1, s2, s3, s4⟩ := c3.all))
          | (refine wpList_stL rfl _ _ rfl wr.heap.size rfl _ _ _ _ rfl (Bx.made wr 0 0) ?_; intro w2 b2 f2 z2; obtain ⟨m1, m2, m3, m4⟩ := b2.all; have c2 := (hb.alloc _).fr f2 (fun q => by unfold onL at q; omega); obtain ⟨n1, n2, n3, n4⟩ := c2.all)
          | (refine wpList_stL rfl _ _ rfl (w.heap.size + 1) rfl _ _ _ _ rfl c3 ?_; intro w4 b4 f4 z4))
        have fb : Fr (onL (w.heap.size + 1)) wr w4 := ((((Fr.refl _ _).alloc _).thenT f2 (fun i hi q => by unfold onL at q; omega)).thenN f3).thenT f4 (fun i hi q => q)
        go_roundw
        case rel =>
          exact ⟨k + 1, by omega, by go_num, by rw [hup.out]; exact b4, hr.fr fb (fun q => by unfold onL at q; omega), hf.thenT fb (fun i hi q => by unfold onL at q; omega)⟩
        case measure => simp [intOf]; omega
      · have hup : Hid (lastL (l.take (k + 1)) = C) := by have := hsucc.out; unfold upL at this; rwa [if_neg hpos] at this
        go_wp2_with (first
          | (refine at_idx 30 _ _ rfl ?_; go_must (refine wpList_idxR rfl 30 _ _ rfl 24 Tryd.underlying30 2 lab_size _ _ _ rfl hS (by decide) _ _ k rfl rfl hlt ?_; rw [HX.out]; intro ba oa hba hca; have p0 := hca 0 _ rfl; have p1 := hca 1 _ rfl; rw [Nat.add_zero] at p0; clear hca))
          | (go_at_call 18; go_must (refine (cmp_any _ _ _ _ _).mono ?_; rintro e1 w3 ⟨rfl, f3⟩; have b3 := b2.fr0 f3; have c3 := c2.fr0 f3; obtain ⟨r1, r2, r3, r4⟩ := b3.all; obtain ⟨s1, s2, s3, s4⟩ := c3.all))
          | (refine wpList_stL rfl _ _ rfl wr.heap.size rfl _ _ _ _ rfl (Bx.made wr 0 0) ?_; intro w2 b2 f2 z2; obtain ⟨m1, m2, m3, m4⟩ := b2.all; have c2 := (hb.alloc _).fr f2 (fun q => by unfold onL at q; omega); obtain ⟨n1, n2, n3, n4⟩ := c2.all))
        have fb : Fr (onL (w.heap.size + 1)) wr w3 := ((((Fr.refl _ _).alloc _).thenT f2 (fun i hi q => by unfold onL at q; omega)).thenN f3)
        go_roundw
        case rel =>
          exact ⟨k + 1, by omega, by go_num, by rw [hup.out]; exact c3, hr.fr fb (fun q => by unfold onL at q; omega), hf.thenT fb (fun i hi q => by unfold onL at q; omega)⟩
        case measure => simp [intOf]; omega
    · obtain rfl : k = l.length := by omega
      rw [List.take_length] at hb
      obtain ⟨k1, k2, k3, k4⟩ := hb.all
      have hlt1 := hb.lt
      go_wp2_with (refine wpList_stL rfl _ _ rfl w.heap.size rfl _ _ _ _ rfl hr ?_; intro w2 b2 f2 z2; obtain ⟨m1, m2, m3, m4⟩ := b2.all)
      refine bodyPost_ret (v := lab (lastL l).1 (lastL l).2) (by simp [results, Tryd.results13, go_sem, m1, m2]) rfl ⟨rfl, ?_⟩
      exact hf.thenT f2 (fun i hi q => by unfold onL at q; omega)
set_option maxHeartbeats 1000000 in
theorem rlast_any (v : Value) (l : List (Int × Int)) (w : World) (hl : SlL w v l) (hm : l.length ≤ 1000000000000) :
    Calls Tryd.prog 20 #[v] w fun r w' => r = .returned (lab (lastL l).1 (lastL l).2) ∧ Fr noB w w' := by
  obtain ⟨a, cap, rfl, hcap⟩ := hl.opn
  obtain ⟨n, Hn⟩ : ∃ n, Hid (n = w.heap.size) := ⟨_, rfl⟩
  go_enter Tryd.func20, Tryd.ntmps20
  have bm : Bx ((w.alloc (.cells #[.int .u32 0, .int .u32 0] 24)).alloc (.cells #[.int .u32 0, .int .u32 0] 24)) (w.heap.size + 1) 0 0 := by
    have := Bx.made (w.alloc (.cells #[.int .u32 0, .int .u32 0] 24)) 0 0
    simpa using this
  go_wp2_with (refine wpList_stL rfl _ _ rfl (w.heap.size + 1) rfl _ _ _ _ rfl bm ?_; intro w0 b0 f0 z0)
  go_loopw [9] (fun i wr => ∃ k : Nat, k ≤ l.length ∧ i = .int .i64 k ∧ Bx wr (w.heap.size + 1) (lastL (l.take k)).1 (lastL (l.take k)).2 ∧ Bx wr w.heap.size 0 0 ∧ Fr noB w wr) (fun i _ => l.length - (intOf i).toNat)
  case atStart =>
    refine ⟨0, Nat.zero_le _, rfl, by simpa [lastL] using b0, ?_, (((Fr.refl _ _).alloc _).alloc _).thenT f0 (fun i hi q => by unfold onL at q; omega)⟩
    exact ((Bx.made w 0 0).alloc _).fr f0 (fun q => by unfold onL at q; omega)
  case round =>
    obtain ⟨k, hk, rfl, hb, hr, hf⟩ := hrel
    by_cases hlt : k < l.length
    · have hS := hl.fr0 hf
      have hsucc : Hid (lastL (l.take (k + 1)) = upL (lastL (l.take k)) l[k]) := lastL_succ l k hlt
      obtain ⟨X, HX⟩ : ∃ X, Hid (l[k] = X) := ⟨l[k], (rfl : l[k] = l[k])⟩
      obtain ⟨C, HC⟩ : ∃ C, Hid (lastL (l.take k) = C) := ⟨lastL (l.take k), (rfl : _ = _)⟩
      rw [HX.out, HC.out] at hsucc
      rw [HC.out] at hb
      have hlt1 := hb.lt
      obtain ⟨k1, k2, k3, k4⟩ := hb.all
      by_cases hpos : 0 < cmpL X.1 X.2 C.1 C.2
      · have hup : Hid (lastL (l.take (k + 1)) = X) := by have := hsucc.out; unfold upL at this; rwa [if_pos hpos] at this
        have hl1 : lessL C.1 C.2 X.1 X.2 = true := by rw [lessL_pos]; simpa using hpos
        go_wp2_with (first
          | (refine at_idx 30 _ _ rfl ?_; go_must (refine wpList_idxR rfl 30 _ _ rfl 24 Tryd.underlying30 2 lab_size _ _ _ rfl hS (by decide) _ _ k rfl rfl hlt ?_; rw [HX.out]; intro ba oa hba hca; have p0 := hca 0 _ rfl; have p1 := hca 1 _ rfl; rw [Nat.add_zero] at p0; clear hca))
          | (go_at_call 28; go_must (refine (rless_any _ _ _ _ _).mono ?_; rintro e1 w3 ⟨rfl, f3⟩; have b3 := b2.fr0 f3; have c3 := c2.fr0 f3; obtain ⟨r1, r2, r3, r4⟩ := b3.all; obtain ⟨s1, s2, s3, s4⟩ := c3.all))
          | (refine wpList_stL rfl _ _ rfl wr.heap.size rfl _ _ _ _ rfl (Bx.made wr 0 0) ?_; intro w2 b2 f2 z2; obtain ⟨m1, m2, m3, m4⟩ := b2.all; have c2 := (hb.alloc _).fr f2 (fun q => by unfold onL at q; omega); obtain ⟨n1, n2, n3, n4⟩ := c2.all)
          | (refine wpList_stL rfl _ _ rfl (w.heap.size + 1) rfl _ _ _ _ rfl c3 ?_; intro w4 b4 f4 z4))
        have fb : Fr (onL (w.heap.size + 1)) wr w4 := ((((Fr.refl _ _).alloc _).thenT f2 (fun i hi q => by unfold onL at q; omega)).thenN f3).thenT f4 (fun i hi q => q)
        go_roundw
        case rel =>
          exact ⟨k + 1, by omega, by go_num, by rw [hup.out]; exact b4, hr.fr fb (fun q => by unfold onL at q; omega), hf.thenT fb (fun i hi q => by unfold onL at q; omega)⟩
        case measure => simp [intOf]; omega
      · have hup : Hid (lastL (l.take (k + 1)) = C) := by have := hsucc.out; unfold upL at this; rwa [if_neg hpos] at this
        have hl1 : lessL C.1 C.2 X.1 X.2 = false := by rw [lessL_pos]; simpa using hpos
        go_wp2_with (first
          | (refine at_idx 30 _ _ rfl ?_; go_must (refine wpList_idxR rfl 30 _ _ rfl 24 Tryd.underlying30 2 lab_size _ _ _ rfl hS (by decide) _ _ k rfl rfl hlt ?_; rw [HX.out]; intro ba oa hba hca; have p0 := hca 0 _ rfl; have p1 := hca 1 _ rfl; rw [Nat.add_zero] at p0; clear hca))
          | (go_at_call 28; go_must (refine (rless_any _ _ _ _ _).mono ?_; rintro e1 w3 ⟨rfl, f3⟩; have b3 := b2.fr0 f3; have c3 := c2.fr0 f3; obtain ⟨r1, r2, r3, r4⟩ := b3.all; obtain ⟨s1, s2, s3, s4⟩ := c3.all))
          | (refine wpList_stL rfl _ _ rfl wr.heap.size rfl _ _ _ _ rfl (Bx.made wr 0 0) ?_; intro w2 b2 f2 z2; obtain ⟨m1, m2, m3, m4⟩ := b2.all; have c2 := (hb.alloc _).fr f2 (fun q => by unfold onL at q; omega); obtain ⟨n1, n2, n3, n4⟩ := c2.all))
        have fb : Fr (onL (w.heap.size + 1)) wr w3 := ((((Fr.refl _ _).alloc _).thenT f2 (fun i hi q => by unfold onL at q; omega)).thenN f3)
        go_roundw
        case rel =>
          exact ⟨k + 1, by omega, by go_num, by rw [hup.out]; exact c3, hr.fr fb (fun q => by unfold onL at q; omega), hf.thenT fb (fun i hi q => by unfold onL at q; omega)⟩
        case measure => simp [intOf]; omega
    · obtain rfl : k = l.length := by omega
      rw [List.take_length] at hb
      obtain ⟨k1, k2, k3, k4⟩ := hb.all
      have hlt1 := hb.lt
      go_wp2_with (refine wpList_stL rfl _ _ rfl w.heap.size rfl _ _ _ _ rfl hr ?_; intro w2 b2 f2 z2; obtain ⟨m1, m2, m3, m4⟩ := b2.all)
      refine bodyPost_ret (v := lab (lastL l).1 (lastL l).2) (by simp [results, Tryd.results20, go_sem, m1, m2]) rfl ⟨rfl, ?_⟩
      exact hf.thenT f2 (fun i hi q => by unfold onL at q; omega)
end Go.Proofs.YtcpkkdffedndiaaDoor
