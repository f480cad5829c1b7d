/- Contract of the document's Parse. -/
import Derived.Test.YtcpkkdffedndiaaDoorN1
import Derived.Test.YtcpkkdffedndiaaDoorLB
import Derived.Test.YtcpkkdffedndiaaDoorL8
import Derived.Deep.RegionHeld3
namespace Go.Proofs.YtcpkkdffedndiaaDoor
open Go.RowKit Go.Proofs.U
set_option linter.unusedSimpArgs false
set_option linter.unusedVariables false

/-- Two numbers lie in block g. -/
def Ar (w : World) (g : Nat) (x y : Int) : Prop := w.heap[g]? = some (.cells #[.int .u32 x, .int .u32 y] 63 (0, 0))
theorem Ar.all {w : World} {g : Nat} {e s : Int} (h : Ar w g e s) :
    w.cell? ⟨g, 0, none⟩ = some (.int .u32 e) ∧ w.cell? ⟨g, 1, none⟩ = some (.int .u32 s) ∧ w.frozen? ⟨g, 0, none⟩ = false ∧ w.frozen? ⟨g, 1, none⟩ = false := by
  have h' : w.heap[g]? = _ := h
  exact ⟨by simp [World.cell?, h'], by simp [World.cell?, h'], by simp [World.frozen?, h'], by simp [World.frozen?, h']⟩
theorem Ar.lt {w : World} {g : Nat} {e s : Int} (h : Ar w g e s) : g < w.heap.size := (Array.getElem?_eq_some_iff.mp h).1
theorem Ar.fr {S : Nat → Prop} {w w' : World} {g : Nat} {e s : Int} (h : Ar w g e s) (f : Fr S w w') (hs : ¬ S g) : Ar w' g e s := (f.block g h.lt hs).trans h
theorem Ar.fr0 {w w' : World} {g : Nat} {e s : Int} (h : Ar w g e s) (f : Fr noB w w') : Ar w' g e s := h.fr f (fun q => q)
theorem Ar.set0 {w : World} {g : Nat} {a b e : Int} (h : Ar w g a b) : Ar (w.setCell ⟨g, 0, none⟩ (.int .u32 e)) g e b := by
  have hlt := h.lt
  have h' : w.heap[g]? = _ := h
  have e1 : w.heap[g] = .cells #[.int .u32 a, .int .u32 b] 63 (0, 0) := by
    rw [Array.getElem?_eq_getElem hlt] at h'; exact Option.some.inj h'
  show _ = _
  simp [World.setCell, Array.getElem_modify, hlt, e1]
theorem Ar.set1 {w : World} {g : Nat} {a b e : Int} (h : Ar w g a b) : Ar (w.setCell ⟨g, 1, none⟩ (.int .u32 e)) g a e := by
  have hlt := h.lt
  have h' : w.heap[g]? = _ := h
  have e1 : w.heap[g] = .cells #[.int .u32 a, .int .u32 b] 63 (0, 0) := by
    rw [Array.getElem?_eq_getElem hlt] at h'; exact Option.some.inj h'
  show _ = _
  simp [World.setCell, Array.getElem_modify, hlt, e1]
theorem Ar.drew {w : World} {g : Nat} {a b : Int} (h : Ar w g a b) : Ar w.drew g a b := h

theorem ac3 {w w1 w2 : World} (F : Fr noB w w1) (o : Obj) (f : Fr (onL w1.heap.size) (w1.alloc o) w2) : Fr noB w w2 :=
  (F.alloc o).thenT f (fun i hi q => by unfold onL at q; have := F.size; omega)
theorem txt_list (x y : Nat) : (txt (x : Int) (y : Int)).data.toList = txL x y := by
  unfold txt txL dig
  simp [ByteArray.data_append]

def kOf (b : Bool) : Int := if b then 1 else 0

set_option maxHeartbeats 2000000 in
theorem rparse_any (s : ByteArray) (hs : s.size ≤ 1000000) (w : World) :
    Calls Tryd.prog 29 #[.string s] w fun e w' => e = .returned (.tuple #[lab ((prsR s.data.toList).1 : Int) ((prsR s.data.toList).2.1 : Int), .int .i64 ((prsR s.data.toList).2.2 : Int)]) ∧ Fr noB w w' := by
  obtain ⟨l, Hl⟩ : ∃ l, Hid (s.data.toList = l) := ⟨_, rfl⟩
  have hlen : l.length = s.size := by rw [← Hl.out, Array.length_toList]; rfl
  obtain ⟨R, HR⟩ : ∃ R, Hid (prsR s.data.toList = R) := ⟨_, rfl⟩
  rw [HR.out]
  go_enter Tryd.func29, Tryd.ntmps29
  go_wp2
  go_loopw [5, 6] (fun kk i wr => ∃ (j : Nat) (p : Bool) (x y : Nat), j ≤ s.size ∧ i = .int .i64 (j : Int) ∧ kk = .int .i64 (kOf p) ∧ x ≤ 100000009 ∧ y ≤ 100000009 ∧ Hid (refF (l.take j) = (p, x, y)) ∧ Ar wr (w.heap.size + 1) x y ∧ Bx wr w.heap.size 0 0 ∧ Fr noB w wr) (fun _ i _ => s.size - (intOf i).toNat)
  case atStart =>
    refine ⟨0, false, 0, 0, Nat.zero_le _, rfl, rfl, by omega, by omega, show _ = _ by simp [refF], ?_, (Bx.made w 0 0).alloc _, ((Fr.refl _ _).alloc _).alloc _⟩
    show (((w.heap.push _).push _))[w.heap.size + 1]? = _
    rw [Array.getElem?_push, if_pos (by simp)]
    rfl
  case round =>
    obtain ⟨j, p, x, y, hj, rfl, rfl, hx, hy, hF, hA, hB, hf⟩ := hrel
    have hlA := hA.lt
    obtain ⟨k1, k2, k3, k4⟩ := hA.all
    by_cases hlt : j < s.size
    · have hst : Hid (refF (l.take (j + 1)) = stepR (p, x, y) (s[j]'hlt)) := by
        have := refF_take l j (by omega)
        rw [hF.out] at this
        show _ = _
        rw [this]
        congr 1
        have h2 := at_list s j hlt (by rw [Hl.out]; omega)
        rw [← h2]
        congr 1
        exact Hl.out.symm
      have hj1 : (0 : Int) ≤ (j : Int) := by omega
      have hj2 : (j : Int) < (s.size : Int) := by omega
      have hb8 := (s[j]'hlt).toNat_lt
      by_cases h48 : (s[j]'hlt).toNat < 48
      · have d1 : ¬ ((48 : Int) ≤ ((s[j]'hlt).toNat : Int)) := by omega
        have hbad : Hid (stepR (p, x, y) (s[j]'hlt) = (true, x, y)) := by
          show _ = _
          unfold stepR; rw [if_pos (by simp [badD]; omega)]
        rw [hbad.out] at hst
        go_wp2
        go_roundw
        case rel => exact ⟨j + 1, true, x, y, by omega, by go_num, rfl, hx, hy, hst, hA, hB, hf⟩
        case measure => simp [intOf]; omega
      have d1 : ((48 : Int) ≤ ((s[j]'hlt).toNat : Int)) := by omega
      by_cases h57 : 57 < (s[j]'hlt).toNat
      · have d2 : ¬ (((s[j]'hlt).toNat : Int) ≤ 57) := by omega
        have hbad : Hid (stepR (p, x, y) (s[j]'hlt) = (true, x, y)) := by
          show _ = _
          unfold stepR; rw [if_pos (by simp [badD]; omega)]
        rw [hbad.out] at hst
        go_wp2
        go_roundw
        case rel => exact ⟨j + 1, true, x, y, by omega, by go_num, rfl, hx, hy, hst, hA, hB, hf⟩
        case measure => simp [intOf]; omega
      have d2 : (((s[j]'hlt).toNat : Int) ≤ 57) := by omega
      have hgood : badD (s[j]'hlt) = false := by simp [badD]; omega
      have hne2 : w.heap.size + 1 ≠ wr.heap.size := by omega
      cases p with
      | false =>
        simp only [kOf, Bool.false_eq_true, if_false]
        by_cases hbig : x ≤ 10000000
        · have d3 : (x : Int) ≤ 10000000 := by omega
          have hgo : Hid (stepR (false, x, y) (s[j]'hlt) = (false, 10 * x + ((s[j]'hlt).toNat - 48), y)) := by
            show _ = _
            unfold stepR; simp [hgood, hbig]
          have e4 : Hid (((10 * x + ((s[j]'hlt).toNat - 48) : Nat) : Int) = 10 * (x : Int) + ((s[j]'hlt).toNat : Int) - 48) := by show _ = _; omega
          rw [hgo.out] at hst
          go_wp2
          go_region_with (fail)
          go_wp2
          all_goals
            have fs := (Fr.setCell (S := onL (w.heap.size + 1)) (Fr.refl _ wr) ⟨w.heap.size + 1, 0, none⟩ (.int .u32 (10 * (x : Int) + ((s[j]'hlt).toNat : Int) - 48)) (fun _ => rfl)).drew
            go_roundw
            case rel => exact ⟨j + 1, false, 10 * x + ((s[j]'hlt).toNat - 48), y, by omega, by go_num, rfl, by omega, hy, hst, by rw [e4.out]; exact (hA.set0 (e := 10 * (x : Int) + ((s[j]'hlt).toNat : Int) - 48)).drew, hB.fr fs (fun q => by unfold onL at q; omega), hf.thenT fs (fun i hi q => by unfold onL at q; omega)⟩
            case measure => simp [intOf]; omega
        · have d3 : ¬ (x : Int) ≤ 10000000 := by omega
          have hgo : Hid (stepR (false, x, y) (s[j]'hlt) = (false, x, y)) := by
            show _ = _
            unfold stepR; simp [hgood, hbig]
          rw [hgo.out] at hst
          go_wp2
          go_roundw
          case rel => exact ⟨j + 1, false, x, y, by omega, by go_num, rfl, hx, hy, hst, hA, hB, hf⟩
          case measure => simp [intOf]; omega
      | true =>
        simp only [kOf, if_true]
        by_cases hbig : y ≤ 10000000
        · have d3 : (y : Int) ≤ 10000000 := by omega
          have hgo : Hid (stepR (true, x, y) (s[j]'hlt) = (true, x, 10 * y + ((s[j]'hlt).toNat - 48))) := by
            show _ = _
            unfold stepR; simp [hgood, hbig]
          have e4 : Hid (((10 * y + ((s[j]'hlt).toNat - 48) : Nat) : Int) = 10 * (y : Int) + ((s[j]'hlt).toNat : Int) - 48) := by show _ = _; omega
          rw [hgo.out] at hst
          go_wp2
          go_region_with (fail)
          go_wp2
          all_goals
            have fs := (Fr.setCell (S := onL (w.heap.size + 1)) (Fr.refl _ wr) ⟨w.heap.size + 1, 1, none⟩ (.int .u32 (10 * (y : Int) + ((s[j]'hlt).toNat : Int) - 48)) (fun _ => rfl)).drew
            go_roundw
            case rel => exact ⟨j + 1, true, x, 10 * y + ((s[j]'hlt).toNat - 48), by omega, by go_num, rfl, hx, by omega, hst, by rw [e4.out]; exact (hA.set1 (e := 10 * (y : Int) + ((s[j]'hlt).toNat : Int) - 48)).drew, hB.fr fs (fun q => by unfold onL at q; omega), hf.thenT fs (fun i hi q => by unfold onL at q; omega)⟩
            case measure => simp [intOf]; omega
        · have d3 : ¬ (y : Int) ≤ 10000000 := by omega
          have hgo : Hid (stepR (true, x, y) (s[j]'hlt) = (true, x, y)) := by
            show _ = _
            unfold stepR; simp [hgood, hbig]
          rw [hgo.out] at hst
          go_wp2
          go_roundw
          case rel => exact ⟨j + 1, true, x, y, by omega, by go_num, rfl, hx, hy, hst, hA, hB, hf⟩
          case measure => simp [intOf]; omega
    · obtain rfl : j = s.size := by omega
      have hFl : refF l = (p, x, y) := by have := hF.out; rwa [← hlen, List.take_length] at this
      have hRl : R = prsR l := by rw [← HR.out, Hl.out]
      unfold prsR at hRl
      rw [hFl] at hRl
      simp only at hRl
      have hsl : s.toList = l := (Go.ByteArray.toList_eq s).trans Hl.out
      have htl : (txt (x : Int) (y : Int)).toList = txL x y := (Go.ByteArray.toList_eq _).trans (txt_list x y)
      have rtx := fun w => rtext_any (x : Int) (y : Int) ⟨by omega, by omega, by omega, by omega⟩ w
      obtain ⟨T, HT⟩ : ∃ T, Hid (txt (x : Int) (y : Int) = T) := ⟨_, rfl⟩
      rw [HT.out] at rtx htl
      have hlB := hB.lt
      clear hF hFl
      by_cases hne : txL x y = l
      · have t1 : (T.toList == s.toList) = true := by rw [htl, hsl, hne]; simp
        clear htl hsl
        by_cases hok : okL (x : Int) (y : Int) = true
        · have hok2 : x ≤ 1048576 ∧ y ≤ 1048576 := by simp [okL] at hok; omega
          have hR : R = (x, y, 0) := by rw [hRl]; simp [hne, hok2]
          clear hRl
          skip
          go_wp2_with (first
            | (go_at_call 30; go_must (refine (rtx _).mono ?_; rintro e w3 ⟨rfl, f3⟩; have b3 := b2.fr0 f3; have c3 := c2.fr0 f3; obtain ⟨q1, q2, q3, q4⟩ := b3.all))
            | (go_at_call 17; go_must (refine (rright_any _ _ _).mono ?_; rintro e w4 ⟨rfl, f4⟩; have c4 := c3.fr0 f4; obtain ⟨r1, r2, r3, r4⟩ := (b3.fr0 f4).all))
            | (with_reducible refine at_wp ?_; refine wpList_stL rfl _ _ rfl wr.heap.size rfl _ _ _ _ rfl (Bx.made wr 0 0) ?_; intro w2 b2 f2 z2; obtain ⟨m1, m2, m3, m4⟩ := b2.all; have c2 := (hB.alloc _).fr f2 (fun q => by unfold onL at q; omega))
            | (with_reducible refine at_wp ?_; refine wpList_stL rfl _ _ rfl w.heap.size rfl _ _ _ _ rfl c4 ?_; intro w5 b5 f5 z5; obtain ⟨n1, n2, n3, n4⟩ := b5.all))
          refine bodyPost_ret (v := .tuple #[lab (x : Int) (y : Int), .int .i64 0]) (by simp [results, Tryd.results29, go_sem, n1, n2]) rfl ⟨by rw [hR]; rfl, ?_⟩
          exact ((ac3 hf _ f2).thenN f3).thenN f4 |>.thenT f5 (fun i hi q => by unfold onL at q; omega)
        · have hok : okL (x : Int) (y : Int) = false := by simpa using hok
          have hok2 : (decide (x ≤ 1048576) && decide (y ≤ 1048576)) = false := by
            have : okL (x : Int) (y : Int) = (decide (x ≤ 1048576) && decide (y ≤ 1048576)) := by
              unfold okL; congr 1 <;> (apply decide_eq_decide.2; omega)
            rw [← this]; exact hok
          have hR : R = (0, 0, 31) := by rw [hRl, hok2]; simp
          clear hRl hok2
          skip
          go_wp2_with (first
            | (go_at_call 30; go_must (refine (rtx _).mono ?_; rintro e w3 ⟨rfl, f3⟩; have b3 := b2.fr0 f3; have c3 := c2.fr0 f3; obtain ⟨q1, q2, q3, q4⟩ := b3.all))
            | (go_at_call 17; go_must (refine (rright_any _ _ _).mono ?_; rintro e w4 ⟨rfl, f4⟩; have c4 := c3.fr0 f4; obtain ⟨r1, r2, r3, r4⟩ := (b3.fr0 f4).all))
            | (with_reducible refine at_wp ?_; refine wpList_stL rfl _ _ rfl wr.heap.size rfl _ _ _ _ rfl (Bx.made wr 0 0) ?_; intro w2 b2 f2 z2; obtain ⟨m1, m2, m3, m4⟩ := b2.all; have c2 := (hB.alloc _).fr f2 (fun q => by unfold onL at q; omega))
            | (with_reducible refine at_wp ?_; refine wpList_stL rfl _ _ rfl w.heap.size rfl _ _ _ _ rfl c4 ?_; intro w5 b5 f5 z5; obtain ⟨n1, n2, n3, n4⟩ := b5.all))
          refine bodyPost_ret (v := .tuple #[lab 0 0, .int .i64 31]) (by simp [results, Tryd.results29, go_sem, n1, n2]) rfl ⟨by rw [hR]; rfl, ?_⟩
          exact ((ac3 hf _ f2).thenN f3).thenN f4 |>.thenT f5 (fun i hi q => by unfold onL at q; omega)
      · have t1 : (T.toList == s.toList) = false := by rw [htl, hsl]; simpa using hne
        have hR : R = (0, 0, 31) := by rw [hRl]; simp [hne]
        clear htl hsl hRl
        go_wp2_with (first
          | (go_at_call 30; go_must (refine (rtx _).mono ?_; rintro e w3 ⟨rfl, f3⟩; have b3 := b2.fr0 f3; have c3 := c2.fr0 f3; obtain ⟨q1, q2, q3, q4⟩ := b3.all))
          | (with_reducible refine at_wp ?_; refine wpList_stL rfl _ _ rfl wr.heap.size rfl _ _ _ _ rfl (Bx.made wr 0 0) ?_; intro w2 b2 f2 z2; obtain ⟨m1, m2, m3, m4⟩ := b2.all; have c2 := (hB.alloc _).fr f2 (fun q => by unfold onL at q; omega))
          | (with_reducible refine at_wp ?_; refine wpList_stL rfl _ _ rfl w.heap.size rfl _ _ _ _ rfl c3 ?_; intro w5 b5 f5 z5; obtain ⟨n1, n2, n3, n4⟩ := b5.all))
        refine bodyPost_ret (v := .tuple #[lab 0 0, .int .i64 31]) (by simp [results, Tryd.results29, go_sem, n1, n2]) rfl ⟨by rw [hR]; rfl, ?_⟩
        exact ((ac3 hf _ f2).thenN f3) |>.thenT f5 (fun i hi q => by unfold onL at q; omega)
end Go.Proofs.YtcpkkdffedndiaaDoor
