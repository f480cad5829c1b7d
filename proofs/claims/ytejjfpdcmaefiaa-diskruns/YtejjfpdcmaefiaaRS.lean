/- DiskRuns: same. (Written by rs_gen.py.) -/
import Derived.Test.YtejjfpdcmaefiaaRM
namespace Go.Proofs.U
open Go.RowKit
set_option linter.unusedSimpArgs false
set_option linter.unusedVariables false
/-- Where the cells of a slice lie that is not empty. -/
theorem SlR.addr {α : Type} {ec : α → List Value} {sz : Nat} {w : World} {v : Value} {l : List α} (h : SlR ec sz w v l) (hsz : 0 < sz) (hl : 0 < l.length) :
    ∃ b o cap, v = .slice (some ⟨b, o, none⟩) l.length cap ∧ ∀ j (hj : j < l.length) r u, (ec l[j])[r]? = some u → w.cell? ⟨b, o + j * sz + r, none⟩ = some u := by
  obtain ⟨hall, a, cap, rfl, hcap, hlen, hnone, hsome⟩ := h
  cases a with
  | none => have := hnone rfl; omega
  | some x =>
    have hc := hsome x rfl
    obtain ⟨b, o, sp⟩ := x
    have h0 : 0 < (l.flatMap ec).length := by rw [hlen]; exact Nat.mul_pos hl hsz
    have hsp : sp = none := by
      have := hc 0 _ (List.getElem?_eq_getElem h0)
      simpa [Addr.add] using World.cell?_spot this
    subst hsp
    refine ⟨b, o, cap, rfl, fun j hj r u hu => ?_⟩
    have hr : r < sz := by
      have h1 := (List.getElem?_eq_some_iff.1 hu).1
      rwa [hall _ (List.getElem_mem hj)] at h1
    have hf := flat_at ec sz l hall j hj r hr
    rw [hu] at hf
    have h2 := hc _ _ hf
    have hadd : (⟨b, o, none⟩ : Addr).add (j * sz + r) = ⟨b, o + j * sz + r, none⟩ := by unfold Addr.add; split <;> simp_all <;> omega
    rwa [hadd] at h2
theorem run_idxS {P : Program} {w : World} {sz : Nat} (t et : TypeId) (ht : P.underlying t = some (.slice et)) (hsz : (P.info? et).map (·.size) = some sz) (b o n cap : Nat) (k : IntKind) (j : Nat) (hj : j < n) :
    (Instr.indexAt t (.slice (some ⟨b, o, none⟩) n cap) (.int k (j : Int))).run P w = .ok (.pointer (some ⟨b, o + j * sz, none⟩)) w := by
  obtain ⟨ii, hinf, hsz'⟩ := Option.map_eq_some_iff.1 hsz
  have h1 : (0 : Int) ≤ (j : Int) ∧ (j : Int) < (n : Int) := by omega
  simp [Instr.indexAt, asIntOf, run_underlying ht, h1, sizeOf, typeInfo, hinf, hsz', go_sem, Addr.plain]
  omega
end Go.Proofs.U
namespace Go.Proofs.Ytejjfpdcmaefiaa
open Go.RowKit Go.Proofs.U
set_option linter.unusedSimpArgs false
set_option linter.unusedVariables false
set_option maxRecDepth 100000 in
set_option maxHeartbeats 1000000 in
theorem same_any (v v3 : Value) (pend : List (Int × List Int)) (w : World) (h : SlR en64 1 w v (pend.map (·.1))) (h3 : SlWr w v3 pend) (hm : pend.length ≤ 100000) :
    Calls Try.prog 27 #[v, v3] w fun r w' => r = .returned (.bool true) ∧ Fr noB w w' := by
  by_cases hz : pend.length = 0
  · obtain rfl := List.eq_nil_of_length_eq_zero hz
    obtain ⟨a, c, rfl, _⟩ := h.opn
    obtain ⟨a3, c3, rfl, _⟩ := h3.opn
    go_enter Try.func27, Try.ntmps27
    go_wp2
    go_loopw [13] (fun i wr => i = .int .i64 0 ∧ Fr noB w wr) (fun i _ => 0)
    case atStart => exact ⟨rfl, Fr.refl _ _⟩
    case round =>
      obtain ⟨rfl, hf⟩ := hrel
      go_wp2
      go_ret
      exact ⟨rfl, hf⟩
  · obtain ⟨n, Hn⟩ : ∃ n, Hid (pend.length = n) := ⟨_, rfl⟩
    have hn0 : 0 < n := by rw [← Hn.out]; omega
    have hnm : n ≤ 100000 := by rw [← Hn.out]; exact hm
    obtain ⟨b, o, c, rfl, hc⟩ := h.addr (by decide) (by rw [List.length_map]; omega)
    obtain ⟨b3, o3, c3, rfl, hc3⟩ := h3.addr (by decide) (by omega)
    rw [List.length_map, Hn.out]
    go_enter Try.func27, Try.ntmps27
    go_wp2
    go_loopw [13] (fun i wr => ∃ k : Nat, k ≤ n ∧ i = .int .i64 (k : Int) ∧ Fr noB w wr) (fun i _ => n - (intOf i).toNat)
    case atStart => exact ⟨0, Nat.zero_le _, rfl, Fr.refl _ _⟩
    case round =>
      obtain ⟨k, hk, rfl, hf⟩ := hrel
      by_cases hlt : k < n
      · have hlt' : (k : Int) < (n : Int) := by omega
        have hkp : k < pend.length := by rw [Hn.out]; exact hlt
        obtain ⟨x, Hx⟩ : ∃ x, Hid (pend[k].1 = x) := ⟨pend[k].1, (rfl : pend[k].1 = pend[k].1)⟩
        have k0 : wr.drew.cell? ⟨b, o + k * 1, none⟩ = some (.int .i64 x) := by
          have := hc k (by rw [List.length_map]; exact hkp) 0 (.int .i64 x) (by simp [Hx.out])
          exact hf.drew.cell this (fun q => q)
        have k3 : wr.drew.cell? ⟨b3, o3 + k * 257, none⟩ = some (.int .i64 x) := by
          have := hc3 k hkp 0 (.int .i64 x) (by simp [encW, Hx.out])
          exact hf.drew.cell this (fun q => q)
        rw [Nat.mul_one] at k0
        go_wp2_with fail
        refine wp_region_chain_lay (by kernel_rfl) [] [none, none, none, none, none, none, none, none, none, none]
          [fun v => v = .slice (some ⟨b, o, none⟩) n c, fun v => v = .int .i64 (k : Int), fun v => v = .pointer (some ⟨b, o + k * 1, none⟩), fun v => v = .int .i64 x, fun v => v = .slice (some ⟨b3, o3, none⟩) n c3, fun v => v = .int .i64 (k : Int), fun v => v = .pointer (some ⟨b3, o3 + k * 257, none⟩), fun v => v = .pointer (some ⟨b3, o3 + k * 257, none⟩), fun v => v = .int .i64 x, fun v => v = .bool false]
          (JN wr.drew) (rfl) (by kernel_rfl) (by kernel_rfl) (by decide) ⟨?o0, ?o1, ?o2, ?o3, ?o4, ?o5, ?o6, ?o7, ?o8, ?o9, trivial⟩ ?oe
        case o0 =>
          intro A W hv hlen hJ hbase hdL hdH
          have e0 : A.eval (.tmp 0) = .slice (some ⟨b, o, none⟩) n c := hbase 0 (by kernel_rfl)
          have f0 : A.tmps[0]?.getD undef = .slice (some ⟨b, o, none⟩) n c := by simpa [Act.eval] using e0
          exact light_val rfl (v := .slice (some ⟨b, o, none⟩) n c) (by simp [execOp, e0, f0]) hJ rfl
        case o1 =>
          intro A W hv hlen hJ hbase hdL hdH
          have e5 : A.eval (.tmp 5) = .int .i64 (k : Int) := hbase 5 (by kernel_rfl)
          have f5 : A.tmps[5]?.getD undef = .int .i64 (k : Int) := by simpa [Act.eval] using e5
          exact light_val rfl (v := .int .i64 (k : Int)) (by simp [execOp, e5, f5]) hJ rfl
        case o2 =>
          intro A W hv hlen hJ hbase hdL hdH
          have e16 : A.eval (.tmp 16) = .slice (some ⟨b, o, none⟩) n c := hdL 0 16 (by kernel_rfl) (by kernel_rfl) (by kernel_rfl)
          have f16 : A.tmps[16]?.getD undef = .slice (some ⟨b, o, none⟩) n c := by simpa [Act.eval] using e16
          have e17 : A.eval (.tmp 17) = .int .i64 (k : Int) := hdL 1 17 (by kernel_rfl) (by kernel_rfl) (by kernel_rfl)
          have f17 : A.tmps[17]?.getD undef = .int .i64 (k : Int) := by simpa [Act.eval] using e17
          have hr := run_idxS (P := Try.prog) (w := W) (sz := 1) 56 3 Try.underlying56 size_int b o n c .i64 k hlt
          exact light_val rfl (v := .pointer (some ⟨b, o + k * 1, none⟩)) (by simp [execOp, e16, e17, hr, Result.andThen]) hJ rfl
        case o3 =>
          intro A W hv hlen hJ hbase hdL hdH
          have e18 : A.eval (.tmp 18) = .pointer (some ⟨b, o + k * 1, none⟩) := hdL 2 18 (by kernel_rfl) (by kernel_rfl) (by kernel_rfl)
          have f18 : A.tmps[18]?.getD undef = .pointer (some ⟨b, o + k * 1, none⟩) := by simpa [Act.eval] using e18
          cases hJ
          exact light_val rfl (v := .int .i64 x) (by simp [execOp, go_sem, e18, f18, k0]) rfl rfl
        case o4 =>
          intro A W hv hlen hJ hbase hdL hdH
          have e1 : A.eval (.tmp 1) = .slice (some ⟨b3, o3, none⟩) n c3 := hbase 1 (by kernel_rfl)
          have f1 : A.tmps[1]?.getD undef = .slice (some ⟨b3, o3, none⟩) n c3 := by simpa [Act.eval] using e1
          exact light_val rfl (v := .slice (some ⟨b3, o3, none⟩) n c3) (by simp [execOp, e1, f1]) hJ rfl
        case o5 =>
          intro A W hv hlen hJ hbase hdL hdH
          have e5 : A.eval (.tmp 5) = .int .i64 (k : Int) := hbase 5 (by kernel_rfl)
          have f5 : A.tmps[5]?.getD undef = .int .i64 (k : Int) := by simpa [Act.eval] using e5
          exact light_val rfl (v := .int .i64 (k : Int)) (by simp [execOp, e5, f5]) hJ rfl
        case o6 =>
          intro A W hv hlen hJ hbase hdL hdH
          have e20 : A.eval (.tmp 20) = .slice (some ⟨b3, o3, none⟩) n c3 := hdL 4 20 (by kernel_rfl) (by kernel_rfl) (by kernel_rfl)
          have f20 : A.tmps[20]?.getD undef = .slice (some ⟨b3, o3, none⟩) n c3 := by simpa [Act.eval] using e20
          have e21 : A.eval (.tmp 21) = .int .i64 (k : Int) := hdL 5 21 (by kernel_rfl) (by kernel_rfl) (by kernel_rfl)
          have f21 : A.tmps[21]?.getD undef = .int .i64 (k : Int) := by simpa [Act.eval] using e21
          have hr := run_idxS (P := Try.prog) (w := W) (sz := 257) 37 79 Try.underlying37 write_size b3 o3 n c3 .i64 k hlt
          exact light_val rfl (v := .pointer (some ⟨b3, o3 + k * 257, none⟩)) (by simp [execOp, e20, e21, hr, Result.andThen]) hJ rfl
        case o7 =>
          intro A W hv hlen hJ hbase hdL hdH
          have e22 : A.eval (.tmp 22) = .pointer (some ⟨b3, o3 + k * 257, none⟩) := hdL 6 22 (by kernel_rfl) (by kernel_rfl) (by kernel_rfl)
          have f22 : A.tmps[22]?.getD undef = .pointer (some ⟨b3, o3 + k * 257, none⟩) := by simpa [Act.eval] using e22
          exact light_val rfl (v := .pointer (some ⟨b3, o3 + k * 257, none⟩)) (by simp [execOp, go_sem, e22, f22]) hJ rfl
        case o8 =>
          intro A W hv hlen hJ hbase hdL hdH
          have e23 : A.eval (.tmp 23) = .pointer (some ⟨b3, o3 + k * 257, none⟩) := hdL 7 23 (by kernel_rfl) (by kernel_rfl) (by kernel_rfl)
          have f23 : A.tmps[23]?.getD undef = .pointer (some ⟨b3, o3 + k * 257, none⟩) := by simpa [Act.eval] using e23
          cases hJ
          exact light_val rfl (v := .int .i64 x) (by simp [execOp, go_sem, e23, f23, k3]) rfl rfl
        case o9 =>
          intro A W hv hlen hJ hbase hdL hdH
          have e19 : A.eval (.tmp 19) = .int .i64 x := hdL 3 19 (by kernel_rfl) (by kernel_rfl) (by kernel_rfl)
          have f19 : A.tmps[19]?.getD undef = .int .i64 x := by simpa [Act.eval] using e19
          have e24 : A.eval (.tmp 24) = .int .i64 x := hdL 8 24 (by kernel_rfl) (by kernel_rfl) (by kernel_rfl)
          have f24 : A.tmps[24]?.getD undef = .int .i64 x := by simpa [Act.eval] using e24
          exact light_val rfl (v := .bool false) (by simp [execOp, go_sem, e19, f19, e24, f24]) hJ rfl
        case oe =>
          intro vs W' hv hlen hJ hL hH
          obtain rfl : hv = [] := List.eq_nil_of_length_eq_zero hlen
          cases hJ
          have hx : vs 9 = .bool false := hL 9 (by rfl) (by rfl)
          simp only [layL, Nat.reduceAdd, Act.put, List.setIfInBounds_toArray, List.set_cons_zero, List.set_cons_succ]
          clear hL hH
          generalize vs 0 = y100 at *
          generalize vs 1 = y101 at *
          generalize vs 2 = y102 at *
          generalize vs 3 = y103 at *
          generalize vs 4 = y104 at *
          generalize vs 5 = y105 at *
          generalize vs 6 = y106 at *
          generalize vs 7 = y107 at *
          generalize vs 8 = y108 at *
          generalize vs 9 = y109 at *
          subst hx
          go_wp2
          go_roundw
          case rel => exact ⟨k + 1, by omega, by go_num, hf.drew⟩
          case measure => simp [intOf]; omega
      · obtain rfl : k = n := by omega
        go_wp2
        go_ret
        exact ⟨rfl, hf⟩
end Go.Proofs.Ytejjfpdcmaefiaa
