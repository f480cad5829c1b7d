/- Texts V2, V3, V4, V5, W1 of the proof of RootRuns, one behind the other. -/
import Derived.Test.YtijgfojnppcbjaaBundleRootRuns1
import Derived.Test.YtijgfojnppcbjaaBundleRootRuns2
import Derived.Test.YtijgfojnppcbjaaBundleRootRuns3
import Derived.Test.YtijgfojnppcbjaaBundleRootRuns4
import Derived.Test.YtijgfojnppcbjaaBundleRootRuns5
import Derived.Test.YtijgfojnppcbjaaBundleRootRuns6
import Derived.Test.YtijgfojnppcbjaaBundleRootRuns7
import Derived.Test.YtijgfojnppcbjaaBundleRootRuns8
import Derived.Test.YtijgfojnppcbjaaBundleRootRuns9
import Derived.Test.YtijgfojnppcbjaaBundleRootRuns10
/- Pages and rows of bytes cut and copied; slotOf, generationOf of package root. -/
namespace Go.Proofs.Ytijgfojnppcbjaa
open Go.RowKit Go.Proofs.U
set_option linter.unusedSimpArgs false
set_option linter.unusedVariables false

theorem BxV.slI {w : World} {g : Nat} {t : TypeId} {l : List Int} (h : BxV w g t (pgv l)) (hb : Byt l) (off n cap : Nat) (hn : off + n ≤ l.length) (hc : n ≤ cap) : SlI .u8 w (.slice (some ⟨g, off, none⟩) n cap) ((l.drop off).take n) := by
  have hl : ((l.drop off).take n).length = n := by simp; omega
  refine ⟨?_, (Byt.drop hb off).take n⟩
  rw [hl]
  refine ⟨_, _, rfl, hc, by rw [List.length_map, hl, Nat.mul_one], (fun e => by cases e), fun x hx => ?_⟩
  cases hx
  intro j u hj
  rw [Addr.plain]
  refine (h.cell (off + j) u ?_).1
  rw [← hj]
  have hjn : j < n := by
    have := (List.getElem?_eq_some_iff.1 hj).1
    simp only [List.length_map] at this; omega
  simp [pgv, List.getElem?_take, hjn, List.getElem?_drop]
theorem run_cutP (W : World) (b off i j : Nat) (hi : i < 256) (hij : i ≤ j) (hj : j ≤ 256) (x y : Int) (hx : x = (i : Int)) (hy : y = (j : Int)) : (Instr.sliceAt 46 (.pointer (some ⟨b, off, none⟩)) (some (.int .i64 x)) (some (.int .i64 y)) none).run Try.prog W = .ok (.slice (some ⟨b, off + i, none⟩) (j - i) (256 - i)) W := by
  subst hx hy
  have h := run_sliceAt_array_lh W 46 ⟨b, off, none⟩ (P := Try.prog) (by kernel_rfl) .i64 .i64 (i : Int) (j : Int) (by omega) (by omega) (by rw [len_page]; omega)
  rw [h]
  have he : Try.prog.elem 46 = 5 := by kernel_rfl
  obtain ⟨ii, hii, hsz⟩ := Option.map_eq_some_iff.1 size_u8
  simp only [he, sizeOf, typeInfo, len_page, slicedAt, Int.toNat_natCast]
  have h3 : ¬ (256 = i) := by omega
  simp [hii, hsz, go_sem, Addr.plain, h3]
/-- s[i:] of a row of bytes. -/
theorem run_cutL (W : World) (g n i : Nat) (hi : i < n) (x : Int) (hx : x = (i : Int)) : (Instr.sliceAt 24 (.slice (some ⟨g, 0, none⟩) n n) (some (.int .i64 x)) none none).run Try.prog W = .ok (.slice (some ⟨g, i, none⟩) (n - i) (n - i)) W := by
  subst hx
  rw [run_cutl 24 5 Try.underlying24 1 size_u8 _ n n .i64 i (by omega)]
  have h3 : ¬ (n = i) := by omega
  simp [h3, Addr.plain]
/-- copy into a variable of bytes. -/
theorem run_cpyB {W : World} {g : Nat} {t : TypeId} {l : List Int} (hB : BxV W g t (pgv l)) (off n dcap : Nat) (hn : off + n ≤ l.length) (ty : TypeId) (v : Value) (m : List Int) (hS : SlI .u8 W v m) (r : Value) (hr : r = .slice (some ⟨g, off, none⟩) n dcap) :
    ∃ W', (Builtin.copy_ #[24, 24] ty #[r, v]).run Try.prog W = .ok (goInt (Nat.min m.length n)) W' ∧ BxV W' g t (pgv (putI l off (m.take n))) ∧ Fr (onB1 g) W W' := by
  subst hr
  have hS0 := hS
  obtain ⟨⟨ao, cap, rfl, hcap, hlen, hnone, hsome⟩, hwf⟩ := hS
  rw [Nat.mul_one, List.length_map] at hlen
  by_cases h0 : Nat.min m.length n = 0
  · refine ⟨W, ?_, ?_, Fr.refl _ _⟩
    · rw [run_copy_none W 24 24 ty 5 _ _ _ _ _ _ Try.underlying24 size_u8 h0, h0]; rfl
    · have : m.take n = [] := by
        have h0' : min m.length n = 0 := h0
        apply List.eq_nil_of_length_eq_zero; rw [List.length_take]; omega
      rw [this]
      have e : putI l off [] = l := by simp [putI]
      rw [e]; exact hB
  · cases ao with
    | none =>
      have h1 := hnone rfl
      have h0' : ¬ min m.length n = 0 := h0
      omega
    | some ad =>
      have hcell := hsome ad rfl
      have hl2 : (pgv (m.take n)).length = Nat.min m.length n := by
        show _ = min m.length n
        rw [pgv_len, List.length_take]; omega
      have hmn : Nat.min m.length n ≤ n := Nat.min_le_right _ _
      have hr := run_copy_cells (P := Try.prog) W 24 24 ty 5 g off n dcap ad m.length cap (pgv (m.take n)) Try.underlying24 size_u8 hl2
        (by
          intro j u hj
          refine hcell j u ?_
          have hjl := (List.getElem?_eq_some_iff.1 hj).1
          rw [hl2] at hjl
          rw [← hj]
          simp [pgv, List.getElem?_take, show j < n by omega])
        (fun j hj => by
          rw [hl2] at hj
          exact (hB.thereR off n (by rw [pgv_len]; omega) j (by omega)).1)
        (fun j hj => by
          rw [hl2] at hj
          exact (hB.thereR off n (by rw [pgv_len]; omega) j (by omega)).2) (pgv_one _)
      rw [hl2] at hr
      refine ⟨_, hr, ?_, setCells_fr1 _ _ _ _⟩
      have := setCells_bx (pgv (m.take n)) off W (pgv l) hB (by rw [hl2, pgv_len]; omega)
      rwa [putAt_putI] at this
section
variable {w : World} {ops : Array Oper} {rest : List Oper} {o : Oper} {a : Act} {Q : Exit → Act → World → Prop}
theorem wpList_cutP (hgd : Region.wanted o (yielded ops a.tmps) = true) (x lo hi : Operand) (ho : o.op = .slice 46 x (some lo) (some hi) none) (g : Nat) (hx : a.eval x = .pointer (some ⟨g, 0, none⟩)) (i j : Nat) (zl zh : Int) (hlo : a.eval lo = .int .i64 zl) (hhi : a.eval hi = .int .i64 zh) (hzl : zl = (i : Int)) (hzh : zh = (j : Int)) (hi' : i < 256) (hij : i ≤ j) (hj : j ≤ 256)
    (h : wpList Try.prog ops Q rest (a.put o.dst (.slice (some ⟨g, i, none⟩) (j - i) (256 - i))) w) : wpList Try.prog ops Q (o :: rest) a w := by
  refine wpList_wanted hgd fun K hK => ?_
  have hr := run_cutP w g 0 i j hi' hij hj zl zh hzl hzh
  rw [Nat.zero_add] at hr
  unfold Oper.wp
  simp [execOp, ho, hx, hlo, hhi, hr, Result.andThen]
  exact hK _ _ h
theorem wpList_cpyB (hgd : o.guard = none) (d s : Operand) (ho : o.op = .call { callee := .builtin .copy, args := #[d, s], argTypes := #[24, 24] })
    (g : Nat) (t : TypeId) (l : List Int) (hB : BxV w g t (pgv l)) (off n dcap : Nat) (hd : a.eval d = .slice (some ⟨g, off, none⟩) n dcap) (hn : off + n ≤ l.length) (v : Value) (hs : a.eval s = v) (m : List Int) (hS : SlI .u8 w v m)
    (h : ∀ w', BxV w' g t (pgv (putI l off (m.take n))) → Fr (onB1 g) w w' → wpList Try.prog ops Q rest (a.put o.dst (goInt (Nat.min m.length n))) w') : wpList Try.prog ops Q (o :: rest) a w := by
  obtain ⟨W', hr, h1, h2⟩ := run_cpyB hB off n dcap hn o.type v m hS _ rfl
  exact Lib.wpList_copy_run w hgd d s 24 24 ho _ _ hd hs hr (h W' h1 h2)
theorem at_cpy (d s : Operand) (t t' : TypeId) (_ho : o.op = .call { callee := .builtin .copy, args := #[d, s], argTypes := #[t, t'] }) (h : wpList Try.prog ops Q (o :: rest) a w) : wpList Try.prog ops Q (o :: rest) a w := h
/-- make([]byte, n). -/
theorem wpList_mkB (hgd : o.guard = none) (l c : Operand) (ho : o.op = .makeSlice 24 l c) (n : Nat) (L : Int) (hl : a.eval l = .int .i64 L) (hc : a.eval c = .int .i64 L) (hL : L = (n : Int)) (hn : n ≤ 1000000)
    (h : ∀ g w', BxV w' g 5 (pgv (List.replicate n 0)) → Fr noB w w' → w.heap.size ≤ g → wpList Try.prog ops Q rest (a.put o.dst (.slice (some ⟨g, 0, none⟩) n n)) w') : wpList Try.prog ops Q (o :: rest) a w := by
  refine wpList_makeR enV 1 hgd l c 24 ho 0 5 (.int .u8 0) 1 Try.underlying24 info_u8b (Value.int .u8 0) rfl rfl (by decide) .i64 .i64 L L n hl hc hL hL (by omega) (by unfold maxLen; omega) (Nat.zero_le _) ?_
  intro g w' ho hf hg hlt
  refine h g w' ?_ hf hg
  have := bx_full ho (by simp)
  simpa [pgv] using this
end

theorem slotOf_any (g : Int) (h : 0 ≤ g ∧ g < 18446744073709551616) (w : World) :
    Calls Try.prog 31 #[.int .u64 g] w fun e w' => e = .returned (.int .i64 (g % 2)) ∧ w = w' := by
  go_enter Try.func31, Try.ntmps31
  go_wp2
  go_ret
  refine ⟨?_, rfl⟩
  have e : g.tmod 2 = g % 2 := Int.tmod_eq_emod_of_nonneg h.1
  simp [e]

theorem nm8 (l : List Int) (h : l.length = 8) : nmV l 0 false 8 = leNum l := by
  have e : isW 8 = true := rfl
  simp [nmV, e, tkL, tkOk, h, List.take_of_length_le]

set_option maxHeartbeats 1000000 in
theorem genOf_any (p : List Int) (hp : p.length = 256) (hb : Byt p) (s : Nat) (hs : s < 8) (w : World) :
    Calls Try.prog 53 #[pgV p, .int .i64 (s : Int)] w fun e w' => e = .returned (.int .u64 (genAt p s)) ∧ Fr noB w w' := by
  have Hp := show Hid _ from hp
  clear hp
  obtain ⟨G, HG⟩ : ∃ G, Hid (genAt p s = G) := ⟨_, rfl⟩
  rw [HG.out]
  have hl8 : Hid (((p.drop (s * 32)).take 8).length = 8) := by show _ = _; have := Hp.out; simp; omega
  have hG : Hid (nmV ((p.drop (s * 32)).take 8) 0 false 8 = G) := by show _ = _; rw [nm8 _ hl8.out]; exact HG.out
  have hm : ((p.drop (s * 32)).take 8).length ≤ 1000000000000 := by rw [hl8.out]; decide
  have d1 : (s : Int) * 32 + 8 ≤ 256 := by omega
  go_enter Try.func53, Try.ntmps53
  go_wp2_with (first
    | (with_reducible refine at_wpP ?_; refine wpList_boxV rfl 46 _ rfl (pgv p) rfl ?_; intro g1 w1 hg1 b1 f1 s1)
    | (with_reducible refine at_wpP ?_; refine at_cut 46 _ _ _ _ rfl ?_; go_must (refine wpList_cutP rfl _ _ _ rfl g1 rfl (s * 32) (s * 32 + 8) _ _ rfl rfl (by simp) (by simp) (by omega) (by omega) (by omega) ?_; have s2 := BxV.slI b1 hb (s * 32) (s * 32 + 8 - s * 32) (256 - s * 32) (by have := Hp.out; omega) (by omega); rw [Nat.add_sub_cancel_left] at s2 ⊢))
    | (go_at_call 58; go_must (refine (enew_any _ _ _ s2 hm).mono ?_; rintro e w3 ⟨b3, vb3, rfl, hb3, hv3, r3, f3⟩))
    | (go_at_call 60; go_must (refine (num_any b3 vb3 _ 0 false 8 _ r3).mono ?_; rw [hG.out]; rintro e w4 ⟨rfl, r4, f4⟩)))
  go_ret
  refine ⟨rfl, ?_⟩
  have z1 := f1.size
  exact (f1.thenN f3).thenT f4 (fun i hi q => by unfold onB at q; omega)
end Go.Proofs.Ytijgfojnppcbjaa
/- streamOf of package root. (Written by v3_gen.py.) -/
namespace Go.Proofs.Ytijgfojnppcbjaa
open Go.RowKit Go.Proofs.U
set_option linter.unusedSimpArgs false
set_option linter.unusedVariables false
/-- While bytes are copied into a variable. -/
def JB (w0 : World) (g : Nat) (t : TypeId) (l : List Int) : List Value → World → Prop
  | [], W => W = w0
  | [_], W => BxV W g t (pgv l) ∧ Fr (onB1 g) w0 W
  | _, _ => False

set_option maxRecDepth 100000 in
set_option maxHeartbeats 2000000 in
theorem streamOf_any (p : List Int) (hp : p.length = 256) (hb : Byt p) (w : World) :
    Calls Try.prog 59 #[pgV p] w fun e w' => ∃ v, e = .returned v ∧ SlI .u8 w' v (strmOf p) ∧ Fr noB w w' := by
  have Hp := show Hid _ from hp
  clear hp
  obtain ⟨Z, HZ⟩ : ∃ Z, Hid (List.replicate 192 (0 : Int) = Z) := ⟨_, rfl⟩
  go_enter Try.func59, Try.ntmps59
  go_wp2_with (first
    | (with_reducible refine at_wpP ?_; refine wpList_boxV rfl 46 _ rfl (pgv p) rfl ?_; intro g1 w1 hg1 b1 f1 s1)
    | (refine at_make 24 _ _ rfl ?_; go_must (refine wpList_mkB rfl _ _ rfl 192 192 rfl rfl rfl (by decide) ?_; rw [HZ.out]; intro g2 w2 b2 f2 s2; have F2 := f1.thenN f2; have c2 := b1.fr0 f2; have hl1 := b1.lt; have z1 := f1.size)))
  go_loopw [8] (fun i wr => ∃ (s : Nat) (l : List Int), s ≤ 8 ∧ i = .int .i64 (s : Int) ∧ Hid (l = strmK p s) ∧ BxV wr g2 5 (pgv l) ∧ BxV wr g1 46 (pgv p) ∧ Fr noB w wr) (fun i _ => 8 - (intOf i).toNat)
  case atStart => exact ⟨0, Z, by omega, rfl, show _ = _ by rw [← HZ.out, strmK_zero], b2, c2, F2⟩
  case round =>
    obtain ⟨s, l, hs8, rfl, hl, hB, hC, hf⟩ := hrel
    by_cases hs : s < 8
    · have hs' : (s : Int) < 8 := by omega
      have w24 : IntKind.i64.wrap ((s : Int) * 24) = (s : Int) * 24 := by rw [IntKind.wrap_i64]; omega
      have hcp : ∃ W', (Builtin.copy_ #[24, 24] 3 #[.slice (some ⟨g2, s * 24, none⟩) (192 - s * 24) (192 - s * 24), .slice (some ⟨g1, 0 + (s * 32 + 8), none⟩) (s * 32 + 32 - (s * 32 + 8)) (256 - (s * 32 + 8))]).run Try.prog wr.drew = .ok (goInt 24) W' ∧ BxV W' g2 5 (pgv (strmK p (s + 1))) ∧ Fr (onB1 g2) wr.drew W' := by
        have e0 : 0 + (s * 32 + 8) = s * 32 + 8 := by omega
        have e1 : s * 32 + 32 - (s * 32 + 8) = 24 := by omega
        rw [e0, e1]
        have hpl := Hp.out
        have h24 : ((p.drop (s * 32 + 8)).take 24).length = 24 := by simp [hpl]; omega
        have hll : l.length = 192 := by rw [hl.out, strmK_len]
        have hS : SlI .u8 wr.drew (.slice (some ⟨g1, s * 32 + 8, none⟩) 24 (256 - (s * 32 + 8))) ((p.drop (s * 32 + 8)).take 24) := BxV.slI (w := wr.drew) hC hb _ _ _ (by omega) (by omega)
        obtain ⟨W', h1, h2, h3⟩ := run_cpyB (W := wr.drew) (t := 5) hB (s * 24) (192 - s * 24) (192 - s * 24) (by omega) 3 _ _ hS _ rfl
        refine ⟨W', ?_, ?_, h3⟩
        · rw [h1, h24]
          have : Nat.min 24 (192 - s * 24) = 24 := Nat.min_eq_left (by omega)
          rw [this]; rfl
        · rw [strmK_succ p hpl s hs, ← hl.out]
          rwa [List.take_of_length_le (by omega)] at h2
      go_wp2
      refine wp_region_chain_lay (by kernel_rfl) [7] [none, none, none, none, none, none, none, some 0]
        [fun v => v = .slice (some ⟨g2, 0, none⟩) 192 192, fun v => v = .int .i64 (s : Int), fun v => v = .int .i64 ((s : Int) * 24), fun v => v = .slice (some ⟨g2, s * 24, none⟩) (192 - s * 24) (192 - s * 24), fun v => v = .int .i64 ((s : Int) * 32 + 8), fun v => v = .int .i64 (((s : Int) + 1) * 32), fun v => v = .slice (some ⟨g1, 0 + (s * 32 + 8), none⟩) (s * 32 + 32 - (s * 32 + 8)) (256 - (s * 32 + 8)), fun _ => True]
        (JB wr.drew g2 5 (strmK p (s + 1))) (rfl) (by kernel_rfl) (by kernel_rfl) (by decide) ⟨?o0, ?o1, ?o2, ?o3, ?o4, ?o5, ?o6, ?o7, trivial⟩ ?oe
      case o0 =>
        intro A W hv hlen hJ hbase hdL hdH
        have e3 : A.eval (.tmp 3) = .slice (some ⟨g2, 0, none⟩) 192 192 := hbase 3 (by kernel_rfl)
        have f3 : A.tmps[3]?.getD undef = .slice (some ⟨g2, 0, none⟩) 192 192 := by simpa [Act.eval] using e3
        exact light_val rfl (v := .slice (some ⟨g2, 0, none⟩) 192 192) (by simp [execOp, e3, f3]) hJ rfl
      case o1 =>
        intro A W hv hlen hJ hbase hdL hdH
        have e4 : A.eval (.tmp 4) = .int .i64 (s : Int) := hbase 4 (by kernel_rfl)
        have f4 : A.tmps[4]?.getD undef = .int .i64 (s : Int) := by simpa [Act.eval] using e4
        exact light_val rfl (v := .int .i64 (s : Int)) (by simp [execOp, e4, f4]) hJ rfl
      case o2 =>
        intro A W hv hlen hJ hbase hdL hdH
        have e18 : A.eval (.tmp 18) = .int .i64 (s : Int) := hdL 1 18 (by kernel_rfl) (by kernel_rfl) (by kernel_rfl)
        have f18 : A.tmps[18]?.getD undef = .int .i64 (s : Int) := by simpa [Act.eval] using e18
        exact light_val rfl (v := .int .i64 ((s : Int) * 24)) (by simp [execOp, go_sem, e18, f18, w24]) hJ rfl
      case o3 =>
        intro A W hv hlen hJ hbase hdL hdH
        have e17 : A.eval (.tmp 17) = .slice (some ⟨g2, 0, none⟩) 192 192 := hdL 0 17 (by kernel_rfl) (by kernel_rfl) (by kernel_rfl)
        have f17 : A.tmps[17]?.getD undef = .slice (some ⟨g2, 0, none⟩) 192 192 := by simpa [Act.eval] using e17
        have e19 : A.eval (.tmp 19) = .int .i64 ((s : Int) * 24) := hdL 2 19 (by kernel_rfl) (by kernel_rfl) (by kernel_rfl)
        have f19 : A.tmps[19]?.getD undef = .int .i64 ((s : Int) * 24) := by simpa [Act.eval] using e19
        have hr := run_cutL W g2 192 (s * 24) (by omega) ((s : Int) * 24) (by simp)
        exact light_val rfl (v := .slice (some ⟨g2, s * 24, none⟩) (192 - s * 24) (192 - s * 24)) (by simp [execOp, e17, e19, hr, Result.andThen]) hJ rfl
      case o4 =>
        intro A W hv hlen hJ hbase hdL hdH
        have e5 : A.eval (.tmp 5) = .int .i64 ((s : Int) * 32 + 8) := hbase 5 (by kernel_rfl)
        have f5 : A.tmps[5]?.getD undef = .int .i64 ((s : Int) * 32 + 8) := by simpa [Act.eval] using e5
        exact light_val rfl (v := .int .i64 ((s : Int) * 32 + 8)) (by simp [execOp, e5, f5]) hJ rfl
      case o5 =>
        intro A W hv hlen hJ hbase hdL hdH
        have e6 : A.eval (.tmp 6) = .int .i64 (((s : Int) + 1) * 32) := hbase 6 (by kernel_rfl)
        have f6 : A.tmps[6]?.getD undef = .int .i64 (((s : Int) + 1) * 32) := by simpa [Act.eval] using e6
        exact light_val rfl (v := .int .i64 (((s : Int) + 1) * 32)) (by simp [execOp, e6, f6]) hJ rfl
      case o6 =>
        intro A W hv hlen hJ hbase hdL hdH
        have e1 : A.eval (.tmp 1) = .pointer (some ⟨g1, 0, none⟩) := hbase 1 (by kernel_rfl)
        have f1 : A.tmps[1]?.getD undef = .pointer (some ⟨g1, 0, none⟩) := by simpa [Act.eval] using e1
        have e21 : A.eval (.tmp 21) = .int .i64 ((s : Int) * 32 + 8) := hdL 4 21 (by kernel_rfl) (by kernel_rfl) (by kernel_rfl)
        have f21 : A.tmps[21]?.getD undef = .int .i64 ((s : Int) * 32 + 8) := by simpa [Act.eval] using e21
        have e22 : A.eval (.tmp 22) = .int .i64 (((s : Int) + 1) * 32) := hdL 5 22 (by kernel_rfl) (by kernel_rfl) (by kernel_rfl)
        have f22 : A.tmps[22]?.getD undef = .int .i64 (((s : Int) + 1) * 32) := by simpa [Act.eval] using e22
        have hr := run_cutP W g1 0 (s * 32 + 8) (s * 32 + 32) (by omega) (by omega) (by omega) ((s : Int) * 32 + 8) (((s : Int) + 1) * 32) (by simp) (by simp; omega)
        exact light_val rfl (v := .slice (some ⟨g1, 0 + (s * 32 + 8), none⟩) (s * 32 + 32 - (s * 32 + 8)) (256 - (s * 32 + 8))) (by simp [execOp, e1, e21, e22, hr, Result.andThen]) hJ rfl
      case o7 =>
        intro A W hv hlen hJ hbase hdL hdH
        have e20 : A.eval (.tmp 20) = .slice (some ⟨g2, s * 24, none⟩) (192 - s * 24) (192 - s * 24) := hdL 3 20 (by kernel_rfl) (by kernel_rfl) (by kernel_rfl)
        have f20 : A.tmps[20]?.getD undef = .slice (some ⟨g2, s * 24, none⟩) (192 - s * 24) (192 - s * 24) := by simpa [Act.eval] using e20
        have e23 : A.eval (.tmp 23) = .slice (some ⟨g1, 0 + (s * 32 + 8), none⟩) (s * 32 + 32 - (s * 32 + 8)) (256 - (s * 32 + 8)) := hdL 6 23 (by kernel_rfl) (by kernel_rfl) (by kernel_rfl)
        have f23 : A.tmps[23]?.getD undef = .slice (some ⟨g1, 0 + (s * 32 + 8), none⟩) (s * 32 + 32 - (s * 32 + 8)) (256 - (s * 32 + 8)) := by simpa [Act.eval] using e23
        obtain rfl : hv = [] := List.eq_nil_of_length_eq_zero hlen
        obtain rfl := hJ
        obtain ⟨W1, hr, h1, h2⟩ := hcp
        refine heavy_wp rfl ?_
        refine Lib.wp_copy_run _ (.tmp 20) (.tmp 23) 24 24 rfl _ _ e20 e23 hr ?_
        exact ⟨_, rfl, h1, h2⟩
      case oe =>
        intro vs W' hv hlen hJ hL hH
        match hv, hlen with
        | [y1], _ =>
          obtain ⟨hB', hf'⟩ := hJ
          simp only [layL, Nat.reduceAdd, Act.put, List.setIfInBounds_toArray, List.set_cons_zero, List.set_cons_succ]
          clear hL hH
          generalize vs 0 = y100 at *
          generalize vs 1 = y101 at *
          generalize vs 2 = y102 at *
          generalize vs 3 = y103 at *
          generalize vs 4 = y104 at *
          generalize vs 5 = y105 at *
          generalize vs 6 = y106 at *
          generalize vs 7 = y107 at *
          have hC' := (show BxV wr.drew g1 _ _ from hC).ne hf' (by omega)
          go_wp2
          go_roundw
          case rel => exact ⟨s + 1, _, by omega, by go_num, (rfl : strmK p (s + 1) = strmK p (s + 1)), hB', hC', hf.drew.thenT hf' (fun i hi q => by unfold onB1 at q; omega)⟩
          case measure => simp [intOf]; omega
    · obtain rfl : s = 8 := by omega
      go_wp2
      go_ret
      refine ⟨_, rfl, ?_, hf⟩
      have hl8 : l = strmOf p := by rw [hl.out, strmK_end]
      subst hl8
      have := BxV.slI hB (strmOf_byt hb) 0 192 192 (by rw [strmOf_len]; decide) (by omega)
      rwa [List.drop_zero, List.take_of_length_le (by rw [strmOf_len]; decide)] at this
end Go.Proofs.Ytijgfojnppcbjaa
/- pageOf of package root. (Written by v3_gen.py.) -/
namespace Go.Proofs.Ytijgfojnppcbjaa
open Go.RowKit Go.Proofs.U
set_option linter.unusedSimpArgs false
set_option linter.unusedVariables false
theorem SlB_two (w : World) (t : TypeId) (v u : Value) (l m : List Int) (h : SlI .u8 w v l) (k : SlI .u8 w u m) (b : Nat) (hb : w.heap.size = b) : SlB (w.alloc (.cells #[v, u] t)) (.slice (some ⟨b, 0, none⟩) 2 2) [l, m] := by
  refine ⟨[v, u], by simpa using Sl_made w t #[v, u] 2 b rfl hb, fun j hj x hx => ?_⟩
  have hf : Fr noB w (w.alloc (.cells #[v, u] t)) := (Fr.refl _ _).alloc _
  have hj2 : j = 0 ∨ j = 1 := by simp at hj; omega
  rcases hj2 with rfl | rfl
  · simp at hx; subst hx; exact h.fr0 hf
  · simp at hx; subst hx; exact k.fr0 hf
theorem Sl1b (w : World) (t : TypeId) (k : IntKind) (n : Int) (h : (Lit.int k n).wf = true) (b : Nat) (hb : w.heap.size = b) : SlI k (w.alloc (.cells #[.int k n] t)) (.slice (some ⟨b, 0, none⟩) 1 1) [n] := by
  subst hb; exact Sl1 w t k n h
theorem st192_of (c : List Int) (hc : c.length ≤ 186) : putI (List.replicate 192 0) 0 ((strm c).take 192) = st192 c := by
  have hl := strm_len c
  rw [st192_eq c hc, List.take_of_length_le (by omega)]
  unfold putI
  rw [List.take_zero, List.nil_append, List.drop_replicate, Nat.zero_add, hl]
  congr 2; omega

set_option maxRecDepth 100000 in
set_option maxHeartbeats 2000000 in
theorem pageOf_any (G : Int) (hG : 0 ≤ G ∧ G < 18446744073709551616) (vc : Value) (c : List Int) (hc : c.length ≤ 186) (w : World) (hS : SlI .u8 w vc c) :
    Calls Try.prog 32 #[.int .u64 G, vc] w fun e w' => e = .returned (pgV (rootP G c)) ∧ Fr noB w w' := by
  obtain ⟨ac, cc, rfl, hcc⟩ := hS.opn
  have hb : Byt c := hS.2
  obtain ⟨Z, HZ⟩ : ∃ Z, Hid (List.replicate 192 (0 : Int) = Z) := ⟨_, rfl⟩
  have hZl : Z.length = 192 := by rw [← HZ.out, List.length_replicate]
  obtain ⟨ZP, HZP⟩ : ∃ Z, Hid (zeroP = Z) := ⟨_, rfl⟩
  have hZPl : Hid (ZP.length = 256) := by show _ = _; rw [← HZP.out]; exact zeroP_len
  have hZPb : Byt ZP := by rw [← HZP.out]; exact zeroP_byt
  obtain ⟨R, HR⟩ : ∃ R, Hid (rootP G c = R) := ⟨_, rfl⟩
  have hRl : Hid (R.length = 256) := by show _ = _; rw [← HR.out, rootP_len]
  rw [HR.out]
  obtain ⟨N8, HN8⟩ : ∃ N, Hid (leB 8 G = N) := ⟨_, rfl⟩
  obtain ⟨L2, HL2⟩ : ∃ N, Hid (leB 2 c.length = N) := ⟨_, rfl⟩
  have hN8l : Hid (N8.length = 8) := by show _ = _; rw [← HN8.out, leB_length]
  have hL2l : Hid (L2.length = 2) := by show _ = _; rw [← HL2.out, leB_length]
  have hN8b : Byt N8 := by rw [← HN8.out]; exact byt_le 8 G
  have hL2b : Byt L2 := by rw [← HL2.out]; exact byt_le 2 _
  obtain ⟨ST, HST⟩ : ∃ S, Hid (strm c = S) := ⟨_, rfl⟩
  have hSTl : Hid (ST.length = c.length + 6) := by show _ = _; rw [← HST.out, strm_len]
  have hSTb : Byt ST := by rw [← HST.out]; exact strm_byt hb
  have hseal : Hid (sealI (L2 ++ c) = ST) := by show _ = _; rw [← HL2.out]; exact HST.out
  obtain ⟨S2, HS2⟩ : ∃ S, Hid (st192 c = S) := ⟨_, rfl⟩
  have hS2l : Hid (S2.length = 192) := by show _ = _; rw [← HS2.out, st192_len]
  have hS2b : Byt S2 := by rw [← HS2.out]; exact st192_byt hb
  have hS2 : Hid (putI Z 0 (ST.take 192) = S2) := by show _ = _; rw [← HZ.out, ← HST.out, st192_of c hc]; exact HS2.out
  have fit8 : Hid (([G] : List Int).all (fits 8) = true) := by show _ = _; simp [fits_8 hG.2]
  have fit2 : Hid (([(c.length : Int)] : List Int).all (fits 2) = true) := by show _ = _; simp [fits, lim]; omega
  have put8 : Hid (([] : List Int) ++ putB (8 : Int).toNat [G] = N8) := by show _ = _; rw [← HN8.out]; simp [putB]
  have put2 : Hid (([] : List Int) ++ putB (2 : Int).toNat [(c.length : Int)] = L2) := by show _ = _; rw [← HL2.out]; simp [putB]
  have wfG : (Lit.int .u64 G).wf = true := u64_wf hG.1 hG.2
  have wfC : (Lit.int .u64 (c.length : Int)).wf = true := u64_wf (by omega) (by omega)
  have hZl' : 0 + 192 ≤ Z.length := by omega
  clear hZl
  go_enter Try.func32, Try.ntmps32
  go_wp2_with (first
    | (with_reducible refine at_wpP ?_; have f5x := f5b; refine wpList_allocP rfl rfl ?_; rw [HZP.out]; intro g3 w6 hg3 b6 f6 s6)
    | (with_reducible refine at_wpP ?_; refine wpList_allocP rfl rfl ?_; rw [HZP.out]; intro g0 w1 hg0 b1 f1 s1; have z1 := b1.lt)
    | (go_at_call 50; have o2' := o2; go_must (refine (put_yes 2 rfl _ _ [] [(c.length : Int)] _ (SlI.nil _ _) (Sl1b w2 25 .u64 _ wfC _ rfl) (by simp) (by simp) fit2.out).mono ?_; rw [put2.out]; rintro e w3 ⟨v3, rfl, o3, f3⟩; have f3' := ((Fr.refl noB w2).alloc (.cells #[.int .u64 (c.length : Int)] 25)).thenN f3; have i3 := o3.sl hL2b; obtain ⟨a3, c3, rfl⟩ := o3.opn))
    | (go_at_call 50; go_must (refine (put_yes 8 rfl _ _ [] [G] _ (SlI.nil _ _) (Sl1b w1 25 .u64 _ wfG _ rfl) (by simp) (by simp) fit8.out).mono ?_; rw [put8.out]; rintro e w2 ⟨v2, rfl, o2, f2⟩; have f2' := ((Fr.refl noB w1).alloc (.cells #[.int .u64 G] 25)).thenN f2; have i2 := o2.sl hN8b; obtain ⟨a2, c2, rfl⟩ := o2.opn))
    | (refine at_make 24 _ _ rfl ?_; go_must (refine wpList_mkB rfl _ _ rfl 192 192 rfl rfl rfl (by decide) ?_; rw [HZ.out]; intro g2 w4 b4 f4 s4; have z4 := b4.lt; have F4 := ((f1.thenN f2').thenN f3').thenN f4; have sC := hS.fr0 F4; have sL := i3.fr0 f4))
    | (go_at_call 51; go_must (refine (seal_any _ [L2, c] (L2 ++ c) (by simp) _ (SlB_two w4 24 _ _ _ _ sL sC _ rfl) (by simp) (by have := hL2l.out; rw [List.length_append]; omega)).mono ?_; rw [hseal.out]; rintro e w5 ⟨v5, rfl, o5, f5⟩; have f5' := ((Fr.refl noB w4).alloc (.cells #[_, _] 24)).thenN f5; have i5 := o5.sl hSTb; have b5 := b4.fr0 f5'; obtain ⟨a5, c5, rfl⟩ := o5.opn))
    | (with_reducible refine at_wpP ?_; refine at_cpy _ _ _ _ rfl ?_; go_must (refine wpList_cpyB rfl _ _ rfl g2 5 Z b5 0 192 192 rfl hZl' (.slice a5 ST.length c5) rfl ST i5 ?_; rw [hS2.out]; intro w5b b5b f5b)))
  have z2 := f2'.size
  have z3 := f3'.size
  have z5 := f5'.size
  have z5b := f5b.size
  have z6 := b6.lt
  have zf1 := f1.size
  have F5 : Fr noB w w5b := (F4.thenN f5').thenT f5b (fun i hi q => by unfold onB1 at q; omega)
  have F6 := F5.thenN f6
  have c0 : BxV w6 g0 46 (pgv ZP) := (((((b1.fr0 f2').fr0 f3').fr0 f4).fr0 f5').ne f5b (by omega)).fr0 f6
  have c2' : BxV w6 g2 5 (pgv S2) := b5b.fr0 f6
  have hN8o : ∀ k, (Value.slice a2 N8.length c2).ownBlock = some k → k < g2 := fun k hk => by have := (o2.newB k hk).2; omega
  have i8 : SlI .u8 w6 (.slice a2 N8.length c2) N8 := ((((i2.fr0 f3').fr0 f4).fr0 f5').fr f5b (fun k hk q => by have := hN8o k hk; unfold onB1 at q; omega)).fr0 f6
  clear i2 i3 i5 o2 o3 o5 sC sL b1 b4 b5 b5b
  go_loopw [35] (fun i wr => ∃ (s : Nat) (l : List Int), s ≤ 8 ∧ i = .int .i64 (s : Int) ∧ Hid (l = rootK G c s) ∧ BxV wr g3 46 (pgv l) ∧ BxV wr g2 5 (pgv S2) ∧ BxV wr g0 46 (pgv ZP) ∧ SlI .u8 wr (.slice a2 N8.length c2) N8 ∧ Fr noB w wr) (fun i _ => 8 - (intOf i).toNat)
  case atStart => exact ⟨0, ZP, by omega, rfl, show _ = _ by rw [← HZP.out, rootK_zero], b6, c2', c0, i8, F6⟩
  case round =>
    obtain ⟨s, l, hs8, rfl, hl, hB, hC, hD, hI, hf⟩ := hrel
    by_cases hs : s < 8
    · have hs' : (s : Int) < 8 := by omega
      have w24 : IntKind.i64.wrap ((s : Int) * 24) = (s : Int) * 24 := by rw [IntKind.wrap_i64]; omega
      have q8 : IntKind.i64.wrap ((s : Int) * 32 + 8) = (s : Int) * 32 + 8 := by rw [IntKind.wrap_i64]; omega
      have hll : Hid (l.length = 256) := by show _ = _; rw [hl.out, rootK_len]
      obtain ⟨L8, HL8⟩ : ∃ L, Hid (putI l (s * 32) N8 = L) := ⟨_, rfl⟩
      have hL8l : Hid (L8.length = 256) := by show _ = _; rw [← HL8.out, putI_len _ _ _ (by have := hll.out; have := hN8l.out; omega)]; exact hll.out
      have hN8t : Hid (N8.take 32 = N8) := by show _ = _; rw [List.take_of_length_le (by have := hN8l.out; omega)]
      go_wp2_with (first
        | (with_reducible refine at_wpP ?_; refine at_cut 46 _ _ _ _ rfl ?_; go_must (refine wpList_cutP rfl _ _ _ rfl g3 rfl (s * 32) (s * 32 + 32) _ _ rfl rfl (by simp) (by simp; omega) (by omega) (by omega) (by omega) ?_))
        | (with_reducible refine at_wpP ?_; refine at_cpy _ _ _ _ rfl ?_; go_must (refine wpList_cpyB rfl _ _ rfl g3 46 l hB (s * 32) 32 (256 - s * 32) rfl (by have := hll.out; omega) (.slice a2 N8.length c2) rfl N8 hI ?_; rw [hN8t.out, HL8.out]; intro w8 b8 f8; have z8 := f8.size; have c8 := hC.ne f8 (by omega); have d8 := hD.ne f8 (by omega))))
      have hcp : ∃ W', (Builtin.copy_ #[24, 24] 3 #[.slice (some ⟨g3, 0 + (s * 32 + 8), none⟩) (s * 32 + 32 - (s * 32 + 8)) (256 - (s * 32 + 8)), .slice (some ⟨g2, s * 24, none⟩) (192 - s * 24) (192 - s * 24)]).run Try.prog w8.drew = .ok (goInt 24) W' ∧ BxV W' g3 46 (pgv (rootK G c (s + 1))) ∧ Fr (onB1 g3) w8.drew W' := by
        have e0 : 0 + (s * 32 + 8) = s * 32 + 8 := by omega
        have e1 : s * 32 + 32 - (s * 32 + 8) = 24 := by omega
        rw [e0, e1]
        have h192 : ((S2.drop (s * 24)).take (192 - s * 24)).length = 192 - s * 24 := by have := hS2l.out; simp; omega
        have hS : SlI .u8 w8.drew (.slice (some ⟨g2, s * 24, none⟩) (192 - s * 24) (192 - s * 24)) ((S2.drop (s * 24)).take (192 - s * 24)) := BxV.slI (w := w8.drew) c8 hS2b _ _ _ (by have := hS2l.out; omega) (by omega)
        have h256 := hL8l.out
        obtain ⟨W', h1, h2, h3⟩ := run_cpyB (W := w8.drew) (t := 46) b8 (s * 32 + 8) 24 (256 - (s * 32 + 8)) (by omega) 3 _ _ hS _ rfl
        refine ⟨W', ?_, ?_, h3⟩
        · rw [h1, h192]
          have : Nat.min (192 - s * 24) 24 = 24 := Nat.min_eq_right (by omega)
          rw [this]; rfl
        · rw [rootK_succ G c s hs, ← hl.out, HN8.out, HS2.out, HL8.out]
          have e5 : ((S2.drop (s * 24)).take (192 - s * 24)).take 24 = (S2.drop (s * 24)).take 24 := by rw [List.take_take, Nat.min_eq_left (by omega)]
          rwa [e5] at h2
      refine wp_region_chain_lay (by kernel_rfl) [8] [none, none, none, none, none, none, none, none, some 0]
        [fun v => v = .int .i64 ((s : Int) * 32), fun v => v = .int .i64 ((s : Int) * 32 + 8), fun v => v = .int .i64 (((s : Int) + 1) * 32), fun v => v = .slice (some ⟨g3, 0 + (s * 32 + 8), none⟩) (s * 32 + 32 - (s * 32 + 8)) (256 - (s * 32 + 8)), fun v => v = .slice (some ⟨g2, 0, none⟩) 192 192, fun v => v = .int .i64 (s : Int), fun v => v = .int .i64 ((s : Int) * 24), fun v => v = .slice (some ⟨g2, s * 24, none⟩) (192 - s * 24) (192 - s * 24), fun _ => True]
        (JB w8.drew g3 46 (rootK G c (s + 1))) (rfl) (by kernel_rfl) (by kernel_rfl) (by decide) ⟨?o0, ?o1, ?o2, ?o3, ?o4, ?o5, ?o6, ?o7, ?o8, trivial⟩ ?oe
      case o0 =>
        intro A W hv hlen hJ hbase hdL hdH
        have e12 : A.eval (.tmp 12) = .int .i64 ((s : Int) * 32) := hbase 12 (by kernel_rfl)
        have f12 : A.tmps[12]?.getD undef = .int .i64 ((s : Int) * 32) := by simpa [Act.eval] using e12
        exact light_val rfl (v := .int .i64 ((s : Int) * 32)) (by simp [execOp, e12, f12]) hJ rfl
      case o1 =>
        intro A W hv hlen hJ hbase hdL hdH
        have e48 : A.eval (.tmp 48) = .int .i64 ((s : Int) * 32) := hdL 0 48 (by kernel_rfl) (by kernel_rfl) (by kernel_rfl)
        have f48 : A.tmps[48]?.getD undef = .int .i64 ((s : Int) * 32) := by simpa [Act.eval] using e48
        exact light_val rfl (v := .int .i64 ((s : Int) * 32 + 8)) (by simp [execOp, go_sem, e48, f48, q8]) hJ rfl
      case o2 =>
        intro A W hv hlen hJ hbase hdL hdH
        have e13 : A.eval (.tmp 13) = .int .i64 (((s : Int) + 1) * 32) := hbase 13 (by kernel_rfl)
        have f13 : A.tmps[13]?.getD undef = .int .i64 (((s : Int) + 1) * 32) := by simpa [Act.eval] using e13
        exact light_val rfl (v := .int .i64 (((s : Int) + 1) * 32)) (by simp [execOp, e13, f13]) hJ rfl
      case o3 =>
        intro A W hv hlen hJ hbase hdL hdH
        have e10 : A.eval (.tmp 10) = .pointer (some ⟨g3, 0, none⟩) := hbase 10 (by kernel_rfl)
        have f10 : A.tmps[10]?.getD undef = .pointer (some ⟨g3, 0, none⟩) := by simpa [Act.eval] using e10
        have e49 : A.eval (.tmp 49) = .int .i64 ((s : Int) * 32 + 8) := hdL 1 49 (by kernel_rfl) (by kernel_rfl) (by kernel_rfl)
        have f49 : A.tmps[49]?.getD undef = .int .i64 ((s : Int) * 32 + 8) := by simpa [Act.eval] using e49
        have e50 : A.eval (.tmp 50) = .int .i64 (((s : Int) + 1) * 32) := hdL 2 50 (by kernel_rfl) (by kernel_rfl) (by kernel_rfl)
        have f50 : A.tmps[50]?.getD undef = .int .i64 (((s : Int) + 1) * 32) := by simpa [Act.eval] using e50
        have hr := run_cutP W g3 0 (s * 32 + 8) (s * 32 + 32) (by omega) (by omega) (by omega) ((s : Int) * 32 + 8) (((s : Int) + 1) * 32) (by simp) (by simp; omega)
        exact light_val rfl (v := .slice (some ⟨g3, 0 + (s * 32 + 8), none⟩) (s * 32 + 32 - (s * 32 + 8)) (256 - (s * 32 + 8))) (by simp [execOp, e10, e49, e50, hr, Result.andThen]) hJ rfl
      case o4 =>
        intro A W hv hlen hJ hbase hdL hdH
        have e9 : A.eval (.tmp 9) = .slice (some ⟨g2, 0, none⟩) 192 192 := hbase 9 (by kernel_rfl)
        have f9 : A.tmps[9]?.getD undef = .slice (some ⟨g2, 0, none⟩) 192 192 := by simpa [Act.eval] using e9
        exact light_val rfl (v := .slice (some ⟨g2, 0, none⟩) 192 192) (by simp [execOp, e9, f9]) hJ rfl
      case o5 =>
        intro A W hv hlen hJ hbase hdL hdH
        have e11 : A.eval (.tmp 11) = .int .i64 (s : Int) := hbase 11 (by kernel_rfl)
        have f11 : A.tmps[11]?.getD undef = .int .i64 (s : Int) := by simpa [Act.eval] using e11
        exact light_val rfl (v := .int .i64 (s : Int)) (by simp [execOp, e11, f11]) hJ rfl
      case o6 =>
        intro A W hv hlen hJ hbase hdL hdH
        have e53 : A.eval (.tmp 53) = .int .i64 (s : Int) := hdL 5 53 (by kernel_rfl) (by kernel_rfl) (by kernel_rfl)
        have f53 : A.tmps[53]?.getD undef = .int .i64 (s : Int) := by simpa [Act.eval] using e53
        exact light_val rfl (v := .int .i64 ((s : Int) * 24)) (by simp [execOp, go_sem, e53, f53, w24]) hJ rfl
      case o7 =>
        intro A W hv hlen hJ hbase hdL hdH
        have e52 : A.eval (.tmp 52) = .slice (some ⟨g2, 0, none⟩) 192 192 := hdL 4 52 (by kernel_rfl) (by kernel_rfl) (by kernel_rfl)
        have f52 : A.tmps[52]?.getD undef = .slice (some ⟨g2, 0, none⟩) 192 192 := by simpa [Act.eval] using e52
        have e54 : A.eval (.tmp 54) = .int .i64 ((s : Int) * 24) := hdL 6 54 (by kernel_rfl) (by kernel_rfl) (by kernel_rfl)
        have f54 : A.tmps[54]?.getD undef = .int .i64 ((s : Int) * 24) := by simpa [Act.eval] using e54
        have hr := run_cutL W g2 192 (s * 24) (by omega) ((s : Int) * 24) (by simp)
        exact light_val rfl (v := .slice (some ⟨g2, s * 24, none⟩) (192 - s * 24) (192 - s * 24)) (by simp [execOp, e52, e54, hr, Result.andThen]) hJ rfl
      case o8 =>
        intro A W hv hlen hJ hbase hdL hdH
        have e51 : A.eval (.tmp 51) = .slice (some ⟨g3, 0 + (s * 32 + 8), none⟩) (s * 32 + 32 - (s * 32 + 8)) (256 - (s * 32 + 8)) := hdL 3 51 (by kernel_rfl) (by kernel_rfl) (by kernel_rfl)
        have f51 : A.tmps[51]?.getD undef = .slice (some ⟨g3, 0 + (s * 32 + 8), none⟩) (s * 32 + 32 - (s * 32 + 8)) (256 - (s * 32 + 8)) := by simpa [Act.eval] using e51
        have e55 : A.eval (.tmp 55) = .slice (some ⟨g2, s * 24, none⟩) (192 - s * 24) (192 - s * 24) := hdL 7 55 (by kernel_rfl) (by kernel_rfl) (by kernel_rfl)
        have f55 : A.tmps[55]?.getD undef = .slice (some ⟨g2, s * 24, none⟩) (192 - s * 24) (192 - s * 24) := by simpa [Act.eval] using e55
        obtain rfl : hv = [] := List.eq_nil_of_length_eq_zero hlen
        obtain rfl := hJ
        obtain ⟨W1, hr, h1, h2⟩ := hcp
        refine heavy_wp rfl ?_
        refine Lib.wp_copy_run _ (.tmp 51) (.tmp 55) 24 24 rfl _ _ e51 e55 hr ?_
        exact ⟨_, rfl, h1, h2⟩
      case oe =>
        intro vs W' hv hlen hJ hL hH
        match hv, hlen with
        | [y1], _ =>
          obtain ⟨hB', hf'⟩ := hJ
          simp only [layL, Nat.reduceAdd, Act.put, List.setIfInBounds_toArray, List.set_cons_zero, List.set_cons_succ]
          clear hL hH
          generalize vs 0 = y100 at *
          generalize vs 1 = y101 at *
          generalize vs 2 = y102 at *
          generalize vs 3 = y103 at *
          generalize vs 4 = y104 at *
          generalize vs 5 = y105 at *
          generalize vs 6 = y106 at *
          generalize vs 7 = y107 at *
          generalize vs 8 = y108 at *
          have hC' := (show BxV w8.drew g2 _ _ from c8).ne hf' (by omega)
          have hD' := (show BxV w8.drew g0 _ _ from d8).ne hf' (by omega)
          have hI8 : SlI .u8 w8.drew (.slice a2 N8.length c2) N8 := (hI.fr f8 (fun k hk q => by have := hN8o k hk; unfold onB1 at q; omega)).fr0 ((Fr.refl _ _).drew)
          have hI' := hI8.fr hf' (fun k hk q => by have := hN8o k hk; unfold onB1 at q; omega)
          have hf8 : Fr noB w w8.drew := (hf.thenT f8 (fun i hi q => by unfold onB1 at q; omega)).drew
          go_wp2
          go_roundw
          case rel => exact ⟨s + 1, _, by omega, by go_num, (rfl : rootK G c (s + 1) = rootK G c (s + 1)), hB', hC', hD', hI', hf8.thenT hf' (fun i hi q => by unfold onB1 at q; omega)⟩
          case measure => simp [intOf]; omega
    · obtain rfl : s = 8 := by omega
      have hlR : l = R := by rw [hl.out, rootK_end, HR.out]
      subst hlR
      go_wp2_with (first
        | (with_reducible refine at_wpP ?_; refine wpList_loadP rfl _ rfl g3 rfl _ hB hRl.out ?_)
        | (with_reducible refine at_wpP ?_; refine wpList_storeP rfl _ _ rfl g0 rfl _ rfl _ hD hRl.out hZPl.out ?_; intro w9 b9 f9))
      refine bodyPost_ret (v := pgV l) (results_page Try.results32 _ w9 g0 l rfl b9 hRl.out) rfl ⟨rfl, ?_⟩
      exact hf.thenT f9 (fun i hi q => by unfold onB1 at q; omega)
end Go.Proofs.Ytijgfojnppcbjaa
/- rootOf of package root. (Written by v5_gen.py.) -/
namespace Go.Proofs.Ytijgfojnppcbjaa
open Go.RowKit Go.Proofs.U
set_option linter.unusedSimpArgs false
set_option linter.unusedVariables false
/-- While one call lays memory and answers V. -/
def JV (w0 : World) (V : Value) : List Value → World → Prop
  | [], W => W = w0
  | [v], W => v = V ∧ Fr noB w0 W
  | _, _ => False
theorem JV.fr {w0 : World} {V : Value} : ∀ {hv : List Value} {W : World}, JV w0 V hv W → Fr noB w0 W
  | [], _, h => by cases h; exact Fr.refl _ _
  | [_], _, h => h.2
  | _ :: _ :: _, _, h => h.elim
abbrev rtL (g : Int) (v : Value) : List Value := [.int .u64 g, v]
abbrev rtV (g : Int) (v : Value) : Value := .agg #[.int .u64 g, v]
theorem zero_root : (Try.prog.info? 77).map (·.zero) = some (some (.agg (rtL 0 (.slice none 0 0)).toArray)) := by kernel_rfl
theorem size_root : (Try.prog.info? 77).map (·.size) = some 2 := by kernel_rfl
theorem under_root : Try.prog.underlying 77 = some (.struct (Try.prog.fieldsOf 77)) := by kernel_rfl
theorem isSl_one {v : Value} (h : isSl v) : v.oneCell' = true := by obtain ⟨a, n, c, rfl⟩ := h; rfl
section
variable {w : World} {ops : Array Oper} {rest : List Oper} {o : Oper} {a : Act} {Q : Exit → Act → World → Prop}
theorem wpList_allocRt (hgd : Region.wanted o (yielded ops a.tmps) = true) (ho : o.op = .alloc 77)
    (h : ∀ g w', Hid (g = w.heap.size) → BxV w' g 77 (rtL 0 (.slice none 0 0)) → Fr noB w w' → w.heap.size ≤ g → wpList Try.prog ops Q rest (a.put o.dst (.pointer (some ⟨g, 0, none⟩))) w') : wpList Try.prog ops Q (o :: rest) a w :=
  wpList_allocV hgd 77 ho _ zero_root h
theorem wpList_stRt (hgd : o.guard = none) (x y : Operand) (ho : o.op = .store 77 x y) (g : Nat) (hx : a.eval x = .pointer (some ⟨g, 0, none⟩)) (G : Int) (v : Value) (hy : a.eval y = rtV G v) (hv : isSl v) (G0 : Int) (v0 : Value) (hA : BxV w g 77 (rtL G0 v0))
    (h : ∀ w', BxV w' g 77 (rtL G v) → Fr (onB1 g) w w' → wpList Try.prog ops Q rest (a.put o.dst undef) w') : wpList Try.prog ops Q (o :: rest) a w := by
  refine wpList_storeV hgd 77 x y ho g 0 hx (rtL G v) hy 77 (rtL G0 v0) hA size_root (by simp) ?_ ?_
  · intro u hu
    simp at hu
    rcases hu with rfl | rfl
    · rfl
    · exact isSl_one hv
  · intro w' h1 h2
    exact h w' h1 h2
theorem wpList_ldRt (hgd : o.guard = none) (x : Operand) (ho : o.op = .load 77 x) (g : Nat) (hx : a.eval x = .pointer (some ⟨g, 0, none⟩)) (G : Int) (v : Value) (hA : BxV w g 77 (rtL G v))
    (h : wpList Try.prog ops Q rest (a.put o.dst (rtV G v)) w) : wpList Try.prog ops Q (o :: rest) a w :=
  wpList_loadV hgd 77 x ho g 0 hx 77 (rtL G v) (rtL G v) _ hA under_root rfl size_root (by simp) h
end
theorem results_root {fn : Func} {q : Tmp} (h : fn.results = #[.cell q 77]) (tmps : Array Value) (w : World) (g : Nat) (G : Int) (v : Value) (hq : tmps.getD q undef = .pointer (some ⟨g, 0, none⟩)) (hA : BxV w g 77 (rtL G v)) :
    (results fn tmps).run Try.prog w = .ok (rtV G v) w :=
  results_cell_row h tmps w g 77 (rtL G v).toArray (0, 0) _ hq hA under_root rfl (by rw [size_root]; rfl)

theorem nm2 (p : List Int) : nmV (strmOf p) 0 false 2 = lenOf p ∧ nmT (strmOf p) 0 false 2 = 2 ∧ nmF (strmOf p) 0 false 2 = false := by
  have e : isW 2 = true := rfl
  have hl := strmOf_len p
  simp [nmV, nmT, nmF, e, tkL, tkT, tkF, tkOk, hl, lenOf]
theorem tk2 (p : List Int) (n : Nat) (hn : lenOf p = (n : Int)) (h : n ≤ 186) : tkL (strmOf p) 2 false (n : Int) = contOf p := by
  have hl := strmOf_len p
  simp [tkL, tkOk, hl, contOf, hn]
  intro hh; omega
/-- What rootOf answers. -/
def RootIs (w w' : World) (p : List Int) (e : Ending) : Prop := ∃ v, e = .returned (rtV (rootOf p).1 v) ∧ SlI .u8 w' v (rootOf p).2 ∧ (∀ q, v.ownBlock = some q → w.heap.size ≤ q ∧ q < w'.heap.size) ∧ Fr noB w w'

set_option maxRecDepth 100000 in
set_option maxHeartbeats 2000000 in
theorem rootOf_long (p : List Int) (hp : p.length = 256) (hb : Byt p) (w : World) (hlong : 186 < lenOf p) :
    Calls Try.prog 49 #[pgV p] w fun e w' => RootIs w w' p e := by
  have Hp := show Hid _ from hp
  clear hp
  have hrt : rootOf p = (0, []) := by unfold rootOf; rw [if_pos hlong]
  unfold RootIs
  rw [hrt]
  have hbd := lenOf_bd hb
  obtain ⟨N, HN⟩ : ∃ N, Hid (lenOf p = N) := ⟨_, rfl⟩
  rw [HN.out] at hlong hbd
  have hnm : Hid (nmV (strmOf p) 0 false 2 = N) := by show _ = _; rw [(nm2 p).1]; exact HN.out
  have hsl : (strmOf p).length ≤ 1000000000000 := by rw [strmOf_len]; decide
  obtain ⟨S, HS⟩ : ∃ S, Hid (strmOf p = S) := ⟨_, rfl⟩
  rw [HS.out] at hnm hsl
  go_enter Try.func49, Try.ntmps49
  go_wp2_with (first
    | (with_reducible refine at_wpP ?_; refine wpList_boxV rfl 46 _ rfl (pgv p) rfl ?_; intro g1 w1 hg1 b1 f1 s1)
    | (with_reducible refine at_wpP ?_; refine wpList_allocRt rfl rfl ?_; intro g2 w2 hg2 b2 f2 s2; have c1 := b1.fr0 f2)
    | (with_reducible refine at_wpP ?_; refine at_ld 46 _ rfl ?_; go_must (refine wpList_loadP rfl _ rfl g1 rfl _ c1 Hp.out ?_))
    | (go_at_call 59; go_must (refine (streamOf_any p Hp.out hb _).mono ?_; rw [HS.out]; rintro e w3 ⟨v3, rfl, i3, f3⟩))
    | (go_at_call 58; go_must (refine (enew_any _ _ _ i3 hsl).mono ?_; rintro e w4 ⟨g4, vb4, rfl, hg4, hv4, r4, f4⟩))
    | (go_at_call 60; go_must (refine (num_any g4 vb4 _ 0 false 2 _ r4).mono ?_; rw [hnm.out]; rintro e w5 ⟨rfl, r5, f5⟩; have l2 := b2.lt; have z3 := f3.size; have z4 := f4.size; have b5 := ((b2.fr0 f3).fr0 f4).fr f5 (fun q => by unfold onB at q; omega)))
    | (with_reducible refine at_wpP ?_; refine at_st 77 _ _ rfl ?_; go_must (refine wpList_stRt rfl _ _ rfl g2 rfl 0 (.slice none 0 0) rfl (isSl_mk _ _ _) _ _ b5 ?_; intro w6 b6 f6)))
  refine bodyPost_ret (v := rtV 0 (.slice none 0 0)) (results_root Try.results49 _ w6 g2 0 _ rfl b6) rfl ?_
  have z1 := f1.size
  have z2 := f2.size
  refine ⟨_, rfl, SlI.nil _ _, (fun q hq => by simp [Value.ownBlock] at hq), ?_⟩
  exact ((((f1.thenN f2).thenN f3).thenN f4).thenT f5 (fun i hi q => by unfold onB at q; omega)).thenT f6 (fun i hi q => by unfold onB1 at q; omega)

set_option maxRecDepth 100000 in
set_option maxHeartbeats 2000000 in
theorem rootOf_short (p : List Int) (hp : p.length = 256) (hb : Byt p) (w : World) (hshort : ¬ 186 < lenOf p) :
    Calls Try.prog 49 #[pgV p] w fun e w' => RootIs w w' p e := by
  have Hp := show Hid _ from hp
  clear hp
  have hbd := lenOf_bd hb
  obtain ⟨N, hN⟩ := Int.eq_ofNat_of_zero_le hbd.1
  have hN186 : N ≤ 186 := by omega
  have hG := genAt_bd hb 0
  have hCl : (contOf p).length ≤ 186 := by rw [contOf_len hb (by omega)]; omega
  have hCb := contOf_byt hb
  have hrt : Hid (rootOf p = if rootP (genAt p 0) (contOf p) == p then (genAt p 0, contOf p) else (0, [])) := by show _ = _; unfold rootOf; rw [if_neg hshort]
  clear hshort hbd
  have hnm : Hid (nmV (strmOf p) 0 false 2 = (N : Int)) := by show _ = _; rw [(nm2 p).1]; exact hN
  have hnt : Hid (nmT (strmOf p) 0 false 2 = 2) := (nm2 p).2.1
  have hnf : Hid (nmF (strmOf p) 0 false 2 = false) := (nm2 p).2.2
  have htk : Hid (tkL (strmOf p) 2 false (N : Int) = contOf p) := tk2 p N hN hN186
  have hsl : (strmOf p).length ≤ 1000000000000 := by rw [strmOf_len]; decide
  clear hN
  obtain ⟨S, HS⟩ : ∃ S, Hid (strmOf p = S) := ⟨_, rfl⟩
  rw [HS.out] at hnm hnt hnf htk hsl
  have hgen := show Hid _ from fun W => genOf_any p Hp.out hb 0 (by decide) W
  obtain ⟨C, HC⟩ : ∃ C, Hid (contOf p = C) := ⟨_, rfl⟩
  obtain ⟨G, HG⟩ : ∃ G, Hid (genAt p 0 = G) := ⟨_, rfl⟩
  rw [HC.out] at hCl hCb htk
  rw [HG.out] at hG
  rw [HC.out, HG.out] at hrt
  have hgen2 : Hid (∀ W, Calls Try.prog 53 #[pgV p, .int .i64 0] W fun e w' => e = .returned (.int .u64 G) ∧ Fr noB W w') := by
    intro W
    have := hgen.out W
    rw [HG.out] at this
    exact this
  clear hgen
  obtain ⟨R, HR⟩ : ∃ R, Hid (rootP G C = R) := ⟨_, rfl⟩
  have hRl : Hid (R.length = 256) := by show _ = _; rw [← HR.out, rootP_len]
  rw [HR.out] at hrt
  go_enter Try.func49, Try.ntmps49
  go_wp2_with (first
    | (with_reducible refine at_wpP ?_; refine wpList_boxV rfl 46 _ rfl (pgv p) rfl ?_; intro g1 w1 hg1 b1 f1 s1)
    | (with_reducible refine at_wpP ?_; have i7' := i7; refine wpList_allocRt rfl rfl ?_; intro g5 w8 hg5 b8 f8 s8)
    | (with_reducible refine at_wpP ?_; refine wpList_allocRt rfl rfl ?_; intro g2 w2 hg2 b2 f2 s2; have c1 := b1.fr0 f2; have l1 := b1.lt; have l2 := b2.lt)
    | (with_reducible refine at_wpP ?_; refine at_ld 46 _ rfl ?_; have c5' := c5; go_must (refine wpList_loadP rfl _ rfl g1 rfl _ c5 Hp.out ?_))
    | (with_reducible refine at_wpP ?_; refine at_ld 46 _ rfl ?_; go_must (refine wpList_loadP rfl _ rfl g1 rfl _ c1 Hp.out ?_))
    | (go_at_call 59; go_must (refine (streamOf_any p Hp.out hb _).mono ?_; rw [HS.out]; rintro e w3 ⟨v3, rfl, i3, f3⟩))
    | (go_at_call 58; go_must (refine (enew_any _ _ _ i3 hsl).mono ?_; rintro e w4 ⟨g4, vb4, rfl, hg4, hv4, r4, f4⟩))
    | (go_at_call 60; go_must (refine (num_any g4 vb4 _ 0 false 2 _ r4).mono ?_; rw [hnm.out, hnt.out, hnf.out]; rintro e w5 ⟨rfl, r5, f5⟩; have z3 := f3.size; have z4 := f4.size; have z5 := f5.size; have b5 := ((b2.fr0 f3).fr0 f4).fr f5 (fun q => by unfold onB at q; omega); have c5 := ((c1.fr0 f3).fr0 f4).fr f5 (fun q => by unfold onB at q; omega)))
    | (go_at_call 53; go_must (refine (hgen2.out _).mono ?_; rintro e w6 ⟨rfl, f6⟩; have r6 := r5.fr0 f6))
    | (go_at_call 61; go_must (refine (take_any g4 vb4 _ 2 false (N : Int) _ r6).mono ?_; rw [htk.out]; rintro e w7 ⟨v7, rfl, o7, r7, f7⟩; have i7 := o7.sl hCb; have z6 := f6.size; have z7 := f7.size; have c7 := (c5.fr0 f6).fr f7 (fun q => by unfold onB at q; omega); have b7 := (b5.fr0 f6).fr f7 (fun q => by unfold onB at q; omega); obtain ⟨a7, k7, rfl⟩ := o7.opn))
    | (with_reducible refine at_wpP ?_; refine at_st 77 _ _ rfl ?_; go_must (refine wpList_stRt rfl _ _ rfl g5 rfl G (.slice a7 C.length k7) rfl (isSl_mk _ _ _) _ _ b8 ?_; intro w9 b9 f9)))
  have z1 := f1.size
  have z2 := f2.size
  have z8 := f8.size
  have hv7 : ∀ q, (Value.slice a7 C.length k7).ownBlock = some q → w.heap.size ≤ q ∧ q < w7.heap.size := fun q hq => by have := o7.newB q hq; omega
  have F7 : Fr noB w w7 := ((((((f1.thenN f2).thenN f3).thenN f4).thenT f5 (fun i hi q => by unfold onB at q; omega)).thenN f6)).thenT f7 (fun i hi q => by unfold onB at q; omega)
  have F9 : Fr noB w w9 := (F7.thenN f8).thenT f9 (fun i hi q => by unfold onB1 at q; omega)
  have i9 : SlI .u8 w9 (.slice a7 C.length k7) C := (i7.fr0 f8).fr f9 (fun q hq e => by have := (hv7 q hq).2; unfold onB1 at e; omega)
  have c9 := (c7.fr0 f8).ne f9 (by omega)
  have d9 := (b7.fr0 f8).ne f9 (by omega)
  obtain ⟨vc, Hvc⟩ : ∃ v, Hid (Value.slice a7 C.length k7 = v) := ⟨_, rfl⟩
  obtain ⟨w0, HW⟩ : ∃ w0, Hid (w9.drew = w0) := ⟨_, rfl⟩
  have f0 : Fr noB w9 w0 := by rw [← HW.out]; exact (Fr.refl _ _).drew
  have hB1 := c9.fr0 f0
  have hB2 := d9.fr0 f0
  have hB5 := b9.fr0 f0
  have hIC := i9.fr0 f0
  have F0 := F9.thenN f0
  have hvn : ∀ q, vc.ownBlock = some q → w.heap.size ≤ q ∧ q < w7.heap.size := by rw [← Hvc.out]; exact hv7
  rw [Hvc.out] at hB5 hIC
  refine wp_region_chain_lay (by kernel_rfl) [5] [none, none, none, none, none, some 0, none]
    [fun v => v = pgV p, fun v => v = ptr g5, fun v => v = .int .u64 G, fun v => v = .pointer (some ⟨g5, 1, none⟩), fun v => v = vc, fun _ => True, fun v => v = .bool (!(p == R))]
    (JV w0 (pgV R)) (HW.out) (by kernel_rfl) (by kernel_rfl) (by decide) ⟨?o0, ?o1, ?o2, ?o3, ?o4, ?o5, ?o6, trivial⟩ ?oe
  case o0 =>
    intro A W hv hlen hJ hbase hdL hdH
    have e1 : A.eval (.tmp 1) = ptr g1 := hbase 1 (by kernel_rfl)
    have f1 : A.tmps[1]?.getD undef = ptr g1 := by simpa [Act.eval] using e1
    have hr := run_loadP W g1 0 p ((hB1.fr0 hJ.fr).range 0 (pgv p) (by rw [List.drop_zero, List.take_length])) Hp.out
    exact light_val rfl (v := pgV p) (by simp [execOp, e1, hr, Result.andThen]) hJ rfl
  case o1 =>
    intro A W hv hlen hJ hbase hdL hdH
    have e5 : A.eval (.tmp 5) = ptr g5 := hbase 5 (by kernel_rfl)
    have f5 : A.tmps[5]?.getD undef = ptr g5 := by simpa [Act.eval] using e5
    exact light_val rfl (v := ptr g5) (by simp [execOp, go_sem, e5, f5]) hJ rfl
  case o2 =>
    intro A W hv hlen hJ hbase hdL hdH
    have e22 : A.eval (.tmp 22) = ptr g5 := hdL 1 22 (by kernel_rfl) (by kernel_rfl) (by kernel_rfl)
    have f22 : A.tmps[22]?.getD undef = ptr g5 := by simpa [Act.eval] using e22
    have hc := ((hB5.fr0 hJ.fr).cell 0 _ rfl).1
    exact light_val rfl (v := .int .u64 G) (by simp [execOp, go_sem, e22, f22, hc]) hJ rfl
  case o3 =>
    intro A W hv hlen hJ hbase hdL hdH
    have e5 : A.eval (.tmp 5) = ptr g5 := hbase 5 (by kernel_rfl)
    have f5 : A.tmps[5]?.getD undef = ptr g5 := by simpa [Act.eval] using e5
    exact light_val rfl (v := .pointer (some ⟨g5, 1, none⟩)) (by simp [execOp, go_sem, e5, f5]) hJ rfl
  case o4 =>
    intro A W hv hlen hJ hbase hdL hdH
    have e24 : A.eval (.tmp 24) = .pointer (some ⟨g5, 1, none⟩) := hdL 3 24 (by kernel_rfl) (by kernel_rfl) (by kernel_rfl)
    have f24 : A.tmps[24]?.getD undef = .pointer (some ⟨g5, 1, none⟩) := by simpa [Act.eval] using e24
    have hc := ((hB5.fr0 hJ.fr).cell 1 _ rfl).1
    have hr := run_ld1 (P := Try.prog) (w := W) 24 5 Try.underlying24 g5 1 _ hc
    exact light_val rfl (v := vc) (by simp [execOp, e24, hr, Result.andThen]) hJ rfl
  case o5 =>
    intro A W hv hlen hJ hbase hdL hdH
    have e23 : A.eval (.tmp 23) = .int .u64 G := hdL 2 23 (by kernel_rfl) (by kernel_rfl) (by kernel_rfl)
    have f23 : A.tmps[23]?.getD undef = .int .u64 G := by simpa [Act.eval] using e23
    have e25 : A.eval (.tmp 25) = vc := hdL 4 25 (by kernel_rfl) (by kernel_rfl) (by kernel_rfl)
    have f25 : A.tmps[25]?.getD undef = vc := by simpa [Act.eval] using e25
    obtain rfl : hv = [] := List.eq_nil_of_length_eq_zero hlen
    obtain rfl := hJ
    refine heavy_call rfl (f := 32) (args := #[.int .u64 G, vc]) (by simp [execOp, resolve, invoke, go_sem, e23, f23, e25, f25]) ?_
    refine (pageOf_any G hG vc C hCl _ hIC).mono ?_
    rw [HR.out]
    rintro e W1 ⟨rfl, fW⟩
    exact ⟨_, rfl, rfl, fW⟩
  case o6 =>
    intro A W hv hlen hJ hbase hdL hdH
    have e21 : A.eval (.tmp 21) = pgV p := hdL 0 21 (by kernel_rfl) (by kernel_rfl) (by kernel_rfl)
    have f21 : A.tmps[21]?.getD undef = pgV p := by simpa [Act.eval] using e21
    have v26 := hdH 5 26 0 (by kernel_rfl) rfl (by kernel_rfl)
    have e26 : A.eval (.tmp 26) = pgV R := by
      match hv, hJ, v26 with
      | [y], hJ, v26 =>
        have h1 : y = pgV R := hJ.1
        simp at v26
        rw [← v26]; exact h1
    have hr := run_neq_page W p R Hp.out hRl.out
    exact light_val rfl (v := .bool (!(p == R))) (by simp [execOp, e21, e26, hr, eqg_neq, Result.andThen]) hJ rfl
  case oe =>
    intro vs W' hv hlen hJ hL hH
    have hfx : vs 6 = .bool (!(p == R)) := hL 6 (by rfl) (by rfl)
    have fW := hJ.fr
    simp only [layL, Nat.reduceAdd, Act.put, List.setIfInBounds_toArray, List.set_cons_zero, List.set_cons_succ]
    clear hL hH
    generalize vs 0 = y100 at *
    generalize vs 1 = y101 at *
    generalize vs 2 = y102 at *
    generalize vs 3 = y103 at *
    generalize vs 4 = y104 at *
    generalize vs 5 = y105 at *
    generalize vs 6 = y106 at *
    have e2 := hB2.fr0 fW
    have e5 := hB5.fr0 fW
    have iC := hIC.fr0 fW
    have l2' := e2.lt
    subst hfx
    have FW := F0.thenN fW
    by_cases hpR : p = R
    · have hq : (p == R) = true := by simpa using hpR
      have hq2 : (R == p) = true := by rw [hpR]; simp
      have hrt2 : rootOf p = (G, C) := by rw [hrt.out, hq2]; rfl
      rw [hq]
      have isv : isSl vc := by rw [← Hvc.out]; exact isSl_mk _ _ _
      go_wp2_with (first
        | (with_reducible refine at_wpP ?_; refine at_ld 77 _ rfl ?_; go_must (refine wpList_ldRt rfl _ rfl g5 rfl _ _ e5 ?_))
        | (with_reducible refine at_wpP ?_; refine at_st 77 _ _ rfl ?_; go_must (refine wpList_stRt rfl _ _ rfl g2 rfl G vc rfl isv _ _ e2 ?_; intro w11 b11 f11)))
      refine bodyPost_ret (v := rtV G vc) (results_root Try.results49 _ w11 g2 G vc rfl b11) rfl ?_
      unfold RootIs
      rw [hrt2]
      refine ⟨vc, rfl, iC.fr f11 (fun q hq e => ?_), (fun q hq => ⟨(hvn q hq).1, by have := (hvn q hq).2; have := f9.size; have := f0.size; have := fW.size; have := f11.size; omega⟩), FW.thenT f11 (fun i hi q => by unfold onB1 at q; omega)⟩
      rw [← Hvc.out] at hq
      have h1 := o7.newB q hq
      unfold onB1 at e
      omega
    · have hq : (p == R) = false := by simpa using hpR
      have hq2 : (R == p) = false := by simpa using fun e => hpR e.symm
      have hrt2 : rootOf p = (0, []) := by rw [hrt.out, hq2]; rfl
      rw [hq]
      go_wp2_with (first
        | (with_reducible refine at_wpP ?_; refine at_st 77 _ _ rfl ?_; go_must (refine wpList_stRt rfl _ _ rfl g2 rfl 0 (.slice none 0 0) rfl (isSl_mk _ _ _) _ _ e2 ?_; intro w11 b11 f11)))
      refine bodyPost_ret (v := rtV 0 (.slice none 0 0)) (results_root Try.results49 _ w11 g2 0 _ rfl b11) rfl ?_
      unfold RootIs
      rw [hrt2]
      exact ⟨_, rfl, SlI.nil _ _, (fun q hq => by simp [Value.ownBlock] at hq), FW.thenT f11 (fun i hi q => by unfold onB1 at q; omega)⟩
theorem rootOf_any (p : List Int) (hp : p.length = 256) (hb : Byt p) (w : World) : Calls Try.prog 49 #[pgV p] w fun e w' => RootIs w w' p e := by
  by_cases h : 186 < lenOf p
  · exact rootOf_long p hp hb w h
  · exact rootOf_short p hp hb w h
end Go.Proofs.Ytijgfojnppcbjaa
/- Contract of the document's Fields at pairs of one width. -/
namespace Go.Proofs.Ytijgfojnppcbjaa
open Go.RowKit Go.Proofs.U
set_option linter.unusedSimpArgs false
set_option linter.unusedVariables false
/-- A number, and ahead of it its width. -/
abbrev pW (W : Nat) (x : Int) : List Value := [.int .u64 (W : Int), .int .u64 x]
theorem pair_size : (Try.prog.info? 85).map (·.size) = some 2 := by kernel_rfl
theorem pair_sizeE (W : Nat) (x : Int) : (Try.prog.info? 85).map (·.size) = some (pW W x).length := pair_size
theorem pW_one (W : Nat) (x : Int) : ∀ u ∈ pW W x, u.oneCell' = true := by intro u hu; simp at hu; rcases hu with rfl | rfl <;> rfl
theorem pW_le (W : Nat) (x : Int) : 0 + (pW W x).length ≤ ([.int .u64 0, .int .u64 0] : List Value).length := by simp
theorem pW_eq (W : Nat) (x : Int) : (pW W x).length = ([.int .u64 0, .int .u64 0] : List Value).length := rfl
theorem pair_zero : (Try.prog.info? 85).map (·.zero) = some (some (.agg ([.int .u64 0, .int .u64 0] : List Value).toArray)) := by kernel_rfl
theorem pair_under : Try.prog.underlying 85 = some (.array 2 25) := by kernel_rfl

set_option maxRecDepth 100000 in
set_option maxHeartbeats 2000000 in
theorem fieldsW_any (W : Nat) (hW : W ≤ 8) (v : Value) (l : List Int) (w : World) (hl : SlR (pW W) 2 w v l) (hbd : ∀ n ∈ l, 0 ≤ n ∧ n < 18446744073709551616) (hm : l.length ≤ 1000000) :
    Calls Try.prog 37 #[v] w fun e w' => ∃ v', e = .returned v' ∧ OwnI .u8 5 w' w.heap.size v' (putB W l) ∧ Fr noB w w' := by
  obtain ⟨a, cap, rfl, hcap⟩ := hl.opn
  have hwr : IntKind.i64.wrap (W : Int) = W := by rw [IntKind.wrap_i64]; omega
  go_enter Try.func37, Try.ntmps37
  go_wp2
  go_loopw [3, 11] (fun out i wr => ∃ k : Nat, k ≤ l.length ∧ i = .int .i64 k ∧ OwnI .u8 5 wr w.heap.size out (putB W (l.take k)) ∧ Fr noB w wr) (fun _ i _ => l.length - (intOf i).toNat)
  case atStart => exact ⟨0, Nat.zero_le _, rfl, OwnI.mk [] (World.ownsRow_made _ #[] 0 (Nat.le_refl _) (Nat.zero_le _) rfl) rfl, (Fr.refl _ _).alloc _⟩
  case round =>
    obtain ⟨k, hk, rfl, ho, hf⟩ := hrel
    by_cases hlt : k < l.length
    · have hS := hl.fr0 hf
      have hsucc := show Hid _ from putB_take W l k hlt
      have hux := hbd l[k] (by simp)
      have hn2 := show Hid _ from putB_length W (l.take k)
      obtain ⟨Z, HZ⟩ : ∃ Z, Hid (l[k] = Z) := ⟨l[k], (rfl : l[k] = l[k])⟩
      rw [HZ.out] at hsucc hux
      have hkl : Hid ((l.take k).length = k) := by show _ = _; simp; omega
      have hmul : Hid (k * W ≤ 8000000) := by show _ ≤ _; have := Nat.mul_le_mul (show k ≤ 1000000 by omega) hW; omega
      have hfs := hf.size
      obtain ⟨a1, c1, rfl⟩ := ho.opn
      go_wp2_with (first
        | (refine at_idx 110 _ _ rfl ?_; go_must (refine wpList_idxR rfl 110 _ _ rfl 85 Try.underlying110 2 pair_size _ _ _ rfl hS (by decide) _ _ k rfl rfl hlt ?_; rw [HZ.out]; intro ba oa hba hca))
        | (with_reducible refine at_wpP ?_; refine at_ld 85 _ rfl ?_; go_must (refine wpList_load_mid rfl 85 _ rfl ba oa rfl (pW W Z) _ (range_of fun j v hj => hca j v hj) pair_under rfl (pair_sizeE _ _) ?_))
        | (with_reducible refine at_wpP ?_; refine wpList_allocV rfl 85 rfl _ pair_zero ?_; intro g5 w1 hg5 b1 f1 s1; have l1 := b1.lt)
        | (with_reducible refine at_wpP ?_; refine at_st 85 _ _ rfl ?_; go_must (refine wpList_storeV rfl 85 _ _ rfl g5 0 rfl (pW W Z) rfl _ _ b1 (pair_sizeE _ _) (pW_le _ _) (pW_one _ _) ?_; intro w2 b2 f2; rw [putAt_all _ _ (pW_eq _ _)] at b2; obtain ⟨m1, _⟩ := b2.cell 0 _ rfl; obtain ⟨m2, _⟩ := b2.cell 1 _ rfl; have o2 : OwnI .u8 5 w2 w.heap.size _ _ := (OwnI.fr (S := noB) ho f1 (fun _ _ q => q)).fr f2 (fun q hq h' => (by have := (ho.newB q hq).2; unfold onB1 at h'; omega)); have g2 : Fr noB w w2 := (hf.thenN f1).thenT f2 (fun i hi q => (by unfold onB1 at q; omega)); have hs2 := g2.size))
        | (go_at_call 55; go_must (refine (bytes_any Z W _ ⟨by omega, by omega⟩ (by omega)).mono ?_; rintro e w3 ⟨v3, rfl, ho3, hf3⟩; have o3 := OwnI.fr (S := noB) o2 hf3 (fun _ _ q => q); have l3 := show Hid _ from leB_length W Z; obtain ⟨a3, c3, rfl⟩ := ho3.opn))
        | (at_builtin; go_must (refine wpList_app rfl _ _ 24 rfl w.heap.size 5 _ 1 1 Try.underlying24 info5 rfl (by decide) _ _ _ rfl o3 _ _ _ rfl (Sl.of_owns ho3) ?h1 ?hq1 ?hq2 ?hq3 ?_; rotate_left 4; intro v4 w4 hown4 hgr4)))
      case h1 => exact ones _ _
      case hq1 => have := hn2.out; rw [hkl.out] at this; have := hmul.out; have := l3.out; unfold maxLen; omega
      case hq2 => have := hn2.out; rw [hkl.out] at this; have := hmul.out; have := l3.out; omega
      case hq3 => have := hf3.size; omega
      have o4 : OwnI .u8 5 w4 w.heap.size v4 (putB W (l.take (k + 1))) := OwnI.mk _ hown4 (by rw [hsucc.out]; simp)
      obtain ⟨a4, c4, rfl⟩ := o4.opn
      have hf4 := (g2.thenN hf3).grown hgr4 (owns_new o3)
      go_roundw
      case rel => exact ⟨k + 1, by omega, by go_num, o4, hf4⟩
      case measure => simp [intOf]; omega
    · obtain rfl : k = l.length := by omega
      rw [List.take_length] at ho
      obtain ⟨a1, c1, rfl⟩ := ho.opn
      go_wp2
      go_ret
      exact ⟨_, rfl, ho, hf⟩
end Go.Proofs.Ytijgfojnppcbjaa
