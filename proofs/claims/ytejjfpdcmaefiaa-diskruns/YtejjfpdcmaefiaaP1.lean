/- Pages: the laws' own full. -/
import Derived.Test.YtejjfpdcmaefiaaRows
import Derived.Test.YtejjfpdcmaefiaaPG
namespace Go.Proofs.Ytejjfpdcmaefiaa
open Go.RowKit Go.Proofs.U
set_option linter.unusedSimpArgs false
set_option linter.unusedVariables false

abbrev tP : TypeId := 25
def pgv (p : List Int) : List Value := p.map (Value.int .u8)
/-- A page as a value. -/
def pgV (p : List Int) : Value := .agg (pgv p).toArray
theorem pgv_len (p : List Int) : (pgv p).length = p.length := by simp [pgv]
theorem pgv_one (p : List Int) : ∀ v ∈ pgv p, v.oneCell' = true := by
  intro v hv; simp [pgv] at hv; obtain ⟨_, _, rfl⟩ := hv; rfl
theorem pgv_get (p : List Int) (i : Nat) (h : i < p.length) : (pgv p)[i]? = some (.int .u8 p[i]) := by simp [pgv, h]
theorem pgv_set (p : List Int) (i : Nat) (c : Int) : (pgv p).set i (.int .u8 c) = pgv (p.set i c) := by simp [pgv, List.map_set]
def zeroP : List Int := List.replicate 256 0
theorem zero_page : (Try.prog.info? 25).map (·.zero) = some (some (.agg (pgv zeroP).toArray)) := by kernel_rfl
theorem size_page : (Try.prog.info? 25).map (·.size) = some 256 := by kernel_rfl
theorem built_page : Try.prog.built 25 [] = some (pgv zeroP).toArray := by kernel_rfl
theorem size_u8 : (Try.prog.info? 5).map (·.size) = some 1 := by kernel_rfl
theorem len_page : Try.prog.arrayLen 25 = 256 := by kernel_rfl

section
variable {w : World} {ops : Array Oper} {rest : List Oper} {o : Oper} {a : Act} {Q : Exit → Act → World → Prop}
theorem wpList_buildP (hgd : Region.wanted o (yielded ops a.tmps) = true) (ho : o.op = .build 25 #[])
    (h : wpList Try.prog ops Q rest (a.put o.dst (pgV zeroP)) w) : wpList Try.prog ops Q (o :: rest) a w := by
  refine wpList_wanted hgd fun K hK => ?_
  have hrun := run_build (P := Try.prog) w 25 #[] _ built_page
  unfold Oper.wp
  simp [execOp, ho, hrun, Result.andThen]
  exact hK _ _ h
theorem wpList_allocP (hgd : Region.wanted o (yielded ops a.tmps) = true) (ho : o.op = .alloc 25)
    (h : ∀ g w', Hid (g = w.heap.size) → BxV w' g 25 (pgv zeroP) → Fr noB w w' → w.heap.size ≤ g → wpList Try.prog ops Q rest (a.put o.dst (.pointer (some ⟨g, 0, none⟩))) w') : wpList Try.prog ops Q (o :: rest) a w :=
  wpList_allocV hgd 25 ho _ zero_page h
theorem wpList_storeP (hgd : o.guard = none) (x y : Operand) (ho : o.op = .store 25 x y) (g : Nat) (hx : a.eval x = .pointer (some ⟨g, 0, none⟩)) (p : List Int) (hy : a.eval y = pgV p) (q : List Int) (hA : BxV w g 25 (pgv q))
    (hp : p.length = 256) (hq : q.length = 256)
    (h : ∀ w', BxV w' g 25 (pgv p) → Fr (onB1 g) w w' → wpList Try.prog ops Q rest (a.put o.dst undef) w') : wpList Try.prog ops Q (o :: rest) a w := by
  refine wpList_storeV hgd 25 x y ho g 0 hx (pgv p) hy 25 (pgv q) hA (by rw [size_page, pgv_len, hp]) (by rw [pgv_len, pgv_len, hp, hq]; exact Nat.le_refl _) (pgv_one p) ?_
  intro w' h1 h2
  rw [putAt_all _ _ (by rw [pgv_len, pgv_len, hp, hq])] at h1
  exact h w' h1 h2
theorem wpList_loadP (hgd : o.guard = none) (x : Operand) (ho : o.op = .load 25 x) (g : Nat) (hx : a.eval x = .pointer (some ⟨g, 0, none⟩)) (p : List Int) (hA : BxV w g 25 (pgv p)) (hp : p.length = 256)
    (h : wpList Try.prog ops Q rest (a.put o.dst (pgV p)) w) : wpList Try.prog ops Q (o :: rest) a w :=
  wpList_loadV hgd 25 x ho g 0 hx 25 (pgv p) (pgv p) _ hA Try.underlying25 rfl (by rw [size_page, pgv_len, hp]) (by simp) h
end

theorem results_page {fn : Func} {q : Tmp} (h : fn.results = #[.cell q 25]) (tmps : Array Value) (w : World) (g : Nat) (p : List Int) (hq : tmps.getD q undef = .pointer (some ⟨g, 0, none⟩)) (hA : BxV w g 25 (pgv p)) (hp : p.length = 256) :
    (results fn tmps).run Try.prog w = .ok (pgV p) w :=
  results_cell_row h tmps w g 25 (pgv p).toArray (0, 0) _ hq hA Try.underlying25 rfl (by rw [size_page]; simp [pgv_len, hp])

theorem zeroP_len : zeroP.length = 256 := List.length_replicate

def fillP (c : Int) (k : Nat) : List Int := List.replicate k c ++ List.replicate (256 - k) 0
theorem fill_zero (c : Int) : fillP c 0 = zeroP := by simp only [fillP, List.replicate_zero, List.nil_append]; rfl
theorem fill_end (c : Int) : fillP c 256 = List.replicate 256 c := by simp only [fillP, Nat.sub_self, List.replicate_zero, List.append_nil]
theorem fill_len (c : Int) (k : Nat) (h : k ≤ 256) : (fillP c k).length = 256 := by simp only [fillP, List.length_append, List.length_replicate]; omega
theorem fill_set (c : Int) (k : Nat) (h : k < 256) : (fillP c k).set k c = fillP c (k + 1) := by
  unfold fillP
  rw [List.set_append_right _ _ (by simp only [List.length_replicate]; exact Nat.le_refl _), List.length_replicate, Nat.sub_self]
  rw [show 256 - k = (256 - (k + 1)) + 1 by omega, List.replicate_succ, List.set_cons_zero, List.replicate_succ', List.append_assoc]
  rfl

set_option maxHeartbeats 1000000 in
theorem full_any (c : Int) (w : World) :
    Calls Try.prog 19 #[.int .u8 c] w fun r w' => r = .returned (pgV (List.replicate 256 c)) ∧ Fr noB w w' := by
  obtain ⟨R, HR⟩ : ∃ R, Hid (List.replicate 256 c = R) := ⟨_, rfl⟩
  rw [HR.out]
  have hRl : Hid (R.length = 256) := by show _ = _; rw [← HR.out, List.length_replicate]
  obtain ⟨Z, HZ⟩ : ∃ Z, Hid (zeroP = Z) := ⟨_, rfl⟩
  have hZl : Hid (Z.length = 256) := by show _ = _; rw [← HZ.out]; exact zeroP_len
  go_enter Try.func19, Try.ntmps19
  go_wp2_with (first
    | (with_reducible refine at_wpP ?_; refine wpList_allocP rfl rfl ?_; rw [HZ.out]; intro g2 w2 hg2 b2 f2 s2; have c1 := b1.fr0 f2; have hl1 := b1.lt; have hl2 := b2.lt; have F2 := F1.thenN f2)
    | (with_reducible refine at_wpP ?_; refine wpList_allocP rfl rfl ?_; rw [HZ.out]; intro g1 w1 hg1 b1 f1 s1; have F1 : Fr noB w w1 := f1; have z1 := F1.size)
    | (with_reducible refine at_wpP ?_; refine wpList_buildP rfl rfl ?_; rw [HZ.out])
    | (with_reducible refine at_wpP ?_; refine wpList_storeP rfl _ _ rfl g2 rfl _ rfl _ b2 hZl.out hZl.out ?_; intro w3 b3 f3; have c3 := c1.ne f3 (by omega); have F3 : Fr noB w w3 := F2.thenT f3 (fun i hi q => by unfold onB1 at q; omega)))
  go_loopw [6] (fun i wr => ∃ (k : Nat) (p : List Int), k ≤ 256 ∧ i = .int .i64 (k : Int) ∧ Hid (p = fillP c k) ∧ BxV wr g2 25 (pgv p) ∧ BxV wr g1 25 (pgv Z) ∧ Fr noB w wr) (fun i _ => 256 - (intOf i).toNat)
  case atStart => exact ⟨0, Z, by omega, rfl, show _ = _ by rw [← HZ.out, fill_zero], b3, c3, F3⟩
  case round =>
    obtain ⟨k, p, hk, rfl, hp, hb, hc, hf⟩ := hrel
    have hpl : Hid (p.length = 256) := by show _ = _; rw [hp.out]; exact fill_len c k hk
    by_cases hlt : k < 256
    · have d1 : (0 : Int) ≤ (k : Int) := by omega
      have d2 : (k : Int) < 256 := by omega
      go_wp2_with (with_reducible refine at_wpP ?_; refine wpList_store1 rfl 5 _ _ rfl g2 k (by simp [Act.eval]) (.int .u8 c) rfl rfl _ _ hb size_u8 (by rw [pgv_len, hpl.out]; exact hlt) ?_; intro w4 b4 f4; have c4 := hc.ne f4 (by omega))
      rw [pgv_set] at b4
      go_roundw
      case rel => exact ⟨k + 1, p.set k c, by omega, by go_num, show _ = _ by rw [hp.out, fill_set c k hlt], b4, c4, hf.thenT f4 (fun i hi q => by unfold onB1 at q; omega)⟩
      case measure => simp [intOf]; omega
    · obtain rfl : k = 256 := by omega
      have hpR : p = R := by rw [hp.out, fill_end, HR.out]
      subst hpR
      go_wp2_with (first
        | (with_reducible refine at_wpP ?_; refine wpList_loadP rfl _ rfl g2 rfl _ hb hpl.out ?_)
        | (with_reducible refine at_wpP ?_; refine wpList_storeP rfl _ _ rfl g1 rfl _ rfl _ hc hpl.out hZl.out ?_; intro w5 b5 f5))
      refine bodyPost_ret (v := pgV p) (results_page Try.results19 _ w5 g1 p rfl b5 hpl.out) rfl ⟨rfl, ?_⟩
      exact hf.thenT f5 (fun i hi q => by unfold onB1 at q; omega)
end Go.Proofs.Ytejjfpdcmaefiaa
