/- Texts TH2, TI, JZ, TJ of the proof of TreeBuilds, one behind the other. -/
import Derived.Test.YtkhdniccnefdhaaGreatBundleTreeBuilds1
import Derived.Test.YtkhdniccnefdhaaGreatBundleTreeBuilds2
import Derived.Test.YtkhdniccnefdhaaGreatBundleTreeBuilds3
import Derived.Test.YtkhdniccnefdhaaGreatBundleTreeBuilds4
import Derived.Test.YtkhdniccnefdhaaGreatBundleTreeBuilds5
import Derived.Test.YtkhdniccnefdhaaGreatBundleTreeBuilds6
import Derived.Test.YtkhdniccnefdhaaGreatBundleTreeBuilds7
import Derived.Test.YtkhdniccnefdhaaGreatBundleTreeBuilds8
import Derived.Test.YtkhdniccnefdhaaGreatBundleTreeBuilds9
import Derived.Test.YtkhdniccnefdhaaGreatBundleTreeBuilds10
import Derived.Test.YtkhdniccnefdhaaGreatBundleTreeBuilds11
import Derived.Test.YtkhdniccnefdhaaGreatBundleTreeBuilds12
import Derived.Test.YtkhdniccnefdhaaGreatBundleTreeBuilds13
import Derived.Test.YtkhdniccnefdhaaGreatBundleTreeBuilds14
import Derived.Test.YtkhdniccnefdhaaGreatBundleTreeBuilds15
import Derived.Test.YtkhdniccnefdhaaGreatBundleTreeBuilds16
import Derived.Test.YtkhdniccnefdhaaGreatBundleTreeBuilds17
import Derived.Test.YtkhdniccnefdhaaGreatBundleTreeBuilds18
import Derived.Test.YtkhdniccnefdhaaGreatBundleTreeBuilds19
import Derived.Test.YtkhdniccnefdhaaGreatBundleTreeBuilds20
import Derived.Test.YtkhdniccnefdhaaGreatBundleTreeBuilds21
import Derived.Test.YtkhdniccnefdhaaGreatBundleTreeBuilds22
/- Pages of blocks, and whether just so many pages are used as are reached; no condition. (Written by th2_gen.py.) -/
namespace Go.Proofs.YtkhdniccnefdhaaGreat
open Go.RowKit Go.Proofs.U
set_option linter.unusedSimpArgs false
set_option linter.unusedVariables false
/-- A block whose first byte is so much. -/
def bkK (n : Int) : List Int := n :: zerB 15
theorem bkK_len (n : Int) : (bkK n).length = 16 := rfl
theorem bkK_byt {n : Int} (h : 0 ≤ n ∧ n ≤ 255) : Byt (bkK n) := by
  intro x hx
  rcases List.mem_cons.1 hx with rfl | hx
  · obtain ⟨h0, h1⟩ := h
    simp [Lit.wf, IntKind.min, IntKind.max, IntKind.signed, IntKind.bits]
    omega
  · exact zerB_byt 15 x hx
theorem built_bkK : ∀ {n : Int}, (n = 0 ∨ n = 1 ∨ n = 2 ∨ n = 3) → Tryz.prog.built 58 [(0, .int .u8 n)] = some (pgv (bkK n)).toArray := by
  rintro n (rfl | rfl | rfl | rfl) <;> kernel_rfl
theorem wpList_blkV {w : World} {ops : Array Oper} {rest : List Oper} {o : Oper} {a : Act} {Q : Exit → Act → World → Prop} {n : Int} (hgd : Region.wanted o (yielded ops a.tmps) = true) (y : Operand) (ho : o.op = .build 58 #[(0, y)]) (hy : a.eval y = .int .u8 n) (C : List Int) (hb : Tryz.prog.built 58 [(0, .int .u8 n)] = some (pgv C).toArray)
    (h : wpList Tryz.prog ops Q rest (a.put o.dst (pgV C)) w) : wpList Tryz.prog ops Q (o :: rest) a w := by
  refine wpList_wanted hgd fun K hK => ?_
  have hrun := run_build (P := Tryz.prog) w 58 #[(0, .int .u8 n)] _ hb
  unfold Oper.wp
  simp [execOp, ho, hy, hrun, Result.andThen]
  exact hK _ _ h
set_option maxRecDepth 100000 in
set_option maxHeartbeats 16000000 in
theorem pages_T {F : Nat → Prop} {gs gp : Nat} {X : DSt} {L : List Pg} {B : List Int} {N m : Nat} (w : World) (h : Sto w F gs gp X L m) (hm : m ≤ 1000) (hb : Bks X L B N) (hN : B.length + 4 < N) (hB : B.length ≤ 50) :
    Calls Tryz.prog 7 #[trV gs, .int .i64 4] w fun r w' => ∃ F' X' L' ps v, r = .returned (.tuple #[v, .bool true]) ∧ StT w w' F F' gs gp (X', L') (m + 4) ∧ Bks X' L' (B ++ ps) N ∧ ps.length = 4 ∧ OwnR en64 1 3 w' w.heap.size v ps ∧ ∀ k, v.ownBlock = some k → ¬ F' k ∧ k ≠ gp := by
  have hgp := h.ltp
  have hgs := h.lts
  have hFt := h.ft
  go_enter Tryz.func7, Tryz.ntmps7
  go_wp2_with (first
    | (with_reducible refine at_wpP ?_; refine wpList_boxG rfl 26 _ rfl (trV gs) [ptr gs] rfl rfl ?_; intro g2 w2 hg2 b2 f2 s2; have l2 := b2.lt; have z2 := f2.size)
    | (with_reducible refine at_wpP ?_; refine wpList_mk0 en64 1 rfl 29 rfl 3 Tryz.underlying29 int_size1 ?_; intro g3 w3 o3 f3 s3 t3; have z3 := f3.size))
  have H2 := h.fr0 f2
  go_loopw [7, 6] (fun i v wr => ∃ (k : Nat) (Fk : Nat → Prop) (Xk : DSt) (Lk : List Pg) (ps : List Int), k ≤ 4 ∧ i = .int .i64 (k : Int) ∧ OwnR en64 1 3 wr w2.heap.size v ps ∧ ps.length = k ∧ StT w2 wr F Fk gs gp (Xk, Lk) (m + k) ∧ Hid (Bks Xk Lk (B ++ ps) N) ∧ ∀ q, v.ownBlock = some q → ¬ Fk q ∧ q ≠ gp) (fun i _ _ => 4 - (intOf i).toNat)
  case atStart =>
    refine ⟨0, F, X, L, [], by omega, rfl, o3, rfl, (StT.start H2).fr0 f3, (by show Bks X L (B ++ []) N; rw [List.append_nil]; exact hb), fun q hq => ?_⟩
    have := (o3.newB q hq).1
    exact ⟨fun r => by have := hFt _ r; omega, by omega⟩
  case round =>
    obtain ⟨j, Fk, Xk, Lk, ps, hj, rfl, ho, hpl, T, hbk, hvF⟩ := hrel
    have zj := T.fr.size
    have hnF : ∀ q, w.heap.size ≤ q → ¬ stB F gp q := fun q hq s => by
      rcases s with s | s
      · have := hFt _ s; omega
      · omega
    have bj := (b2.fr T.fr (hnF _ s2))
    have kj := (bj.cell 0 _ rfl).1
    have hnb := ho.newB
    have hFj := T.st.ft
    have hgpj := T.st.ltp
    have hgk : ¬ stB Fk gp g2 := fun q => by
      rcases q with q | q
      · rcases (T.ft _ q).1 with q | q
        · have := hFt _ q; omega
        · omega
      · omega
    by_cases hlt : j < 4
    · obtain ⟨X', L1, p, L2, K, hb2⟩ := hbk.out.blk T.st.up (bkK_len (j : Int)) (bkK_byt (by omega)) (by rw [List.length_append]; omega) (by rw [List.length_append]; omega)
      have hbd := show Hid _ from built_bkK (n := (j : Int)) (by omega)
      have hl := show Hid _ from bkK_len (j : Int)
      have hby := bkK_byt (n := (j : Int)) (by omega)
      have hem := show Hid _ from K.em
      have hhd := show Hid _ from K.hd
      have hb2' : Hid (Bks X' L2 (B ++ (ps ++ [p])) N) := by show Bks _ _ _ _; rw [← List.append_assoc]; exact hb2
      obtain ⟨C, HC⟩ : ∃ C, Hid (bkK (j : Int) = C) := ⟨_, rfl⟩
      rw [HC.out] at hbd hl hby hem
      have hbn := show Hid _ from built_ndB 1 C hl.out
      clear hb2 K hbk
      obtain ⟨ao, co, rfl⟩ := ho.opn
      rw [hpl] at ho hvF hnb ⊢
      have hpl1 : Hid ((ps ++ [p]).length = j + 1) := by show _ = _; simp [hpl]
      have hjc : j = 0 ∨ j = 1 ∨ j = 2 ∨ j = 3 := by omega
      rcases hjc with rfl | rfl | rfl | rfl
      · skip
        have hj0 : True := trivial
        go_wp2_with (first
          | (with_reducible refine at_wpP ?_; refine wpList_blkV rfl _ rfl rfl C hbd.out ?_)
          | (with_reducible refine at_wpP ?_; refine wpList_bldN rfl _ rfl 1 C nilS [(0, .int .i64 1), (1, pgV C)] rfl hbn.out ?_)
          | (go_at_call 22; go_must (refine (make_F (⟨1, C, []⟩ : Nd) nilS T.st (by omega) ⟨⟨⟨by simp, Sl.nil _ 2⟩, by simp⟩, ⟨hl.out, hby⟩, by simp, rfl⟩ hem.out).mono ?_; rintro e w5 ⟨rfl, F5, st5, ft5, fr5⟩; have z5 := fr5.size; have b5 := bj.fr fr5 hgk; have k5 := (b5.cell 0 _ rfl).1; have o5 := ho.fr fr5 (fun q hq s => by rcases s with s | s; exact (hvF q hq).1 s; exact (hvF q hq).2 s)))
          | (go_at_call 23; go_must (refine (hold_F p st5 hhd.out).mono ?_; rintro e w6 ⟨rfl, st6, f6⟩; have z6 := f6.size; have o6 := o5.ne f6 (fun q hq => (hvF q hq).2); have T6 : StT w2 w6 F F5 gs gp (X', L2) (m + 0 + 1) := (T.trans H2.ft (⟨st5, ft5, fr5⟩ : StT _ _ _ _ _ _ (X', L1) _)).pool f6 st6))
          | (with_reducible refine at_wpP ?_; refine wpList_mkC (ec := en64) (sz := 1) rfl 29 _ rfl Tryz.underlying29 _ info_int2 (by decide) (by decide) p (.int .i64 p) rfl rfl rfl ?_; intro g7 w7 b7 f7 s7; have z7 := f7.size)
          | (at_builtin; have q := b7; go_must (refine wpList_appL (ec := en64) (sz := 1) rfl _ _ 29 rfl _ 8 Tryz.underlying29 info_int rfl (by decide) (.slice ao 0 co) rfl (o6.fr0 f7) g7 rfl p rfl _ b7 (fun u hu => by simp at hu; subst hu; rfl) ?hq1 ?hq2 ?hq3 ?_; rotate_left 3; intro u8 w8 o8 f8 p8; have z8 := f8.size)))
        case hq1 => unfold maxLen; omega
        case hq2 => omega
        case hq3 => omega
        go_roundw
        case rel =>
          refine ⟨0 + 1, F5, X', L2, ps ++ [p], by omega, by go_num, o8, hpl1.out, ?_, hb2', fun q hq => ?_⟩
          · have T7 := T6.fr0 f7
            exact T7.own f8 (fun k hk => by
              have h1 := hvF k hk
              have h2 := hnb k hk
              exact ⟨fun r => by rcases (ft5 k r).1 with r | r; exact h1.1 r; omega, h1.2, by omega, by omega⟩)
          · rcases p8 q hq with r | r
            · have h1 := hvF q r
              have h2 := hnb q r
              exact ⟨fun s => by rcases (ft5 q s).1 with s | s; exact h1.1 s; omega, h1.2⟩
            · exact ⟨fun s => by have := (ft5 q s).2; omega, by omega⟩
        case measure => simp [intOf]
      · skip
        have hj1 : True := trivial
        go_wp2_with (first
          | (with_reducible refine at_wpP ?_; refine wpList_blkV rfl _ rfl rfl C hbd.out ?_)
          | (with_reducible refine at_wpP ?_; refine wpList_bldN rfl _ rfl 1 C nilS [(0, .int .i64 1), (1, pgV C)] rfl hbn.out ?_)
          | (go_at_call 22; go_must (refine (make_F (⟨1, C, []⟩ : Nd) nilS T.st (by omega) ⟨⟨⟨by simp, Sl.nil _ 2⟩, by simp⟩, ⟨hl.out, hby⟩, by simp, rfl⟩ hem.out).mono ?_; rintro e w5 ⟨rfl, F5, st5, ft5, fr5⟩; have z5 := fr5.size; have b5 := bj.fr fr5 hgk; have k5 := (b5.cell 0 _ rfl).1; have o5 := ho.fr fr5 (fun q hq s => by rcases s with s | s; exact (hvF q hq).1 s; exact (hvF q hq).2 s)))
          | (go_at_call 23; go_must (refine (hold_F p st5 hhd.out).mono ?_; rintro e w6 ⟨rfl, st6, f6⟩; have z6 := f6.size; have o6 := o5.ne f6 (fun q hq => (hvF q hq).2); have T6 : StT w2 w6 F F5 gs gp (X', L2) (m + 1 + 1) := (T.trans H2.ft (⟨st5, ft5, fr5⟩ : StT _ _ _ _ _ _ (X', L1) _)).pool f6 st6))
          | (with_reducible refine at_wpP ?_; refine wpList_mkC (ec := en64) (sz := 1) rfl 29 _ rfl Tryz.underlying29 _ info_int2 (by decide) (by decide) p (.int .i64 p) rfl rfl rfl ?_; intro g7 w7 b7 f7 s7; have z7 := f7.size)
          | (at_builtin; have q := b7; go_must (refine wpList_appL (ec := en64) (sz := 1) rfl _ _ 29 rfl _ 8 Tryz.underlying29 info_int rfl (by decide) (.slice ao 1 co) rfl (o6.fr0 f7) g7 rfl p rfl _ b7 (fun u hu => by simp at hu; subst hu; rfl) ?hq1 ?hq2 ?hq3 ?_; rotate_left 3; intro u8 w8 o8 f8 p8; have z8 := f8.size)))
        case hq1 => unfold maxLen; omega
        case hq2 => omega
        case hq3 => omega
        go_roundw
        case rel =>
          refine ⟨1 + 1, F5, X', L2, ps ++ [p], by omega, by go_num, o8, hpl1.out, ?_, hb2', fun q hq => ?_⟩
          · have T7 := T6.fr0 f7
            exact T7.own f8 (fun k hk => by
              have h1 := hvF k hk
              have h2 := hnb k hk
              exact ⟨fun r => by rcases (ft5 k r).1 with r | r; exact h1.1 r; omega, h1.2, by omega, by omega⟩)
          · rcases p8 q hq with r | r
            · have h1 := hvF q r
              have h2 := hnb q r
              exact ⟨fun s => by rcases (ft5 q s).1 with s | s; exact h1.1 s; omega, h1.2⟩
            · exact ⟨fun s => by have := (ft5 q s).2; omega, by omega⟩
        case measure => simp [intOf]
      · skip
        have hj2 : True := trivial
        go_wp2_with (first
          | (with_reducible refine at_wpP ?_; refine wpList_blkV rfl _ rfl rfl C hbd.out ?_)
          | (with_reducible refine at_wpP ?_; refine wpList_bldN rfl _ rfl 1 C nilS [(0, .int .i64 1), (1, pgV C)] rfl hbn.out ?_)
          | (go_at_call 22; go_must (refine (make_F (⟨1, C, []⟩ : Nd) nilS T.st (by omega) ⟨⟨⟨by simp, Sl.nil _ 2⟩, by simp⟩, ⟨hl.out, hby⟩, by simp, rfl⟩ hem.out).mono ?_; rintro e w5 ⟨rfl, F5, st5, ft5, fr5⟩; have z5 := fr5.size; have b5 := bj.fr fr5 hgk; have k5 := (b5.cell 0 _ rfl).1; have o5 := ho.fr fr5 (fun q hq s => by rcases s with s | s; exact (hvF q hq).1 s; exact (hvF q hq).2 s)))
          | (go_at_call 23; go_must (refine (hold_F p st5 hhd.out).mono ?_; rintro e w6 ⟨rfl, st6, f6⟩; have z6 := f6.size; have o6 := o5.ne f6 (fun q hq => (hvF q hq).2); have T6 : StT w2 w6 F F5 gs gp (X', L2) (m + 2 + 1) := (T.trans H2.ft (⟨st5, ft5, fr5⟩ : StT _ _ _ _ _ _ (X', L1) _)).pool f6 st6))
          | (with_reducible refine at_wpP ?_; refine wpList_mkC (ec := en64) (sz := 1) rfl 29 _ rfl Tryz.underlying29 _ info_int2 (by decide) (by decide) p (.int .i64 p) rfl rfl rfl ?_; intro g7 w7 b7 f7 s7; have z7 := f7.size)
          | (at_builtin; have q := b7; go_must (refine wpList_appL (ec := en64) (sz := 1) rfl _ _ 29 rfl _ 8 Tryz.underlying29 info_int rfl (by decide) (.slice ao 2 co) rfl (o6.fr0 f7) g7 rfl p rfl _ b7 (fun u hu => by simp at hu; subst hu; rfl) ?hq1 ?hq2 ?hq3 ?_; rotate_left 3; intro u8 w8 o8 f8 p8; have z8 := f8.size)))
        case hq1 => unfold maxLen; omega
        case hq2 => omega
        case hq3 => omega
        go_roundw
        case rel =>
          refine ⟨2 + 1, F5, X', L2, ps ++ [p], by omega, by go_num, o8, hpl1.out, ?_, hb2', fun q hq => ?_⟩
          · have T7 := T6.fr0 f7
            exact T7.own f8 (fun k hk => by
              have h1 := hvF k hk
              have h2 := hnb k hk
              exact ⟨fun r => by rcases (ft5 k r).1 with r | r; exact h1.1 r; omega, h1.2, by omega, by omega⟩)
          · rcases p8 q hq with r | r
            · have h1 := hvF q r
              have h2 := hnb q r
              exact ⟨fun s => by rcases (ft5 q s).1 with s | s; exact h1.1 s; omega, h1.2⟩
            · exact ⟨fun s => by have := (ft5 q s).2; omega, by omega⟩
        case measure => simp [intOf]
      · skip
        have hj3 : True := trivial
        go_wp2_with (first
          | (with_reducible refine at_wpP ?_; refine wpList_blkV rfl _ rfl rfl C hbd.out ?_)
          | (with_reducible refine at_wpP ?_; refine wpList_bldN rfl _ rfl 1 C nilS [(0, .int .i64 1), (1, pgV C)] rfl hbn.out ?_)
          | (go_at_call 22; go_must (refine (make_F (⟨1, C, []⟩ : Nd) nilS T.st (by omega) ⟨⟨⟨by simp, Sl.nil _ 2⟩, by simp⟩, ⟨hl.out, hby⟩, by simp, rfl⟩ hem.out).mono ?_; rintro e w5 ⟨rfl, F5, st5, ft5, fr5⟩; have z5 := fr5.size; have b5 := bj.fr fr5 hgk; have k5 := (b5.cell 0 _ rfl).1; have o5 := ho.fr fr5 (fun q hq s => by rcases s with s | s; exact (hvF q hq).1 s; exact (hvF q hq).2 s)))
          | (go_at_call 23; go_must (refine (hold_F p st5 hhd.out).mono ?_; rintro e w6 ⟨rfl, st6, f6⟩; have z6 := f6.size; have o6 := o5.ne f6 (fun q hq => (hvF q hq).2); have T6 : StT w2 w6 F F5 gs gp (X', L2) (m + 3 + 1) := (T.trans H2.ft (⟨st5, ft5, fr5⟩ : StT _ _ _ _ _ _ (X', L1) _)).pool f6 st6))
          | (with_reducible refine at_wpP ?_; refine wpList_mkC (ec := en64) (sz := 1) rfl 29 _ rfl Tryz.underlying29 _ info_int2 (by decide) (by decide) p (.int .i64 p) rfl rfl rfl ?_; intro g7 w7 b7 f7 s7; have z7 := f7.size)
          | (at_builtin; have q := b7; go_must (refine wpList_appL (ec := en64) (sz := 1) rfl _ _ 29 rfl _ 8 Tryz.underlying29 info_int rfl (by decide) (.slice ao 3 co) rfl (o6.fr0 f7) g7 rfl p rfl _ b7 (fun u hu => by simp at hu; subst hu; rfl) ?hq1 ?hq2 ?hq3 ?_; rotate_left 3; intro u8 w8 o8 f8 p8; have z8 := f8.size)))
        case hq1 => unfold maxLen; omega
        case hq2 => omega
        case hq3 => omega
        go_roundw
        case rel =>
          refine ⟨3 + 1, F5, X', L2, ps ++ [p], by omega, by go_num, o8, hpl1.out, ?_, hb2', fun q hq => ?_⟩
          · have T7 := T6.fr0 f7
            exact T7.own f8 (fun k hk => by
              have h1 := hvF k hk
              have h2 := hnb k hk
              exact ⟨fun r => by rcases (ft5 k r).1 with r | r; exact h1.1 r; omega, h1.2, by omega, by omega⟩)
          · rcases p8 q hq with r | r
            · have h1 := hvF q r
              have h2 := hnb q r
              exact ⟨fun s => by rcases (ft5 q s).1 with s | s; exact h1.1 s; omega, h1.2⟩
            · exact ⟨fun s => by have := (ft5 q s).2; omega, by omega⟩
        case measure => simp [intOf]
    · obtain rfl : j = 4 := by omega
      go_wp2
      go_ret2
      exact ⟨Fk, Xk, Lk, ps, _, rfl, T.pre f2, hbk.out, hpl, ho.rebase (by omega), hvF⟩
theorem one_int {w : World} {g : Nat} {x : Int} (b : BxV w g 3 (en64 x)) (hx : (Lit.int .i64 x).wf = true) : SlI .i64 w (.slice (some ⟨g, 0, none⟩) 1 1) [x] := by
  refine ⟨⟨_, _, rfl, Nat.le_refl _, rfl, (fun h => by cases h), fun z hz => ?_⟩, fun y hy => by rw [List.mem_singleton.1 hy]; exact hx⟩
  cases hz
  intro j u hj
  rw [Addr.plain, Nat.zero_add]
  exact (b.cell j u hj).1
theorem inL_snoc {X : DSt} (l : List Int) (x : Int) : inL X (l ++ [x]) = inL X l ++ (if (rdN X x).1.k = 1 then [] else [x]) := by
  unfold inL
  rw [List.filter_append]
  by_cases h : (rdN X x).1.k = 1
  · rw [if_pos h]; simp [h]
  · rw [if_neg h]; simp [h]
set_option maxRecDepth 100000 in
set_option maxHeartbeats 16000000 in
theorem exact_T {F : Nat → Prop} {gs gp : Nat} {X : DSt} {L : List Pg} {B : List Int} {m lv : Nat} {root : Int} {l : List (Int × Int)} (o : OneT X L B [] lv root l) (y : PlY L) (hn : B.Nodup) (hB : B.length = 5) (hm : m ≤ 100000) (w : World) (h : Sto w F gs gp X L m) :
    Calls Tryz.prog 16 #[trV gs, .int .i64 root, .int .i64 5] w fun r w' => r = .returned (.bool true) ∧ Fr (onB1 gp) w w' := by
  have hgp := h.ltp
  have hgs := h.lts
  have hFt := h.ft
  obtain ⟨S, hS, hS1, hS2⟩ := o.reach
  have hEx := fun l' (hl : SeenL S l') => show Hid _ from o.exactL y hn hS1 hS2 hl
  have hdi := o.iv.di
  have hti := ptidy_any h.ok gp
  rw [tidy_yg y] at hti
  have hrw : (Lit.int .i64 root).wf = true := by
    rcases o.rt with ⟨rfl, _⟩ | ⟨h0, hp, _⟩
    · rfl
    · have := o.iv.toT.low hp
      exact wfSm (by omega) (by omega)
  have hL240 := h.ok.1
  obtain ⟨NN, HNN⟩ : ∃ NN : Nat, Hid (L.length = NN) := ⟨_, rfl⟩
  have hre := fun W v (s : Sto W F gs gp X L m) (hv : SlI .i64 W v [root]) => reach_any hm v [root] (by simp) W s hv
  rw [hS] at hre
  clear hS
  go_enter Tryz.func16, Tryz.ntmps16
  go_upto_region 5 with (first
    | (with_reducible refine at_wpP ?_; refine wpList_boxG rfl 26 _ rfl (trV gs) [ptr gs] rfl rfl ?_; intro g3 w1 hg3 b1 f1 s1; have l1 := b1.lt; have z1 := f1.size; have k1 := (b1.cell 0 _ rfl).1; have st1 := h.fr0 f1)
    | (go_at_call 30; go_must (refine (npool_any _ st1).mono ?_; rintro e w1 ⟨rfl, rfl⟩))
    | (go_at_call 31; go_must (refine (hti _ st1.pl).mono ?_; rintro e w2 ⟨rfl, p2, f2⟩; have z2 := f2.size; have b2 := b1.ne f2 (by omega); have k2 := (b2.cell 0 _ rfl).1; have st2 := st1.pool f2 p2 h.ok rfl))
    | (with_reducible refine at_wpP ?_; have q := st2; refine wpList_mkC (ec := en64) (sz := 1) rfl 29 _ rfl Tryz.underlying29 _ info_int2 (by decide) (by decide) root (.int .i64 root) rfl rfl rfl ?_; intro g4 w3 b4 f3 s4; have z3 := f3.size)
    | (go_at_call 32; go_must (refine (hre _ _ (st2.fr0 f3) (one_int b4 hrw)).mono ?_; rintro e w4 ⟨u, l', rfl, hse, hSl, hnew, f4⟩; have z4 := f4.size)))
  have hl' := hse (by first | trivial | rfl)
  obtain ⟨au, cu, rfl, hcu⟩ := hSl.opn
  have hlen := hl'.len
  have st4 := (st2.fr0 f3).fr0 f4
  have D4 : Fr (onB1 gp) w w4 := ((((f1.mono (fun _ _ q => q.elim)).trans f2).thenN f3).thenN f4)
  have b4' := (b2.fr0 f3).fr0 f4
  have e4 := hEx l' hl'
  go_wp2
  go_loopw [30, 9] (fun i c wr => ∃ (k : Nat), k ≤ l'.length ∧ i = .int .i64 (k : Int) ∧ c = .int .i64 ((inL X (l'.take k)).length : Int) ∧ Fr noB w4 wr) (fun i _ _ => l'.length - (intOf i).toNat)
  case atStart => exact ⟨0, Nat.zero_le _, rfl, rfl, Fr.refl _ _⟩
  case round =>
    obtain ⟨j, hj, rfl, rfl, hf⟩ := hrel
    have zf := hf.size
    have str := st4.fr0 hf
    have br := b4'.fr0 hf
    have kr := (br.cell 0 _ rfl).1
    by_cases hlt : j < l'.length
    · have hv1 := (hSl.fr0 hf).1
      obtain ⟨x, Hx⟩ : ∃ x, Hid (l'[j] = x) := ⟨l'[j], (rfl : l'[j] = l'[j])⟩
      have hlt' : (j : Int) < (l'.length : Int) := by omega
      have hx1 := hS1 x ((hl'.mem x).1 (by rw [← Hx.out]; simp))
      obtain ⟨hg1, hg2⟩ := getF_live hdi hx1.1 hx1.2
      have hts : inL X (l'.take (j + 1)) = inL X (l'.take j) ++ (if (rdN X x).1.k = 1 then [] else [x]) := by rw [List.take_succ_eq_append_getElem hlt, Hx.out, inL_snoc]
      have hil : (inL X (l'.take j)).length ≤ j := by
        have h1 : (inL X (l'.take j)).length ≤ (l'.take j).length := List.length_filter_le _ _
        rw [List.length_take] at h1
        omega
      generalize hR : rdN X x = R at *
      obtain ⟨n, e0⟩ := R
      simp only at hg2 hts
      subst hg2
      have hget := fun W (s : Sto W F gs gp X L m) => get_F x s hm hg1
      clear hg1 hR hx1
      by_cases hk1 : n.k = 1
      · have d1 : (n.k == 1) = true := by simpa using hk1
        rw [if_pos hk1, List.append_nil] at hts
        have hts := show Hid _ from hts
        clear hk1
        go_wp2_with (first
          | (with_reducible refine at_wpP ?_; refine at_idx 29 _ _ rfl ?_; go_must (refine wpList_idx1 rfl 29 _ _ rfl 3 Tryz.underlying29 int_size1 (.slice au l'.length cu) _ _ rfl hv1 .i64 (j : Int) j rfl rfl hlt ?_; intro pp u hu hcu; obtain rfl := getX hu hlt Hx.out))
          | (go_at_call 33; go_must (refine (hget _ str).mono ?_; rintro e w5 ⟨vk, rfl, nk, hvk, f5⟩; have z5 := f5.size; have hbl := nk.bl))
          | (with_reducible refine at_wpP ?_; have q := nk; refine wpList_allocN rfl rfl ?_; intro gn w6 hgn b6 f6 sn; have z6 := f6.size; have l6 := b6.lt)
          | (with_reducible refine at_wpP ?_; refine at_st 60 _ _ rfl ?_; have q := b6; go_must (refine wpList_stN rfl _ _ rfl gn rfl n.k n.b vk rfl hbl.out nk.sl 0 (zerB 16) nilS b6 (zerB_len 16) ?_; intro w7 b7 f7; have z7 := f7.size; have F7 := Fr.ownX f6 sn f7; have q7 := NdB.kind b7)))
        go_roundw
        case rel => exact ⟨j + 1, by omega, by go_num, by rw [hts.out], (hf.thenN f5).thenN F7⟩
        case measure => simp [intOf]; omega
      · have d1 : (n.k == 1) = false := by simpa using hk1
        rw [if_neg hk1] at hts
        have hts : Hid (((inL X (l'.take (j + 1))).length : Int) = ((inL X (l'.take j)).length : Int) + 1) := by show _ = _; rw [hts]; simp
        clear hk1
        generalize (inL X (l'.take j)).length = c at *
        go_wp2_with (first
          | (with_reducible refine at_wpP ?_; refine at_idx 29 _ _ rfl ?_; go_must (refine wpList_idx1 rfl 29 _ _ rfl 3 Tryz.underlying29 int_size1 (.slice au l'.length cu) _ _ rfl hv1 .i64 (j : Int) j rfl rfl hlt ?_; intro pp u hu hcu; obtain rfl := getX hu hlt Hx.out))
          | (go_at_call 33; go_must (refine (hget _ str).mono ?_; rintro e w5 ⟨vk, rfl, nk, hvk, f5⟩; have z5 := f5.size; have hbl := nk.bl))
          | (with_reducible refine at_wpP ?_; have q := nk; refine wpList_allocN rfl rfl ?_; intro gn w6 hgn b6 f6 sn; have z6 := f6.size; have l6 := b6.lt)
          | (with_reducible refine at_wpP ?_; refine at_st 60 _ _ rfl ?_; have q := b6; go_must (refine wpList_stN rfl _ _ rfl gn rfl n.k n.b vk rfl hbl.out nk.sl 0 (zerB 16) nilS b6 (zerB_len 16) ?_; intro w7 b7 f7; have z7 := f7.size; have F7 := Fr.ownX f6 sn f7; have q7 := NdB.kind b7)))
        go_roundw
        case rel => exact ⟨j + 1, by omega, by go_num, by rw [hts.out], (hf.thenN f5).thenN F7⟩
        case measure => simp [intOf]; omega
    · obtain rfl : j = l'.length := by omega
      rw [List.take_length]
      have he := show Hid _ from (by have := e4.out; omega : (L.length : Int) - (plFree L : Int) = ((inL X l').length : Int) + 5)
      have hb1 : (inL X l').length ≤ 240 := by
        have h1 : (inL X l').length ≤ l'.length := List.length_filter_le _ _
        omega
      have hfl := plFree_le L
      generalize (inL X l').length = c at *
      have hsd := fun n => str.fr0 ((Fr.refl noB wr).drewN n)
      go_wp2_with fail
      go_quiet ((first
        | (go_at_call 30; exact Calls.quiet_of_same ((npool_any _ (hsd _)).mono (fun _ _ h => ⟨h.1, h.2.symm⟩)))
        | (go_at_call 34; exact Calls.quiet_of_same ((psize_any _ _ (hsd _).pl).mono (fun _ _ h => ⟨h.1, h.2.symm⟩)))
        | (go_at_call 35; exact Calls.quiet_of_same ((free_F (hsd _) rfl).mono (fun _ _ h => ⟨h.1, h.2.symm⟩)))))
      go_wp2
      go_ret
      exact ⟨by rw [he.out]; simp, (D4.thenN hf).drewN nq⟩
end Go.Proofs.YtkhdniccnefdhaaGreat
/- TreePuts. (Written by ti_gen.py.) -/
namespace Go.Proofs.YtkhdniccnefdhaaGreat
open Go.RowKit Go.Proofs.U Go.ChangeShapes Go.WideShapes Go.ChangeAt
set_option linter.unusedSimpArgs false
set_option linter.unusedVariables false
set_option maxRecDepth 100000 in
/-- Entries that came in. -/
theorem opened_ents {H : Type} {enc : TypeId × Value → H} {W : World} {base : Nat} {v : Value} {d : DataW H} {p : List MemPlace} (hval : Value.okWide Tryz.prog W .any base 22 v)
    (h : DataW.Trod enc Tryz.prog W 0 (fun _ => true) true 22 v d p) : ∃ l, SlP .i64 .i64 W v l :=
  slP_of_trod Tryz.underlying22 Tryz.underlying33 (by kernel_rfl) rfl rfl (by kernel_rfl) (by kernel_rfl) Tryz.underlying3 Tryz.underlying3 hval h
theorem en_two {x : Int × Int} : 1 < (enC x).length := Nat.lt_succ_self 1
theorem en_set {w : World} {g : Nat} {x : Int × Int} {p : Int} (h : BxV w g 33 ((enC x).set 1 (.int .i64 p))) : EnB w g (x.1, p) := h
theorem slI_1 {k : IntKind} {w : World} {v : Value} {l : List Int} (h : SlI k w v l) : Sl w 1 v l.length (l.map (Value.int k)) := h.1
end Go.Proofs.YtkhdniccnefdhaaGreat
/- The same entries in whichever order, plain; no condition. -/
namespace Go.Proofs.YtkhdniccnefdhaaGreat
open Go.RowKit Go.Proofs.U
set_option linter.unusedSimpArgs false
set_option linter.unusedVariables false
theorem fold_up : ∀ (l : List (Int × Int)) {z : List (Int × Int)}, KeysUp z → KeysUp (l.foldl putL z)
  | [], _, h => h
  | x :: l, _, h => fold_up l (putL_up h)
end Go.Proofs.YtkhdniccnefdhaaGreat
/- TreeBuilds. (Written by tj_gen.py.) -/
namespace Go.Proofs.YtkhdniccnefdhaaGreat
open Go.RowKit Go.Proofs.U
set_option linter.unusedSimpArgs false
set_option linter.unusedVariables false
theorem fold_rng : ∀ (l : List (Int × Int)) {z : List (Int × Int)}, (∀ x ∈ l, 0 ≤ x.1 ∧ x.1 ≤ 63) → ∀ y ∈ l.foldl putL [], 0 ≤ y.1 ∧ y.1 ≤ 63 := by
  intro l _ h
  have key : ∀ (l z : List (Int × Int)), KeysUp z → (∀ x ∈ z, 0 ≤ x.1 ∧ x.1 ≤ 63) → (∀ x ∈ l, 0 ≤ x.1 ∧ x.1 ≤ 63) → ∀ y ∈ l.foldl putL z, 0 ≤ y.1 ∧ y.1 ≤ 63 := by
    intro l
    induction l with
    | nil => intro z _ hz _ y hy; exact hz y hy
    | cons a l ih =>
      intro z hu hz hl
      refine ih (putL z a) (putL_up hu) (fun x hx => ?_) (fun x hx => hl x (by simp [hx]))
      rcases (mem_putL hu).1 hx with rfl | ⟨hx, _⟩
      · exact hl x (by simp)
      · exact hz x hx
  exact key l [] List.Pairwise.nil (by simp) h
set_option maxRecDepth 100000 in
set_option maxHeartbeats 16000000 in
theorem tbuilds_walk (v : Value) (es : List (Int × Int)) (w : World) (hv : SlP .i64 .i64 w v es) :
    Calls Tryz.prog 4 #[v] w fun r w' => r = .returned (.bool true) ∧ Below w.heap.size w w' := by
  obtain ⟨a0, c0, rfl, hc0⟩ := hv.1.opn
  by_cases cc0 : (70 : Int) < (es.length : Int)
  · have d0 : decide ((70 : Int) < (es.length : Int)) = true := decide_eq_true cc0
    go_enter Tryz.func4, Tryz.ntmps4
    go_wp2_with (first
      | (go_at_call 5; go_must (refine (talive_any _).mono ?_; rintro e w0 ⟨rfl, f0⟩; have z0 := f0.size)))
    go_ret
    exact ⟨rfl, f0.below⟩
  · have d0 : decide ((70 : Int) < (es.length : Int)) = false := decide_eq_false cc0
    have hM := fun W => made_T 244 (by decide) W
    go_enter Tryz.func4, Tryz.ntmps4
    go_wp2_with (first
      | (go_at_call 5; go_must (refine (talive_any _).mono ?_; rintro e w0 ⟨rfl, f0⟩; have z0 := f0.size))
      | (go_at_call 6; go_must (refine (hM _).mono ?_; rintro e w1 ⟨gs, gp, F, X, L, pg, rfl, st1, A1, B1⟩; have z1 := A1.fr.size))
      | (with_reducible refine at_wpP ?_; refine wpList_allocG rfl 26 rfl (.agg #[.pointer none]) [.pointer none] tr_zero rfl ?_; intro g2 w2 hg2 b2 f2 s2; have l2 := b2.lt; have z2 := f2.size)
      | (with_reducible refine at_wpP ?_; refine at_st 26 _ _ rfl ?_; go_must (refine wpList_stT rfl _ _ rfl g2 rfl gs rfl (.pointer none) b2 ?_; intro w3 b3 f3; have F3 := Fr.ownX f2 s2 f3; have z3 := f3.size))
      | (with_reducible refine at_wpP ?_; refine at_ld 26 _ rfl ?_; have q := b3; go_must (refine wpList_ldT rfl _ rfl g2 rfl gs b3 ?_))
      | (go_at_call 7; go_must (refine (pages_T _ (st1.fr0 F3) (by decide) (Bks.base B1) (by simp only [List.length_singleton]; decide) (by simp)).mono ?_; rintro e w5 ⟨F5, X5, L5, ps, v4, rfl, T5, hbk, hpl, ov, hvF⟩; have z5 := T5.fr.size; have hpl4 := show Hid _ from hpl; clear hpl))
      | (with_reducible refine at_wpP ?_; have q := o6; refine wpList_mk0 enC 2 rfl 22 rfl 33 Tryz.underlying22 en_size ?_; intro g9 w9 o9 f9 s9 t9; have z9 := f9.size)
      | (with_reducible refine at_wpP ?_; refine wpList_mk0 enC 2 rfl 22 rfl 33 Tryz.underlying22 en_size ?_; intro g6 w6 o6 f6 s6 t6; have z6 := f6.size))
    have hgp := st1.ltp
    have hgs := st1.lts
    have hFt := st1.ft
    have hN : plN (sizeN 244) = 240 := by decide
    rw [hN] at hbk
    have D3 := (f0.thenN A1.fr).thenN F3
    have D5 := D3.thenT T5.fr (fun i hi q => by
      rcases q with q | q
      · have := A1.f _ q; omega
      · have := A1.p; omega)
    have hnB : ∀ q, w1.heap.size ≤ q → ¬ stB F gp q := fun q hq s => by
      rcases s with s | s
      · have := hFt _ s; omega
      · omega
    have b5 := b3.fr T5.fr (hnB _ s2)
    have hF5 := T5.st.ft
    have hF5o : ∀ q, q < w3.heap.size → w1.heap.size ≤ q → ¬ stB F5 gp q := fun q h1 h2 s => by
      rcases s with s | s
      · rcases (T5.ft _ s).1 with s | s
        · have := hFt _ s; omega
        · omega
      · omega
    have hpsw : ∀ p ∈ ps, (Lit.int .i64 p).wf = true := fun p hp => by
      have h1 := hbk.iv.toT.root (List.mem_append_right [pg] hp)
      have h2 := hbk.iv.toT.low h1.2
      exact wfSm (by omega) (by omega)
    have hv4 := (ov.newB)
    have hov : SlI .i64 w5 v4 ps := (ownI_of_R ov).sl hpsw
    have F69 := f6.thenN f9
    have st5 := T5.st
    obtain ⟨B, HB⟩ : ∃ B, Hid ([pg] ++ ps = B) := ⟨_, rfl⟩
    rw [HB.out] at hbk
    have hBm : ∀ p ∈ ps, p ∈ B := fun p hp => by rw [← HB.out]; exact List.mem_append_right _ hp
    have hB5 : B.length = 5 := by rw [← HB.out, List.length_append, hpl4.out]; rfl
    have hBn := hbk.nd
    have hBks := hbk
    have hB5' := show Hid _ from hB5
    go_loopw [37, 7, 8] (fun i vo vw wr => ∃ (k : Nat) (ol : List (Int × Int)), k ≤ es.length ∧ i = .int .i64 (k : Int) ∧ OwnR enC 2 33 wr w5.heap.size vo ol ∧ OwnR enC 2 33 wr w5.heap.size vw (ol.foldl putL []) ∧ (∀ q, vo.ownBlock = some q → ¬ vw.ownBlock = some q) ∧ (∀ z ∈ ol, (0 ≤ z.1 ∧ z.1 ≤ 63) ∧ z.2 ∈ B) ∧ ol.length ≤ k ∧ Fr noB w5 wr) (fun i _ _ _ => es.length - (intOf i).toNat)
    case atStart =>
      refine ⟨0, [], Nat.zero_le _, rfl, o6.fr0 f9, o9.rebase (by omega), fun q hq hq2 => ?_, by simp, Nat.le_refl _, F69⟩
      have h1 := (o6.newB q hq).2
      have h2 := (o9.newB q hq2).1
      omega
    case round =>
      obtain ⟨j, ol, hj, rfl, oo, ow, hne, hol, hoj, hf⟩ := hrel
      have zj := hf.size
      have D := D5.thenN hf
      have bj := b5.fr0 hf
      have str := st5.fr0 hf
      by_cases hlt : j < es.length
      · have hSj := (hv.1).fr0 D
        have hS4 : SlI .i64 wr v4 ps := hov.fr0 hf
        obtain ⟨x, Hy⟩ : ∃ x, Hid (es[j] = x) := ⟨es[j], (rfl : es[j] = es[j])⟩
        have hlt' : (j : Int) < (es.length : Int) := by omega
        obtain ⟨qi, hq, hq4⟩ : ∃ q : Nat, max 0 (min x.2 3) = (q : Int) ∧ q < ps.length := ⟨(max 0 (min x.2 3)).toNat, by omega, by have := hpl4.out; omega⟩
        obtain ⟨pgx, Hp⟩ : ∃ p, Hid (ps[qi] = p) := ⟨ps[qi], (rfl : ps[qi] = ps[qi])⟩
        have hpm : pgx ∈ ps := by rw [← Hp.out]; simp
        have hpB := hBm _ hpm
        obtain ⟨a4, n4, c4, hv4e⟩ : ∃ a n c, v4 = .slice a n c := ⟨_, _, _, hS4.opn.choose_spec.choose_spec.1⟩
        subst hv4e
        have hno := oo.newB
        have hnw := ow.newB
        have hle : (ol.foldl putL []).length ≤ 64 := by
          have h1 := fold_up ol (z := []) List.Pairwise.nil
          have h2 := KeysUp.len h1 (a := 0) (b := 63) (by decide) (fun z hz => fold_rng ol (z := []) (fun z hz => (hol z hz).1) z hz)
          omega
        have hsn : (ol ++ [(x.1, pgx)]).foldl putL [] = putL (ol.foldl putL []) (x.1, pgx) := by rw [List.foldl_append]; rfl
        have hsn := show Hid _ from hsn
        obtain ⟨l, HL⟩ : ∃ l, Hid (ol.foldl putL [] = l) := ⟨_, rfl⟩
        rw [HL.out] at hle hsn ow
        obtain ⟨aw, cw, hve⟩ := ow.opn
        subst hve
        obtain ⟨ao, co, hoe⟩ := oo.opn
        subst hoe
        by_cases hx : 0 ≤ x.1 ∧ x.1 < 64
        · skip
          have hrp := fun W vv (h : SlR enC 2 W vv l) => refPut_any vv l (x.1, pgx) W h ⟨hx.1, by show x.1 ≤ 63; omega⟩ (by omega)
          go_upto_region 15 with (first
            | (with_reducible refine at_wpP ?_; refine at_idx 22 _ _ rfl ?_; go_must (refine wpList_idxR rfl 22 _ _ rfl 33 Tryz.underlying22 2 en_size _ _ _ rfl hSj (by decide) _ _ j rfl rfl hlt ?_; rw [Hy.out]; intro ba oa hba hca))
            | (with_reducible refine at_wpP ?_; refine at_ld 33 _ rfl ?_; have q := hca; go_must (refine wpList_ldE rfl _ rfl ba oa rfl x hca ?_))
            | (with_reducible refine at_wpP ?_; refine wpList_allocE rfl rfl ?_; intro gl wa hgl ba' fa sl; have la := ba'.lt; have za := fa.size)
            | (with_reducible refine at_wpP ?_; refine at_st 33 _ _ rfl ?_; go_must (refine wpList_stE rfl _ _ rfl gl rfl (0, 0) x ba' rfl ?_; intro wb Bb fb; have Fb := Fr.ownX fa sl fb; have zb := fb.size; have hvb1 := slI_1 (hS4.fr0 Fb); obtain ⟨kb0, kb1⟩ := Bb.all))
            | (with_reducible refine at_wpP ?_; refine at_idx 29 _ _ rfl ?_; have qq := Fb; go_must (refine wpList_idx1 rfl 29 _ _ rfl 3 Tryz.underlying29 int_size1 (.slice a4 n4 c4) _ _ rfl hvb1 .i64 (qi : Int) qi rfl rfl hq4 ?_; intro pp u hu hcu; obtain rfl := getX hu hq4 Hp.out))
            | (with_reducible refine at_wpP ?_; refine at_st 3 _ _ rfl ?_; go_must (refine wpList_store1 rfl 3 _ _ rfl gl 1 rfl (.int .i64 pgx) rfl rfl 33 (enC x) Bb int_size1 en_two ?_; intro w7 B7 f7; have F7 := Fr.ownX Fb sl f7; have z7 := f7.size; have l7 := B7.lt; have B7 := en_set B7; obtain ⟨k70, k71⟩ := B7.all; have ow7 := ow.fr0 F7; have oo7 := oo.fr0 F7)))
          go_upto_region 17 with (first
            | (with_reducible refine at_wpP ?_; refine at_ld 33 _ rfl ?_; have q := B7; go_must (refine wpList_ldE rfl _ rfl gl 0 rfl (x.1, pgx) (bx_cells B7) ?_))
            | (go_at_call 10; go_must (refine (hrp _ _ ow7.sl).mono ?_; rintro e w11 ⟨uv, rfl, ovv, f11⟩; have z11 := f11.size)))
          have B11 := B7.fr0 f11
          have oo11 := oo7.fr0 f11
          have hnv := ovv.newB
          go_wp2_with (first
            | (with_reducible refine at_wpP ?_; refine at_ld 33 _ rfl ?_; have q := B11; go_must (refine wpList_ldE rfl _ rfl gl 0 rfl (x.1, pgx) (bx_cells B11) ?_))
            | (with_reducible refine at_wpP ?_; refine wpList_mkC rfl 22 _ rfl uE _ en_info2 (by decide) (by decide) (x.1, pgx) (enV (x.1, pgx)) rfl rfl rfl ?_; intro g12 w12 b12 f12 s12; have z12 := f12.size)
            | (at_builtin; have q := b12; go_must (refine wpList_appL rfl _ _ 22 rfl _ 16 uE en_info rfl (by decide) (.slice ao ol.length co) rfl (oo11.fr0 f12) g12 rfl (x.1, pgx) rfl _ b12 (en_one _) ?hq1 ?hq2 ?hq3 ?_; rotate_left 3; intro u13 w13 o13 f13 p13; have z13 := f13.size)))
          case hq1 => unfold maxLen; omega
          case hq2 => omega
          case hq3 => omega
          have ov13 := (ovv.fr0 f12).fr f13 (fun q hq e => by have h1 := hno q e; have h2 := hnv q hq; omega)
          go_roundw
          case rel =>
            refine ⟨j + 1, ol ++ [(x.1, pgx)], by omega, by go_num, o13, by rw [hsn.out]; exact ov13.rebase (by omega), fun q hq hq2 => ?_, fun z hz => ?_, by simp; omega, (((hf.thenN F7).thenN f11).thenN f12).thenT f13 (fun i hi q => by have := (hno i q).1; omega)⟩
            · have h2 := hnv q hq2
              rcases p13 q hq with r | r
              · have h1 := hno q r; omega
              · omega
            · rcases List.mem_append.1 hz with r | r
              · exact hol z r
              · obtain rfl := List.mem_singleton.1 r
                exact ⟨⟨hx.1, by show x.1 ≤ 63; omega⟩, hpB⟩
          case measure => simp [intOf]; omega
        · skip
          go_upto_region 15 with (first
            | (with_reducible refine at_wpP ?_; refine at_idx 22 _ _ rfl ?_; go_must (refine wpList_idxR rfl 22 _ _ rfl 33 Tryz.underlying22 2 en_size _ _ _ rfl hSj (by decide) _ _ j rfl rfl hlt ?_; rw [Hy.out]; intro ba oa hba hca))
            | (with_reducible refine at_wpP ?_; refine at_ld 33 _ rfl ?_; have q := hca; go_must (refine wpList_ldE rfl _ rfl ba oa rfl x hca ?_))
            | (with_reducible refine at_wpP ?_; refine wpList_allocE rfl rfl ?_; intro gl wa hgl ba' fa sl; have la := ba'.lt; have za := fa.size)
            | (with_reducible refine at_wpP ?_; refine at_st 33 _ _ rfl ?_; go_must (refine wpList_stE rfl _ _ rfl gl rfl (0, 0) x ba' rfl ?_; intro wb Bb fb; have Fb := Fr.ownX fa sl fb; have zb := fb.size; have hvb1 := slI_1 (hS4.fr0 Fb); obtain ⟨kb0, kb1⟩ := Bb.all))
            | (with_reducible refine at_wpP ?_; refine at_idx 29 _ _ rfl ?_; have qq := Fb; go_must (refine wpList_idx1 rfl 29 _ _ rfl 3 Tryz.underlying29 int_size1 (.slice a4 n4 c4) _ _ rfl hvb1 .i64 (qi : Int) qi rfl rfl hq4 ?_; intro pp u hu hcu; obtain rfl := getX hu hq4 Hp.out))
            | (with_reducible refine at_wpP ?_; refine at_st 3 _ _ rfl ?_; go_must (refine wpList_store1 rfl 3 _ _ rfl gl 1 rfl (.int .i64 pgx) rfl rfl 33 (enC x) Bb int_size1 en_two ?_; intro w7 B7 f7; have F7 := Fr.ownX Fb sl f7; have z7 := f7.size; have l7 := B7.lt; have B7 := en_set B7; obtain ⟨k70, k71⟩ := B7.all; have ow7 := ow.fr0 F7; have oo7 := oo.fr0 F7)))
          go_wp2_with (first
            | (with_reducible refine at_wpP ?_; refine at_ld 33 _ rfl ?_; have q := B7; go_must (refine wpList_ldE rfl _ rfl gl 0 rfl (x.1, pgx) (bx_cells B7) ?_))
            | (go_at_call 10; go_must (refine (refPut_no _ (x.1, pgx) _ (by show x.1 < 0 ∨ 63 < x.1; omega)).mono ?_; rintro e w11 ⟨rfl, f11⟩; have z11 := f11.size)))
          go_roundw
          case rel => exact ⟨j + 1, ol, by omega, by go_num, oo7.fr0 f11, by rw [HL.out]; exact ow7.fr0 f11, hne, hol, by omega, (hf.thenN F7).thenN f11⟩
          case measure => simp [intOf]; omega
      · obtain rfl : j = es.length := by omega
        have hbu := Build_any ol _ wr str hBks.one hBks.yg (by have := hB5'.out; simp; omega) (by have := hB5'.out; have := hBks.ln; simp; omega) (by decide) (by omega) hol oo.sl (fun x hx => by
          have h1 := (oo.newB x hx).1
          exact ⟨fun q => by have := hF5 _ q; omega, by omega⟩)
        go_upto_region 21 with (first
          | (with_reducible refine at_wpP ?_; refine at_ld 26 _ rfl ?_; have q := bj; go_must (refine wpList_ldT rfl _ rfl g2 rfl gs bj ?_))
          | (go_at_call 17; go_must (refine hbu.mono ?_; rintro e w20 ⟨F20, X20, L20, lv, root, rfl, T20, o20, y20, hl20⟩; have z20 := T20.fr.size)))
        have b20 := bj.fr T20.fr (hF5o _ (by omega) s2)
        have ow20 := ow.fr T20.fr (fun k hk q => by
          have := (ow.newB k hk).1
          rcases q with q | q
          · have := hF5 _ q; omega
          · omega)
        have D20 := D.thenT T20.fr (fun i hi q => by
          rcases q with q | q
          · rcases (T5.ft _ q).1 with q | q
            · have := A1.f _ q; omega
            · omega
          · have := A1.p; omega)
        have hkey := o20.rt.up.2
        have hl64 := o20.len
        have hBw : ∀ p ∈ B, (Lit.int .i64 p).wf = true := fun p hp => by
          have h1 := hBks.iv.toT.root hp
          have h2 := hBks.iv.toT.low h1.2
          exact wfSm (by omega) (by omega)
        have hpg20 := o20.pg
        have hwf : ∀ z ∈ ol.foldl putL [], (Lit.int .i64 z.1).wf = true ∧ (Lit.int .i64 z.2).wf = true := fun z hz => by
          have h1 := hkey z hz
          exact ⟨wfSm (by omega) (by omega), hBw _ (hpg20 z hz)⟩
        have hroot : ((root == -1) = true ∧ (ol.foldl putL []).length = 0) ∨ ((root == -1) = false ∧ ¬ (ol.foldl putL []).length = 0) := by
          by_cases hr : root = -1
          · refine Or.inl ⟨by simp [hr], ?_⟩
            rcases o20.rt with ⟨_, q⟩ | ⟨q, _⟩
            · rw [q]; rfl
            · omega
          · refine Or.inr ⟨by simpa using hr, fun q => o20.ne hr (List.eq_nil_of_length_eq_zero q)⟩
        have hmm : 5 + 20 * ol.length ≤ 100000 := by omega
        have hLs := List_any o20.iv.toT hmm o20.rt _ T20.st
        have hex := fun W (s : Sto W F20 gs gp X20 L20 (5 + 20 * ol.length)) => exact_T o20 y20 hBn hB5'.out hmm W s
        clear o20 hkey hpg20
        generalize ol.foldl putL [] = l at *
        have hLL : Hid ((l == l) = true) := by show _ = _; simp
        obtain ⟨aw, cw, hve⟩ := ow20.opn
        subst hve
        go_upto_region 22 with (first
          | (with_reducible refine at_wpP ?_; refine at_ld 26 _ rfl ?_; have q := b20; go_must (refine wpList_ldT rfl _ rfl g2 rfl gs b20 ?_))
          | (go_at_call 8; go_must (refine hLs.mono ?_; rintro e w21 ⟨ua, rfl, oa, f21⟩; have z21 := f21.size)))
        have pa := EnO.slp oa hwf
        have pb := EnO.slp (ow20.fr0 f21) hwf
        have b21 := b20.fr0 f21
        rcases hroot with ⟨hr1, hr2⟩ | ⟨hr1, hr2⟩
        · have hr3 : ((l.length : Int) == 0) = true := by simp [hr2]
          clear hr2
          go_wp2_with (first
            | (with_reducible refine at_wpP ?_; refine at_ld 26 _ rfl ?_; have q := b22; go_must (refine wpList_ldT rfl _ rfl g2 rfl gs b22 ?_))
            | (go_at_call 11; go_must (refine (same10_any _ _ _ _ _ pa pb (by omega)).mono ?_; rw [hLL.out]; rintro e w22 ⟨rfl, f22⟩; have b22 := b21.fr0 f22; have s22 := (T20.st.fr0 f21).fr0 f22))
            | (go_at_call 16; have q := s22; go_must (refine (hex _ s22).mono ?_; rintro e w23 ⟨rfl, f23⟩)))
          go_ret
          exact ⟨rfl, (((D20.thenN f21).thenN f22).thenT f23 (fun i hi q => by unfold onB1 at q; have := A1.p; omega)).below⟩
        · have hr3 : ((l.length : Int) == 0) = false := beq_false_of_ne (by omega)
          clear hr2
          go_wp2_with (first
            | (with_reducible refine at_wpP ?_; refine at_ld 26 _ rfl ?_; have q := b22; go_must (refine wpList_ldT rfl _ rfl g2 rfl gs b22 ?_))
            | (go_at_call 11; go_must (refine (same10_any _ _ _ _ _ pa pb (by omega)).mono ?_; rw [hLL.out]; rintro e w22 ⟨rfl, f22⟩; have b22 := b21.fr0 f22; have s22 := (T20.st.fr0 f21).fr0 f22))
            | (go_at_call 16; have q := s22; go_must (refine (hex _ s22).mono ?_; rintro e w23 ⟨rfl, f23⟩)))
          go_ret
          exact ⟨rfl, (((D20.thenN f21).thenN f22).thenT f23 (fun i hi q => by unfold onB1 at q; have := A1.p; omega)).below⟩
end Go.Proofs.YtkhdniccnefdhaaGreat
