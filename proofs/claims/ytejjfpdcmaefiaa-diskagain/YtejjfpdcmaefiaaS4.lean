/- DiskAgain. (Written by s4_gen.py.) -/
import Derived.Test.YtejjfpdcmaefiaaK12
namespace Go.Proofs.U
open Go.RowKit
/-- append(s, x) of one element that lies in a block of its own: where the new row lies is told. -/
theorem wpList_appR1 {α : Type} {ec : α → List Value} {sz : Nat} {e : TypeId} {w : World} {base : Nat} {l : List α} {P : Program} {ops : Array Oper} {rest : List Oper} {o : Oper} {a : Act} {Q : Exit → Act → World → Prop} (hgd : o.guard = none) (s x : Operand) (t : TypeId) (ho : o.op = .call { callee := .builtin .append, args := #[s, x], argTypes := #[t, t] })
    (z : Value) (bytes : Nat) (ht : P.underlying t = some (.slice e)) (hinfo : (P.info? e).map (fun i => (i.zero, i.size, i.bytes)) = some (some z, sz, bytes)) (hzs : z.cells.size = sz) (hsz : 0 < sz)
    (v : Value) (hs : a.eval s = v) (hO : OwnR ec sz e w base v l) (g : Nat) (hx : a.eval x = .slice (some ⟨g, 0, none⟩) 1 1) (y : α) (hy : (ec y).length = sz) (hc : ∀ j u, (ec y)[j]? = some u → w.cell? ((⟨g, 0, none⟩ : Addr).add j) = some u) (h1 : ∀ u ∈ ec y, u.oneCell' = true)
    (h63 : l.length + 1 ≤ maxLen) (hbytes : (l.length + 1) * bytes ≤ 140737488355328) (hbase : base ≤ w.heap.size)
    (h : ∀ v' w', OwnR ec sz e w' base v' (l ++ [y]) → w.grownBy w' v.ownBlock → (v'.ownBlock = v.ownBlock ∨ v'.ownBlock = some w.heap.size) → wpList P ops Q rest (a.put o.dst v') w') : wpList P ops Q (o :: rest) a w :=
  wpList_plain hgd fun _ hK => wp_appR1 s x t ho z bytes ht hinfo hzs hsz v hs hO g hx y hy hc h1 h63 hbytes hbase (fun v' w' a1 a2 a3 => hK _ _ (h v' w' a1 a2 a3))
theorem slR_one {α : Type} {ec : α → List Value} {sz : Nat} {w : World} {g : Nat} {y : α} (h : SlR ec sz w (.slice (some ⟨g, 0, none⟩) 1 1) [y]) : ∀ j u, (ec y)[j]? = some u → w.cell? ((⟨g, 0, none⟩ : Addr).add j) = some u := by
  obtain ⟨a0, cap, hv, _, _, _, h4⟩ := h.2
  cases hv
  intro j u hj
  exact h4 _ rfl j u (by simpa using hj)
end Go.Proofs.U
namespace Go.Proofs.Ytejjfpdcmaefiaa
open Go.RowKit Go.Proofs.U
set_option linter.unusedSimpArgs false
set_option linter.unusedVariables false

theorem act_zero : (Try.prog.info? 43).map (·.zero) = some (some (.agg (encA ⟨0, 0, 0, .slice none 0 0, []⟩).toArray)) := by kernel_rfl
theorem act_size : (Try.prog.info? 43).map (·.size) = some 4 := by kernel_rfl
theorem under_act : Try.prog.underlying 43 = some (.struct (Try.prog.fieldsOf 43)) := by kernel_rfl
theorem act_sizeE (x : ActR) : (Try.prog.info? 43).map (·.size) = some (encA x).length := act_size
theorem encA_le (x y : ActR) : 0 + (encA x).length ≤ (encA y).length := by simp [encA]
theorem encA_eq (x y : ActR) : (encA x).length = (encA y).length := rfl
theorem wf64 {z : Int} (h : (Lit.int .i64 z).wf = true) : -9223372036854775808 ≤ z ∧ z ≤ 9223372036854775807 := by
  simp [Lit.wf, IntKind.min, IntKind.max, IntKind.signed, IntKind.bits] at h; omega
theorem encA_one {w : World} {x : ActR} (h : ActOk w x) : ∀ u ∈ encA x, u.oneCell' = true := by
  obtain ⟨a, c, e, _⟩ := h.2.2.2.opn
  intro u hu
  simp [encA, e] at hu
  rcases hu with rfl | rfl | rfl | rfl <;> rfl

theorem stay_all (m : Nat) (k s : Nat) (hk : k < m) (hs : s < 8) : stayK (List.replicate m 255) k s = true := by
  have e : (List.replicate m (255 : Int)).getD k 0 = 255 := by simp [List.getD, hk]
  unfold stayK
  rw [e]
  have : ∀ s : Fin 8, ((255 : Int) / 2 ^ s.val % 2 == 1) = true := by decide
  simpa [hk] using this ⟨s, hs⟩
theorem setS_congr (pages : List (List Int)) (pend : List (Int × List Int)) (st st' : Nat → Nat → Bool) (h : ∀ k s, k < pend.length → s < 8 → st k s = st' k s) : ∀ m, m ≤ pend.length → setS pages pend st m = setS pages pend st' m := by
  intro m
  induction m with
  | zero => intro _; rfl
  | succ m ih =>
    intro hm
    rw [setS_succ, setS_succ, ih (by omega)]
    unfold setS1
    congr 1
    unfold mixS
    apply List.map_congr_left
    intro i hi
    have hi8 : i / 32 < 8 := by have := List.mem_range.1 hi; omega
    rw [h m (i / 32) (by omega) hi8]
/-- What both disks hold, and where. -/
structure TD (w : World) (base : Nat) (Fd Fk : Nat → Prop) (gd gk : Nat) (X Y : DSt) : Prop where
  d : Disk w Fd gd X
  k : Disk w Fk gk Y
  ap : ∀ q, Fd q → Fk q → False
  bd : ∀ q, Fd q → base ≤ q ∧ q < w.heap.size
  bk : ∀ q, Fk q → base ≤ q ∧ q < w.heap.size
/-- An uncounted disk that is up, of so many pages. -/
structure UI (n k : Nat) (X : DSt) : Prop where
  len : X.pages.length = n
  pend : X.pend.length ≤ k
  left : X.left = -1
  down : X.down = false
theorem UI.act {n k : Nat} {X : DSt} (h : UI n k X) : X.actE = 0 ∧ X.act = X := by
  obtain ⟨pages, bad, pend, d, l⟩ := X
  have h3 := h.left
  have h4 := h.down
  simp only at h3 h4
  subst h3 h4
  exact ⟨by simp [DSt.actE, actP], by simp [DSt.act, actP]⟩
theorem UI.sync {n k : Nat} {X : DSt} (h : UI n k X) : X.sync = X.settle (fun _ _ => true) ∧ UI n 0 X.sync := by
  obtain ⟨h1, h2⟩ := h.act
  have e : X.sync = X.settle (fun _ _ => true) := by unfold DSt.sync; rw [if_pos h1, h2]
  refine ⟨e, ?_⟩
  rw [e]
  exact ⟨by simp [DSt.settle, setS_len, h.len], by simp [DSt.settle], h.left, h.down⟩
theorem UI.write {n k : Nat} {X : DSt} (h : UI n k X) (i : Int) (p : List Int) : X.write i p = (if inR n i then { X with pend := X.pend ++ [(i, p)] } else X) ∧ X.writeE i = (if inR n i then 0 else 41) ∧ UI n (k + 1) (X.write i p) := by
  obtain ⟨h1, h2⟩ := h.act
  have e : X.write i p = (if inR n i then { X with pend := X.pend ++ [(i, p)] } else X) := by
    unfold DSt.write; rw [h.len, if_pos h1, h2]
  refine ⟨e, by unfold DSt.writeE; rw [h.len, h1], ?_⟩
  rw [e]
  split
  · exact ⟨h.len, by simp; exact h.pend, h.left, h.down⟩
  · exact ⟨h.len, by have := h.pend; omega, h.left, h.down⟩
theorem UI.mono {n k k' : Nat} {X : DSt} (h : UI n k X) (hk : k ≤ k') : UI n k' X := ⟨h.len, by have := h.pend; omega, h.left, h.down⟩

def JN (w0 : World) : List Value → World → Prop := fun _ W => W = w0
/-- While a page is written to both. -/
def JT (w0 : World) (Fd Fk : Nat → Prop) (gd gk : Nat) (X : DSt) (i : Int) (P : List Int) : List Value → World → Prop
  | [], W => W = w0
  | [v], W => v = pgV P ∧ Fr noB w0 W
  | [_, e], W => e = .int .i64 (X.writeE i) ∧ Fr Fd w0 W ∧ ∃ F', Disk W F' gd (X.write i P) ∧ ∀ q, F' q → q < W.heap.size ∧ (Fd q ∨ w0.heap.size ≤ q)
  | [_, e, v], W => v = pgV P ∧ e = .int .i64 (X.writeE i) ∧ Fr Fd w0 W ∧ ∃ F', Disk W F' gd (X.write i P) ∧ ∀ q, F' q → q < W.heap.size ∧ (Fd q ∨ w0.heap.size ≤ q)
  | [_, e, _, e'], W => e = .int .i64 (X.writeE i) ∧ e' = .int .i64 (X.writeE i) ∧ Fr (fun q => Fd q ∨ Fk q) w0 W ∧ ∃ F' G', Disk W F' gd (X.write i P) ∧ Disk W G' gk (X.write i P) ∧ (∀ q, F' q → G' q → False) ∧
      (∀ q, F' q → q < W.heap.size ∧ (Fd q ∨ w0.heap.size ≤ q)) ∧ (∀ q, G' q → q < W.heap.size ∧ (Fk q ∨ w0.heap.size ≤ q))
  | _, _ => False
theorem JT.fr {w0 : World} {Fd Fk : Nat → Prop} {gd gk : Nat} {X : DSt} {i : Int} {P : List Int} : ∀ {hv : List Value} {W : World}, JT w0 Fd Fk gd gk X i P hv W → Fr (fun q => Fd q ∨ Fk q) w0 W
  | [], _, h => by cases h; exact Fr.refl _ _
  | [_], _, h => h.2.mono (fun _ _ q => q.elim)
  | [_, _], _, h => h.2.1.mono (fun _ _ q => Or.inl q)
  | [_, _, _], _, h => h.2.2.1.mono (fun _ _ q => Or.inl q)
  | [_, _, _, _], _, h => h.2.2.1
  | _ :: _ :: _ :: _ :: _ :: _, _, h => h.elim

set_option maxRecDepth 100000 in
set_option maxHeartbeats 8000000 in
theorem again_walk (n : Int) (va : Value) (acts : List ActR) (vk : Value) (keep : List Int) (w : World) (hn : (Lit.int .i64 n).wf = true) (ha : SlA w va acts) (hk : SlI .u8 w vk keep) :
    Calls Try.prog 8 #[.int .i64 n, va, vk] w fun r w' => r = .returned (.bool true) ∧ Below w.heap.size w w' := by
  obtain ⟨hA, hok⟩ := ha
  obtain ⟨a1, c1, rfl, _⟩ := hA.opn
  obtain ⟨a2, c2, rfl, _⟩ := hk.opn
  have hnr := wf64 hn
  by_cases hg : 0 ≤ n ∧ n ≤ 60 ∧ acts.length ≤ 80 ∧ keep.length ≤ 200
  · obtain ⟨hg0, hg1, hg2, hg3⟩ := hg
    obtain ⟨N, rfl⟩ := Int.eq_ofNat_of_zero_le hg0
    have t0 : ¬ (N : Int) < 0 := by omega
    have t1 : ¬ 60 < (N : Int) := by omega
    have t2 : ¬ 80 < (acts.length : Int) := by omega
    have t3 : ¬ 200 < (keep.length : Int) := by omega
    have hN : newN (N : Int) = N := by unfold newN; omega
    obtain ⟨X0, HX0⟩ : ∃ X, Hid (newD (N : Int) = X) := ⟨_, rfl⟩
    have hU0 : UI N 0 X0 := by rw [← HX0.out]; exact ⟨by simp [newD, hN], by simp [newD], rfl, rfl⟩
    go_enter Try.func8, Try.ntmps8
    go_wp2_with (first
      | (go_at_call 13; go_must (refine (alive_any _).mono ?_; rintro e w0 ⟨rfl, f0⟩; have z0 := f0.size))
      | (go_at_call 9; have d1' := d1; go_must (refine (new_any (N : Int) (by omega) _).mono ?_; rw [HX0.out]; rintro e w2 ⟨gk, rfl, d2, f2⟩; have z2 := f2.size))
      | (go_at_call 9; go_must (refine (new_any (N : Int) (by omega) _).mono ?_; rw [HX0.out]; rintro e w1 ⟨gd, rfl, d1, f1⟩; have z1 := f1.size))
      | (with_reducible refine at_wpP ?_; refine wpList_mk0 en8 1 rfl 41 rfl 5 Try.underlying41 size_u8 ?_; intro g3 w3 o3 f3 s3 t3; have z3 := f3.size))
    have htd : TD w3 w0.heap.size (fun q => w0.heap.size ≤ q ∧ q < w1.heap.size) (fun q => w1.heap.size ≤ q ∧ q < w2.heap.size) gd gk X0 X0 :=
      ⟨(d1.tight.fr0 f2).fr0 f3, d2.tight.fr0 f3, fun q h1 h2 => by omega, fun q h => by omega, fun q h => by omega⟩
    have G3 := ((f0.thenN f1).thenN f2).thenN f3
    go_loopw [42] (fun i wr => ∃ (k : Nat) (X : DSt) (Fd Fk : Nat → Prop), k ≤ acts.length ∧ i = .int .i64 (k : Int) ∧ Hid (UI N k X) ∧ TD wr w0.heap.size Fd Fk gd gk X X ∧ (∀ q, Fd q ∨ Fk q → q ≠ g3) ∧ OwnR en8 1 5 wr w2.heap.size (.slice (some ⟨g3, 0, none⟩) 0 0) [] ∧ Fr noB w wr) (fun i _ => acts.length - (intOf i).toNat)
    case atStart => exact ⟨0, X0, _, _, Nat.zero_le _, rfl, hU0, htd, fun q h => by omega, o3, G3⟩
    case round =>
      obtain ⟨k, X, Fd, Fk, hkl, rfl, hU, hT, hq3, ho3, hf⟩ := hrel
      have hpm : X.pend.length ≤ 100000 := by have := hU.out.pend; omega
      by_cases hlt : k < acts.length
      · obtain ⟨x, Hx⟩ : ∃ X, Hid (acts[k] = X) := ⟨acts[k], (rfl : acts[k] = acts[k])⟩
        have hxo : ActOk w x := by rw [← Hx.out]; exact hok _ (by simp)
        have hx1 := encA_one hxo
        have hxl : Hid ((encA x).length = 4) := rfl
        obtain ⟨kd, ak, by', kv, kp⟩ := x
        go_wp2_with (first
          | (refine at_idx 34 _ _ rfl ?_; go_must (refine wpList_idxR rfl 34 _ _ rfl 43 Try.underlying34 4 act_size _ _ _ rfl (hA.fr0 hf) (by decide) _ _ k rfl rfl hlt ?_; rw [Hx.out]; intro ba oa hba hca))
          | (with_reducible refine at_wpP ?_; refine at_ld 43 _ rfl ?_; go_must (refine wpList_load_mid rfl 43 _ rfl ba oa rfl (encA ⟨kd, ak, by', kv, kp⟩) _ (range_of fun j v hj => hca j v hj) under_act rfl (act_sizeE _) ?_))
          | (with_reducible refine at_wpP ?_; refine wpList_allocV rfl 43 rfl _ act_zero ?_; intro gx w4 hgx b4 f4 s4; have l4 := b4.lt)
          | (with_reducible refine at_wpP ?_; refine at_st 43 _ _ rfl ?_; go_must (refine wpList_storeV rfl 43 _ _ rfl gx 0 rfl (encA ⟨kd, ak, by', kv, kp⟩) rfl _ _ b4 (act_sizeE _) (encA_le _ _) hx1 ?_; intro w5 b5 f5; rw [putAt_all _ _ (encA_eq _ _)] at b5)))
        have hT5 : TD w5 w0.heap.size Fd Fk gd gk X X := by
          have F45 : Fr noB wr w5 := f4.thenT f5 (fun q hq e => by unfold onB1 at e; omega)
          have := F45.size
          exact ⟨hT.d.fr0 F45, hT.k.fr0 F45, hT.ap, fun q hq => by have := hT.bd q hq; omega, fun q hq => by have := hT.bk q hq; omega⟩
        have F45 : Fr noB wr w5 := f4.thenT f5 (fun q hq e => by unfold onB1 at e; omega)
        have z45 := F45.size
        have ho5 := ho3.fr0 F45
        have hg3w := (ho3.newB g3 rfl).2
        have G5 := hf.thenN F45
        have hgxd : ∀ q, Fd q ∨ Fk q → q ≠ gx := fun q hq => by
          rcases hq with hq | hq
          · have := hT.bd q hq; omega
          · have := hT.bk q hq; omega
        have hngx : ¬ (Fd gx ∨ Fk gx) := fun q => hgxd gx q rfl
        obtain ⟨q0, _⟩ := b5.cell 0 _ rfl
        obtain ⟨q1, _⟩ := b5.cell 1 _ rfl
        obtain ⟨q2, _⟩ := b5.cell 2 _ rfl
        by_cases hk0 : kd = 0
        · subst hk0
          obtain ⟨P, HP⟩ : ∃ p, Hid (List.replicate 256 by' = p) := ⟨_, rfl⟩
          have hPl : Hid (P.length = 256) := by show _ = _; rw [← HP.out, List.length_replicate]
          obtain ⟨E, HE⟩ : ∃ E, Hid (X.writeE ak = E) := ⟨_, rfl⟩
          have hT6 : TD w5.drew w0.heap.size Fd Fk gd gk X X := ⟨hT5.d.fr0 ((Fr.refl _ _).drew), hT5.k.fr0 ((Fr.refl _ _).drew), hT5.ap, hT5.bd, hT5.bk⟩
          have q0 : w5.drew.cell? ⟨gx, 0, none⟩ = some (.int .i64 0) := q0
          have q1 : w5.drew.cell? ⟨gx, 1, none⟩ = some (.int .i64 ak) := q1
          have q2 : w5.drew.cell? ⟨gx, 2, none⟩ = some (.int .u8 by') := q2
          have b6 : BxV w5.drew gx 43 (encA ⟨0, ak, by', kv, kp⟩) := b5
          refine wp_region_chain_lay (by kernel_rfl) [9, 10, 16, 17] [none, none, none, none, none, none, none, none, none, some 0, some 1, none, none, none, none, none, some 2, some 3, none, none]
            [fun v => v = .pointer (some ⟨gx, 0, none⟩), fun v => v = .int .i64 0, fun v => v = .bool true, fun v => v = .bool true, fun v => v = ptr gd, fun v => v = .pointer (some ⟨gx, 1, none⟩), fun v => v = .int .i64 ak, fun v => v = .pointer (some ⟨gx, 2, none⟩), fun v => v = .int .u8 by', fun _ => True, fun _ => True, fun v => v = ptr gk, fun v => v = .pointer (some ⟨gx, 1, none⟩), fun v => v = .int .i64 ak, fun v => v = .pointer (some ⟨gx, 2, none⟩), fun v => v = .int .u8 by', fun _ => True, fun _ => True, fun v => v = .bool false, fun v => v = .bool false]
            (JT w5.drew Fd Fk gd gk X ak P) (rfl) (by kernel_rfl) (by kernel_rfl) (by decide) ⟨?o0, ?o1, ?o2, ?o3, ?o4, ?o5, ?o6, ?o7, ?o8, ?o9, ?o10, ?o11, ?o12, ?o13, ?o14, ?o15, ?o16, ?o17, ?o18, ?o19, trivial⟩ ?oe
          case o0 =>
            intro A W hv hlen hJ hbase hdL hdH
            have e11 : A.eval (.tmp 11) = .pointer (some ⟨gx, 0, none⟩) := hbase 11 (by kernel_rfl)
            have f11 : A.tmps[11]?.getD undef = .pointer (some ⟨gx, 0, none⟩) := by simpa [Act.eval] using e11
            exact light_val rfl (v := .pointer (some ⟨gx, 0, none⟩)) (by simp [execOp, go_sem, e11, f11]) hJ rfl
          case o1 =>
            intro A W hv hlen hJ hbase hdL hdH
            have e46 : A.eval (.tmp 46) = .pointer (some ⟨gx, 0, none⟩) := hdL 0 46 (by kernel_rfl) (by kernel_rfl) (by kernel_rfl)
            have f46 : A.tmps[46]?.getD undef = .pointer (some ⟨gx, 0, none⟩) := by simpa [Act.eval] using e46
            have hcW := (JT.fr hJ).cell q0 hngx
            exact light_val rfl (v := .int .i64 0) (by simp [execOp, go_sem, e46, f46, hcW]) hJ rfl
          case o2 =>
            intro A W hv hlen hJ hbase hdL hdH
            have e47 : A.eval (.tmp 47) = .int .i64 0 := hdL 1 47 (by kernel_rfl) (by kernel_rfl) (by kernel_rfl)
            have f47 : A.tmps[47]?.getD undef = .int .i64 0 := by simpa [Act.eval] using e47
            exact light_val rfl (v := .bool true) (by simp [execOp, go_sem, e47, f47]) hJ rfl
          case o3 =>
            intro A W hv hlen hJ hbase hdL hdH
            have e48 : A.eval (.tmp 48) = .bool true := hdL 2 48 (by kernel_rfl) (by kernel_rfl) (by kernel_rfl)
            have f48 : A.tmps[48]?.getD undef = .bool true := by simpa [Act.eval] using e48
            exact light_val rfl (v := .bool true) (by simp [execOp, e48, f48]) hJ rfl
          case o4 =>
            intro A W hv hlen hJ hbase hdL hdH
            have e7 : A.eval (.tmp 7) = ptr gd := hbase 7 (by kernel_rfl)
            have f7 : A.tmps[7]?.getD undef = ptr gd := by simpa [Act.eval] using e7
            have eg : A.eval (.tmp 49) = .bool true := hdL 3 49 (by kernel_rfl) (by kernel_rfl) (by kernel_rfl)
            exact light_val (wanted_of rfl (by kernel_rfl) eg) (v := ptr gd) (by simp [execOp, e7, f7]) hJ rfl
          case o5 =>
            intro A W hv hlen hJ hbase hdL hdH
            have e11 : A.eval (.tmp 11) = .pointer (some ⟨gx, 0, none⟩) := hbase 11 (by kernel_rfl)
            have f11 : A.tmps[11]?.getD undef = .pointer (some ⟨gx, 0, none⟩) := by simpa [Act.eval] using e11
            have eg : A.eval (.tmp 49) = .bool true := hdL 3 49 (by kernel_rfl) (by kernel_rfl) (by kernel_rfl)
            exact light_val (wanted_of rfl (by kernel_rfl) eg) (v := .pointer (some ⟨gx, 1, none⟩)) (by simp [execOp, go_sem, e11, f11]) hJ rfl
          case o6 =>
            intro A W hv hlen hJ hbase hdL hdH
            have e51 : A.eval (.tmp 51) = .pointer (some ⟨gx, 1, none⟩) := hdL 5 51 (by kernel_rfl) (by kernel_rfl) (by kernel_rfl)
            have f51 : A.tmps[51]?.getD undef = .pointer (some ⟨gx, 1, none⟩) := by simpa [Act.eval] using e51
            have eg : A.eval (.tmp 49) = .bool true := hdL 3 49 (by kernel_rfl) (by kernel_rfl) (by kernel_rfl)
            have hcW := (JT.fr hJ).cell q1 hngx
            exact light_val (wanted_of rfl (by kernel_rfl) eg) (v := .int .i64 ak) (by simp [execOp, go_sem, e51, f51, hcW]) hJ rfl
          case o7 =>
            intro A W hv hlen hJ hbase hdL hdH
            have e11 : A.eval (.tmp 11) = .pointer (some ⟨gx, 0, none⟩) := hbase 11 (by kernel_rfl)
            have f11 : A.tmps[11]?.getD undef = .pointer (some ⟨gx, 0, none⟩) := by simpa [Act.eval] using e11
            have eg : A.eval (.tmp 49) = .bool true := hdL 3 49 (by kernel_rfl) (by kernel_rfl) (by kernel_rfl)
            exact light_val (wanted_of rfl (by kernel_rfl) eg) (v := .pointer (some ⟨gx, 2, none⟩)) (by simp [execOp, go_sem, e11, f11]) hJ rfl
          case o8 =>
            intro A W hv hlen hJ hbase hdL hdH
            have e53 : A.eval (.tmp 53) = .pointer (some ⟨gx, 2, none⟩) := hdL 7 53 (by kernel_rfl) (by kernel_rfl) (by kernel_rfl)
            have f53 : A.tmps[53]?.getD undef = .pointer (some ⟨gx, 2, none⟩) := by simpa [Act.eval] using e53
            have eg : A.eval (.tmp 49) = .bool true := hdL 3 49 (by kernel_rfl) (by kernel_rfl) (by kernel_rfl)
            have hcW := (JT.fr hJ).cell q2 hngx
            exact light_val (wanted_of rfl (by kernel_rfl) eg) (v := .int .u8 by') (by simp [execOp, go_sem, e53, f53, hcW]) hJ rfl
          case o9 =>
            intro A W hv hlen hJ hbase hdL hdH
            have e54 : A.eval (.tmp 54) = .int .u8 by' := hdL 8 54 (by kernel_rfl) (by kernel_rfl) (by kernel_rfl)
            have f54 : A.tmps[54]?.getD undef = .int .u8 by' := by simpa [Act.eval] using e54
            have eg : A.eval (.tmp 49) = .bool true := hdL 3 49 (by kernel_rfl) (by kernel_rfl) (by kernel_rfl)
            obtain rfl : hv = [] := List.eq_nil_of_length_eq_zero hlen
            cases hJ
            refine heavy_call (wanted_of rfl (by kernel_rfl) eg) (args := #[.int .u8 by']) (f := 19) (by simp [execOp, resolve, invoke, go_sem, e54, f54]) ?_
            refine (full_any by' _).mono ?_
            rw [HP.out]
            rintro e w' ⟨rfl, f'⟩
            exact ⟨_, rfl, rfl, f'⟩
          case o10 =>
            intro A W hv hlen hJ hbase hdL hdH
            have e50 : A.eval (.tmp 50) = ptr gd := hdL 4 50 (by kernel_rfl) (by kernel_rfl) (by kernel_rfl)
            have f50 : A.tmps[50]?.getD undef = ptr gd := by simpa [Act.eval] using e50
            have e52 : A.eval (.tmp 52) = .int .i64 ak := hdL 6 52 (by kernel_rfl) (by kernel_rfl) (by kernel_rfl)
            have f52 : A.tmps[52]?.getD undef = .int .i64 ak := by simpa [Act.eval] using e52
            have eg : A.eval (.tmp 49) = .bool true := hdL 3 49 (by kernel_rfl) (by kernel_rfl) (by kernel_rfl)
            obtain ⟨v55, rfl⟩ := List.length_eq_one_iff.1 hlen
            obtain ⟨rfl, hf5⟩ := hJ
            have e55 : A.eval (.tmp 55) = pgV P := by have := hdH 9 55 0 (by kernel_rfl) rfl (by kernel_rfl); simpa using this.symm
            have f55 : A.tmps[55]?.getD undef = pgV P := by simpa [Act.eval] using e55
            refine heavy_call (wanted_of rfl (by kernel_rfl) eg) (args := #[ptr gd, .int .i64 ak, pgV P]) (f := 18) (by simp [execOp, resolve, invoke, go_sem, e50, f50, e52, f52, e55, f55]) ?_
            refine (write_any gd ak P hPl.out W (hT6.d.fr0 hf5) hpm).mono ?_
            rintro e w' ⟨rfl, d', f'⟩
            have z5 := hf5.size
            exact ⟨_, rfl, rfl, (hf5.mono (fun _ _ q => q.elim)).trans f', _, d'.tight, fun q hq => ⟨hq.2, by have h1 := hq.1; unfold orNew at h1; rcases h1 with h1 | h1; exact Or.inl h1; exact Or.inr (by omega)⟩⟩
          case o11 =>
            intro A W hv hlen hJ hbase hdL hdH
            have e8 : A.eval (.tmp 8) = ptr gk := hbase 8 (by kernel_rfl)
            have f8 : A.tmps[8]?.getD undef = ptr gk := by simpa [Act.eval] using e8
            have eg : A.eval (.tmp 49) = .bool true := hdL 3 49 (by kernel_rfl) (by kernel_rfl) (by kernel_rfl)
            exact light_val (wanted_of rfl (by kernel_rfl) eg) (v := ptr gk) (by simp [execOp, e8, f8]) hJ rfl
          case o12 =>
            intro A W hv hlen hJ hbase hdL hdH
            have e11 : A.eval (.tmp 11) = .pointer (some ⟨gx, 0, none⟩) := hbase 11 (by kernel_rfl)
            have f11 : A.tmps[11]?.getD undef = .pointer (some ⟨gx, 0, none⟩) := by simpa [Act.eval] using e11
            have eg : A.eval (.tmp 49) = .bool true := hdL 3 49 (by kernel_rfl) (by kernel_rfl) (by kernel_rfl)
            exact light_val (wanted_of rfl (by kernel_rfl) eg) (v := .pointer (some ⟨gx, 1, none⟩)) (by simp [execOp, go_sem, e11, f11]) hJ rfl
          case o13 =>
            intro A W hv hlen hJ hbase hdL hdH
            have e58 : A.eval (.tmp 58) = .pointer (some ⟨gx, 1, none⟩) := hdL 12 58 (by kernel_rfl) (by kernel_rfl) (by kernel_rfl)
            have f58 : A.tmps[58]?.getD undef = .pointer (some ⟨gx, 1, none⟩) := by simpa [Act.eval] using e58
            have eg : A.eval (.tmp 49) = .bool true := hdL 3 49 (by kernel_rfl) (by kernel_rfl) (by kernel_rfl)
            have hcW := (JT.fr hJ).cell q1 hngx
            exact light_val (wanted_of rfl (by kernel_rfl) eg) (v := .int .i64 ak) (by simp [execOp, go_sem, e58, f58, hcW]) hJ rfl
          case o14 =>
            intro A W hv hlen hJ hbase hdL hdH
            have e11 : A.eval (.tmp 11) = .pointer (some ⟨gx, 0, none⟩) := hbase 11 (by kernel_rfl)
            have f11 : A.tmps[11]?.getD undef = .pointer (some ⟨gx, 0, none⟩) := by simpa [Act.eval] using e11
            have eg : A.eval (.tmp 49) = .bool true := hdL 3 49 (by kernel_rfl) (by kernel_rfl) (by kernel_rfl)
            exact light_val (wanted_of rfl (by kernel_rfl) eg) (v := .pointer (some ⟨gx, 2, none⟩)) (by simp [execOp, go_sem, e11, f11]) hJ rfl
          case o15 =>
            intro A W hv hlen hJ hbase hdL hdH
            have e60 : A.eval (.tmp 60) = .pointer (some ⟨gx, 2, none⟩) := hdL 14 60 (by kernel_rfl) (by kernel_rfl) (by kernel_rfl)
            have f60 : A.tmps[60]?.getD undef = .pointer (some ⟨gx, 2, none⟩) := by simpa [Act.eval] using e60
            have eg : A.eval (.tmp 49) = .bool true := hdL 3 49 (by kernel_rfl) (by kernel_rfl) (by kernel_rfl)
            have hcW := (JT.fr hJ).cell q2 hngx
            exact light_val (wanted_of rfl (by kernel_rfl) eg) (v := .int .u8 by') (by simp [execOp, go_sem, e60, f60, hcW]) hJ rfl
          case o16 =>
            intro A W hv hlen hJ hbase hdL hdH
            have e61 : A.eval (.tmp 61) = .int .u8 by' := hdL 15 61 (by kernel_rfl) (by kernel_rfl) (by kernel_rfl)
            have f61 : A.tmps[61]?.getD undef = .int .u8 by' := by simpa [Act.eval] using e61
            have eg : A.eval (.tmp 49) = .bool true := hdL 3 49 (by kernel_rfl) (by kernel_rfl) (by kernel_rfl)
            match hv, hlen with
            | [x0, x1], _ =>
              obtain ⟨rfl, hf5, F', hd', hF'⟩ := hJ
              refine heavy_call (wanted_of rfl (by kernel_rfl) eg) (args := #[.int .u8 by']) (f := 19) (by simp [execOp, resolve, invoke, go_sem, e61, f61]) ?_
              refine (full_any by' _).mono ?_
              rw [HP.out]
              rintro e w' ⟨rfl, f'⟩
              have z5 := f'.size
              exact ⟨_, rfl, rfl, rfl, hf5.thenN f', F', hd'.fr0 f', fun q hq => ⟨by have := (hF' q hq).1; omega, (hF' q hq).2⟩⟩
          case o17 =>
            intro A W hv hlen hJ hbase hdL hdH
            have e57 : A.eval (.tmp 57) = ptr gk := hdL 11 57 (by kernel_rfl) (by kernel_rfl) (by kernel_rfl)
            have f57 : A.tmps[57]?.getD undef = ptr gk := by simpa [Act.eval] using e57
            have e59 : A.eval (.tmp 59) = .int .i64 ak := hdL 13 59 (by kernel_rfl) (by kernel_rfl) (by kernel_rfl)
            have f59 : A.tmps[59]?.getD undef = .int .i64 ak := by simpa [Act.eval] using e59
            have eg : A.eval (.tmp 49) = .bool true := hdL 3 49 (by kernel_rfl) (by kernel_rfl) (by kernel_rfl)
            match hv, hlen with
            | [x0, x1, v62], _ =>
              obtain ⟨rfl, rfl, hf5, F', hd', hF'⟩ := hJ
              have e62 : A.eval (.tmp 62) = pgV P := by have := hdH 16 62 2 (by kernel_rfl) rfl (by kernel_rfl); simpa using this.symm
              have f62 : A.tmps[62]?.getD undef = pgV P := by simpa [Act.eval] using e62
              refine heavy_call (wanted_of rfl (by kernel_rfl) eg) (args := #[ptr gk, .int .i64 ak, pgV P]) (f := 18) (by simp [execOp, resolve, invoke, go_sem, e57, f57, e59, f59, e62, f62]) ?_
              refine (write_any gk ak P hPl.out W (hT6.k.fr hf5 (fun q _ hq hq' => hT6.ap q hq' hq)) hpm).mono ?_
              rintro e w' ⟨rfl, d', f'⟩
              have z5 := hf5.size
              have z6 := f'.size
              refine ⟨_, rfl, rfl, rfl, (hf5.mono (fun _ _ q => Or.inl q)).trans (f'.mono (fun _ _ q => Or.inr q)), F', _, hd'.fr f' (fun q _ hq hq' => ?_), d'.tight, fun q hq hq' => ?_, fun q hq => ⟨by have := (hF' q hq).1; omega, (hF' q hq).2⟩, fun q hq => ⟨hq.2, by have h1 := hq.1; unfold orNew at h1; rcases h1 with h1 | h1; exact Or.inl h1; exact Or.inr (by omega)⟩⟩
              · rcases (hF' q hq).2 with h2 | h2
                · exact hT6.ap q h2 hq'
                · have := hT6.bk q hq'; omega
              · have h1 := hq'.1
                unfold orNew at h1
                have h0 := hF' q hq
                rcases h1 with h1 | h1
                · rcases h0.2 with h2 | h2
                  · exact hT6.ap q h2 h1
                  · have := hT6.bk q h1; omega
                · omega
          case o18 =>
            intro A W hv hlen hJ hbase hdL hdH
            have eg : A.eval (.tmp 49) = .bool true := hdL 3 49 (by kernel_rfl) (by kernel_rfl) (by kernel_rfl)
            have v56 := hdH 10 56 1 (by kernel_rfl) rfl (by kernel_rfl)
            have v63 := hdH 17 63 3 (by kernel_rfl) rfl (by kernel_rfl)
            have hl4 : hv.length ≤ 4 := hlen.1
            match hv, hl4, v63 with
            | [x0, x1, x2, x3], _, v63 =>
              have hJ' := hJ
              obtain ⟨rfl, rfl, _⟩ := hJ'
              have e56 : A.eval (.tmp 56) = .int .i64 (X.writeE ak) := by simpa using v56.symm
              have e63 : A.eval (.tmp 63) = .int .i64 (X.writeE ak) := by simpa using v63.symm
              have f56 : A.tmps[56]?.getD undef = .int .i64 (X.writeE ak) := by simpa [Act.eval] using e56
              have f63 : A.tmps[63]?.getD undef = .int .i64 (X.writeE ak) := by simpa [Act.eval] using e63
              exact light_val (wanted_of rfl (by kernel_rfl) eg) (v := .bool false) (by simp [execOp, go_sem, e56, f56, e63, f63]) hJ rfl
          case o19 =>
            intro A W hv hlen hJ hbase hdL hdH
            have e49 : A.eval (.tmp 49) = .bool true := hdL 3 49 (by kernel_rfl) (by kernel_rfl) (by kernel_rfl)
            have f49 : A.tmps[49]?.getD undef = .bool true := by simpa [Act.eval] using e49
            have e64 : A.eval (.tmp 64) = .bool false := hdL 18 64 (by kernel_rfl) (by kernel_rfl) (by kernel_rfl)
            have f64 : A.tmps[64]?.getD undef = .bool false := by simpa [Act.eval] using e64
            exact light_val rfl (v := .bool false) (by simp [execOp, go_sem, e49, f49, e64, f64]) hJ rfl
          case oe =>
            intro vs W' hv hlen hJ hL hH
            match hv, hlen with
            | [y1, y2, y3, y4], _ =>
              have hx65 : vs 19 = .bool false := hL 19 (by rfl) (by rfl)
              have hfJ := JT.fr hJ
              obtain ⟨_, _, hfr, F', G', hd', hk', hap', hF', hG'⟩ := hJ
              simp only [layL, Nat.reduceAdd, Act.put, List.setIfInBounds_toArray, List.set_cons_zero, List.set_cons_succ]
              clear hL hH
              generalize vs 0 = y100 at *
              generalize vs 1 = y101 at *
              generalize vs 2 = y102 at *
              generalize vs 3 = y103 at *
              generalize vs 4 = y104 at *
              generalize vs 5 = y105 at *
              generalize vs 6 = y106 at *
              generalize vs 7 = y107 at *
              generalize vs 8 = y108 at *
              generalize vs 9 = y109 at *
              generalize vs 10 = y110 at *
              generalize vs 11 = y111 at *
              generalize vs 12 = y112 at *
              generalize vs 13 = y113 at *
              generalize vs 14 = y114 at *
              generalize vs 15 = y115 at *
              generalize vs 16 = y116 at *
              generalize vs 17 = y117 at *
              generalize vs 18 = y118 at *
              generalize vs 19 = y119 at *
              subst hx65
              obtain ⟨r0, _⟩ := (b6.fr hfr hngx).cell 0 _ rfl
              have zz := hfr.size
              have hdz : w5.drew.heap.size = w5.heap.size := rfl
              go_wp2
              go_roundw
              case rel =>
                refine ⟨k + 1, X.write ak P, F', G', by omega, by go_num, (hU.out.write ak P).2.2, ⟨hd', hk', hap', fun q hq => ?_, fun q hq => ?_⟩, fun q hq => ?_, (ho5.fr0 ((Fr.refl noB w5).drew)).fr hfr (fun q hq hq' => ?_), G5.drew.thenT hfr (fun q hq hq' => ?_)⟩
                · have h1 := hF' q hq
                  rcases h1.2 with h2 | h2
                  · exact ⟨(hT5.bd q h2).1, h1.1⟩
                  · exact ⟨by have := G5.size; omega, h1.1⟩
                · have h1 := hG' q hq
                  rcases h1.2 with h2 | h2
                  · exact ⟨(hT5.bk q h2).1, h1.1⟩
                  · exact ⟨by have := G5.size; omega, h1.1⟩
                · rcases hq with hq | hq
                  · rcases (hF' q hq).2 with h2 | h2
                    · exact hq3 q (Or.inl h2)
                    · omega
                  · rcases (hG' q hq).2 with h2 | h2
                    · exact hq3 q (Or.inr h2)
                    · omega
                · simp [Value.ownBlock] at hq; exact hq3 q hq' hq.symm
                · rcases hq' with h2 | h2
                  · have := hT5.bd q h2; omega
                  · have := hT5.bk q h2; omega
              case measure => simp [intOf]; omega
        · have hk0b : (kd == 0) = false := by simpa using hk0
          by_cases hk1 : kd = 1
          · subst hk1
            obtain ⟨Y, HY⟩ : ∃ Y, Hid (X.sync = Y) := ⟨_, rfl⟩
            have hUY : Hid (UI N (k + 1) Y) := by show UI _ _ _; rw [← HY.out]; exact (hU.out.sync.2).mono (by omega)
            have q0 : w5.drew.cell? ⟨gx, 0, none⟩ = some (.int .i64 1) := q0
            refine wp_region_chain_lay (by kernel_rfl) [] [none, none, none, none, none, none, none, none, none, none, none, none, none, none, none, none, none, none, none, none]
              [fun v => v = .pointer (some ⟨gx, 0, none⟩), fun v => v = .int .i64 1, fun v => v = .bool false, fun v => v = .bool false, fun v => v = undef, fun v => v = undef, fun v => v = undef, fun v => v = undef, fun v => v = undef, fun v => v = undef, fun v => v = undef, fun v => v = undef, fun v => v = undef, fun v => v = undef, fun v => v = undef, fun v => v = undef, fun v => v = undef, fun v => v = undef, fun v => v = undef, fun v => v = .bool false]
              (JN w5.drew) (rfl) (by kernel_rfl) (by kernel_rfl) (by decide) ⟨?o0, ?o1, ?o2, ?o3, ?o4, ?o5, ?o6, ?o7, ?o8, ?o9, ?o10, ?o11, ?o12, ?o13, ?o14, ?o15, ?o16, ?o17, ?o18, ?o19, trivial⟩ ?oe
            case o0 =>
              intro A W hv hlen hJ hbase hdL hdH
              have e11 : A.eval (.tmp 11) = .pointer (some ⟨gx, 0, none⟩) := hbase 11 (by kernel_rfl)
              have f11 : A.tmps[11]?.getD undef = .pointer (some ⟨gx, 0, none⟩) := by simpa [Act.eval] using e11
              exact light_val rfl (v := .pointer (some ⟨gx, 0, none⟩)) (by simp [execOp, go_sem, e11, f11]) hJ rfl
            case o1 =>
              intro A W hv hlen hJ hbase hdL hdH
              have e46 : A.eval (.tmp 46) = .pointer (some ⟨gx, 0, none⟩) := hdL 0 46 (by kernel_rfl) (by kernel_rfl) (by kernel_rfl)
              have f46 : A.tmps[46]?.getD undef = .pointer (some ⟨gx, 0, none⟩) := by simpa [Act.eval] using e46
              cases hJ
              exact light_val rfl (v := .int .i64 1) (by simp [execOp, go_sem, e46, f46, q0]) rfl rfl
            case o2 =>
              intro A W hv hlen hJ hbase hdL hdH
              have e47 : A.eval (.tmp 47) = .int .i64 1 := hdL 1 47 (by kernel_rfl) (by kernel_rfl) (by kernel_rfl)
              have f47 : A.tmps[47]?.getD undef = .int .i64 1 := by simpa [Act.eval] using e47
              exact light_val rfl (v := .bool false) (by simp [execOp, go_sem, e47, f47, hk0b]) hJ rfl
            case o3 =>
              intro A W hv hlen hJ hbase hdL hdH
              have e48 : A.eval (.tmp 48) = .bool false := hdL 2 48 (by kernel_rfl) (by kernel_rfl) (by kernel_rfl)
              have f48 : A.tmps[48]?.getD undef = .bool false := by simpa [Act.eval] using e48
              exact light_val rfl (v := .bool false) (by simp [execOp, e48, f48]) hJ rfl
            case o4 =>
              intro A W hv hlen hJ hbase hdL hdH
              have eg : A.eval (.tmp 49) = .bool false := hdL 3 49 (by kernel_rfl) (by kernel_rfl) (by kernel_rfl)
              exact light_no (unwanted_of rfl (by kernel_rfl) eg) rfl
            case o5 =>
              intro A W hv hlen hJ hbase hdL hdH
              have eg : A.eval (.tmp 49) = .bool false := hdL 3 49 (by kernel_rfl) (by kernel_rfl) (by kernel_rfl)
              exact light_no (unwanted_of rfl (by kernel_rfl) eg) rfl
            case o6 =>
              intro A W hv hlen hJ hbase hdL hdH
              have eg : A.eval (.tmp 49) = .bool false := hdL 3 49 (by kernel_rfl) (by kernel_rfl) (by kernel_rfl)
              exact light_no (unwanted_of rfl (by kernel_rfl) eg) rfl
            case o7 =>
              intro A W hv hlen hJ hbase hdL hdH
              have eg : A.eval (.tmp 49) = .bool false := hdL 3 49 (by kernel_rfl) (by kernel_rfl) (by kernel_rfl)
              exact light_no (unwanted_of rfl (by kernel_rfl) eg) rfl
            case o8 =>
              intro A W hv hlen hJ hbase hdL hdH
              have eg : A.eval (.tmp 49) = .bool false := hdL 3 49 (by kernel_rfl) (by kernel_rfl) (by kernel_rfl)
              exact light_no (unwanted_of rfl (by kernel_rfl) eg) rfl
            case o9 =>
              intro A W hv hlen hJ hbase hdL hdH
              have eg : A.eval (.tmp 49) = .bool false := hdL 3 49 (by kernel_rfl) (by kernel_rfl) (by kernel_rfl)
              exact light_no (unwanted_of rfl (by kernel_rfl) eg) rfl
            case o10 =>
              intro A W hv hlen hJ hbase hdL hdH
              have eg : A.eval (.tmp 49) = .bool false := hdL 3 49 (by kernel_rfl) (by kernel_rfl) (by kernel_rfl)
              exact light_no (unwanted_of rfl (by kernel_rfl) eg) rfl
            case o11 =>
              intro A W hv hlen hJ hbase hdL hdH
              have eg : A.eval (.tmp 49) = .bool false := hdL 3 49 (by kernel_rfl) (by kernel_rfl) (by kernel_rfl)
              exact light_no (unwanted_of rfl (by kernel_rfl) eg) rfl
            case o12 =>
              intro A W hv hlen hJ hbase hdL hdH
              have eg : A.eval (.tmp 49) = .bool false := hdL 3 49 (by kernel_rfl) (by kernel_rfl) (by kernel_rfl)
              exact light_no (unwanted_of rfl (by kernel_rfl) eg) rfl
            case o13 =>
              intro A W hv hlen hJ hbase hdL hdH
              have eg : A.eval (.tmp 49) = .bool false := hdL 3 49 (by kernel_rfl) (by kernel_rfl) (by kernel_rfl)
              exact light_no (unwanted_of rfl (by kernel_rfl) eg) rfl
            case o14 =>
              intro A W hv hlen hJ hbase hdL hdH
              have eg : A.eval (.tmp 49) = .bool false := hdL 3 49 (by kernel_rfl) (by kernel_rfl) (by kernel_rfl)
              exact light_no (unwanted_of rfl (by kernel_rfl) eg) rfl
            case o15 =>
              intro A W hv hlen hJ hbase hdL hdH
              have eg : A.eval (.tmp 49) = .bool false := hdL 3 49 (by kernel_rfl) (by kernel_rfl) (by kernel_rfl)
              exact light_no (unwanted_of rfl (by kernel_rfl) eg) rfl
            case o16 =>
              intro A W hv hlen hJ hbase hdL hdH
              have eg : A.eval (.tmp 49) = .bool false := hdL 3 49 (by kernel_rfl) (by kernel_rfl) (by kernel_rfl)
              exact light_no (unwanted_of rfl (by kernel_rfl) eg) rfl
            case o17 =>
              intro A W hv hlen hJ hbase hdL hdH
              have eg : A.eval (.tmp 49) = .bool false := hdL 3 49 (by kernel_rfl) (by kernel_rfl) (by kernel_rfl)
              exact light_no (unwanted_of rfl (by kernel_rfl) eg) rfl
            case o18 =>
              intro A W hv hlen hJ hbase hdL hdH
              have eg : A.eval (.tmp 49) = .bool false := hdL 3 49 (by kernel_rfl) (by kernel_rfl) (by kernel_rfl)
              exact light_no (unwanted_of rfl (by kernel_rfl) eg) rfl
            case o19 =>
              intro A W hv hlen hJ hbase hdL hdH
              have e49 : A.eval (.tmp 49) = .bool false := hdL 3 49 (by kernel_rfl) (by kernel_rfl) (by kernel_rfl)
              have f49 : A.tmps[49]?.getD undef = .bool false := by simpa [Act.eval] using e49
              exact light_val rfl (v := .bool false) (by simp [execOp, go_sem, e49, f49]) hJ rfl
            case oe =>
              intro vs W' hv hlen hJ hL hH
              obtain rfl : hv = [] := List.eq_nil_of_length_eq_zero hlen
              cases hJ
              have hx65 : vs 19 = .bool false := hL 19 (by rfl) (by rfl)
              simp only [layL, Nat.reduceAdd, Act.put, List.setIfInBounds_toArray, List.set_cons_zero, List.set_cons_succ]
              clear hL hH
              generalize vs 0 = y100 at *
              generalize vs 1 = y101 at *
              generalize vs 2 = y102 at *
              generalize vs 3 = y103 at *
              generalize vs 4 = y104 at *
              generalize vs 5 = y105 at *
              generalize vs 6 = y106 at *
              generalize vs 7 = y107 at *
              generalize vs 8 = y108 at *
              generalize vs 9 = y109 at *
              generalize vs 10 = y110 at *
              generalize vs 11 = y111 at *
              generalize vs 12 = y112 at *
              generalize vs 13 = y113 at *
              generalize vs 14 = y114 at *
              generalize vs 15 = y115 at *
              generalize vs 16 = y116 at *
              generalize vs 17 = y117 at *
              generalize vs 18 = y118 at *
              generalize vs 19 = y119 at *
              subst hx65
              have hfq : Fr noB w5 w5.drew := (Fr.refl _ _).drew
              have hTn : TD w5.drew w0.heap.size Fd Fk gd gk X X := ⟨hT5.d.fr0 hfq, hT5.k.fr0 hfq, hT5.ap, hT5.bd, hT5.bk⟩
              have on := ho5.fr0 hfq
              have Gn := G5.thenN hfq
              go_wp2_with (first
                | (go_at_call 14; have d6' := d6; go_must (refine (sync_any gk _ (hTn.k.fr f6 (fun q _ hq hq' => hTn.ap q hq' hq)) hpm).mono ?_; rw [HY.out]; rintro e w7 ⟨rfl, d7, f7⟩; have z7 := f7.size))
                | (go_at_call 14; go_must (refine (sync_any gd _ hTn.d hpm).mono ?_; rw [HY.out]; rintro e w6 ⟨rfl, d6, f6⟩; have z6 := f6.size)))
              go_roundw
              case rel =>
                refine ⟨k + 1, Y, Fd, Fk, by omega, by go_num, hUY, ⟨d6.fr f7 (fun q _ hq hq' => hTn.ap q hq hq'), d7, hTn.ap, fun q hq => ?_, fun q hq => ?_⟩, hq3, (on.fr f6 (fun q hq hq' => ?_)).fr f7 (fun q hq hq' => ?_), (Gn.thenT f6 (fun q hq hq' => ?_)).thenT f7 (fun q hq hq' => ?_)⟩
                · have := hTn.bd q hq; omega
                · have := hTn.bk q hq; omega
                · simp [Value.ownBlock] at hq; exact hq3 q (Or.inl hq') hq.symm
                · simp [Value.ownBlock] at hq; exact hq3 q (Or.inr hq') hq.symm
                · have := hTn.bd q hq'; omega
                · have := hTn.bk q hq'; omega
              case measure => simp [intOf]; omega
          · have hk1b : (kd == 1) = false := by simpa using hk1
            have q0 : w5.drew.cell? ⟨gx, 0, none⟩ = some (.int .i64 kd) := q0
            refine wp_region_chain_lay (by kernel_rfl) [] [none, none, none, none, none, none, none, none, none, none, none, none, none, none, none, none, none, none, none, none]
              [fun v => v = .pointer (some ⟨gx, 0, none⟩), fun v => v = .int .i64 kd, fun v => v = .bool false, fun v => v = .bool false, fun v => v = undef, fun v => v = undef, fun v => v = undef, fun v => v = undef, fun v => v = undef, fun v => v = undef, fun v => v = undef, fun v => v = undef, fun v => v = undef, fun v => v = undef, fun v => v = undef, fun v => v = undef, fun v => v = undef, fun v => v = undef, fun v => v = undef, fun v => v = .bool false]
              (JN w5.drew) (rfl) (by kernel_rfl) (by kernel_rfl) (by decide) ⟨?o0, ?o1, ?o2, ?o3, ?o4, ?o5, ?o6, ?o7, ?o8, ?o9, ?o10, ?o11, ?o12, ?o13, ?o14, ?o15, ?o16, ?o17, ?o18, ?o19, trivial⟩ ?oe
            case o0 =>
              intro A W hv hlen hJ hbase hdL hdH
              have e11 : A.eval (.tmp 11) = .pointer (some ⟨gx, 0, none⟩) := hbase 11 (by kernel_rfl)
              have f11 : A.tmps[11]?.getD undef = .pointer (some ⟨gx, 0, none⟩) := by simpa [Act.eval] using e11
              exact light_val rfl (v := .pointer (some ⟨gx, 0, none⟩)) (by simp [execOp, go_sem, e11, f11]) hJ rfl
            case o1 =>
              intro A W hv hlen hJ hbase hdL hdH
              have e46 : A.eval (.tmp 46) = .pointer (some ⟨gx, 0, none⟩) := hdL 0 46 (by kernel_rfl) (by kernel_rfl) (by kernel_rfl)
              have f46 : A.tmps[46]?.getD undef = .pointer (some ⟨gx, 0, none⟩) := by simpa [Act.eval] using e46
              cases hJ
              exact light_val rfl (v := .int .i64 kd) (by simp [execOp, go_sem, e46, f46, q0]) rfl rfl
            case o2 =>
              intro A W hv hlen hJ hbase hdL hdH
              have e47 : A.eval (.tmp 47) = .int .i64 kd := hdL 1 47 (by kernel_rfl) (by kernel_rfl) (by kernel_rfl)
              have f47 : A.tmps[47]?.getD undef = .int .i64 kd := by simpa [Act.eval] using e47
              exact light_val rfl (v := .bool false) (by simp [execOp, go_sem, e47, f47, hk0b]) hJ rfl
            case o3 =>
              intro A W hv hlen hJ hbase hdL hdH
              have e48 : A.eval (.tmp 48) = .bool false := hdL 2 48 (by kernel_rfl) (by kernel_rfl) (by kernel_rfl)
              have f48 : A.tmps[48]?.getD undef = .bool false := by simpa [Act.eval] using e48
              exact light_val rfl (v := .bool false) (by simp [execOp, e48, f48]) hJ rfl
            case o4 =>
              intro A W hv hlen hJ hbase hdL hdH
              have eg : A.eval (.tmp 49) = .bool false := hdL 3 49 (by kernel_rfl) (by kernel_rfl) (by kernel_rfl)
              exact light_no (unwanted_of rfl (by kernel_rfl) eg) rfl
            case o5 =>
              intro A W hv hlen hJ hbase hdL hdH
              have eg : A.eval (.tmp 49) = .bool false := hdL 3 49 (by kernel_rfl) (by kernel_rfl) (by kernel_rfl)
              exact light_no (unwanted_of rfl (by kernel_rfl) eg) rfl
            case o6 =>
              intro A W hv hlen hJ hbase hdL hdH
              have eg : A.eval (.tmp 49) = .bool false := hdL 3 49 (by kernel_rfl) (by kernel_rfl) (by kernel_rfl)
              exact light_no (unwanted_of rfl (by kernel_rfl) eg) rfl
            case o7 =>
              intro A W hv hlen hJ hbase hdL hdH
              have eg : A.eval (.tmp 49) = .bool false := hdL 3 49 (by kernel_rfl) (by kernel_rfl) (by kernel_rfl)
              exact light_no (unwanted_of rfl (by kernel_rfl) eg) rfl
            case o8 =>
              intro A W hv hlen hJ hbase hdL hdH
              have eg : A.eval (.tmp 49) = .bool false := hdL 3 49 (by kernel_rfl) (by kernel_rfl) (by kernel_rfl)
              exact light_no (unwanted_of rfl (by kernel_rfl) eg) rfl
            case o9 =>
              intro A W hv hlen hJ hbase hdL hdH
              have eg : A.eval (.tmp 49) = .bool false := hdL 3 49 (by kernel_rfl) (by kernel_rfl) (by kernel_rfl)
              exact light_no (unwanted_of rfl (by kernel_rfl) eg) rfl
            case o10 =>
              intro A W hv hlen hJ hbase hdL hdH
              have eg : A.eval (.tmp 49) = .bool false := hdL 3 49 (by kernel_rfl) (by kernel_rfl) (by kernel_rfl)
              exact light_no (unwanted_of rfl (by kernel_rfl) eg) rfl
            case o11 =>
              intro A W hv hlen hJ hbase hdL hdH
              have eg : A.eval (.tmp 49) = .bool false := hdL 3 49 (by kernel_rfl) (by kernel_rfl) (by kernel_rfl)
              exact light_no (unwanted_of rfl (by kernel_rfl) eg) rfl
            case o12 =>
              intro A W hv hlen hJ hbase hdL hdH
              have eg : A.eval (.tmp 49) = .bool false := hdL 3 49 (by kernel_rfl) (by kernel_rfl) (by kernel_rfl)
              exact light_no (unwanted_of rfl (by kernel_rfl) eg) rfl
            case o13 =>
              intro A W hv hlen hJ hbase hdL hdH
              have eg : A.eval (.tmp 49) = .bool false := hdL 3 49 (by kernel_rfl) (by kernel_rfl) (by kernel_rfl)
              exact light_no (unwanted_of rfl (by kernel_rfl) eg) rfl
            case o14 =>
              intro A W hv hlen hJ hbase hdL hdH
              have eg : A.eval (.tmp 49) = .bool false := hdL 3 49 (by kernel_rfl) (by kernel_rfl) (by kernel_rfl)
              exact light_no (unwanted_of rfl (by kernel_rfl) eg) rfl
            case o15 =>
              intro A W hv hlen hJ hbase hdL hdH
              have eg : A.eval (.tmp 49) = .bool false := hdL 3 49 (by kernel_rfl) (by kernel_rfl) (by kernel_rfl)
              exact light_no (unwanted_of rfl (by kernel_rfl) eg) rfl
            case o16 =>
              intro A W hv hlen hJ hbase hdL hdH
              have eg : A.eval (.tmp 49) = .bool false := hdL 3 49 (by kernel_rfl) (by kernel_rfl) (by kernel_rfl)
              exact light_no (unwanted_of rfl (by kernel_rfl) eg) rfl
            case o17 =>
              intro A W hv hlen hJ hbase hdL hdH
              have eg : A.eval (.tmp 49) = .bool false := hdL 3 49 (by kernel_rfl) (by kernel_rfl) (by kernel_rfl)
              exact light_no (unwanted_of rfl (by kernel_rfl) eg) rfl
            case o18 =>
              intro A W hv hlen hJ hbase hdL hdH
              have eg : A.eval (.tmp 49) = .bool false := hdL 3 49 (by kernel_rfl) (by kernel_rfl) (by kernel_rfl)
              exact light_no (unwanted_of rfl (by kernel_rfl) eg) rfl
            case o19 =>
              intro A W hv hlen hJ hbase hdL hdH
              have e49 : A.eval (.tmp 49) = .bool false := hdL 3 49 (by kernel_rfl) (by kernel_rfl) (by kernel_rfl)
              have f49 : A.tmps[49]?.getD undef = .bool false := by simpa [Act.eval] using e49
              exact light_val rfl (v := .bool false) (by simp [execOp, go_sem, e49, f49]) hJ rfl
            case oe =>
              intro vs W' hv hlen hJ hL hH
              obtain rfl : hv = [] := List.eq_nil_of_length_eq_zero hlen
              cases hJ
              have hx65 : vs 19 = .bool false := hL 19 (by rfl) (by rfl)
              simp only [layL, Nat.reduceAdd, Act.put, List.setIfInBounds_toArray, List.set_cons_zero, List.set_cons_succ]
              clear hL hH
              generalize vs 0 = y100 at *
              generalize vs 1 = y101 at *
              generalize vs 2 = y102 at *
              generalize vs 3 = y103 at *
              generalize vs 4 = y104 at *
              generalize vs 5 = y105 at *
              generalize vs 6 = y106 at *
              generalize vs 7 = y107 at *
              generalize vs 8 = y108 at *
              generalize vs 9 = y109 at *
              generalize vs 10 = y110 at *
              generalize vs 11 = y111 at *
              generalize vs 12 = y112 at *
              generalize vs 13 = y113 at *
              generalize vs 14 = y114 at *
              generalize vs 15 = y115 at *
              generalize vs 16 = y116 at *
              generalize vs 17 = y117 at *
              generalize vs 18 = y118 at *
              generalize vs 19 = y119 at *
              subst hx65
              have hfq : Fr noB w5 w5.drew := (Fr.refl _ _).drew
              go_wp2
              go_roundw
              case rel => exact ⟨k + 1, X, Fd, Fk, by omega, by go_num, hU.out.mono (by omega), ⟨hT5.d.fr0 hfq, hT5.k.fr0 hfq, hT5.ap, hT5.bd, hT5.bk⟩, hq3, ho5.fr0 hfq, G5.thenN hfq⟩
              case measure => simp [intOf]; omega
      · obtain rfl : k = acts.length := by omega
        obtain ⟨M, HM⟩ : ∃ M, Hid (X.pend.length = M) := ⟨_, rfl⟩
        have hM : M ≤ 80 := by rw [← HM.out]; have := hU.out.pend; omega
        have hml : ((X.pend.map (·.1)).length : Int) = (M : Int) := by rw [List.length_map, HM.out]
        go_wp2_with (first
          | (go_at_call 28; go_must (refine (pending_any gk _ hT.k hpm).mono ?_; rintro e w6 ⟨vp, rfl, op6, f6⟩; obtain ⟨ap, cp, rfl⟩ := op6.opn; have z6 := f6.size)))
        have hzr := hf.size
        go_loopw [77, 9] (fun i v wq => ∃ (j : Nat), j ≤ M ∧ i = .int .i64 (j : Int) ∧ OwnR en8 1 5 wq w2.heap.size v (List.replicate j 255) ∧ (∀ b, v.ownBlock = some b → b = g3 ∨ wr.heap.size ≤ b) ∧ Fr (fun q => q = g3) wr wq) (fun i _ _ => M - (intOf i).toNat)
        case atStart => exact ⟨0, Nat.zero_le _, rfl, ho3.fr0 f6, fun b hb => by simp [Value.ownBlock] at hb; exact Or.inl hb.symm, f6.mono (fun _ _ q => q.elim)⟩
        case round =>
          obtain ⟨j, hj, rfl, hoj, hbj, hfj⟩ := hrel
          obtain ⟨L, HL⟩ : ∃ L, Hid (List.replicate j (255 : Int) = L) := ⟨_, rfl⟩
          have hLl : Hid (L.length = j) := by show _ = _; rw [← HL.out, List.length_replicate]
          rw [HL.out] at hoj
          obtain ⟨aj, cj, rfl⟩ := hoj.opn
          have zj := hfj.size
          by_cases hlj : j < M
          · have hlj' : (j : Int) < (X.pend.length : Int) := by rw [HM.out]; omega
            go_wp2_with (first
              | (with_reducible refine at_wpP ?_; refine wpList_mk1 (ec := en8) (sz := 1) rfl 41 _ rfl 5 Try.underlying41 _ info_u8 (by decide) (by decide) 255 _ rfl rfl rfl ?_; intro g8 w8 s8 f8 r8 t8; have o8 := hoj.fr0 f8; have z8 := f8.size)
              | (at_builtin; go_must (refine wpList_appR1 (ec := en8) (sz := 1) rfl _ _ 41 rfl _ 1 Try.underlying41 info_u8b rfl (by decide) _ rfl o8 g8 rfl 255 rfl (slR_one s8) (by decide) ?hr1 ?hr2 ?hr3 ?_; rotate_left 3; intro v9 w9 o9 hg9 hloc)))
            case hr1 => have := hLl.out; unfold maxLen; omega
            case hr2 => have := hLl.out; omega
            case hr3 => have := ho3.newB g3 rfl; omega
            go_roundw
            case rel =>
              refine ⟨j + 1, by omega, by go_num, by rw [List.replicate_succ', HL.out]; exact o9, fun b hb => ?_, (hfj.thenN f8).grown hg9 (fun q hq hlt => ?_)⟩
              · rcases hloc with e | e
                · rw [e] at hb; exact hbj b hb
                · rw [e] at hb; cases hb; right; omega
              · rcases hbj q hq with e | e
                · exact e
                · omega
            case measure => simp [intOf]; omega
          · obtain rfl : j = M := by omega
            have hjl : ¬ ((j : Int) < (X.pend.length : Int)) := by rw [HM.out]; omega
            obtain ⟨Y, HY⟩ : ∃ Y, Hid (X.sync = Y) := ⟨_, rfl⟩
            obtain ⟨Z, HZ⟩ : ∃ Z, Hid (X.crash L = Z) := ⟨_, rfl⟩
            obtain ⟨V, HV⟩ : ∃ V, Hid (Z.crash keep = V) := ⟨_, rfl⟩
            have hYp : Hid (Y.pend = []) := by show _ = _; rw [← HY.out, hU.out.sync.1]; rfl
            have hZp : Z.pend.length ≤ 100000 := by rw [← HZ.out]; show ([] : List (Int × List Int)).length ≤ 100000; decide
            have hVp : Hid (V.pend = []) := by show _ = _; rw [← HV.out]; rfl
            have hYl : Hid (Y.pages.length = N) := by show _ = _; rw [← HY.out]; exact hU.out.sync.2.len
            have hVY : Hid (V.pages = Y.pages) := by
              show _ = _
              have e1 : V.pages = Z.pages := by rw [← HV.out, ← HZ.out]; rfl
              have e2 : Z.pages = setS X.pages X.pend (stayK L) X.pend.length := by rw [← HZ.out]; rfl
              have e3 : Y.pages = setS X.pages X.pend (fun _ _ => true) X.pend.length := by rw [← HY.out, hU.out.sync.1]; rfl
              rw [e1, e2, e3, ← HL.out, ← HM.out]
              exact setS_congr _ _ _ _ (fun k s hk hs => stay_all _ k s hk hs) _ (Nat.le_refl _)
            have hdq : Disk wr Fd gd X := hT.d.fr hfj (fun q _ hq e => hq3 q (Or.inl hq) e)
            have hkq : Disk wr Fk gk X := hT.k.fr hfj (fun q _ hq e => hq3 q (Or.inr hq) e)
            have hg3w := (ho3.newB g3 rfl).1
            have Gq : Fr noB w wr := hf.thenT hfj (fun q hq e => by have := G3.size; omega)
            have hw0 := f0.size
            go_wp2_with (first
              | (go_at_call 14; go_must (refine (sync_any gd _ hdq hpm).mono ?_; rw [HY.out]; rintro e w7 ⟨rfl, d7, f7⟩; have z7 := f7.size; have hk7 := hkq.fr f7 (fun q _ hq hq' => hT.ap q hq' hq); have G7 := Gq.thenT f7 (fun q hq hq' => (by have := hT.bd q hq'; omega)); have o7 := hoj.fr f7 (fun q hq hq' => (by rcases hbj q hq with e | e; exact hq3 q (Or.inl hq') e; have := hT.bd q hq'; omega))))
              | (go_at_call 23; have d8' := d8; go_must (refine (crash_anyW gk _ keep _ d8 hZp (fun W hW => hk.fr0 (G8.thenT hW (fun q hq hq' => (by have := hT.bk q hq'.1; omega))))).mono ?_; rw [HV.out]; rintro e w9 ⟨rfl, d9, f9⟩; have z9 := f9.size; have G9 := G8.thenT f9 (fun q hq hq' => (by have := hT.bk q hq'; omega))))
              | (go_at_call 23; go_must (refine (crash_any gk _ L _ hk7 hpm (slI_of_slR o7.sl (by rw [← HL.out]; intro n hn; rw [List.eq_of_mem_replicate hn]; decide)) (fun q hq _ hq' => (by rcases hbj q hq with e | e; exact hq3 q (Or.inr hq') e; have := hT.bk q hq'; omega))).mono ?_; rw [HZ.out]; rintro e w8 ⟨rfl, d8, f8⟩; have z8 := f8.size; have G8 := G7.thenT f8 (fun q hq hq' => (by have := hT.bk q hq'; omega)))))
            have hd9 : Disk w9 Fd gd Y := (d7.fr f8 (fun q _ hq hq' => hT.ap q hq hq')).fr f9 (fun q _ hq hq' => hT.ap q hq hq')
            go_loopw [12] (fun i ws => ∃ (k : Nat), k ≤ N ∧ i = .int .i64 (k : Int) ∧ Fr noB w9 ws) (fun i _ => N - (intOf i).toNat)
            case atStart => exact ⟨0, Nat.zero_le _, rfl, Fr.refl _ _⟩
            case round =>
              obtain ⟨k, hkN, rfl, hfs⟩ := hrel
              by_cases hlk : k < N
              · have hlk' : (k : Int) < (N : Int) := by omega
                obtain ⟨p, Hp⟩ : ∃ p, Hid (Y.pages.getD k [] = p) := ⟨_, rfl⟩
                have hin : inR N (k : Int) = true := by simp [inR]; omega
                have hsY : Hid (stabR Y (k : Int) = (p, 0)) := by show _ = _; rw [← Hp.out]; simp [stabR, hYl.out, hin]
                have hsV : Hid (stabR V (k : Int) = (p, 0)) := by show _ = _; rw [← Hp.out]; simp [stabR, hVY.out, hYl.out, hin]
                have hpl : Hid (p.length = 256) := by
                  obtain ⟨v1, m, v3, h9⟩ := hd9
                  have h2 : k < Y.pages.length := by rw [hYl.out]; exact hlk
                  have := h9.st.1 Y.pages[k] (by simp)
                  rw [pgv_len] at this
                  show _ = _
                  rw [← Hp.out]; simpa [List.getD, h2] using this
                go_wp2_with (first
                  | (go_at_call 29; have q1' := q1; go_must (refine (stable_any gk (k : Int) _ ((d9.fr0 hfs).fr0 F11)).mono ?_; rw [hsV.out]; rintro e w12 ⟨rfl, f12⟩; have z12 := f12.size; have q12 := q1.fr0 f12))
                  | (go_at_call 29; go_must (refine (stable_any gd (k : Int) _ (hd9.fr0 hfs)).mono ?_; rw [hsY.out]; rintro e w10 ⟨rfl, f10⟩; have z10 := f10.size))
                  | (with_reducible refine at_wpP ?_; have q12' := q12; refine wpList_allocP rfl rfl ?_; intro gb w13 hgb b13 f13 s13; have l13 := b13.lt; have q13 := q12.fr0 f13; have l1 := q12.lt)
                  | (with_reducible refine at_wpP ?_; refine wpList_allocP rfl rfl ?_; intro ga w11 hga b11 f11 s11; have l11 := b11.lt)
                  | (with_reducible refine at_wpP ?_; refine at_st 25 _ _ rfl ?_; have q13' := q13; go_must (refine wpList_storeP rfl _ _ rfl gb rfl p rfl _ b13 hpl.out zeroP_len ?_; intro w14 b14 f14; have q14 := q13.ne f14 (by omega)))
                  | (with_reducible refine at_wpP ?_; refine at_st 25 _ _ rfl ?_; go_must (refine wpList_storeP rfl _ _ rfl ga rfl p rfl _ b11 hpl.out zeroP_len ?_; intro w11' q1 f11'; have F11 := (f10.thenN f11).thenT (S := noB) f11' (fun q hq e => (by unfold onB1 at e; omega)); have z11 := F11.size))
                  | (with_reducible refine at_wpP ?_; refine at_ld 25 _ rfl ?_; go_must (first
                      | (refine wpList_loadPw rfl _ rfl ga rfl p q14 hpl.out ?_)
                      | (refine wpList_loadPw rfl _ rfl gb rfl p b14 hpl.out ?_)))
                  | (with_reducible refine at_wpP ?_; refine at_bin .neq 25 _ _ _ rfl ?_; go_must (refine wpList_neqP rfl _ _ rfl p p rfl rfl hpl.out hpl.out ?_; rw [show (!(p == p)) = false by simp])))
                have F14 := ((F11.thenN f12).thenN f13).thenT (S := noB) f14 (fun q hq e => by unfold onB1 at e; omega)
                go_roundw
                case rel => exact ⟨k + 1, by omega, by go_num, hfs.thenN F14⟩
                case measure => simp [intOf]; omega
              · obtain rfl : k = N := by omega
                go_wp2_with (first
                  | (go_at_call 28; have o10' := o10; go_must (refine (pending_any gk _ ((d9.fr0 hfs).fr0 f10) (by rw [hVp.out]; decide)).mono ?_; rw [hVp.out]; rintro e w11 ⟨v11, rfl, o11, f11⟩; obtain ⟨a11, c11, rfl⟩ := o11.opn))
                  | (go_at_call 28; go_must (refine (pending_any gd _ (hd9.fr0 hfs) (by rw [hYp.out]; decide)).mono ?_; rw [hYp.out]; rintro e w10 ⟨v10, rfl, o10, f10⟩; obtain ⟨a10, c10, rfl⟩ := o10.opn)))
                go_ret
                exact ⟨rfl, (((G9.thenN hfs).thenN f10).thenN f11).below⟩
  · have hcase : (n < 0 ∨ 60 < n) ∨ (80 < (acts.length : Int)) ∨ (200 < (keep.length : Int)) := by omega
    by_cases c0 : n < 0
    · go_enter Try.func8, Try.ntmps8
      go_wp2_with (first
        | (go_at_call 13; go_must (refine (alive_any _).mono ?_; rintro e w0 ⟨rfl, f0⟩)))
      go_ret
      exact ⟨rfl, f0.below⟩
    · by_cases c1 : 60 < n
      · go_enter Try.func8, Try.ntmps8
        go_wp2_with (first
          | (go_at_call 13; go_must (refine (alive_any _).mono ?_; rintro e w0 ⟨rfl, f0⟩)))
        go_ret
        exact ⟨rfl, f0.below⟩
      · by_cases c2 : 80 < (acts.length : Int)
        · go_enter Try.func8, Try.ntmps8
          go_wp2_with (first
            | (go_at_call 13; go_must (refine (alive_any _).mono ?_; rintro e w0 ⟨rfl, f0⟩)))
          go_ret
          exact ⟨rfl, f0.below⟩
        · have c3 : 200 < (keep.length : Int) := by omega
          go_enter Try.func8, Try.ntmps8
          go_wp2_with (first
            | (go_at_call 13; go_must (refine (alive_any _).mono ?_; rintro e w0 ⟨rfl, f0⟩)))
          go_ret
          exact ⟨rfl, f0.below⟩
end Go.Proofs.Ytejjfpdcmaefiaa
