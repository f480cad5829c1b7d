/- Texts RI4, P7, P8, P9, K1, K2, K3, K4, K5, K6 of the proof of NodesExact, one behind the other. -/
import Derived.Maps.OwnSet
import Derived.Maps.Range
import Derived.Lib.SlBuf
import Derived.Laws.IdiomCopy
import Derived.Maps.AppendAt
import Derived.Test.YtamfnjliikiifaaBundleNodesExact1
import Derived.Test.YtamfnjliikiifaaBundleNodesExact2
/- The law of such regions by lists; no condition. -/
namespace Go.Proofs.U
open Go.RowKit
set_option linter.unusedVariables false

def factL (fs : List (Value → Prop)) (i : Nat) : Value → Prop := fs.getD i fun _ => True
def depOnB (ops : Array Oper) (k j : Nat) : Bool := match ops[k]? with | some o => o.after.any (fun e => e.on == j && Region.binds .any e) | none => false
def regionOkB (ops : Array Oper) (n : Nat) : Bool :=
  ((List.range ops.size).all fun i => match ops[i]? with
    | some o => o.after.all (fun e => !Region.binds .any e || decide (e.on < i)) && (match o.dst with | some d => decide (d < n) | none => true)
    | none => true) &&
  ((List.range ops.size).all fun i => (List.range ops.size).all fun j => i == j || (dstAt ops i).isNone || dstAt ops i != dstAt ops j)
def chainOk (ops : Array Oper) (hs : List Nat) (tags : List (Option Nat)) : Bool :=
  decide (tags.length = ops.size) && ((List.range tags.length).all fun i => tags.getD i none == hs.idxOf? i) && (hs.all fun i => decide (i < ops.size)) &&
    ((List.range (hs.length - 1)).all fun k => depOnB ops (hs.getD (k + 1) 0) (hs.getD k 0))

theorem regionOk_parts {ops : Array Oper} {n : Nat} (hok : regionOkB ops n = true) :
    (∀ (i : Nat) (o : Oper), ops[i]? = some o → ∀ e ∈ o.after, Region.binds .any e = true → e.on < i) ∧ (∀ i d, dstAt ops i = some d → d < n) ∧ (∀ i j d, dstAt ops i = some d → dstAt ops j = some d → i = j) := by
  unfold regionOkB at hok
  rw [Bool.and_eq_true] at hok
  have hlto : ∀ (i : Nat) (o : Oper), ops[i]? = some o → i < ops.size := by
    intro i o ho
    rcases Nat.lt_or_ge i ops.size with h' | h'
    · exact h'
    · rw [Array.getElem?_eq_none h'] at ho; cases ho
  have inb : ∀ i d, dstAt ops i = some d → i < ops.size := by
    intro i d hd
    rcases Nat.lt_or_ge i ops.size with h' | h'
    · exact h'
    · simp [dstAt, Array.getElem?_eq_none h'] at hd
  refine ⟨?_, ?_, ?_⟩
  · intro i o ho e he hbe
    have h2 := List.all_eq_true.1 hok.1 i (by simpa using hlto i o ho)
    simp only [ho] at h2
    rw [Bool.and_eq_true] at h2
    have h3 := Array.all_eq_true_iff_forall_mem.1 h2.1 e he
    simpa [hbe] using h3
  · intro i d hd
    have hlt := inb i d hd
    have ho : ops[i]? = some ops[i] := Array.getElem?_eq_getElem hlt
    have h2 := List.all_eq_true.1 hok.1 i (by simpa using hlt)
    have hdd : ops[i].dst = some d := by simpa [dstAt, ho] using hd
    simp only [ho, hdd] at h2
    rw [Bool.and_eq_true] at h2
    exact of_decide_eq_true h2.2
  · intro i j d hi hj
    have h2 := List.all_eq_true.1 (List.all_eq_true.1 hok.2 i (by simpa using inb i d hi)) j (by simpa using inb j d hj)
    simp [hi, hj] at h2
    exact h2

section
variable {P : Program} {ops : Array Oper} {Q : Exit → Act → World → Prop}
def Light (P : Program) (ops : Array Oper) (hs : List Nat) (fs : List (Value → Prop)) (J : List Value → World → Prop) (a0 : Act) (Q : Exit → Act → World → Prop) (k : Nat) (o : Oper) : Prop :=
  ∀ (a : Act) (w : World) (hv : List Value), (hv.length ≤ hs.length ∧ ∀ (p j : Nat), hs[p]? = some j → depOnB ops j k = true → hv.length ≤ p) → J hv w → (∀ s, notDst ops s = true → a.eval (.tmp s) = a0.eval (.tmp s)) →
    (∀ j d, depOnB ops k j = true → hs.contains j = false → dstAt ops j = some d → factL fs j (a.eval (.tmp d))) →
    (∀ (j d p : Nat), depOnB ops k j = true → hs[p]? = some j → dstAt ops j = some d → hv[p]? = some (a.eval (.tmp d))) →
    if Region.wanted o (yielded ops a.tmps) = true then o.wp P a w (fun a' w' => ∃ v, a' = a.put o.dst v ∧ J hv w' ∧ factL fs k v) Q else factL fs k undef
def Heavy (P : Program) (ops : Array Oper) (hs : List Nat) (fs : List (Value → Prop)) (J : List Value → World → Prop) (a0 : Act) (Q : Exit → Act → World → Prop) (p k : Nat) (o : Oper) : Prop :=
  ∀ (a : Act) (w : World) (hv : List Value), hv.length = p → J hv w → (∀ s, notDst ops s = true → a.eval (.tmp s) = a0.eval (.tmp s)) →
    (∀ j d, depOnB ops k j = true → hs.contains j = false → dstAt ops j = some d → factL fs j (a.eval (.tmp d))) →
    (∀ (j d q : Nat), depOnB ops k j = true → hs[q]? = some j → dstAt ops j = some d → hv[q]? = some (a.eval (.tmp d))) →
    if Region.wanted o (yielded ops a.tmps) = true then o.wp P a w (fun a' w' => ∃ v, a' = a.put o.dst v ∧ J (hv ++ [v]) w') Q else J (hv ++ [undef]) w
def HandCAll (P : Program) (ops : Array Oper) (hs : List Nat) (fs : List (Value → Prop)) (J : List Value → World → Prop) (a0 : Act) (Q : Exit → Act → World → Prop) : Nat → List (Option Nat) → List Oper → Prop
  | _, _, [] => True
  | _, [], _ :: _ => False
  | k, none :: ts, o :: r => Light P ops hs fs J a0 Q k o ∧ HandCAll P ops hs fs J a0 Q (k + 1) ts r
  | k, some p :: ts, o :: r => Heavy P ops hs fs J a0 Q p k o ∧ HandCAll P ops hs fs J a0 Q (k + 1) ts r

theorem handCAll_get {hs : List Nat} {fs : List (Value → Prop)} {J : List Value → World → Prop} {a0 : Act} : ∀ (l : List Oper) (ts : List (Option Nat)) (k : Nat), HandCAll P ops hs fs J a0 Q k ts l → ∀ (i : Nat) (o : Oper), l[i]? = some o →
    (ts[i]? = some none ∧ Light P ops hs fs J a0 Q (k + i) o) ∨ ∃ p, ts[i]? = some (some p) ∧ Heavy P ops hs fs J a0 Q p (k + i) o
  | [], _, _, _, i, o, ho => by simp at ho
  | x :: l, [], k, h, _, o, ho => by cases h
  | x :: l, none :: ts, k, h, 0, o, ho => by simp at ho; subst ho; exact Or.inl ⟨rfl, h.1⟩
  | x :: l, some p :: ts, k, h, 0, o, ho => by simp at ho; subst ho; exact Or.inr ⟨p, rfl, h.1⟩
  | x :: l, none :: ts, k, h, i + 1, o, ho => by
    have := handCAll_get l ts (k + 1) h.2 i o (by simpa using ho)
    rwa [show k + 1 + i = k + (i + 1) by omega] at this
  | x :: l, some p :: ts, k, h, i + 1, o, ho => by
    have := handCAll_get l ts (k + 1) h.2 i o (by simpa using ho)
    rwa [show k + 1 + i = k + (i + 1) by omega] at this

theorem wp_region_chain_lay {id : Nat} {l : List Oper} {a0 : Act} {w : World} (hm : P.follows .mixedOrders = true) (hs : List Nat) (tags : List (Option Nat)) (fs : List (Value → Prop)) (J : List Value → World → Prop) (hJ : J [] w.drew)
    (hok : regionOkB l.toArray a0.tmps.size = true) (hck : chainOk l.toArray hs tags = true) (hnd : hs.Nodup)
    (hob : HandCAll P l.toArray hs fs J a0 Q 0 tags l)
    (hend : ∀ (vs : Nat → Value) w' hv, hv.length = hs.length → J hv w' → (∀ i, hs.contains i = false → (l[i]?.bind (·.dst)).isSome = true → factL fs i (vs i)) →
      (∀ (k i : Nat), hs[k]? = some i → (l[i]?.bind (·.dst)).isSome = true → hv[k]? = some (vs i)) → Q .normal (layL l 0 vs a0) w') : (Code.region id l.toArray true).wp P Q a0 w := by
  have hdl : ∀ i, dstAt l.toArray i = l[i]?.bind (·.dst) := fun i => by simp [dstAt]
  obtain ⟨r1, r2, r3⟩ := regionOk_parts hok
  unfold chainOk at hck
  simp only [Bool.and_eq_true, decide_eq_true_eq] at hck
  obtain ⟨⟨⟨c1, c2⟩, c3⟩, c4⟩ := hck
  have htag : ∀ i, i < l.toArray.size → tags[i]? = some (hs.idxOf? i) := by
    intro i hi
    have := List.all_eq_true.1 c2 i (by simp at hi ⊢; simp at c1; omega)
    have hlt : i < tags.length := by omega
    rw [List.getElem?_eq_getElem hlt]
    simpa [List.getD, hlt] using this
  have depIn : ∀ (i j : Nat) (o : Oper) (e : Edge), l.toArray[i]? = some o → e ∈ o.after → Region.binds .any e = true → e.on = j → depOnB l.toArray i j = true := by
    intro i j o e ho he hbe hj
    unfold depOnB
    rw [ho]
    exact Array.any_eq_true.2 (by
      obtain ⟨n, hn, heq⟩ := Array.mem_iff_getElem.1 he
      exact ⟨n, hn, by rw [heq]; simpa [hbe] using hj⟩)
  have depOut : ∀ (i j : Nat) (o : Oper), l.toArray[i]? = some o → depOnB l.toArray i j = true → ∃ e ∈ o.after, Region.binds .any e = true ∧ e.on = j := by
    intro i j o ho hj
    unfold depOnB at hj
    rw [ho] at hj
    simp only at hj
    obtain ⟨n, hn, heq⟩ := Array.any_eq_true.1 hj
    exact ⟨o.after[n], Array.getElem_mem hn, by simpa [and_comm] using heq⟩
  refine wp_region_chain hm hs (factL fs) J hJ r1 r3 r2 ?_ hnd ?_ ?_ ?_
  · intro k i hk
    exact of_decide_eq_true (List.all_eq_true.1 c3 i (List.mem_of_getElem? hk))
  · intro k i j o hk hk1 ho
    have hlt := (List.getElem?_eq_some_iff.1 hk1).1
    have := List.all_eq_true.1 c4 k (by simp; omega)
    have e1 : hs.getD (k + 1) 0 = j := by simp [List.getD, hk1]
    have e2 : hs.getD k 0 = i := by simp [List.getD, hk]
    rw [e1, e2] at this
    exact depOut j i o ho this
  · intro i o ho a w' hv hlen hbef hJv hbase hdep
    have hlt : i < l.toArray.size := by
      rcases Nat.lt_or_ge i l.toArray.size with h' | h'
      · exact h'
      · rw [Array.getElem?_eq_none h'] at ho; cases ho
    have hb' : ∀ s, notDst l.toArray s = true → a.eval (.tmp s) = a0.eval (.tmp s) := fun s hs' => hbase s (notDst_spec hs')
    have hd1 : ∀ j d, depOnB l.toArray i j = true → hs.contains j = false → dstAt l.toArray j = some d → factL fs j (a.eval (.tmp d)) := by
      intro j d hj hc hd
      obtain ⟨e, he, hbe, rfl⟩ := depOut i j o ho hj
      exact (hdep e he hbe d hd).1 (by simpa using hc)
    have hd2 : ∀ (j d p : Nat), depOnB l.toArray i j = true → hs[p]? = some j → dstAt l.toArray j = some d → hv[p]? = some (a.eval (.tmp d)) := by
      intro j d p hj hp hd
      obtain ⟨e, he, hbe, rfl⟩ := depOut i j o ho hj
      exact (hdep e he hbe d hd).2 p hp
    have hg := handCAll_get l tags 0 hob i o (by simpa using ho)
    rw [Nat.zero_add] at hg
    have ht := htag i hlt
    rcases hg with ⟨t1, hL⟩ | ⟨p, t1, hH⟩
    · rw [ht] at t1
      have hni : i ∉ hs := by
        have := Option.some.inj t1
        rwa [List.idxOf?_eq_none_iff] at this
      refine ⟨fun _ => hL a w' hv ⟨hlen, fun p j hp hj => by
        have hjl := of_decide_eq_true (List.all_eq_true.1 c3 j (List.mem_of_getElem? hp))
        obtain ⟨o', ho'⟩ : ∃ o', l.toArray[j]? = some o' := ⟨_, Array.getElem?_eq_getElem hjl⟩
        exact hbef p j o' hp ho' (depOut j i o' ho' hj)⟩ hJv hb' hd1 hd2, fun k hk => absurd (List.mem_of_getElem? hk) hni⟩
    · rw [ht] at t1
      have hp := Option.some.inj t1
      have hpi : hs[p]? = some i := by
        obtain ⟨hpl, hpe, _⟩ := List.idxOf?_eq_some_iff.1 hp
        rw [List.getElem?_eq_getElem hpl, hpe]
      refine ⟨fun hn => absurd (List.mem_of_getElem? hpi) hn, fun k hk hl => ?_⟩
      obtain ⟨l1, e1⟩ := List.getElem?_eq_some_iff.1 hk
      obtain ⟨l2, e2⟩ := List.getElem?_eq_some_iff.1 hpi
      have hkp : k = p := (List.getElem_inj hnd).1 (e1.trans e2.symm)
      subst hkp
      exact hH a w' hv hl hJv hb' hd1 hd2
  · intro a w' hv hlen hJv hdf hsz hbase hall hval
    have h := hend (fun i => match l[i]?.bind (·.dst) with | some d => a.eval (.tmp d) | none => undef) w' hv hlen hJv (fun i hc hi => by
      cases hd : l[i]?.bind (·.dst) with
      | none => rw [hd] at hi; cases hi
      | some d => simpa only [hd] using hall i d (by simpa using hc) (by rw [hdl]; exact hd)) (fun k i hk hi => by
      cases hd : l[i]?.bind (·.dst) with
      | none => rw [hd] at hi; cases hi
      | some d =>
        have hkl := (List.getElem?_eq_some_iff.1 hk).1
        have hkv : hv[k]? = some hv[k] := List.getElem?_eq_getElem (by omega)
        rw [hkv, ← hval k i d hv[k] hk hkv (by rw [hdl]; exact hd)])
    have e : layL l 0 (fun i => match l[i]?.bind (·.dst) with | some d => a.eval (.tmp d) | none => undef) a0 = a := by
      have h2 := layL_size l 0 (fun i => match l[i]?.bind (·.dst) with | some d => a.eval (.tmp d) | none => undef) a0
      have h3 := layL_is a l 0 (fun i => match l[i]?.bind (·.dst) with | some d => a.eval (.tmp d) | none => undef) a0 hsz.symm (fun j o d ho hd => by simp [ho, hd]) (fun s => by
        cases hn : notDst l.toArray s with
        | true => exact Or.inl (hbase s (notDst_spec hn))
        | false =>
          right
          unfold notDst at hn
          rw [List.all_eq_false] at hn
          obtain ⟨j, hj, hq⟩ := hn
          have hd : dstAt l.toArray j = some s := by simpa using hq
          rw [hdl] at hd
          obtain ⟨o, ho, hod⟩ := Option.bind_eq_some_iff.1 hd
          exact ⟨j, o, ho, hod⟩)
      generalize layL l 0 (fun i => match l[i]?.bind (·.dst) with | some d => a.eval (.tmp d) | none => undef) a0 = b at *
      obtain ⟨bt, bd⟩ := b
      obtain ⟨at', ad⟩ := a
      simp only at h2 hsz hdf
      have hd : bd = ad := by rw [h2.2, hdf]
      have ht : bt = at' := by
        apply Array.ext
        · omega
        · intro i hi hi'
          have := h3 i
          simpa [Act.eval, hi, hi'] using this
      rw [hd, ht]
    rwa [e] at h

variable {a : Act} {w : World} {o : Oper} {hs : List Nat} {fs : List (Value → Prop)} {J : List Value → World → Prop} {k : Nat} {hv : List Value}
theorem light_val {v : Value} (hw : Region.wanted o (yielded ops a.tmps) = true) (hrun : (execOp a.eval o).run P w = .ok (.value v) w) (hJ : J hv w) (hF : factL fs k v) :
    if Region.wanted o (yielded ops a.tmps) = true then o.wp P a w (fun a' w' => ∃ v, a' = a.put o.dst v ∧ J hv w' ∧ factL fs k v) Q else factL fs k undef := by
  rw [if_pos hw]
  unfold Oper.wp
  rw [hrun]
  exact ⟨v, rfl, hJ, hF⟩
theorem heavy_val {v : Value} {w' : World} (hw : Region.wanted o (yielded ops a.tmps) = true) (hrun : (execOp a.eval o).run P w = .ok (.value v) w') (hJ : J (hv ++ [v]) w') :
    if Region.wanted o (yielded ops a.tmps) = true then o.wp P a w (fun a' w' => ∃ v, a' = a.put o.dst v ∧ J (hv ++ [v]) w') Q else J (hv ++ [undef]) w := by
  rw [if_pos hw]
  unfold Oper.wp
  rw [hrun]
  exact ⟨v, rfl, hJ⟩
theorem heavy_wp (hw : Region.wanted o (yielded ops a.tmps) = true) (h : o.wp P a w (fun a' w' => ∃ v, a' = a.put o.dst v ∧ J (hv ++ [v]) w') Q) :
    if Region.wanted o (yielded ops a.tmps) = true then o.wp P a w (fun a' w' => ∃ v, a' = a.put o.dst v ∧ J (hv ++ [v]) w') Q else J (hv ++ [undef]) w := by
  rw [if_pos hw]; exact h
theorem heavy_call {f : FuncId} {args : Array Value} (hw : Region.wanted o (yielded ops a.tmps) = true) (hrun : (execOp a.eval o).run P w = .ok (.enter f args) w)
    (hc : Calls P f args w fun e w' => ∃ v, e = .returned v ∧ J (hv ++ [v]) w') :
    if Region.wanted o (yielded ops a.tmps) = true then o.wp P a w (fun a' w' => ∃ v, a' = a.put o.dst v ∧ J (hv ++ [v]) w') Q else J (hv ++ [undef]) w := by
  rw [if_pos hw]
  unfold Oper.wp
  rw [hrun]
  refine hc.mono ?_
  rintro e w' ⟨v, rfl, hJ⟩
  exact ⟨v, rfl, hJ⟩
end
end Go.Proofs.U
/- The document's disk: settle. -/
namespace Go.Proofs.Ytamfnjliikiifaa
open Go.RowKit Go.Proofs.U
set_option linter.unusedSimpArgs false
set_option linter.unusedVariables false

theorem run_loadP (w : World) (b off : Nat) (p : List Int) (hc : w.rangeAt b off (pgv p)) (hp : p.length = 256) : (Instr.loadAt 66 (.pointer (some ⟨b, off, none⟩))).run Try.prog w = .ok (pgV p) w := by
  simp only [Instr.loadAt, Instr.sureAddr, Sem.run_bind, Sem.run_pure, Result.andThen_ok, run_loadVar_mid w b off 66 (pgv p) _ hc Try.underlying66 rfl (by rw [size_page, pgv_len, hp])]
  rfl
/-- keep[k]: its place, and what lies there. -/
theorem run_idxI {w w0 : World} {ka : Option Addr} {kc : Nat} {keep : List Int} (hS : SlI .u8 w0 (.slice ka keep.length kc) keep) (k : Nat) (hk : k < keep.length) {g : Nat} (hg : ∀ b, (Value.slice ka keep.length kc).ownBlock = some b → b ≠ g) :
    ∃ kb ko, (Instr.indexAt 92 (.slice ka keep.length kc) (.int .i64 (k : Int))).run Try.prog w = .ok (.pointer (some ⟨kb, ko, none⟩)) w ∧ w0.cell? ⟨kb, ko, none⟩ = some (.int .u8 (keep.getD k 0)) ∧ kb ≠ g := by
  obtain ⟨⟨a0, cap0, hv, h1, h2, h3, h4⟩, _⟩ := hS
  cases hv
  cases ka with
  | none => have := h3 rfl; omega
  | some ad =>
    have hc := h4 ad rfl k (.int .u8 (keep.getD k 0)) (by simp [List.getD, hk])
    obtain ⟨b, off, sp⟩ := ad
    have hc0 := h4 _ rfl 0 (.int .u8 (keep.getD 0 0)) (by simp [List.getD, show 0 < keep.length by omega])
    have hsp : sp = none := by simpa [Addr.add] using World.cell?_spot hc0
    subst hsp
    refine ⟨b, off + k, ?_, by rwa [Addr.plain] at hc, hg b rfl⟩
    have h5 : (0 : Int) ≤ (k : Int) ∧ (k : Int) < (keep.length : Int) := by omega
    obtain ⟨ii, hinf, hsz'⟩ := Option.map_eq_some_iff.1 size_u8
    simp [Instr.indexAt, asIntOf, run_underlying Try.underlying92, h5, sizeOf, typeInfo, hinf, hsz', go_sem, Addr.plain]
    omega

theorem SlI.old {k : IntKind} {w : World} {v : Value} {l : List Int} (h : SlI k w v l) (b : Nat) (hb : v.ownBlock = some b) (hl : 0 < l.length) : b < w.heap.size := by
  obtain ⟨⟨a0, cap0, rfl, h1, h2, h3, h4⟩, _⟩ := h
  cases a0 with
  | none => simp [Value.ownBlock] at hb
  | some ad =>
    have hc := h4 ad rfl 0 (.int k (l.getD 0 0)) (by simp [List.getD, hl])
    have := World.block_lt_of_cell? w _ hc
    simp [Value.ownBlock] at hb
    subst hb
    simpa [Addr.add] using this
def JS (w0 : World) (g base : Nat) (v5 : Value) (ps : List (List Int)) (at' : Nat) (old new : List Int) : List Value → World → Prop
  | [], w => Fr (onB1 g) w0 w ∧ OwnR pgv 256 66 w base v5 ps
  | [v], w => Fr (onB1 g) w0 w ∧ OwnR pgv 256 66 w base v5 ps ∧ v = pgV old
  | [_, v], w => Fr (onB1 g) w0 w ∧ OwnR pgv 256 66 w base v5 ps ∧ v = pgV new
  | [_, _, _], w => Fr (onB1 g) w0 w ∧ OwnR pgv 256 66 w base v5 (ps.set at' new)
  | _, _ => False
theorem JS.fr {w0 : World} {g base : Nat} {v5 : Value} {ps : List (List Int)} {at' : Nat} {old new : List Int} : ∀ {hv : List Value} {w : World}, JS w0 g base v5 ps at' old new hv w → Fr (onB1 g) w0 w
  | [], _, h => h.1
  | [_], _, h => h.1
  | [_, _], _, h => h.1
  | [_, _, _], _, h => h.1
  | _ :: _ :: _ :: _ :: _, _, h => h.elim

/-- One write settled, under a byte of keep. -/
def setl1 (pend : List (Int × List Int)) (keep : List Int) (ps : List (List Int)) (j : Nat) : List (List Int) :=
  if j < keep.length then ps.set (pend.getD j (0, [])).1.toNat (mixK (ps.getD (pend.getD j (0, [])).1.toNat []) (pend.getD j (0, [])).2 (keep.getD j 0) 256) else ps
def setlK (pages : List (List Int)) (pend : List (Int × List Int)) (keep : List Int) (k : Nat) : List (List Int) := (List.range k).foldl (setl1 pend keep) pages
theorem setlK_succ (pages : List (List Int)) (pend : List (Int × List Int)) (keep : List Int) (k : Nat) : setlK pages pend keep (k + 1) = setl1 pend keep (setlK pages pend keep k) k := by
  unfold setlK; rw [List.range_succ, List.foldl_append]; rfl
theorem setlK_len (pages : List (List Int)) (pend : List (Int × List Int)) (keep : List Int) (k : Nat) : (setlK pages pend keep k).length = pages.length := by
  induction k with
  | zero => rfl
  | succ k ih => rw [setlK_succ]; unfold setl1; split <;> simp [ih]

theorem size_spage : (Try.prog.info? 85).map (·.size) = some 1 := by kernel_rfl
theorem info_page : (Try.prog.info? 66).map (fun i => (i.zero, i.size, i.bytes)) = some (some (.agg (pgv zeroP).toArray), 256, 256) := by kernel_rfl
end Go.Proofs.Ytamfnjliikiifaa
/- The document's disk: Crash and Sync. -/
namespace Go.Proofs.Ytamfnjliikiifaa
open Go.RowKit Go.Proofs.U
set_option linter.unusedSimpArgs false
set_option linter.unusedVariables false

abbrev en8 (z : Int) : List Value := [Value.int .u8 z]
theorem info_u8 : (Try.prog.info? 5).map (fun i => (i.zero, i.size)) = some (some (.int .u8 0), 1) := by kernel_rfl
theorem info_u8b : (Try.prog.info? 5).map (fun i => (i.zero, i.size, i.bytes)) = some (some (.int .u8 0), 1, 1) := by kernel_rfl
theorem flat_en8 (l : List Int) : l.flatMap en8 = l.map (Value.int .u8) := by
  induction l with
  | nil => rfl
  | cons x l ih => rw [List.flatMap_cons, ih]; rfl
theorem slI_of_ownR {e : TypeId} {w : World} {base : Nat} {v : Value} {l : List Int} (h : OwnR en8 1 e w base v l) (hw : ∀ n ∈ l, (Lit.int .u8 n).wf = true) : SlI .u8 w v l := ⟨by rw [← flat_en8]; exact h.sl.2, hw⟩

end Go.Proofs.Ytamfnjliikiifaa
/- The document's disk: New. -/
namespace Go.Proofs.Ytamfnjliikiifaa
open Go.RowKit Go.Proofs.U
set_option linter.unusedSimpArgs false
set_option linter.unusedVariables false

def newN (n : Int) : Nat := min n.toNat 244
theorem info_page2 : (Try.prog.info? 66).map (fun i => (i.zero, i.size)) = some (some (.agg (pgv zeroP).toArray), 256) := by kernel_rfl
theorem info_bool2 : (Try.prog.info? 4).map (fun i => (i.zero, i.size)) = some (some (.bool false), 1) := by kernel_rfl
end Go.Proofs.Ytamfnjliikiifaa
/- The program's disk: what it is in memory; has, Len, Down, Cut, act. -/
namespace Go.Proofs.Ytamfnjliikiifaa
open Go.RowKit Go.Proofs.U Go.Maps
set_option linter.unusedSimpArgs false
set_option linter.unusedVariables false

/-- What a disk holds. -/
structure DSt where
  pages : List (List Int)
  bad : Int → Bool
  pend : List (Int × List Int)
  down : Bool
  left : Int

abbrev pdL (v1 : Value) (m : Nat) (v3 : Value) (d : Bool) (l : Int) : List Value := [v1, .map (some m), v3, .bool d, .int .i64 l]
def badK (bad : Int → Bool) : Lit → Bool
  | .int .i64 x => bad x
  | _ => false
/-- Block m is a map whose keys are those that are bad. -/
def MapI (w : World) (m : Nat) (bad : Int → Bool) : Prop := ∃ (n : Nat) (D : DataW Unit), w.ownsMap Try.prog 3 unitElem m n D ∧ ∀ kl, Maps.has D kl = badK bad kl
theorem MapI.lt {w : World} {m : Nat} {bad : Int → Bool} (h : MapI w m bad) : m < w.heap.size := by
  obtain ⟨n, D, h, _⟩ := h; exact h.lt
theorem MapI.fr {S : Nat → Prop} {w w' : World} {m : Nat} {bad : Int → Bool} (h : MapI w m bad) (f : Fr S w w') (hs : ¬ S m) : MapI w' m bad := by
  have hl := h.lt
  obtain ⟨n, D, ⟨es, clock, hb, h1, h2, h3⟩, h4⟩ := h
  exact ⟨n, D, ⟨es, clock, (f.block m hl hs).trans hb, h1, h2, h3⟩, h4⟩
theorem MapI.notCells {w : World} {m : Nat} {bad : Int → Bool} (h : MapI w m bad) {cs : Array Value} {t : TypeId} {o : Nat × Nat} : w.heap[m]? ≠ some (.cells cs t o) := by
  obtain ⟨n, D, ⟨es, clock, hb, h1, h2, h3⟩, h4⟩ := h
  rw [hb]; simp
theorem keyI : Keyed Try.prog 3 := int_keyed Try.underlying3

theorem ints_length : ∀ (n : Nat) (l : List Int), l.Pairwise (· ≠ ·) → (∀ x ∈ l, 0 ≤ x ∧ x < (n : Int)) → l.length ≤ n
  | 0, l, _, h => by
    cases l with
    | nil => simp
    | cons x l => have := h x (by simp); omega
  | n + 1, l, hp, h => by
    have h1 : (l.filter (fun x => x != (n : Int))).length ≤ n := by
      refine ints_length n _ (hp.sublist List.filter_sublist) ?_
      intro x hx
      have h2 := List.mem_filter.1 hx
      have h3 := h x h2.1
      have h4 : x ≠ (n : Int) := by simpa using h2.2
      omega
    have h2 : l.length ≤ (l.filter (fun x => x != (n : Int))).length + 1 := by
      clear h1 h
      induction l with
      | nil => simp
      | cons x l ih =>
        have hp' := List.pairwise_cons.1 hp
        by_cases hx : x = (n : Int)
        · subst hx
          have : l.filter (fun x => x != (n : Int)) = l := by
            rw [List.filter_eq_self]
            intro y hy
            have := hp'.1 y hy
            simpa using fun e => this e.symm
          simp [this]
        · have := ih hp'.2
          simp [List.filter_cons, hx]; omega
    omega

/-- As many keys as can be. -/
theorem MapI.tight {w : World} {m : Nat} {bad : Int → Bool} {N : Nat} (h : MapI w m bad) (hb : ∀ x, bad x = true → 0 ≤ x ∧ x < (N : Int)) :
    ∃ (D : DataW Unit), w.ownsMap Try.prog 3 unitElem m N D ∧ ∀ kl, Maps.has D kl = badK bad kl := by
  obtain ⟨n, D, ho, hh⟩ := h
  have hent := ho.entries keyI
  obtain ⟨es, clock, hm, hF, hn, hD⟩ := ho
  have hlen : es.size ≤ N := by
    obtain ⟨ds, hds, hpw, hkey⟩ := hent
    have e1 : ds.length = es.size := by
      have : DataW.map ds = .map ((es.toList.map (WideElems.rg Try.prog 3 unitElem)).foldr DataW.insert []) := by rw [← hds, ← hD]
      injection this with this
      rw [this, length_read]
    rw [← e1]
    have hk : ∀ p ∈ ds, ∃ x, p.1 = .int .i64 x ∧ 0 ≤ x ∧ x < (N : Int) := by
      intro p hp
      have h1 : Maps.has D p.1 = true := by
        rw [hds, has_eq, List.any_eq_true]
        exact ⟨p, hp, WideAt.sameKey_self (hkey p hp)⟩
      rw [hh] at h1
      unfold badK at h1
      split at h1
      · rename_i x hx; exact ⟨x, hx, hb x h1⟩
      · simp at h1
    have h2 := ints_length N (ds.map fun p => match p.1 with | .int .i64 x => x | _ => 0) ?_ ?_
    · simpa using h2
    · rw [List.pairwise_map]
      refine hpw.imp_of_mem ?_
      intro p q hp hq hne
      obtain ⟨x, hx, _⟩ := hk p hp
      obtain ⟨y, hy, _⟩ := hk q hq
      rw [hx, hy]
      intro e
      simp only at e
      exact hne (by rw [hx, hy, e])
    · intro z hz
      obtain ⟨p, hp, rfl⟩ := List.mem_map.1 hz
      obtain ⟨x, hx, hr⟩ := hk p hp
      rw [hx]; exact hr
  exact ⟨D, ⟨es, clock, hm, hF, hlen, hD⟩, hh⟩

structure DK (w : World) (F : Nat → Prop) (g : Nat) (X : DSt) (v1 : Value) (m : Nat) (v3 : Value) : Prop where
  bx : BxV w g 89 (pdL v1 m v3 X.down X.left)
  st : OwnR pgv 256 66 w 0 v1 X.pages
  mp : MapI w m X.bad
  pd : OwnR encW 257 111 w 0 v3 X.pend
  fg : F g
  fm : F m
  f1 : ∀ k, v1.ownBlock = some k → F k
  f3 : ∀ k, v3.ownBlock = some k → F k
  lft : -9223372036854775808 ≤ X.left ∧ X.left ≤ 9223372036854775807
  len : X.pages.length ≤ 244
  bin : ∀ x, X.bad x = true → 0 ≤ x ∧ x < (X.pages.length : Int)
  pin : ∀ x ∈ X.pend, 0 ≤ x.1 ∧ x.1 < (X.pages.length : Int)
/-- A disk lies at g, in the blocks F, and holds X. -/
def Disk (w : World) (F : Nat → Prop) (g : Nat) (X : DSt) : Prop := ∃ v1 m v3, DK w F g X v1 m v3

section
variable {w w' : World} {F S : Nat → Prop} {g m : Nat} {X : DSt} {v1 v3 : Value}
theorem OwnR.blk {α : Type} {ec : α → List Value} {sz : Nat} {e : TypeId} {base : Nat} {v : Value} {l : List α} (h : OwnR ec sz e w base v l) : ∀ q, v.ownBlock = some q → ∃ cs, w.heap[q]? = some (.cells cs e (0, 0)) := by
  intro q hq
  rcases h.2.2 with ⟨rfl, _⟩ | ⟨g, cap, cur, rfl, _, h2, _⟩
  · simp [Value.ownBlock] at hq
  · simp [Value.ownBlock] at hq
    subst hq; exact ⟨cur, h2⟩
theorem DK.g1 (h : DK w F g X v1 m v3) : ∀ k, v1.ownBlock = some k → k ≠ g := by
  intro k hk e; subst e
  obtain ⟨cs, hc⟩ := OwnR.blk h.st k hk
  have := h.bx; unfold BxV at this; rw [hc] at this; simp at this
theorem DK.g3 (h : DK w F g X v1 m v3) : ∀ k, v3.ownBlock = some k → k ≠ g := by
  intro k hk e; subst e
  obtain ⟨cs, hc⟩ := OwnR.blk h.pd k hk
  have := h.bx; unfold BxV at this; rw [hc] at this; simp at this
theorem DK.gm (h : DK w F g X v1 m v3) : m ≠ g := by
  intro e; subst e; exact h.mp.notCells h.bx
theorem DK.m1 (h : DK w F g X v1 m v3) : ∀ k, v1.ownBlock = some k → k ≠ m := by
  intro k hk e; subst e
  obtain ⟨cs, hc⟩ := OwnR.blk h.st k hk
  exact h.mp.notCells hc
theorem DK.m3 (h : DK w F g X v1 m v3) : ∀ k, v3.ownBlock = some k → k ≠ m := by
  intro k hk e; subst e
  obtain ⟨cs, hc⟩ := OwnR.blk h.pd k hk
  exact h.mp.notCells hc
theorem DK.k13 (h : DK w F g X v1 m v3) : ∀ k, v1.ownBlock = some k → v3.ownBlock = some k → False := OwnR.apart h.st h.pd (by decide)
theorem DK.mono {G : Nat → Prop} (h : DK w F g X v1 m v3) (hG : ∀ k, k < w.heap.size → F k → G k) : DK w G g X v1 m v3 :=
  { h with fg := hG _ h.bx.lt h.fg, fm := hG _ h.mp.lt h.fm, f1 := fun k hk => hG _ (h.st.newB k hk).2 (h.f1 k hk), f3 := fun k hk => hG _ (h.pd.newB k hk).2 (h.f3 k hk) }
theorem DK.fr (h : DK w F g X v1 m v3) (f : Fr S w w') (hs : ∀ k, k < w.heap.size → F k → ¬ S k) : DK w' F g X v1 m v3 :=
  { h with bx := h.bx.fr f (hs _ h.bx.lt h.fg), mp := h.mp.fr f (hs _ h.mp.lt h.fm), st := h.st.fr f (fun k hk => hs _ (h.st.newB k hk).2 (h.f1 k hk)), pd := h.pd.fr f (fun k hk => hs _ (h.pd.newB k hk).2 (h.f3 k hk)) }
theorem DK.fr0 (h : DK w F g X v1 m v3) (f : Fr noB w w') : DK w' F g X v1 m v3 := h.fr f (fun _ _ _ q => q)
/-- down and left turned. -/
theorem DK.put (h : DK w F g X v1 m v3) {d : Bool} {l : Int} (f : Fr (onB1 g) w w') (hb : BxV w' g 89 (pdL v1 m v3 d l)) (hl : -9223372036854775808 ≤ l ∧ l ≤ 9223372036854775807) : DK w' F g { X with down := d, left := l } v1 m v3 :=
  { h with bx := hb, mp := h.mp.fr f (fun q => h.gm q), st := h.st.ne f h.g1, pd := h.pd.ne f h.g3, lft := hl }
theorem Disk.mono {G : Nat → Prop} (h : Disk w F g X) (hG : ∀ k, k < w.heap.size → F k → G k) : Disk w G g X := by
  obtain ⟨v1, m, v3, h⟩ := h; exact ⟨v1, m, v3, h.mono hG⟩
theorem Disk.fr (h : Disk w F g X) (f : Fr S w w') (hs : ∀ k, k < w.heap.size → F k → ¬ S k) : Disk w' F g X := by
  obtain ⟨v1, m, v3, h⟩ := h; exact ⟨v1, m, v3, h.fr f hs⟩
theorem Disk.fr0 (h : Disk w F g X) (f : Fr noB w w') : Disk w' F g X := h.fr f (fun _ _ _ q => q)
theorem Disk.lt (h : Disk w F g X) : g < w.heap.size := by
  obtain ⟨v1, m, v3, h⟩ := h; exact h.bx.lt
theorem onB1_F (h : F g) (f : Fr (onB1 g) w w') : Fr F w w' := f.mono (fun k _ q => by unfold onB1 at q; exact q ▸ h)
end
theorem _root_.Go.Proofs.U.BxV.five {w : World} {g : Nat} {t : TypeId} {x0 x1 x2 x3 x4 : Value} (h : BxV w g t [x0, x1, x2, x3, x4]) :
    (w.cell? ⟨g, 0, none⟩ = some x0 ∧ w.cell? ⟨g, 1, none⟩ = some x1 ∧ w.cell? ⟨g, 2, none⟩ = some x2 ∧ w.cell? ⟨g, 3, none⟩ = some x3 ∧ w.cell? ⟨g, 4, none⟩ = some x4) :=
  ⟨(h.cell 0 _ rfl).1, (h.cell 1 _ rfl).1, (h.cell 2 _ rfl).1, (h.cell 3 _ rfl).1, (h.cell 4 _ rfl).1⟩

abbrev ptr (g : Nat) : Value := .pointer (some ⟨g, 0, none⟩)

theorem has_any {F : Nat → Prop} {X : DSt} (g : Nat) (i : Int) (w : World) (h : Disk w F g X) :
    Calls Try.prog 58 #[ptr g, .int .i64 i] w fun r w' => r = .returned (.bool (inR X.pages.length i)) ∧ w = w' := by
  obtain ⟨v1, m, v3, h⟩ := h
  obtain ⟨a1, c1, rfl⟩ := h.st.opn
  obtain ⟨k0, k1, k2, k3, k4⟩ := h.bx.five
  clear h
  by_cases h0 : 0 ≤ i
  · go_enter Try.func58, Try.ntmps58
    go_wp2
    go_ret
    exact ⟨by simp [h0, inR], rfl⟩
  · have h1 : decide (0 ≤ i) = false := by simpa using h0
    go_enter Try.func58, Try.ntmps58
    go_wp2
    go_ret
    exact ⟨by simp [inR, h1], rfl⟩

/-- What an act does: left, down, error. -/
def actP (l : Int) (d : Bool) : Int × Bool × Int := if d || l == 0 then (l, true, 42) else (if l > 0 then l - 1 else l, d, 0)
def DSt.act (X : DSt) : DSt := { X with left := (actP X.left X.down).1, down := (actP X.left X.down).2.1 }
def DSt.actE (X : DSt) : Int := (actP X.left X.down).2.2

theorem act_any {F : Nat → Prop} {X : DSt} (g : Nat) (w : World) (h : Disk w F g X) :
    Calls Try.prog 64 #[ptr g] w fun r w' => r = .returned (.int .i64 X.actE) ∧ Disk w' F g X.act ∧ Fr F w w' := by
  obtain ⟨v1, m, v3, h⟩ := h
  have hbx := h.bx
  obtain ⟨pages, bad, pend, d, l⟩ := X
  have hlft := h.lft
  simp only [DSt.actE, DSt.act] at *
  by_cases h0 : l = 0
  · subst h0
    obtain ⟨k0, k1, k2, k3, k4⟩ := hbx.five
    have hr : actP 0 d = (0, true, 42) := by simp [actP]
    rw [hr]
    go_enter Try.func64, Try.ntmps64
    go_wp2_with (first
      | (with_reducible refine at_wpP ?_; refine at_st 4 _ _ rfl ?_; go_must (refine wpList_store1 rfl 4 _ _ rfl g 3 rfl (.bool true) rfl rfl _ _ hbx size_bool (by simp) ?_; intro w1 b1 f1; have b1 : BxV w1 g 89 (pdL v1 m v3 true 0) := (by simpa using b1); obtain ⟨q0, q1, q2, q3, q4⟩ := b1.five)))
    go_ret
    exact ⟨rfl, ⟨v1, m, v3, h.put f1 b1 (by decide)⟩, onB1_F h.fg f1⟩
  · have hb : (l == 0) = false := by simpa using h0
    obtain ⟨k0, k1, k2, k3, k4⟩ := hbx.five
    cases d with
    | true =>
      have hr : actP l true = (l, true, 42) := by simp [actP]
      rw [hr]
      go_enter Try.func64, Try.ntmps64
      go_wp2
      go_ret
      exact ⟨rfl, ⟨v1, m, v3, h⟩, Fr.refl _ _⟩
    | false =>
      by_cases hp : 0 < l
      · have hr : actP l false = (l - 1, false, 0) := by simp [actP, hb, hp]
        rw [hr]
        go_enter Try.func64, Try.ntmps64
        go_wp2_with (first
          | (with_reducible refine at_wpP ?_; refine at_st 3 _ _ rfl ?_; go_must (refine wpList_store1 rfl 3 _ _ rfl g 4 rfl (.int .i64 (l - 1)) rfl rfl _ _ hbx size_int (by simp) ?_; intro w1 b1 f1; have b1 : BxV w1 g 89 (pdL v1 m v3 false (l - 1)) := (by simpa using b1))))
        go_ret
        exact ⟨rfl, ⟨v1, m, v3, h.put f1 b1 (by omega)⟩, onB1_F h.fg f1⟩
      · have hr : actP l false = (l, false, 0) := by simp [actP, hb, hp]
        rw [hr]
        go_enter Try.func64, Try.ntmps64
        go_wp2
        go_ret
        exact ⟨rfl, ⟨v1, m, v3, h⟩, Fr.refl _ _⟩
end Go.Proofs.Ytamfnjliikiifaa
/- The program's disk: New, Stable, Spoil, Pending. -/
namespace Go.Proofs.U
open Go.RowKit
set_option linter.unusedSimpArgs false
set_option linter.unusedVariables false
theorem madeCells_flat {α : Type} (ec : α → List Value) (sz : Nat) (x : α) (cs : Array Value) (hc : cs.toList = ec x) (hs : (ec x).length = sz) (hz : 0 < sz) (n : Nat) : (madeCells cs (n * sz)).toList = (List.replicate n x).flatMap ec := by
  have hsz : cs.size = sz := by rw [← hs, ← hc, Array.length_toList]
  have h1 : ∀ m, (madeCells cs m).toList = (List.range m).map (fun i => cs[i % sz]!) := by
    intro m; simp [madeCells, hsz]
  rw [h1]
  induction n with
  | zero => simp
  | succ n ih =>
    rw [List.replicate_succ', List.flatMap_append, ← ih, Nat.succ_mul, List.range_add, List.map_append]
    congr 1
    simp only [List.flatMap_cons, List.flatMap_nil, List.append_nil, List.map_map]
    rw [← hc]
    apply List.ext_getElem
    · simp [hsz]
    · intro i h2 h3
      have h4 : i < sz := by simpa using h2
      simp
      rw [Nat.mod_eq_of_lt h4, getElem!_pos cs i (by omega)]
section
variable {α : Type} {P : Program} {w : World} {ops : Array Oper} {rest : List Oper} {o : Oper} {a : Act} {Q : Exit → Act → World → Prop}
/-- make([]T, n): n elements x, x the zero value. -/
theorem wpList_makeR (ec : α → List Value) (sz : Nat) (hg : o.guard = none) (l c : Operand) (t : TypeId) (hop : o.op = Op.makeSlice t l c)
    (base : Nat) (e : TypeId) (z : Value) (bytes : Nat) (h1 : P.underlying t = some (.slice e)) (hinfo : (P.info? e).map (fun i => (i.zero, i.size, i.bytes)) = some (some z, sz, bytes)) (x : α) (hx : z.cells.toList = ec x) (hs : (ec x).length = sz) (hz : 0 < sz)
    (kl kc : IntKind) (L C : Int) (n : Nat) (hl : a.eval l = .int kl L) (hc : a.eval c = .int kc C) (hL : L = (n : Int)) (hC : C = (n : Int)) (b2 : bytes * n ≤ 281474976710656) (b3 : n ≤ maxLen) (b4 : base ≤ w.heap.size)
    (hK : ∀ g w', OwnR ec sz e w' base (.slice (some ⟨g, 0, none⟩) n n) (List.replicate n x) → Fr noB w w' → w.heap.size ≤ g → g < w'.heap.size → wpList P ops Q rest (a.put o.dst (.slice (some ⟨g, 0, none⟩) n n)) w') :
    wpList P ops Q (o :: rest) a w := by
  obtain ⟨i0, hi, hz0, hz1, hz2⟩ := info_parts hinfo
  refine wpList_make_full w hg l c t hop base e i0 z sz h1 hi hz0 hz1 kl kc L C n hl hc hL hC (by rw [hz2]; exact b2) b3 b4 ?_
  intro w' ho hgr
  have ho' : w'.ownsRow base e sz (.slice (some ⟨w.heap.size, 0, none⟩) n n) (List.replicate n x).length ((List.replicate n x).flatMap ec) := by
    rw [← madeCells_flat ec sz x z.cells hx hs hz n, List.length_replicate]; exact ho
  have hlt := (World.ownsRow.lt ho' w.heap.size rfl).2
  refine hK w.heap.size w' ⟨?_, ho'⟩ (Fr.of_grown hgr) (Nat.le_refl _) hlt
  intro y hy
  rw [List.eq_of_mem_replicate hy]; exact hs
/-- make([]T, 0, n). -/
theorem wpList_make0R (ec : α → List Value) (sz : Nat) (hg : o.guard = none) (l c : Operand) (t : TypeId) (hop : o.op = Op.makeSlice t l c)
    (base : Nat) (e : TypeId) (z : Value) (bytes : Nat) (h1 : P.underlying t = some (.slice e)) (hinfo : (P.info? e).map (fun i => (i.zero, i.size, i.bytes)) = some (some z, sz, bytes))
    (kl kc : IntKind) (C : Int) (n : Nat) (hl : a.eval l = .int kl 0) (hc : a.eval c = .int kc C) (hC : C = (n : Int)) (b2 : bytes * n ≤ 281474976710656) (b3 : n ≤ maxLen) (b4 : base ≤ w.heap.size)
    (hK : ∀ g w', OwnR ec sz e w' base (.slice (some ⟨g, 0, none⟩) 0 n) ([] : List α) → Fr noB w w' → w.heap.size ≤ g → g < w'.heap.size → wpList P ops Q rest (a.put o.dst (.slice (some ⟨g, 0, none⟩) 0 n)) w') :
    wpList P ops Q (o :: rest) a w := by
  obtain ⟨i0, hi, hz0, hz1, hz2⟩ := info_parts hinfo
  refine wpList_make_own w hg l c t hop base e i0 z sz h1 hi hz0 hz1 kl kc C n hl hc hC (by rw [hz2]; exact b2) b3 b4 ?_
  intro w' ho hgr
  exact hK w.heap.size w' ⟨by simp, ho⟩ (Fr.of_grown hgr) (Nat.le_refl _) (World.ownsRow.lt ho w.heap.size rfl).2
end
end Go.Proofs.U
namespace Go.Proofs.Ytamfnjliikiifaa
open Go.RowKit Go.Proofs.U Go.Maps
set_option linter.unusedSimpArgs false
set_option linter.unusedVariables false

def newD (n : Int) : DSt := ⟨List.replicate (newN n) zeroP, fun _ => false, [], false, -1⟩

theorem newD_mk {w w1 w2 : World} {g1 g2 N : Nat} {Z : List Int} (o1 : OwnR pgv 256 66 w1 0 (.slice (some ⟨g1, 0, none⟩) N N) (List.replicate N Z))
    (b2 : BxV w2 g2 89 (pdL (.slice (some ⟨g1, 0, none⟩) N N) w1.heap.size (.slice none 0 0) false (-1))) (f1 : Fr noB w w1) (f2 : Fr noB (w1.alloc (.map #[] 0)) w2) (s1 : w.heap.size ≤ g1) (s2 : (w1.alloc (.map #[] 0)).heap.size ≤ g2) (hN4 : N ≤ 244) :
    Disk w2 (fun k => w.heap.size ≤ k) g2 ⟨List.replicate N Z, fun _ => false, [], false, -1⟩ := by
  have fm : Fr noB w1 (w1.alloc (.map #[] 0)) := (Fr.refl _ _).alloc _
  have z1 := f1.size
  have z2 := f2.size
  have hmz : (w1.alloc (.map #[] 0)).heap.size = w1.heap.size + 1 := by simp
  exact ⟨.slice (some ⟨g1, 0, none⟩) N N, w1.heap.size, .slice none 0 0, {
    bx := b2
    st := (o1.fr0 fm).fr0 f2
    mp := MapI.fr ⟨0, .map [], World.ownsMap_made w1 Try.prog 3 unitElem, fun kl => by cases kl with | int k x => cases k <;> rfl | _ => rfl⟩ f2 (fun q => q)
    pd := OwnR.none _ _
    fg := by omega
    fm := by omega
    f1 := fun k hk => by simp [Value.ownBlock] at hk; omega
    f3 := fun k hk => by simp [Value.ownBlock] at hk
    lft := by simp only; omega
    len := by simpa using hN4
    bin := fun x hx => by simp at hx
    pin := fun x hx => by simp at hx }⟩

set_option maxRecDepth 100000 in
set_option maxHeartbeats 1000000 in
theorem new_any (n : Int) (hn : -9223372036854775808 ≤ n ∧ n ≤ 9223372036854775807) (w : World) :
    Calls Try.prog 26 #[.int .i64 n] w fun r w' => ∃ g, r = .returned (ptr g) ∧ Disk w' (fun k => w.heap.size ≤ k) g (newD n) ∧ Fr noB w w' := by
  have hmm := @run_makeMap Try.prog
  obtain ⟨Z, HZ⟩ : ∃ Z, Hid (zeroP = Z) := ⟨_, rfl⟩
  have hZl : Hid (Z.length = 256) := by show _ = _; rw [← HZ.out]; exact zeroP_len
  have hi : (Try.prog.info? 66).map (fun i => (i.zero, i.size, i.bytes)) = some (some (.agg (pgv Z).toArray), 256, 256) := by rw [← HZ.out]; exact info_page
  obtain ⟨N, HN⟩ : ∃ N, Hid (newN n = N) := ⟨_, rfl⟩
  have hN4 : N ≤ 244 := by rw [← HN.out]; unfold newN; omega
  have hN : min (max n 0) 244 = (N : Int) := by rw [← HN.out]; unfold newN; omega
  unfold newD
  rw [HN.out, HZ.out]
  go_enter Try.func26, Try.ntmps26
  go_wp2_with (first
    | (refine at_make 85 _ _ rfl ?_; go_must (refine wpList_makeR pgv 256 rfl _ _ 85 rfl 0 66 _ 256 Try.underlying85 hi Z (by simp [Value.cells]) (by rw [pgv_len, hZl.out]) (by decide) .i64 .i64 _ _ N rfl rfl ?hL ?hC ?hb2 ?hb3 (Nat.zero_le _) ?_; rotate_left 4; intro g1 w1 o1 f1 s1 t1))
    | (with_reducible refine at_wpP ?_; refine wpList_boxV rfl 89 _ rfl (pdL (.slice (some ⟨g1, 0, none⟩) N N) w1.heap.size (.slice none 0 0) false (-1)) rfl ?_; intro g2 w2 hg2 b2 f2 s2))
  all_goals first
    | omega
    | (unfold maxLen; omega)
    | (go_ret; exact ⟨g2, rfl, newD_mk o1 b2 f1 f2 s1 s2 hN4, (f1.thenN ((Fr.refl _ _).alloc _)).thenN f2⟩)

/-- Stable's answer. -/
def stabR (X : DSt) (i : Int) : List Int × Int := if inR X.pages.length i then (X.pages.getD i.toNat [], 0) else (zeroP, 41)

end Go.Proofs.Ytamfnjliikiifaa
/- The program's disk: Spoil, Pending. -/
namespace Go.Proofs.Ytamfnjliikiifaa
open Go.RowKit Go.Proofs.U Go.Maps
set_option linter.unusedSimpArgs false
set_option linter.unusedVariables false

def DSt.spoil (X : DSt) (i : Int) (b : Bool) : DSt := if inR X.pages.length i then { X with bad := fun x => if x == i then b else X.bad x } else X
theorem badK_put (bad : Int → Bool) (i : Int) (b : Bool) (kl : Lit) (h : kl ≠ .int .i64 i) : badK (fun x => if x == i then b else bad x) kl = badK bad kl := by
  unfold badK
  split
  · rename_i x
    have : x ≠ i := fun e => h (by rw [e])
    simp [this]
  · rfl

abbrev en64 (z : Int) : List Value := [Value.int .i64 z]
theorem info_int : (Try.prog.info? 3).map (fun i => (i.zero, i.size, i.bytes)) = some (some (.int .i64 0), 1, 8) := by kernel_rfl
theorem info_int2 : (Try.prog.info? 3).map (fun i => (i.zero, i.size)) = some (some (.int .i64 0), 1) := by kernel_rfl
theorem pwrite_size : (Try.prog.info? 111).map (·.size) = some 257 := by kernel_rfl
theorem pzero_write : (Try.prog.info? 111).map (·.zero) = some (some (.agg (encW (0, zeroP)).toArray)) := by kernel_rfl
theorem punder_write : Try.prog.underlying 111 = some (.struct (Try.prog.fieldsOf 111)) := by kernel_rfl

end Go.Proofs.Ytamfnjliikiifaa
/- A part of an element of an own row written by copy; pages mixed by sectors. -/
namespace Go.Proofs.U
open Go.RowKit
set_option linter.unusedSimpArgs false
set_option linter.unusedVariables false
theorem putAt_mid (A B C ds : List Value) (off : Nat) (h : off + ds.length ≤ B.length) : putAt (A ++ (B ++ C)) (A.length + off) ds = A ++ (putAt B off ds ++ C) := by
  unfold putAt
  rw [List.take_append, List.take_of_length_le (by omega), Nat.add_sub_cancel_left, List.take_append_of_le_length (by omega)]
  rw [Nat.add_assoc, List.drop_append, List.drop_eq_nil_of_le (by omega), Nat.add_sub_cancel_left, List.nil_append, List.drop_append_of_le_length (by omega)]
  simp
theorem putAt_whole (A B C D : List Value) (h : D.length = B.length) : putAt (A ++ (B ++ C)) A.length D = A ++ (D ++ C) := by
  have := putAt_mid A B C D 0 (by omega)
  rw [Nat.add_zero, putAt_all _ _ h] at this
  exact this
theorem putAt_len (B ds : List Value) (off : Nat) (h : off + ds.length ≤ B.length) : (putAt B off ds).length = B.length := by
  unfold putAt; simp; omega
section
variable {α : Type} {ec : α → List Value} {sz : Nat} {e : TypeId} {w : World} {base : Nat} {l : List α}
theorem OwnR.putMid {g n cap : Nat} (hO : OwnR ec sz e w base (.slice (some ⟨g, 0, Option.none⟩) n cap) l) (j : Nat) (hj : j < l.length) (off : Nat) (ds : List Value) (b : α) (hb : ec b = putAt (ec l[j]) off ds) (hd : off + ds.length ≤ sz) :
    OwnR ec sz e (w.setCells g (j * sz + off) ds) base (.slice (some ⟨g, 0, Option.none⟩) n cap) (l.set j b) ∧ (∀ i, i < ds.length → (w.cell? ⟨g, j * sz + off + i, Option.none⟩).isSome = true ∧ w.frozen? ⟨g, j * sz + off + i, Option.none⟩ = false) := by
  have hrg := OwnR.rangeK hO j hj
  have hlj : (ec l[j]).length = sz := hO.1 _ (by simp)
  obtain ⟨g', cap', cur, hv, h1, hB, h3, h4, h5⟩ := hO.bx (by omega)
  cases hv
  have hle : j * sz + sz ≤ cur.length := by
    have : (j + 1) * sz ≤ l.length * sz := Nat.mul_le_mul_right _ (by omega)
    rw [Nat.add_mul, Nat.one_mul] at this; omega
  have hseg : (cur.drop (j * sz)).take sz = ec l[j] := by
    apply List.ext_getElem
    · simp [hlj]; omega
    · intro i h6 h7
      have h8 := hrg i (ec l[j])[i] (List.getElem?_eq_getElem h7)
      have h9 := (hB.cell (j * sz + i) cur[j * sz + i] (List.getElem?_eq_getElem (by omega))).1
      rw [h9] at h8
      simpa using h8
  have hcur : cur = cur.take (j * sz) ++ (ec l[j] ++ cur.drop (j * sz + sz)) := by
    rw [← hseg, ← List.drop_drop, List.take_append_drop, List.take_append_drop]
  have hbl : (ec b).length = sz := by rw [hb, putAt_len _ _ _ (by omega), hlj]
  have htl : (cur.take (j * sz)).length = j * sz := by simp; omega
  have heq : putAt cur (j * sz + off) ds = putAt cur (j * sz) (ec b) := by
    have e1 := putAt_mid (cur.take (j * sz)) (ec l[j]) (cur.drop (j * sz + sz)) ds off (by omega)
    have e2 := putAt_whole (cur.take (j * sz)) (ec l[j]) (cur.drop (j * sz + sz)) (ec b) (by omega)
    rw [← hcur, htl] at e1 e2
    rw [e1, e2, hb]
  refine ⟨?_, ?_⟩
  · have hB' := setCells_bx ds (j * sz + off) w cur hB (by omega)
    rw [heq] at hB'
    refine h5 _ _ _ hB' ?_ (by simp) ?_ (flat_put l hO.1 j hj b hbl cur h3 h4)
    · rw [← heq, putAt_len _ _ _ (by omega)]
    · intro z hz
      rcases List.mem_or_eq_of_mem_set hz with hz | rfl
      · exact hO.1 z hz
      · exact hbl
  · intro i hi
    have := hB.cell (j * sz + off + i) cur[j * sz + off + i] (List.getElem?_eq_getElem (by omega))
    exact ⟨by rw [this.1]; rfl, this.2⟩
end
end Go.Proofs.U
namespace Go.Proofs.Ytamfnjliikiifaa
open Go.RowKit Go.Proofs.U Go.Maps
set_option linter.unusedSimpArgs false
set_option linter.unusedVariables false

/-- The first s sectors, as far as they stay, in the place of the old ones. -/
def mixS (old new : List Int) (st : Nat → Bool) (s : Nat) : List Int := (List.range 256).map fun i => if i / 32 < s && st (i / 32) then new.getD i 0 else old.getD i 0
theorem mixS_len (old new : List Int) (st : Nat → Bool) (s : Nat) : (mixS old new st s).length = 256 := by simp [mixS]
theorem mixS_zero (old new : List Int) (st : Nat → Bool) (h : old.length = 256) : mixS old new st 0 = old := by
  apply List.ext_getElem
  · simp [mixS, h]
  · intro i h1 h2
    simp [mixS, List.getD, h2]
theorem mixS_no (old new : List Int) (st : Nat → Bool) (s : Nat) (h : st s = false) : mixS old new st (s + 1) = mixS old new st s := by
  unfold mixS
  apply List.map_congr_left
  intro i _
  by_cases h1 : i / 32 = s
  · rw [h1, h]; simp
  · have : (decide (i / 32 < s + 1)) = decide (i / 32 < s) := by
      rw [decide_eq_decide]; omega
    rw [this]
theorem mixS_yes (old new : List Int) (st : Nat → Bool) (s : Nat) (hs : s < 8) (hn : new.length = 256) (h : st s = true) :
    pgv (mixS old new st (s + 1)) = putAt (pgv (mixS old new st s)) (s * 32) (pgv ((new.drop (s * 32)).take 32)) := by
  have hl : ((new.drop (s * 32)).take 32).length = 32 := by simp; omega
  have key : mixS old new st (s + 1) = (mixS old new st s).take (s * 32) ++ ((new.drop (s * 32)).take 32 ++ (mixS old new st s).drop (s * 32 + 32)) := by
    apply List.ext_getElem
    · simp [mixS]; omega
    · intro i h1 h2
      have hi : i < 256 := by simpa [mixS] using h1
      by_cases c1 : i < s * 32
      · rw [List.getElem_append_left (by simp [mixS]; omega)]
        have d1 : i / 32 < s := by omega
        simp [mixS, d1, show i / 32 < s + 1 by omega]
      · by_cases c2 : i < s * 32 + 32
        · rw [List.getElem_append_right (by simp [mixS]; omega), List.getElem_append_left (by simp [mixS]; omega)]
          have d1 : i / 32 = s := by omega
          have d2 : s * 32 + (i - min (s * 32) 256) = i := by omega
          simp [mixS, d1, h, List.getD, d2, show i < new.length by omega]
        · rw [List.getElem_append_right (by simp [mixS]; omega), List.getElem_append_right (by simp [mixS]; omega)]
          have d1 : ¬ i / 32 < s + 1 := by omega
          have d2 : s * 32 + 32 + (i - min (s * 32) 256 - min 32 (new.length - s * 32)) = i := by omega
          simp [mixS, d1, d2, show ¬ i / 32 < s by omega]
  rw [key]
  simp [putAt, pgv, hl, List.map_take, List.map_drop]
  omega

/-- The writes one by one. -/
def setS1 (pend : List (Int × List Int)) (stay : Nat → Nat → Bool) (ps : List (List Int)) (j : Nat) : List (List Int) :=
  ps.set (pend.getD j (0, [])).1.toNat (mixS (ps.getD (pend.getD j (0, [])).1.toNat []) (pend.getD j (0, [])).2 (stay j) 8)
def setS (pages : List (List Int)) (pend : List (Int × List Int)) (stay : Nat → Nat → Bool) (k : Nat) : List (List Int) := (List.range k).foldl (setS1 pend stay) pages
theorem setS_succ (pages : List (List Int)) (pend : List (Int × List Int)) (stay : Nat → Nat → Bool) (k : Nat) : setS pages pend stay (k + 1) = setS1 pend stay (setS pages pend stay k) k := by
  unfold setS; rw [List.range_succ, List.foldl_append]; rfl
theorem setS_len (pages : List (List Int)) (pend : List (Int × List Int)) (stay : Nat → Nat → Bool) (k : Nat) : (setS pages pend stay k).length = pages.length := by
  induction k with
  | zero => rfl
  | succ k ih => rw [setS_succ]; unfold setS1; simp [ih]
def DSt.settle (X : DSt) (stay : Nat → Nat → Bool) : DSt := { X with pages := setS X.pages X.pend stay X.pend.length, pend := [] }
end Go.Proofs.Ytamfnjliikiifaa
/- The program's disk: settle, for both of its closures. (Written by settle_gen.py.) -/
namespace Go.Proofs.Ytamfnjliikiifaa
open Go.RowKit Go.Proofs.U Go.Maps
set_option linter.unusedSimpArgs false
set_option linter.unusedVariables false
theorem run_sector (W : World) (b off s : Nat) (hs : s < 8) : (Instr.sliceAt 66 (.pointer (some ⟨b, off, none⟩)) (some (.int .i64 ((s : Int) * 32))) (some (.int .i64 (((s : Int) + 1) * 32))) none).run Try.prog W = .ok (.slice (some ⟨b, off + s * 32, none⟩) 32 (256 - s * 32)) W := by
  have h := run_sliceAt_array_lh W 66 ⟨b, off, none⟩ (P := Try.prog) (by kernel_rfl) .i64 .i64 ((s : Int) * 32) (((s : Int) + 1) * 32) (by omega) (by omega) (by rw [len_page]; omega)
  rw [h]
  have he : Try.prog.elem 66 = 5 := by kernel_rfl
  obtain ⟨i, hi, hsz⟩ := Option.map_eq_some_iff.1 size_u8
  simp only [he, sizeOf, typeInfo, len_page, slicedAt]
  have h1 : ((s : Int) * 32).toNat = s * 32 := by omega
  have h2 : (((s : Int) + 1) * 32).toNat = s * 32 + 32 := by omega
  rw [h1, h2]
  have h3 : ¬ (256 = s * 32) := by omega
  have h4 : s * 32 + 32 - s * 32 = 32 := by omega
  simp [hi, hsz, go_sem, Addr.plain, h3, h4]
def JC (w0 : World) (b off : Nat) (ds : List Value) : List Value → World → Prop
  | [], W => W = w0
  | [_], W => W = w0.setCells b off ds
  | _, _ => False
theorem size_spwrite : (Try.prog.info? 87).map (·.size) = some 1 := by kernel_rfl

end Go.Proofs.Ytamfnjliikiifaa
/- The program's disk: Sync, Crash, Write. -/
namespace Go.Proofs.Ytamfnjliikiifaa
open Go.RowKit Go.Proofs.U Go.Maps
set_option linter.unusedSimpArgs false
set_option linter.unusedVariables false

set_option maxRecDepth 100000 in
theorem and1_fin : ∀ x : Fin 256, bits .and .u8 ((x.val : Nat) : Int) 1 = ((x.val : Nat) : Int) % 2 := by decide
theorem and1 (x : Int) (h0 : 0 ≤ x) (h1 : x < 256) : bits .and .u8 x 1 = x % 2 := by
  obtain ⟨n, rfl⟩ := Int.eq_ofNat_of_zero_le h0
  exact and1_fin ⟨n, by omega⟩
def stayK (keep : List Int) (k s : Nat) : Bool := decide (k < keep.length) && (keep.getD k 0 / 2 ^ s % 2 == 1)

/-- The box of the variable that the closure holds. -/
def DSt.crash (X : DSt) (keep : List Int) : DSt := { X with pages := setS X.pages X.pend (stayK keep) X.pend.length, pend := [], down := false, left := -1 }
def DSt.sync (X : DSt) : DSt := if X.actE = 0 then X.act.settle (fun _ _ => true) else X.act
def orNew (F : Nat → Prop) (w : World) : Nat → Prop := fun k => F k ∨ w.heap.size ≤ k

theorem size_bytes : (Try.prog.info? 92).map (·.size) = some 1 := by kernel_rfl
end Go.Proofs.Ytamfnjliikiifaa
