/- Texts J7, J8, JD of the proof of PruneDense, one behind the other. -/
import Derived.Test.YtmkinaijkgkgiaaBundlePruneDense1
import Derived.Test.YtmkinaijkgkgiaaBundlePruneDense2
import Derived.Test.YtmkinaijkgkgiaaBundlePruneDense3
import Derived.Test.YtmkinaijkgkgiaaBundlePruneDense4
import Derived.Test.YtmkinaijkgkgiaaBundlePruneDense5
import Derived.Test.YtmkinaijkgkgiaaBundlePruneDense6
import Derived.Test.YtmkinaijkgkgiaaBundlePruneDense7
import Derived.Test.YtmkinaijkgkgiaaBundlePruneDense8
import Derived.Test.YtmkinaijkgkgiaaBundlePruneDense9
import Derived.Test.YtmkinaijkgkgiaaBundlePruneDense10
import Derived.Test.YtmkinaijkgkgiaaBundlePruneDense11
import Derived.Test.YtmkinaijkgkgiaaBundlePruneDense12
import Derived.Test.YtmkinaijkgkgiaaBundlePruneDense13
import Derived.Test.YtmkinaijkgkgiaaBundlePruneDense14
import Derived.Test.YtmkinaijkgkgiaaBundlePruneDense15
import Derived.Test.YtmkinaijkgkgiaaBundlePruneDense16
/- Put, plain: of a leaf, of an inner node, of a root; no condition. -/
namespace Go.Proofs.Ytmkinaijkgkgiaa
open Go.RowKit Go.Proofs.U
set_option linter.unusedSimpArgs false
set_option linter.unusedVariables false
/-- What is made in the place of a node by a put. -/
structure PutIs (X : DSt) (L : List Pg) (R : List Int) (T : List Nat) (lv : Nat) (p lo hi : Int) (z : Int × Int) (X' : DSt) (L' : List Pg) (tops : List (Int × Int)) : Prop where
  iv : InvT X' L' R (pgsT tops ++ T)
  up : KeysUp tops
  ok : okN X' (lv + 1) tops lo hi
  ls : lsN X' (lv + 1) tops = putL (lsT X lv p) z
  pg : ∀ t ∈ tops, 0 ≤ t.2 ∧ t.2 ≤ 239
  fr : plFree L ≤ plFree L' + 2 * (lv + 1)
  ct : ∀ q, cntL L' q ≤ cntL L q + 7 * (lv + 1)
  sz : (∃ t, tops = [t] ∧ (szX X' t.2 = szX X p ∨ szX X' t.2 = szX X p + 1)) ∨ (∃ t u, tops = [t, u] ∧ szX X p = 6 ∧ szX X' t.2 = 3 ∧ szX X' u.2 = 4)
  ft : ∀ Q, QOk Q → fitT X Q lv p → ∀ t ∈ tops, fitT X' Q lv t.2
  df : (tops.map fun x => dfT X' lv x.2).sum ≤ dfT X lv p
/-- What comes of a put below a node, with an error or without. -/
structure PutE (X : DSt) (L : List Pg) (R : List Int) (T : List Nat) (lv : Nat) (p lo hi : Int) (z : Int × Int) (X' : DSt) (L' : List Pg) (tops : List (Int × Int)) (e : Int) : Prop where
  ext : Ext X L X' L'
  er : e = 0 ∨ e = 71 ∨ e = 72
  e71 : e = 71 → plFree L < 2 * (lv + 1)
  e72 : e = 72 → ¬ ∀ q, cntL L q + 7 * (lv + 1) ≤ 255
  no : ¬ e = 0 → tops = []
  ys : e = 0 → PutIs X L R T lv p lo hi z X' L' tops
theorem PutIs.len {X : DSt} {L : List Pg} {R : List Int} {T : List Nat} {lv : Nat} {p lo hi : Int} {z : Int × Int} {X' : DSt} {L' : List Pg} {tops : List (Int × Int)} (h : PutIs X L R T lv p lo hi z X' L' tops) : tops.length = 1 ∨ tops.length = 2 := by
  rcases h.sz with ⟨t, rfl, _⟩ | ⟨t, u, rfl, _⟩
  · exact Or.inl rfl
  · exact Or.inr rfl
theorem PutIs.dn {X : DSt} {L : List Pg} {R : List Int} {T : List Nat} {lv : Nat} {p lo hi : Int} {z : Int × Int} {X' : DSt} {L' : List Pg} {tops : List (Int × Int)} (h : PutIs X L R T lv p lo hi z X' L' tops) : dfN X' (lv + 1) tops ≤ lackZ (szX X p) + dfT X lv p := by
  have hd := h.df
  show (tops.map fun x => lackZ (szX X' x.2) + dfT X' lv x.2).sum ≤ _
  unfold lackZ
  rcases h.sz with ⟨t, rfl, hs⟩ | ⟨t, u, rfl, h6, h3, h4⟩
  · simp only [List.map_cons, List.map_nil, List.sum_cons, List.sum_nil] at hd ⊢
    omega
  · simp only [List.map_cons, List.map_nil, List.sum_cons, List.sum_nil] at hd ⊢
    omega
/-- Pages that a node holds need no holds of their own. -/
theorem InvT.lessL {X : DSt} {L : List Pg} {R : List Int} {T : List Nat} : ∀ {S : List Nat}, InvT X L R (S ++ T) → (∀ t ∈ S, 0 < cntL L t) → InvT X L R T
  | [], h, _ => h
  | t :: S, h, hc => InvT.lessL (S := S) (h.less1 (hc t (by simp))) fun x hx => hc x (by simp [hx])
theorem InvT.swap {X : DSt} {L : List Pg} {R : List Int} {A B T : List Nat} (h : InvT X L R (A ++ (B ++ T))) : InvT X L R (B ++ (A ++ T)) := h.perm fun q => by simp only [List.count_append]; omega
/-- Of a leaf. -/
theorem put_leaf {X : DSt} {L : List Pg} {R : List Int} {T : List Nat} {m : Nat} {p lo hi : Int} {z : Int × Int} (h : InvT X L R T) (hU : Up X L.length m) (k : okT X 0 p lo hi) (h0 : 0 ≤ p) (hp : 0 < cntT L T p.toNat) {i : Int} (hat : AtIs (esX X p) z.1 i)
    (hz : 0 ≤ z.1 ∧ z.1 ≤ 63 ∧ lo ≤ z.1 ∧ z.1 < hi) (hz2 : 0 ≤ z.2 ∧ 0 < cntT L T z.2.toNat) :
    ∃ X' L' tops e, splF (X, L) 2 (withL (esX X p) z i) = ((X', L'), tops, e) ∧ Up X' L'.length (m + 2) ∧ PutE X L R T 0 p lo hi z X' L' tops e := by
  obtain ⟨hu, h1, h6, hr⟩ := k.es
  rw [with_put hu hat]
  have hlen := putL_len hu hat
  have hup := putL_up (x := z) hu
  have hz239 : z.2 ≤ 239 := by have := h.low hz2.2; omega
  have hmem : ∀ x ∈ putL (esX X p) z, (0 ≤ x.1 ∧ x.1 ≤ 63 ∧ 0 ≤ x.2 ∧ x.2 ≤ 239) ∧ 0 < cntT L T x.2.toNat := by
    intro x hx
    rcases (mem_putL hu).1 hx with rfl | ⟨hx, _⟩
    · exact ⟨⟨hz.1, hz.2.1, hz2.1, hz239⟩, hz2.2⟩
    · exact ⟨hr x hx, (h.kid h0 hp x.2 (by unfold kids; exact List.mem_map_of_mem hx)).2.2⟩
  have hok : okN X 0 (putL (esX X p) z) lo hi := by
    intro x hx
    rcases (mem_putL hu).1 hx with rfl | ⟨hx, _⟩
    · exact ⟨hz.2.2.1, hz.2.2.2⟩
    · exact k.2.2 x hx
  obtain ⟨X', L', tops, e, es, hx, hup', he, h71, h72, hno, hys⟩ := split_T h hU (Or.inl rfl) (by omega) (by omega) hup hmem
  refine ⟨X', L', tops, e, es, hup', hx, he, fun e => by have := (h71 e).1; omega, fun e hc => h72 e fun q => ?_, hno, fun e => ?_⟩
  · have := hc q; omega
  · have s := hys e
    have r := split_row (lv := 0) h hx s hup hok (by omega) (by omega) (fun q => absurd q (by decide))
    refine ⟨s.iv, r.up, r.ok, r.ls, r.pg, by have := s.fr; omega, fun q => ?_, ?_, fun Q hQ _ t ht => r.ft Q hQ trivial t ht, ?_⟩
    · rw [s.ct q]
      have : ((putL (esX X p) z).map (·.2)).count (q : Int) ≤ (putL (esX X p) z).length := by
        have := List.count_le_length (a := (q : Int)) (l := (putL (esX X p) z).map (·.2)); rwa [List.length_map] at this
      omega
    · rcases r.sz with ⟨t, rfl, hs, _⟩ | ⟨t, u, rfl, h7, hs, hs'⟩
      · refine Or.inl ⟨t, rfl, ?_⟩
        rw [hs]
        unfold szX
        omega
      · refine Or.inr ⟨t, u, rfl, ?_, hs, hs'⟩
        unfold szX
        omega
    · exact r.df
/-- The entries of a node in which one child is made anew. -/
structure InnerIs (X : DSt) (L : List Pg) (T : List Nat) (lv : Nat) (p lo hi : Int) (z : Int × Int) (X1 : DSt) (L1 : List Pg) (below es : List (Int × Int)) : Prop where
  up : KeysUp es
  ok : okN X1 (lv + 1) es lo hi
  ls : lsN X1 (lv + 1) es = putL (lsT X (lv + 1) p) z
  ln : es.length = szX X p ∨ es.length = szX X p + 1
  mem : ∀ x ∈ es, (0 ≤ x.1 ∧ x.1 ≤ 63 ∧ 0 ≤ x.2 ∧ x.2 ≤ 239) ∧ 0 < cntT L1 (pgsT below ++ T) x.2.toNat
  sub : ∀ t ∈ below, t ∈ es
  ft : ∀ Q, QOk Q → fitT X Q (lv + 1) p → fitN X1 Q (lv + 1) es
  df : dfN X1 (lv + 1) es ≤ dfT X (lv + 1) p
theorem put_row {X : DSt} {L : List Pg} {R : List Int} {T : List Nat} {lv : Nat} {p lo hi : Int} {z c : Int × Int} {a b : List (Int × Int)} (h : InvT X L R T) (k : okT X (lv + 1) p lo hi) (h0 : 0 ≤ p) (hp : 0 < cntT L T p.toNat)
    (hes : esX X p = a ++ c :: b) (hlo : 0 ≤ lo) (hhi : hi ≤ 64) (hza : a ≠ [] → c.1 ≤ z.1) (hzb : ∀ y ∈ b, z.1 < y.1) (hz : lo ≤ z.1 ∧ z.1 < hi)
    {X1 : DSt} {L1 : List Pg} {below : List (Int × Int)} (hx : Ext X L X1 L1) (s : PutIs X L R T lv c.2 (if a = [] then lo else c.1) (nxt b hi) z X1 L1 below) :
    InnerIs X L T lv p lo hi z X1 L1 below (a ++ (below ++ b)) := by
  obtain ⟨hu, h1, h6, hr⟩ := k.es
  have hrng := k.2.2.1
  have hC := k.2.2.2
  rw [hes] at hu hr hrng hC
  obtain ⟨ua, ub, hax, hxb, hab⟩ := hu.split
  obtain ⟨pa, pc, pb, pf⟩ := row_parts (f := okT X lv) (g := lsT X lv) (fun p a b k => lsT_rng k) hu (fun y hy => (hrng y hy).2) hC
  obtain ⟨ca, ccb⟩ := (okC_app _ a (c :: b) hi).1 hC
  obtain ⟨_, cb⟩ := (okC_app _ [c] b hi).1 ccb
  have hlive : ∀ x ∈ a ++ c :: b, 0 ≤ x.2 ∧ 0 < cntT L T x.2.toNat := fun x hx => by
    have := h.kid h0 hp x.2 (by unfold kids; exact List.mem_map_of_mem (by show x ∈ esX X p; rw [hes]; exact hx))
    exact ⟨this.1, this.2.2⟩
  have hla : ∀ x ∈ a, 0 ≤ x.2 ∧ 0 < cntT L T x.2.toNat := fun x hx => hlive x (List.mem_append_left _ hx)
  have hlb : ∀ x ∈ b, 0 ≤ x.2 ∧ 0 < cntT L T x.2.toNat := fun x hx => hlive x (by simp [hx])
  have hrb : ∀ t ∈ below, (if a = [] then lo else c.1) ≤ t.1 ∧ t.1 < nxt b hi := s.ok.1
  have hcr := hrng c (by simp)
  have hbh : nxt b hi ≤ hi := by
    cases b with
    | nil => exact Int.le_refl _
    | cons y r => have := hrng y (by simp); simp only [nxt]; omega
  have hblo : ∀ t ∈ below, lo ≤ t.1 := by
    intro t ht
    have := (hrb t ht).1
    split at this <;> omega
  have hbne : 1 ≤ below.length := by rcases s.len with e | e <;> omega
  -- where the parts lie
  have hA : ∀ x ∈ a, ∀ t ∈ below, x.1 < t.1 := by
    intro x hx' t ht
    have := (hrb t ht).1
    have hne : a ≠ [] := by intro e; rw [e] at hx'; cases hx'
    rw [if_neg hne] at this
    have := hax x hx'
    omega
  have hB : ∀ t ∈ below, ∀ y ∈ b, t.1 < y.1 := by
    intro t ht y hy
    have := (hrb t ht).2
    cases b with
    | nil => cases hy
    | cons w r =>
      simp only [nxt] at this
      rcases List.mem_cons.1 hy with rfl | hy
      · exact this
      · have := ub.head y hy; omega
  have ubb : KeysUp (below ++ b) := KeysUp.app s.up ub hB
  have uall : KeysUp (a ++ (below ++ b)) := KeysUp.app ua ubb fun x hx' y hy => by
    rcases List.mem_append.1 hy with hy | hy
    · exact hA x hx' y hy
    · exact hab x hx' y hy
  -- the trees of the others
  have ea : okC (okT X1 lv) a c.1 ∧ (a.flatMap fun x => lsT X1 lv x.2) = a.flatMap fun x => lsT X lv x.2 :=
    ⟨okC_mono (fun x hx' w hw => (okT.ext h hx hw (hla x hx').1 (hla x hx').2).1) ca, flatMap_congr fun x hx' => by
      obtain ⟨w, hw⟩ := okC_mem ca x hx'
      exact (okT.ext h hx hw (hla x hx').1 (hla x hx').2).2.1⟩
  have eb : okC (okT X1 lv) b hi ∧ (b.flatMap fun x => lsT X1 lv x.2) = b.flatMap fun x => lsT X lv x.2 :=
    ⟨okC_mono (fun x hx' w hw => (okT.ext h hx hw (hlb x hx').1 (hlb x hx').2).1) cb, flatMap_congr fun x hx' => by
      obtain ⟨w, hw⟩ := okC_mem cb x hx'
      exact (okT.ext h hx hw (hlb x hx').1 (hlb x hx').2).2.1⟩
  have hnx : nxt (below ++ b) hi = key0 below := by rw [nxt_app]; exact nxt_key0 hbne _
  have hca : okC (okT X1 lv) a (nxt (below ++ b) hi) := by
    by_cases ha : a = []
    · subst ha; trivial
    · refine okC_hi (f := okT X1 lv) (fun p a b c k hbc => okT_mono k (Int.le_refl a) hbc) ?_ ea.1
      rw [hnx]
      obtain ⟨t, ht, e⟩ := key0_mem hbne
      have := (hrb t ht).1
      rw [if_neg ha] at this
      omega
  have hszc : szX X1 = fun q => szX X1 q := rfl
  have hsz : ∀ x ∈ a ++ c :: b, szX X1 x.2 = szX X x.2 := fun x hx' => by unfold szX esX; rw [rdN_ext h hx (hlive x hx').1 (hlive x hx').2]
  refine ⟨uall, ⟨?_, (okC_app _ a (below ++ b) hi).2 ⟨hca, (okC_app _ below b hi).2 ⟨s.ok.2, eb.1⟩⟩⟩, ?_, ?_, ?_, ?_, ?_, ?_⟩
  · intro x hx'
    rcases List.mem_append.1 hx' with hx' | hx'
    · exact hrng x (List.mem_append_left _ hx')
    · rcases List.mem_append.1 hx' with hx' | hx'
      · have := hblo x hx'; have := (hrb x hx').2; omega
      · exact hrng x (by simp [hx'])
  · show ((a ++ (below ++ b)).flatMap fun x => lsT X1 lv x.2) = putL ((esX X p).flatMap fun x => lsT X lv x.2) z
    have hls : (below.flatMap fun x => lsT X1 lv x.2) = putL (lsT X lv c.2) z := s.ls
    rw [List.flatMap_append, List.flatMap_append, hls, ea.2, eb.2, hes, List.flatMap_append, List.flatMap_cons]
    refine putL_mid ?_ (fun y hy => ?_) (fun y hy => ?_)
    · have := lsT_up k
      unfold lsT at this
      rw [hes, List.flatMap_append, List.flatMap_cons] at this
      exact this
    · have hne : a ≠ [] := by intro e; rw [e] at hy; simp at hy
      have := pa y hy; have := hza hne; omega
    · have h3 := pb y hy
      cases b with
      | nil => simp at hy
      | cons w r => have := hzb w (by simp); simp only [nxt] at h3; omega
  · unfold szX
    rw [hes, List.length_append, List.length_append, List.length_append, List.length_cons]
    rcases s.len with e | e <;> omega
  · have hmono : ∀ x : Int × Int, x ∈ a ++ c :: b → 0 < cntT L1 (pgsT below ++ T) x.2.toNat := by
      intro x hx'
      have := (hx.kp x.2.toNat (h.live (hlive x hx').2).1).2.2
      have h2 := (hlive x hx').2
      unfold cntT at h2 ⊢
      rw [List.count_append]; omega
    intro x hx'
    rcases List.mem_append.1 hx' with hx' | hx'
    · exact ⟨hr x (List.mem_append_left _ hx'), hmono x (List.mem_append_left _ hx')⟩
    · rcases List.mem_append.1 hx' with hx' | hx'
      · have h1 := hblo x hx'
        have h2 := (hrb x hx').2
        have h3 := s.pg x hx'
        exact ⟨by omega, s.iv.mem (List.mem_append_left _ (List.mem_map_of_mem (f := fun x : Int × Int => x.2.toNat) hx'))⟩
      · exact ⟨hr x (by simp [hx']), hmono x (by simp [hx'])⟩
  · intro t ht; simp [ht]
  · intro Q hQ hf
    have hf' := (show Q ((esX X p).map fun x => szX X x.2) ∧ ∀ x ∈ esX X p, fitT X Q lv x.2 from hf)
    rw [hes] at hf'
    refine ⟨?_, fun x hx' => ?_⟩
    · have e1 : a.map (fun x => szX X1 x.2) = a.map fun x => szX X x.2 := List.map_congr_left fun x hx' => hsz x (List.mem_append_left _ hx')
      have e2 : b.map (fun x => szX X1 x.2) = b.map fun x => szX X x.2 := List.map_congr_left fun x hx' => hsz x (by simp [hx'])
      have hq := hf'.1
      rw [List.map_append, List.map_cons] at hq
      rw [List.map_append, List.map_append, e1, e2]
      rcases s.sz with ⟨t, rfl, hs⟩ | ⟨t, u, rfl, h6', hs, hs'⟩
      · simp only [List.map_cons, List.map_nil, List.cons_append, List.nil_append]
        have ht : szX X1 t.2 ≤ 6 := by
          obtain ⟨w, hw⟩ := okC_mem s.ok.2 t (by simp)
          exact hw.es.2.2.1
        rcases hs with hs | hs
        · rw [hs]; exact hq
        · rw [hs]; exact hQ.grow _ _ _ hq (by omega)
      · simp only [List.map_cons, List.map_nil, List.cons_append, List.nil_append]
        rw [hs, hs']
        rw [h6'] at hq
        exact hQ.two _ _ hq
    · rcases List.mem_append.1 hx' with hx' | hx'
      · obtain ⟨w, hw⟩ := okC_mem ca x hx'
        exact fitT.ext h hx hw (hla x hx').1 (hla x hx').2 (hf'.2 x (List.mem_append_left _ hx'))
      · rcases List.mem_append.1 hx' with hx' | hx'
        · exact s.ft Q hQ (hf'.2 c (by simp)) x hx'
        · obtain ⟨w, hw⟩ := okC_mem cb x hx'
          exact fitT.ext h hx hw (hlb x hx').1 (hlb x hx').2 (hf'.2 x (by simp [hx']))
  · rw [dfN_app, dfN_app]
    have da : dfN X1 (lv + 1) a = dfN X (lv + 1) a := dfN.ext h hx fun x hx' => ⟨fun _ => by
      obtain ⟨w, hw⟩ := okC_mem ca x hx'
      exact ⟨_, _, hw⟩, (hla x hx').1, (hla x hx').2⟩
    have db : dfN X1 (lv + 1) b = dfN X (lv + 1) b := dfN.ext h hx fun x hx' => ⟨fun _ => by
      obtain ⟨w, hw⟩ := okC_mem cb x hx'
      exact ⟨_, _, hw⟩, (hlb x hx').1, (hlb x hx').2⟩
    have dp : dfT X (lv + 1) p = dfN X (lv + 1) a + ((lackZ (szX X c.2) + dfT X lv c.2) + dfN X (lv + 1) b) := by
      rw [dfT_N, hes, dfN_app]
      show _ + (((c :: b).map _).sum) = _
      rw [List.map_cons, List.sum_cons]
      rfl
    have := s.dn
    omega
end Go.Proofs.Ytmkinaijkgkgiaa
/- Put of an inner node and of a root; Swap; plain, no condition. -/
namespace Go.Proofs.Ytmkinaijkgkgiaa
open Go.RowKit Go.Proofs.U
set_option linter.unusedSimpArgs false
set_option linter.unusedVariables false
theorem cnt_le (l : List (Int × Int)) (q : Int) : (l.map (·.2)).count q ≤ l.length := by
  have := List.count_le_length (a := q) (l := l.map (·.2)); rwa [List.length_map] at this
theorem PutE.fail {X : DSt} {L : List Pg} {R : List Int} {T : List Nat} {lv : Nat} {p lo hi c clo chi : Int} {z : Int × Int} {X' : DSt} {L' : List Pg} {tops : List (Int × Int)} {e : Int} (h : PutE X L R T lv c clo chi z X' L' tops e) (he : ¬ e = 0) : PutE X L R T (lv + 1) p lo hi z X' L' [] e :=
  ⟨h.ext, h.er, fun q => by have := h.e71 q; omega, fun q hc => h.e72 q fun x => by have := hc x; omega, fun _ => rfl, fun q => absurd q he⟩
theorem put_inner {X : DSt} {L : List Pg} {R : List Int} {T : List Nat} {m lv : Nat} {p lo hi clo chi c : Int} {z : Int × Int} {X1 : DSt} {L1 : List Pg} {below es : List (Int × Int)} (k : okT X (lv + 1) p lo hi) (hx : Ext X L X1 L1) (hU : Up X1 L1.length m) (s : PutIs X L R T lv c clo chi z X1 L1 below) (r : InnerIs X L T lv p lo hi z X1 L1 below es) :
    ∃ X2 L2 tops e, splF (X1, L1) 3 es = ((X2, L2), tops, e) ∧ Up X2 L2.length (m + 2) ∧ PutE X L R T (lv + 1) p lo hi z X2 L2 tops e := by
  have h6 : szX X p ≤ 6 := k.es.2.2.1
  have h1 : 1 ≤ szX X p := k.es.2.1
  have hln := r.ln
  obtain ⟨X2, L2, tops, e, em, hx2, hup, he, h71, h72, hno, hys⟩ := split_T s.iv hU (Or.inr rfl) (by omega) (by omega) r.up r.mem
  refine ⟨X2, L2, tops, e, em, hup, hx.trans hx2, he, fun q => ?_, fun q hc => h72 q fun x => ?_, hno, fun q => ?_⟩
  · have := (h71 q).1; have := s.fr; omega
  · have := hc x; have := s.ct x; omega
  · have sp := hys q
    have w := split_row (lv := lv + 1) s.iv hx2 sp r.up r.ok (by omega) (by omega) (fun _ x hx' => ⟨(r.mem x hx').1.2.2.1, (r.mem x hx').2⟩)
    refine ⟨?_, w.up, w.ok, w.ls.trans r.ls, w.pg, by have := sp.fr; have := s.fr; omega, fun x => ?_, ?_, fun Q hQ hf t ht => w.ft Q hQ (r.ft Q hQ hf) t ht, by have := w.df; have := r.df; omega⟩
    · refine InvT.lessL (S := pgsT below) (InvT.swap sp.iv) fun t ht => ?_
      obtain ⟨x, hx', rfl⟩ := List.mem_map.1 ht
      rw [sp.ct x.2.toNat]
      have hp0 := (s.pg x hx').1
      have : 0 < (es.map (·.2)).count ((x.2.toNat : Nat) : Int) := List.count_pos_iff.2 (by
        rw [Int.toNat_of_nonneg hp0]
        exact List.mem_map_of_mem (f := fun x : Int × Int => x.2) (r.sub x hx'))
      omega
    · rw [sp.ct x]
      have := cnt_le es (x : Int)
      have := s.ct x
      omega
    · rcases w.sz with ⟨t, rfl, hs, h6'⟩ | ⟨t, u, rfl, h7, hs, hs'⟩
      · exact Or.inl ⟨t, rfl, by omega⟩
      · exact Or.inr ⟨t, u, rfl, by omega, hs, hs'⟩
/-- A tree with what is in it, its root any page that is a tree of all keys. -/
structure TreeAt (X : DSt) (Q : List Nat → Prop) (lv : Nat) (p : Int) (l : List (Int × Int)) : Prop where
  ok : okT X lv p 0 64
  ls : lsT X lv p = l
  rt : lv = 0 ∨ 2 ≤ szX X p
  ft : fitT X Q lv p
/-- What comes of Put: h is the elder tree's height. -/
structure PutR (X : DSt) (L : List Pg) (R : List Int) (T : List Nat) (Q : List Nat → Prop) (h : Nat) (l : List (Int × Int)) (X' : DSt) (L' : List Pg) (p' e : Int) : Prop where
  ext : Ext X L X' L'
  er : e = 0 ∨ e = 71 ∨ e = 72
  e71 : e = 71 → plFree L < 2 * h + 1
  e72 : e = 72 → ¬ ∀ q, cntL L q + (7 * h + 7) ≤ 255
  no : ¬ e = 0 → p' = -1
  p0 : e = 0 → 0 ≤ p'
  ys : e = 0 → ∃ lv, lv ≤ h ∧ InvT X' L' R (p'.toNat :: T) ∧ TreeAt X' Q lv p' l
  fr : e = 0 → plFree L ≤ plFree L' + (2 * h + 1)
  ct : e = 0 → ∀ q, cntL L' q ≤ cntL L q + (7 * h + 7)
/-- Of None. -/
theorem put_none {X : DSt} {L : List Pg} {R : List Int} {T : List Nat} {m : Nat} {Q : List Nat → Prop} {z : Int × Int} (h : InvT X L R T) (hU : Up X L.length m) (hz : 0 ≤ z.1 ∧ z.1 ≤ 63) (hz2 : 0 ≤ z.2 ∧ 0 < cntT L T z.2.toNat) :
    ∃ X' L' tops e, splF (X, L) 2 [z] = ((X', L'), tops, e) ∧ Up X' L'.length (m + 2) ∧ tops.length ≤ 1 ∧ (e = 0 → tops.length = 1) ∧ PutR X L R T Q 0 [z] X' L' (if e = 0 then (tops.getD 0 (0, 0)).2 else -1) e := by
  have hz239 : z.2 ≤ 239 := by have := h.low hz2.2; omega
  obtain ⟨X', L', tops, e, em, hx, hup, he, h71, h72, hno, hys⟩ := split_T (es := [z]) h hU (Or.inl rfl) (by simp) (by simp) (by simp [KeysUp]) (by
    intro x hx; simp at hx; subst hx
    exact ⟨⟨hz.1, hz.2, hz2.1, hz239⟩, hz2.2⟩)
  by_cases e0 : e = 0
  · subst e0
    have s := hys rfl
    rcases s.ways with ⟨_, p, rfl, hN, hfr⟩ | ⟨h6, _⟩
    · have hn : okN X' 0 [z] 0 64 := by intro x hx; simp at hx; subst hx; omega
      obtain ⟨tr, te⟩ := NewN.tree (lv := 0) hN hn (by simp [KeysUp])
      refine ⟨X', L', _, 0, em, hup, by simp, fun _ => rfl, ?_⟩
      rw [if_pos rfl]
      refine ⟨hx, he, fun q => absurd q (by decide), fun q => absurd q (by decide), fun q => absurd rfl q, fun _ => hN.p0, fun _ => ⟨0, Nat.le_refl _, s.iv, okT_mono tr hz.1 (Int.le_refl _), te, Or.inl rfl, trivial⟩, fun _ => by omega, fun _ q => ?_⟩
      rw [s.ct q]
      have := cnt_le [z] (q : Int)
      simp only [List.length_cons, List.length_nil] at this
      omega
    · simp at h6
  · have := hno e0
    subst this
    refine ⟨X', L', [], e, em, hup, by simp, fun q => absurd q e0, ?_⟩
    rw [if_neg e0]
    refine ⟨hx, he, fun q => ?_, fun q hc => h72 q fun x => ?_, fun _ => rfl, fun q => absurd q e0, fun q => absurd q e0, fun q => absurd q e0, fun q => absurd q e0⟩
    · have := (h71 q).2 (by simp); omega
    · have := hc x; simp only [List.length_cons, List.length_nil]; omega
theorem TreeAt.put1 {X : DSt} {L : List Pg} {R : List Int} {T : List Nat} {Q : List Nat → Prop} (hQ : QOk Q) {lv : Nat} {p : Int} {l : List (Int × Int)} {z : Int × Int} (t : TreeAt X Q lv p l) {X1 : DSt} {L1 : List Pg} {tops : List (Int × Int)} {e : Int} (s : PutE X L R T lv p 0 64 z X1 L1 tops e) (hl : ¬ 1 < tops.length) :
    (e = 0 → tops.length = 1) ∧ PutR X L R T Q (lv + 1) (putL l z) X1 L1 (if e = 0 then (tops.getD 0 (0, 0)).2 else -1) e := by
  by_cases e0 : e = 0
  · subst e0
    have i := s.ys rfl
    rcases i.sz with ⟨x, rfl, hs⟩ | ⟨x, u, rfl, _⟩
    · rw [if_pos rfl]
      have hok : okT X1 lv x.2 x.1 64 := i.ok.2
      have hx0 := i.ok.1 x (by simp)
      refine ⟨fun _ => rfl, s.ext, s.er, fun q => absurd q (by decide), fun q => absurd q (by decide), fun q => absurd rfl q, fun _ => (i.pg x (by simp)).1, fun _ => ⟨lv, by omega, i.iv, okT_mono hok hx0.1 (Int.le_refl _), ?_, ?_, i.ft Q hQ t.ft x (by simp)⟩, fun _ => by have := i.fr; omega, fun _ q => by have := i.ct q; omega⟩
      · have := i.ls
        rw [t.ls] at this
        simpa [lsN] using this
      · have := t.rt
        simp only [List.getD_cons_zero]
        omega
    · simp at hl
  · rw [if_neg e0]
    exact ⟨fun q => absurd q e0, s.ext, s.er, fun q => by have := s.e71 q; omega, fun q hc => s.e72 q fun x => by have := hc x; omega, fun _ => rfl, fun q => absurd q e0, fun q => absurd q e0, fun q => absurd q e0, fun q => absurd q e0⟩
theorem TreeAt.put2 {X : DSt} {L : List Pg} {R : List Int} {T : List Nat} {m : Nat} {Q : List Nat → Prop} (hQ : QOk Q) (hQ34 : Q [3, 4]) {lv : Nat} {p : Int} {l : List (Int × Int)} {z : Int × Int} (t : TreeAt X Q lv p l) {X1 : DSt} {L1 : List Pg} {tops : List (Int × Int)} {e : Int} (s : PutE X L R T lv p 0 64 z X1 L1 tops e) (hU : Up X1 L1.length m) (hl : 1 < tops.length) :
    e = 0 ∧ tops.length ≤ 2 ∧ ∃ X2 L2 tops2 e2, splF (X1, L1) 3 tops = ((X2, L2), tops2, e2) ∧ Up X2 L2.length (m + 2) ∧ (e2 = 0 → tops2.length = 1) ∧ PutR X L R T Q (lv + 1) (putL l z) X2 L2 (if e2 = 0 then (tops2.getD 0 (0, 0)).2 else -1) e2 := by
  have e0 : e = 0 := by
    by_cases e0 : e = 0
    · exact e0
    · have := s.no e0; rw [this] at hl; simp at hl
  subst e0
  have i := s.ys rfl
  have hlen := i.len
  have hl2 : tops.length = 2 := by omega
  refine ⟨rfl, by omega, ?_⟩
  have hmem : ∀ x ∈ tops, (0 ≤ x.1 ∧ x.1 ≤ 63 ∧ 0 ≤ x.2 ∧ x.2 ≤ 239) ∧ 0 < cntT L1 (pgsT tops ++ T) x.2.toNat := fun x hx => by
    have h1 := i.ok.1 x hx
    have h2 := i.pg x hx
    exact ⟨by omega, i.iv.mem (List.mem_append_left _ (List.mem_map_of_mem (f := fun x : Int × Int => x.2.toNat) hx))⟩
  obtain ⟨X2, L2, tops2, e2, em, hx2, hup, he, h71, h72, hno, hys⟩ := split_T i.iv hU (Or.inr rfl) (by omega) (by omega) i.up hmem
  by_cases e0 : e2 = 0
  · subst e0
    have sp := hys rfl
    have w := split_row (lv := lv + 1) i.iv hx2 sp i.up i.ok (by omega) (by omega) (fun _ x hx' => ⟨(hmem x hx').1.2.2.1, (hmem x hx').2⟩)
    rcases w.sz with ⟨x, rfl, hs, _⟩ | ⟨_, _, _, h7, _⟩
    · have hok : okT X2 (lv + 1) x.2 x.1 64 := w.ok.2
      have hx0 := w.ok.1 x (by simp)
      refine ⟨X2, L2, _, 0, em, hup, fun _ => rfl, ?_⟩
      rw [if_pos rfl]
      refine ⟨s.ext.trans hx2, Or.inl rfl, fun q => absurd q (by decide), fun q => absurd q (by decide), fun q => absurd rfl q, fun _ => (w.pg x (by simp)).1, fun _ => ⟨lv + 1, Nat.le_refl _, ?_, okT_mono hok hx0.1 (Int.le_refl _), ?_, ?_, ?_⟩, fun _ => ?_, fun _ q => ?_⟩
      · refine InvT.lessL (S := pgsT tops) (T := x.2.toNat :: T) ?_ fun y hy => ?_
        · have := InvT.swap sp.iv
          exact this
        · obtain ⟨x', hx', rfl⟩ := List.mem_map.1 hy
          rw [sp.ct x'.2.toNat]
          have hp0 := (i.pg x' hx').1
          have : 0 < (tops.map (·.2)).count ((x'.2.toNat : Nat) : Int) := List.count_pos_iff.2 (by
            rw [Int.toNat_of_nonneg hp0]
            exact List.mem_map_of_mem (f := fun x : Int × Int => x.2) hx')
          omega
      · have h1 := w.ls
        have h2 := i.ls
        rw [h2, t.ls] at h1
        simpa [lsN] using h1
      · refine Or.inr ?_
        simp only [List.getD_cons_zero]
        omega
      · refine w.ft Q hQ ?_ x (by simp)
        rcases i.sz with ⟨y, rfl, _⟩ | ⟨y, u, rfl, _, hs3, hs4⟩
        · simp at hl2
        · refine ⟨?_, fun y' hy' => i.ft Q hQ t.ft y' hy'⟩
          simp only [List.map_cons, List.map_nil]
          rw [hs3, hs4]
          exact hQ34
      · rcases sp.ways with ⟨_, p', _, _, hf⟩ | ⟨h6, _⟩
        · have := i.fr; omega
        · omega
      · rw [sp.ct q]
        have := cnt_le tops (q : Int)
        have := i.ct q
        omega
    · omega
  · refine ⟨X2, L2, tops2, e2, em, hup, fun q => absurd q e0, ?_⟩
    rw [if_neg e0]
    refine ⟨s.ext.trans hx2, he, fun q => ?_, fun q hc => h72 q fun x => ?_, fun _ => rfl, fun q => absurd q e0, fun q => absurd q e0, fun q => absurd q e0, fun q => absurd q e0⟩
    · have := (h71 q).2 (by omega); have := i.fr; omega
    · have := hc x; have := i.ct x; omega
theorem PlY.drop {X : DSt} (n : Nat) {L : List Pg} (p : Int) (h : PlY L) : PlY (dropF X n L p).1 := by
  refine dropF_inv (I := PlY) (fun M q y => ?_) n L p h
  cases hh : plHeld M q with
  | false => rw [plDrop_not hh]; exact y
  | true =>
    obtain ⟨j, rfl, hj⟩ := plHeld_in hh
    intro i
    by_cases hc : 1 < (plAt M j).c
    · rw [plDrop_less hh hc]
      simp only
      rw [plAt_set _ _ _ _ hj]
      split
      · rename_i e; subst e
        rcases y i with y | ⟨_, yc⟩
        · exact Or.inl y
        · omega
      · exact y i
    · rw [plDrop_up hh hc]
      simp only
      rw [plAt_set _ _ _ _ hj]
      split
      · rename_i e; subst e
        rcases y i with y | ⟨ys, yc⟩
        · refine Or.inr ⟨?_, rfl⟩; simp only; rw [y]; rfl
        · unfold plHeld Pg.held at hh
          rw [Int.toNat_natCast, ys, yc] at hh
          simp at hh
      · exact y i
end Go.Proofs.Ytmkinaijkgkgiaa
/- Trees in memory: open, with, parts; no condition. -/
namespace Go.Proofs.Ytmkinaijkgkgiaa
open Go.RowKit Go.Proofs.U
set_option linter.unusedSimpArgs false
set_option linter.unusedVariables false
/-- A tree's receiver: its store. -/
abbrev trV (gs : Nat) : Value := .agg #[ptr gs]
def leaf0 : Nd := ⟨2, zerB 16, []⟩
theorem tr_cell {w : World} {g gs : Nat} (h : BxV w g 24 [ptr gs]) : w.cell? ⟨g, 0, none⟩ = some (ptr gs) := (h.cell 0 _ rfl).1
theorem tr_size : (Try.prog.info? 24).map (·.size) = some 1 := by kernel_rfl
theorem tr_struct : Try.prog.underlying 24 = some (.struct (Try.prog.fieldsOf 24)) := by kernel_rfl
theorem run_ldT {w : World} {g gs : Nat} (h : BxV w g 24 [ptr gs]) : (Instr.loadAt 24 (.pointer (some ⟨g, 0, none⟩))).run Try.prog w = .ok (trV gs) w := by
  have := run_loadVar_mid (P := Try.prog) w g 0 24 [ptr gs] _ (h.range 0 _ rfl) tr_struct rfl tr_size
  simpa [Instr.loadAt, Instr.sureAddr, Result.andThen, trV] using this
theorem wpList_ldT {w : World} {ops : Array Oper} {rest : List Oper} {o : Oper} {a : Act} {Q : Exit → Act → World → Prop} (hgd : Region.wanted o (yielded ops a.tmps) = true) (y : Operand) (ho : o.op = .load 24 y) (g : Nat) (hy : a.eval y = .pointer (some ⟨g, 0, none⟩)) (gs : Nat) (hB : BxV w g 24 [ptr gs])
    (h : wpList Try.prog ops Q rest (a.put o.dst (trV gs)) w) : wpList Try.prog ops Q (o :: rest) a w := by
  refine wpList_wanted hgd fun K hK => ?_
  have hr := run_ldT hB
  unfold Oper.wp
  simp [execOp, ho, hy, hr, Result.andThen]
  exact hK _ _ h
set_option maxRecDepth 100000 in
set_option maxHeartbeats 1000000 in
theorem open_none (gs : Nat) (d : Int) (w : World) :
    Calls Try.prog 42 #[trV gs, .int .i64 (-1), .int .i64 d] w fun r w' => NOpenO w w' (leaf0, 0) r := by
  go_enter Try.func42, Try.ntmps42
  go_wp2_with (first
    | (with_reducible refine at_wpP ?_; refine wpList_boxG rfl 24 _ rfl (trV gs) [ptr gs] rfl rfl ?_; intro g3 w3 hg3 b3 f3 s3; have l3 := b3.lt; have z3 := f3.size)
    | (with_reducible refine at_wpP ?_; refine wpList_allocN rfl rfl ?_; intro g6 w6 hg6 b6 f6 s6; have l6 := b6.lt; have z6 := f6.size)
    | (with_reducible refine at_wpP ?_; refine wpList_bldN rfl _ rfl 2 (zerB 16) nilS [(0, .int .i64 2)] rfl (built_ndK 2) ?_)
    | (with_reducible refine at_wpP ?_; refine at_st 55 _ _ rfl ?_; go_must (refine wpList_stN rfl _ _ rfl g6 rfl 2 (zerB 16) nilS rfl (zerB_len 16) ⟨_, _, _, rfl⟩ 0 (zerB 16) nilS b6 (zerB_len 16) ?_; intro w7 b7 f7)))
  have F7 : Fr noB w w7 := (f3.thenN f6).thenT f7 (fun i hi q => by unfold onB1 at q; omega)
  exact bodyPost_ret (results_nd2 Try.results42 _ w7 g6 2 (zerB 16) nilS rfl b7 (zerB_len 16)) rfl ⟨nilS, rfl, ⟨⟨⟨by simp [leaf0], Sl.nil w7 2⟩, by simp [leaf0]⟩, ⟨zerB_len 16, zerB_byt 16⟩, by simp [leaf0], rfl⟩, (fun k hk => by cases hk), F7, OwnR.none _ _⟩
set_option maxRecDepth 100000 in
set_option maxHeartbeats 1000000 in
theorem open_at {F : Nat → Prop} {gs gp : Nat} {X : DSt} {L : List Pg} {m : Nat} {N : Nd} (p d : Int) (w : World) (h : Sto w F gs gp X L m) (hm : m ≤ 100000) (hp : ¬ p = -1) (hd : d < 8) (he : getF X L p = (N, 0)) (hk : ¬ N.k = 1) :
    Calls Try.prog 42 #[trV gs, .int .i64 p, .int .i64 d] w fun r w' => NOpenO w w' (N, 0) r := by
  have hG := fun W (f : Fr noB w W) => nget_own p W (h.fr0 f) hm
  rw [he] at hG
  have hp1 : (p == -1) = false := by simpa using hp
  have hd1 : decide ((8 : Int) ≤ d) = false := by simp; omega
  have hk1 : (N.k == 1) = false := by simpa using hk
  go_enter Try.func42, Try.ntmps42
  go_wp2_with (first
    | (with_reducible refine at_wpP ?_; refine wpList_boxG rfl 24 _ rfl (trV gs) [ptr gs] rfl rfl ?_; intro g3 w3 hg3 b3 f3 s3; have l3 := b3.lt; have z3 := f3.size)
    | (with_reducible refine at_wpP ?_; have q := n7; refine wpList_allocN rfl rfl ?_; intro g8 w8 hg8 b8 f8 s8; have l8 := b8.lt; have z8 := f8.size)
    | (with_reducible refine at_wpP ?_; refine wpList_allocN rfl rfl ?_; intro g6 w6 hg6 b6 f6 s6; have l6 := b6.lt; have z6 := f6.size; have q3 := tr_cell (b3.fr0 f6))
    | (go_at_call 36; go_must (refine (hG _ (f3.thenN f6)).mono ?_; rintro e w7 ⟨v, rfl, n7, o7, f7, q7⟩; have z7 := f7.size; have hv := NdS.sl n7; have hbl := NdS.bl n7; have b6' := b6.fr0 f7))
    | (with_reducible refine at_wpP ?_; refine at_st 55 _ _ rfl ?_; have q := b9; go_must (refine wpList_stN rfl _ _ rfl g6 rfl N.k N.b v rfl hbl.out hv 0 (zerB 16) nilS ((b6'.fr0 f8).fr f9 (fun q => by unfold onB1 at q; omega)) (zerB_len 16) ?_; intro w10 b10 f10))
    | (with_reducible refine at_wpP ?_; refine at_st 55 _ _ rfl ?_; have q := b8; go_must (refine wpList_stN rfl _ _ rfl g8 rfl N.k N.b v rfl hbl.out hv 0 (zerB 16) nilS b8 (zerB_len 16) ?_; intro w9 b9 f9; have z9 := f9.size; have q9 := NdB.kind b9))
    | (with_reducible refine at_wpP ?_; refine at_ld 55 _ rfl ?_; have q := b9; go_must (refine wpList_ldN rfl _ rfl g8 rfl N.k N.b v b9 hbl.out ?_)))
  have F9 : Fr noB w7 w9 := Fr.ownX f8 s8 f9
  have F10 : Fr noB w w10 := (((f3.thenN f6).thenN f7).thenN F9).thenT f10 (fun i hi q => by unfold onB1 at q; omega)
  exact bodyPost_ret (results_nd2 Try.results42 _ w10 g6 N.k N.b v rfl b10 hbl.out) rfl ⟨v, rfl, (n7.fr0 F9).frS f10 (fun k hk q => by have := o7 k hk; unfold onB1 at q; omega), (fun k hk => by have := o7 k hk; omega), F10, ((q7.fr0 F9).fr f10 (fun k hk q => by have := o7 k hk; unfold onB1 at q; omega)).rebase (by omega)⟩
end Go.Proofs.Ytmkinaijkgkgiaa
