/- Texts W2, W3 of the proof of RootRuns, one behind the other. -/
import Derived.Test.YtijgfojnppcbjaaBundleRootRuns1
import Derived.Test.YtijgfojnppcbjaaBundleRootRuns2
import Derived.Test.YtijgfojnppcbjaaBundleRootRuns3
import Derived.Test.YtijgfojnppcbjaaBundleRootRuns4
import Derived.Test.YtijgfojnppcbjaaBundleRootRuns5
import Derived.Test.YtijgfojnppcbjaaBundleRootRuns6
import Derived.Test.YtijgfojnppcbjaaBundleRootRuns7
import Derived.Test.YtijgfojnppcbjaaBundleRootRuns8
import Derived.Test.YtijgfojnppcbjaaBundleRootRuns9
import Derived.Test.YtijgfojnppcbjaaBundleRootRuns10
import Derived.Test.YtijgfojnppcbjaaBundleRootRuns11
import Derived.Test.YtijgfojnppcbjaaBundleRootRuns12
/- The document's root as a page: Page; number. -/
namespace Go.Proofs.Ytijgfojnppcbjaa
open Go.RowKit Go.Proofs.U
set_option linter.unusedSimpArgs false
set_option linter.unusedVariables false
theorem pair_info : (Try.prog.info? 85).map (fun i => (i.zero, i.size)) = some (some (.agg ([.int .u64 0, .int .u64 0] : List Value).toArray), 2) := by kernel_rfl
/-- The place in the stream of a byte of a page. -/
def kpos (i : Nat) : Nat := i / 32 * 24 + (i % 32 - 8)
theorem kpos_head {i : Nat} (h : i % 32 < 8) : kpos (i + 1) = kpos i := by unfold kpos; omega
theorem kpos_rest {i : Nat} (h : ¬ i % 32 < 8) : kpos (i + 1) = kpos i + 1 := by unfold kpos; omega
theorem kpos_lt {i : Nat} (h : i < 256) : kpos i ≤ 192 := by unfold kpos; omega
/-- The root's first k bytes, zeros behind them. -/
def rootN (g : Int) (c : List Int) (k : Nat) : List Int := (List.range 256).map fun i => if i < k then (rootP g c).getD i 0 else 0
theorem rootN_len (g : Int) (c : List Int) (k : Nat) : (rootN g c k).length = 256 := by unfold rootN; rw [List.length_map, List.length_range]
theorem rootN_get (g : Int) (c : List Int) (k i : Nat) (h : i < 256) : (rootN g c k).getD i 0 = if i < k then (rootP g c).getD i 0 else 0 := getD_map _ _ _ h
theorem rootN_zero (g : Int) (c : List Int) : rootN g c 0 = zeroP := by
  apply ext_getD
  · rw [rootN_len, zeroP_len]
  · intro i hi
    rw [rootN_len] at hi
    rw [rootN_get _ _ _ _ hi, if_neg (by omega)]
    unfold zeroP
    rw [List.getD, List.getElem?_replicate, if_pos hi]; rfl
theorem rootN_end (g : Int) (c : List Int) : rootN g c 256 = rootP g c := by
  apply ext_getD
  · rw [rootN_len, rootP_len]
  · intro i hi
    rw [rootN_len] at hi
    rw [rootN_get _ _ _ _ hi, if_pos hi]
theorem set_getD (l : List Int) (k : Nat) (y : Int) (i : Nat) (hk : k < l.length) : (l.set k y).getD i 0 = if i = k then y else l.getD i 0 := by
  simp only [List.getD]
  rw [List.getElem?_set]
  by_cases h : k = i
  · subst h; simp [hk]
  · rw [if_neg h, if_neg (fun e => h e.symm)]
theorem rootN_succ (g : Int) (c : List Int) (k : Nat) (hk : k < 256) (y : Int) (hy : (rootP g c).getD k 0 = y) : rootN g c (k + 1) = (rootN g c k).set k y := by
  apply ext_getD
  · rw [List.length_set, rootN_len, rootN_len]
  · intro i hi
    rw [rootN_len] at hi
    rw [set_getD _ _ _ _ (by rw [rootN_len]; exact hk), rootN_get _ _ _ _ hi, rootN_get _ _ _ _ hi]
    by_cases h : i = k
    · subst h; rw [if_pos (by omega), if_pos rfl, hy]
    · rw [if_neg h]
      by_cases h2 : i < k
      · rw [if_pos (by omega), if_pos h2]
      · rw [if_neg (by omega), if_neg h2]
theorem rootN_same (g : Int) (c : List Int) (k : Nat) (hk : k < 256) (hy : (rootP g c).getD k 0 = 0) : rootN g c (k + 1) = rootN g c k := by
  rw [rootN_succ g c k hk 0 hy]
  apply ext_getD
  · rw [List.length_set]
  · intro i hi
    rw [List.length_set, rootN_len] at hi
    rw [set_getD _ _ _ _ (by rw [rootN_len]; exact hk)]
    split
    · rename_i h; subst h; rw [rootN_get _ _ _ _ hi, if_neg (by omega)]
    · rfl
theorem rootP_head (g : Int) (c : List Int) {i : Nat} (hi : i < 256) (h : i % 32 < 8) : (rootP g c).getD i 0 = (leB 8 g).getD (i % 32) 0 := by rw [rootP_get _ _ _ hi, if_pos h]
theorem rootP_rest (g : Int) (c : List Int) {i : Nat} (hi : i < 256) (h : ¬ i % 32 < 8) : (rootP g c).getD i 0 = (strm c).getD (kpos i) 0 := by
  rw [rootP_get _ _ _ hi, if_neg h, st192, getD_map _ _ _ (by omega)]; rfl

set_option maxRecDepth 100000 in
set_option maxHeartbeats 4000000 in
theorem page_any (G : Int) (hG : 0 ≤ G ∧ G < 18446744073709551616) (vc : Value) (c : List Int) (hc : c.length ≤ 186) (w : World) (hS : SlI .u8 w vc c) :
    Calls Try.prog 16 #[.int .u64 G, vc] w fun e w' => e = .returned (pgV (rootP G c)) ∧ Fr noB w w' := by
  obtain ⟨ac, cc, rfl, hcc⟩ := hS.opn
  have hb : Byt c := hS.2
  obtain ⟨ZP, HZP⟩ : ∃ Z, Hid (zeroP = Z) := ⟨_, rfl⟩
  have hZPl : Hid (ZP.length = 256) := by show _ = _; rw [← HZP.out]; exact zeroP_len
  obtain ⟨R, HR⟩ : ∃ R, Hid (rootP G c = R) := ⟨_, rfl⟩
  have hRl : Hid (R.length = 256) := by show _ = _; rw [← HR.out, rootP_len]
  rw [HR.out]
  obtain ⟨N8, HN8⟩ : ∃ N, Hid (leB 8 G = N) := ⟨_, rfl⟩
  obtain ⟨L2, HL2⟩ : ∃ N, Hid (leB 2 c.length = N) := ⟨_, rfl⟩
  have hN8l : Hid (N8.length = 8) := by show _ = _; rw [← HN8.out, leB_length]
  have hL2l : Hid (L2.length = 2) := by show _ = _; rw [← HL2.out, leB_length]
  have hN8b : Byt N8 := by rw [← HN8.out]; exact byt_le 8 G
  have hL2b : Byt L2 := by rw [← HL2.out]; exact byt_le 2 _
  obtain ⟨ST, HST⟩ : ∃ S, Hid (strm c = S) := ⟨_, rfl⟩
  have hSTl : Hid (ST.length = c.length + 6) := by show _ = _; rw [← HST.out, strm_len]
  have hSTb : Byt ST := by rw [← HST.out]; exact strm_byt hb
  have hseal : Hid (sealI (L2 ++ c) = ST) := by show _ = _; rw [← HL2.out]; exact HST.out
  have put8 : Hid (putB 8 [G] = N8) := by show _ = _; rw [← HN8.out]; simp [putB]
  have put2 : Hid (putB 2 [(c.length : Int)] = L2) := by show _ = _; rw [← HL2.out]; simp [putB]
  have hwc : IntKind.u64.wrap (c.length : Int) = c.length := wrap_u64_id _ (by omega) (by omega)
  go_enter Try.func16, Try.ntmps16
  go_wp2_with (first
    | (with_reducible refine at_wpP ?_; have f8' := f8; refine wpList_allocP rfl rfl ?_; rw [HZP.out]; intro g7 w9 hg7 b9 f9 s9; have l9 := b9.lt)
    | (with_reducible refine at_wpP ?_; refine wpList_allocP rfl rfl ?_; rw [HZP.out]; intro g0 w1 hg0 b1 f1 s1; have l1 := b1.lt; have z1 := f1.size)
    | (with_reducible refine at_wpP ?_; have i6' := i6; refine wpList_mk1 (ec := pW 8) (sz := 2) rfl 110 _ rfl 85 Try.underlying110 _ pair_info (by decide) (by decide) G _ rfl rfl rfl ?_; intro g6 w7 s7 f7 r7 t7)
    | (with_reducible refine at_wpP ?_; refine wpList_mk1 (ec := pW 2) (sz := 2) rfl 110 _ rfl 85 Try.underlying110 _ pair_info (by decide) (by decide) (c.length : Int) _ rfl rfl rfl ?_; intro g2 w2 s2 f2 r2 t2)
    | (go_at_call 37; have s7' := s7; go_must (refine (fieldsW_any 8 (by decide) _ [G] _ s7 (by intro n hn; simp at hn; subst hn; exact hG) (by simp)).mono ?_; rw [put8.out]; rintro e w8 ⟨v8, rfl, o8, f8⟩; have i8 := o8.sl hN8b; obtain ⟨a8, c8, rfl⟩ := o8.opn))
    | (go_at_call 37; go_must (refine (fieldsW_any 2 (by decide) _ [(c.length : Int)] _ s2 (by intro n hn; simp at hn; subst hn; omega) (by simp)).mono ?_; rw [put2.out]; rintro e w3 ⟨v3, rfl, o3, f3⟩; have sC := ((hS.fr0 f1).fr0 f2).fr0 f3; obtain ⟨a3, c3, rfl⟩ := o3.opn))
    | (at_builtin; go_must (refine wpList_app rfl _ _ 24 rfl w2.heap.size 5 _ 1 1 Try.underlying24 info5 rfl (by decide) _ _ _ rfl o3 _ _ _ rfl sC.1 ?h1 ?hq1 ?hq2 ?hq3 ?_; rotate_left 4; intro v4 w4 hown4 hgr4; have o4 : OwnI .u8 5 w4 w2.heap.size v4 (L2 ++ c) := OwnI.mk _ hown4 (by simp); have f4 := (Fr.refl (fun _ => True) w3).grown hgr4 (fun _ _ _ => trivial); have i4 := o4.sl (hL2b.app hb); have G4 : Fr noB w2 w4 := f3.grown hgr4 (owns_new o3)))
    | (go_at_call 36; go_must (refine (rseal_any _ (L2 ++ c) _ i4 (by have := hL2l.out; rw [List.length_append]; omega)).mono ?_; rw [hseal.out]; rintro e w5 ⟨v5, rfl, o5, f5⟩; have i6 := o5.sl hSTb; obtain ⟨a5, c5, rfl⟩ := o5.opn))
    | (with_reducible refine at_wpP ?_; refine wpList_buildP rfl rfl ?_; rw [HZP.out])
    | (with_reducible refine at_wpP ?_; refine at_st 46 _ _ rfl ?_; go_must (refine wpList_storeP rfl _ _ rfl g7 rfl ZP rfl _ b9 hZPl.out hZPl.out ?_; intro w10 b10 f10)))
  case h1 => exact Go.Proofs.U.ones _ _
  case hq1 => have := hL2l.out; unfold maxLen; omega
  case hq2 => have := hL2l.out; omega
  case hq3 => exact f3.size
  have z2 := f2.size
  have z4 := G4.size
  have z5 := f5.size
  have z7 := f7.size
  have z8 := f8.size
  have z9 := f9.size
  have F5 : Fr noB w w5 := ((f1.thenN f2).thenN G4).thenN f5
  have F8 : Fr noB w w8 := (F5.thenN f7).thenN f8
  have F10 : Fr noB w w10 := (F8.thenN f9).thenT f10 (fun i hi q => by unfold onB1 at q; omega)
  have c0 : BxV w10 g0 46 (pgv ZP) := ((((((b1.fr0 f2).fr0 G4).fr0 f5).fr0 f7).fr0 f8).fr0 f9).ne f10 (by omega)
  have n8 : ∀ k, (Value.slice a8 N8.length c8).ownBlock = some k → k < g7 := fun k hk => by have := (o8.newB k hk).2; omega
  have n5 : ∀ k, (Value.slice a5 ST.length c5).ownBlock = some k → k < g7 := fun k hk => by have := (o5.newB k hk).2; omega
  have I8 : SlI .u8 w10 (.slice a8 N8.length c8) N8 := (i8.fr0 f9).fr f10 (fun k hk q => by have := n8 k hk; unfold onB1 at q; omega)
  have I5 : SlI .u8 w10 (.slice a5 ST.length c5) ST := (((i6.fr0 f7).fr0 f8).fr0 f9).fr f10 (fun k hk q => by have := n5 k hk; unfold onB1 at q; omega)
  have hg07 : g0 ≠ g7 := by omega
  clear i8 i6 i4 sC o3 o4 o5 o8 s2 s7 b1 b9 hown4 hgr4 f4
  go_loopw [8, 24] (fun t i wr => ∃ (k : Nat) (l : List Int), k ≤ 256 ∧ i = .int .i64 (k : Int) ∧ t = .int .i64 ((kpos k : Nat) : Int) ∧ Hid (l = rootN G c k) ∧ BxV wr g7 46 (pgv l) ∧ BxV wr g0 46 (pgv ZP) ∧ SlI .u8 wr (.slice a8 N8.length c8) N8 ∧ SlI .u8 wr (.slice a5 ST.length c5) ST ∧ Fr noB w wr) (fun _ i _ => 256 - (intOf i).toNat)
  case atStart => exact ⟨0, ZP, by omega, rfl, rfl, show _ = _ by rw [← HZP.out, rootN_zero], b10, c0, I8, I5, F10⟩
  case round =>
    obtain ⟨k, l, hk, rfl, rfl, hl, hB, hC, h8, h5, hf⟩ := hrel
    have hll : Hid (l.length = 256) := by show _ = _; rw [hl.out, rootN_len]
    by_cases hlt : k < 256
    · have d1 : (0 : Int) ≤ (k : Int) := by omega
      have d2 : (k : Int) < 256 := by omega
      have hkp := kpos_lt hlt
      have hmod : (k : Int).tmod 32 = ((k % 32 : Nat) : Int) := by rw [Int.tmod_eq_emod_of_nonneg (by omega)]; omega
      by_cases hh : k % 32 < 8
      · have hh' : ((k % 32 : Nat) : Int) < 8 := by omega
        have hkn := show Hid _ from kpos_head hh
        have hj : k % 32 < N8.length := by rw [hN8l.out]; exact hh
        obtain ⟨y, Hy⟩ : ∃ y, Hid (N8.getD (k % 32) 0 = y) := ⟨_, rfl⟩
        have hs := show Hid _ from rootN_succ G c k hlt y (by rw [rootP_head G c hlt hh, HN8.out]; exact Hy.out)
        rw [← hl.out] at hs
        go_wp2_with (first
          | (refine at_idx 24 _ _ rfl ?_; go_must (refine wpList_idx1 rfl 24 _ _ rfl 5 Try.underlying24 size5 _ _ _ rfl h8.1 _ _ (k % 32) rfl (by first | rfl | exact hmod) hj ?_; intro pa u hu hcell; obtain rfl := getu _ _ _ _ hu; rw [Hy.out] at hcell))
          | (with_reducible refine at_wpP ?_; refine at_st 5 _ _ rfl ?_; go_must (refine wpList_store1 rfl 5 _ _ rfl g7 k (by simp [Act.eval]) (.int .u8 y) rfl rfl _ _ hB size_u8 (by rw [pgv_len, hll.out]; exact hlt) ?_; intro w4' b4' f4'; rw [pgv_set] at b4'; have c4' := hC.ne f4' hg07)))
        go_roundw
        case rel => exact ⟨k + 1, _, by omega, by go_num, by rw [hkn.out], show _ = _ from hs.out.symm, b4', c4', h8.fr f4' (fun q hq e => by have := n8 q hq; unfold onB1 at e; omega), h5.fr f4' (fun q hq e => by have := n5 q hq; unfold onB1 at e; omega), hf.thenT f4' (fun i hi q => by unfold onB1 at q; omega)⟩
        case measure => simp [intOf]; omega
      · have hh' : ¬ ((k % 32 : Nat) : Int) < 8 := by omega
        have hkn := show Hid _ from kpos_rest hh
        by_cases hin : kpos k < ST.length
        · have hin' : ((kpos k : Nat) : Int) < (ST.length : Int) := by omega
          obtain ⟨y, Hy⟩ : ∃ y, Hid (ST.getD (kpos k) 0 = y) := ⟨_, rfl⟩
          have hs := show Hid _ from rootN_succ G c k hlt y (by rw [rootP_rest G c hlt hh, HST.out]; exact Hy.out)
          rw [← hl.out] at hs
          obtain ⟨K, HK⟩ : ∃ K, Hid (kpos k = K) := ⟨_, rfl⟩
          rw [HK.out] at hkp hin hin' hkn Hy ⊢
          go_wp2_with (first
            | (refine at_idx 24 _ _ rfl ?_; go_must (refine wpList_idx1 rfl 24 _ _ rfl 5 Try.underlying24 size5 _ _ _ rfl h5.1 _ _ K rfl rfl hin ?_; intro pa u hu hcell; obtain rfl := getu _ _ _ _ hu; rw [Hy.out] at hcell))
            | (with_reducible refine at_wpP ?_; refine at_st 5 _ _ rfl ?_; go_must (refine wpList_store1 rfl 5 _ _ rfl g7 k (by simp [Act.eval]) (.int .u8 y) rfl rfl _ _ hB size_u8 (by rw [pgv_len, hll.out]; exact hlt) ?_; intro w4' b4' f4'; rw [pgv_set] at b4'; have c4' := hC.ne f4' hg07)))
          go_roundw
          case rel => exact ⟨k + 1, _, by omega, by go_num, by rw [hkn.out]; go_num, show _ = _ from hs.out.symm, b4', c4', h8.fr f4' (fun q hq e => by have := n8 q hq; unfold onB1 at e; omega), h5.fr f4' (fun q hq e => by have := n5 q hq; unfold onB1 at e; omega), hf.thenT f4' (fun i hi q => by unfold onB1 at q; omega)⟩
          case measure => simp [intOf]; omega
        · have hin' : ¬ ((kpos k : Nat) : Int) < (ST.length : Int) := by omega
          have hs := show Hid _ from rootN_same G c k hlt (by rw [rootP_rest G c hlt hh, HST.out]; simp [List.getD, hin])
          rw [← hl.out] at hs
          obtain ⟨K, HK⟩ : ∃ K, Hid (kpos k = K) := ⟨_, rfl⟩
          rw [HK.out] at hkp hin hin' hkn ⊢
          go_wp2
          go_roundw
          case rel => exact ⟨k + 1, l, by omega, by go_num, by rw [hkn.out]; go_num, show _ = _ from hs.out.symm, hB, hC, h8, h5, hf⟩
          case measure => simp [intOf]; omega
    · obtain rfl : k = 256 := by omega
      have hlR : l = R := by rw [hl.out, rootN_end, HR.out]
      subst hlR
      go_wp2_with (first
        | (with_reducible refine at_wpP ?_; refine wpList_loadP rfl _ rfl g7 rfl _ hB hRl.out ?_)
        | (with_reducible refine at_wpP ?_; refine wpList_storeP rfl _ _ rfl g0 rfl _ rfl _ hC hRl.out hZPl.out ?_; intro w9' b9' f9'))
      refine bodyPost_ret (v := pgV l) (results_page Try.results16 _ w9' g0 l rfl b9' hRl.out) rfl ⟨rfl, ?_⟩
      exact hf.thenT f9' (fun i hi q => by unfold onB1 at q; omega)

theorem leNum_at (p : List Int) (a j : Nat) (h : a < p.length) : leNum ((p.drop a).take (j + 1)) = p.getD a 0 + 256 * leNum ((p.drop (a + 1)).take j) := by
  rw [List.drop_eq_getElem_cons h, List.take_succ_cons]
  simp [leNum, List.getD, h]
theorem leNum_bd8 {p : List Int} (hb : Byt p) (a j : Nat) (hj : j ≤ 7) : 0 ≤ leNum ((p.drop a).take j) ∧ leNum ((p.drop a).take j) < 72057594037927936 := by
  have h1 := leNum_bd ((p.drop a).take j) (fun x hx => u8_bd (((hb.drop _).take _) x hx))
  have h2 : ((p.drop a).take j).length ≤ 7 := by simp; omega
  refine ⟨h1.1, Int.lt_of_lt_of_le h1.2 ?_⟩
  generalize ((p.drop a).take j).length = n at h2
  clear h1
  have : n = 0 ∨ n = 1 ∨ n = 2 ∨ n = 3 ∨ n = 4 ∨ n = 5 ∨ n = 6 ∨ n = 7 := by omega
  rcases this with rfl | rfl | rfl | rfl | rfl | rfl | rfl | rfl <;> decide

set_option maxRecDepth 100000 in
set_option maxHeartbeats 2000000 in
theorem number_any (p : List Int) (hp : p.length = 256) (hb : Byt p) (s : Nat) (hs : s < 8) (z : Int) (hz : z = (s : Int) * 32) (w : World) :
    Calls Try.prog 47 #[pgV p, .int .i64 z] w fun e w' => e = .returned (.int .u64 (genAt p s)) ∧ Fr noB w w' := by
  subst hz
  have Hp := show Hid _ from hp
  clear hp
  obtain ⟨A, HA⟩ : ∃ A : Nat, Hid (s * 32 = A) := ⟨_, rfl⟩
  have hA : (s : Int) * 32 = (A : Int) := by have := HA.out; omega
  have hA9 : A ≤ 224 := by have := HA.out; omega
  rw [hA]
  obtain ⟨G, HG⟩ : ∃ G, Hid (genAt p s = G) := ⟨_, rfl⟩
  rw [HG.out]
  have hG : Hid (leNum ((p.drop A).take 8) = G) := by show _ = _; rw [← HG.out, ← HA.out]; rfl
  go_enter Try.func47, Try.ntmps47
  go_wp2_with (first
    | (with_reducible refine at_wpP ?_; refine wpList_boxV rfl 46 _ rfl (pgv p) rfl ?_; intro g1 w1 hg1 b1 f1 s1))
  go_loopw [5, 6] (fun t i wr => ∃ (j : Nat) (n : Int), j ≤ 8 ∧ i = .int .i64 (7 - (j : Int)) ∧ t = .int .u64 n ∧ Hid (n = leNum ((p.drop (A + 8 - j)).take j)) ∧ BxV wr g1 46 (pgv p) ∧ Fr noB w wr) (fun _ i _ => (intOf i + 1).toNat)
  case atStart => exact ⟨0, 0, by omega, rfl, rfl, show _ = _ by simp [leNum], b1, f1⟩
  case round =>
    obtain ⟨j, n, hj, rfl, rfl, hn, hB, hf⟩ := hrel
    by_cases hlt : j < 8
    · have d0 : (0 : Int) ≤ 7 - (j : Int) := by omega
      have d1 : (0 : Int) ≤ (A : Int) + (7 - (j : Int)) := by omega
      have d2 : (A : Int) + (7 - (j : Int)) < 256 := by omega
      obtain ⟨Q, HQ⟩ : ∃ Q : Nat, Hid (A + 7 - j = Q) := ⟨_, rfl⟩
      have hq : (A : Int) + (7 - (j : Int)) = (Q : Int) := by have := HQ.out; omega
      have hQl : Q < p.length := by have := HQ.out; have := Hp.out; omega
      have hx := hb.at Q
      obtain ⟨x, Hx⟩ : ∃ x, Hid (p.getD Q 0 = x) := ⟨_, rfl⟩
      rw [Hx.out] at hx
      obtain ⟨q0, _⟩ := hB.cell Q (.int .u8 x) (by rw [pgv_get p Q hQl, ← Hx.out]; simp [List.getD, hQl])
      have hnb := leNum_bd8 hb (A + 8 - j) j (by omega)
      rw [← hn.out] at hnb
      have hs1 : Hid (leNum ((p.drop (A + 8 - (j + 1))).take (j + 1)) = n * 256 + x) := by
        show _ = _
        have h1 : A + 8 - (j + 1) = Q := by have := HQ.out; omega
        rw [h1, leNum_at p Q j hQl, Hx.out, show Q + 1 = A + 8 - j by have := HQ.out; omega, ← hn.out]
        omega
      have e1 : IntKind.u64.wrap (n * 256) = n * 256 := wrap_u64_id _ (by omega) (by omega)
      have e2 : IntKind.u64.wrap (n * 256 + x) = n * 256 + x := wrap_u64_id _ (by omega) (by omega)
      have e3 : IntKind.u64.wrap x = x := wrap_u64_id _ (by omega) (by omega)
      go_wp2
      go_roundw
      case rel => exact ⟨j + 1, n * 256 + x, by omega, by go_num, rfl, show _ = _ from hs1.out.symm, hB, hf⟩
      case measure => simp [intOf]; omega
    · obtain rfl : j = 8 := by omega
      have hnG : n = G := by rw [hn.out, Nat.add_sub_cancel]; exact hG.out
      subst hnG
      go_wp2
      go_ret
      exact ⟨rfl, hf⟩
end Go.Proofs.Ytijgfojnppcbjaa
/- The document's open. (Written by w3_gen.py.) -/
namespace Go.Proofs.Ytijgfojnppcbjaa
open Go.RowKit Go.Proofs.U
set_option linter.unusedSimpArgs false
set_option linter.unusedVariables false
/-- What open tells of a page in a slot. -/
def opn (p : List Int) (s : Nat) : List Int × Int × Bool :=
  if genAt p 0 = 0 ∨ genAt p 0 % 2 ≠ (s : Int) ∨ 186 < lenOf p then ([], 0, false) else (contOf p, genAt p 0, rootP (genAt p 0) (contOf p) == p)
theorem lenOf_two {p : List Int} : lenOf p = p.getD 8 0 + 256 * p.getD 9 0 := by
  unfold lenOf
  have h0 : (strmOf p).take 2 = [p.getD 8 0, p.getD 9 0] := by
    apply ext_getD
    · simp [strmOf_len]
    · intro i hi
      have hi2 : i < 2 := by rw [List.length_take] at hi; omega
      have e : ((strmOf p).take 2).getD i 0 = (strmOf p).getD i 0 := by simp [List.getD, List.getElem?_take, hi2]
      rw [e, strmOf, getD_map _ _ _ (by omega)]
      have : i = 0 ∨ i = 1 := by omega
      rcases this with rfl | rfl <;> rfl
  rw [h0]
  simp [leNum]
theorem strm_at {p : List Int} {k : Nat} (hk : k < 256) (h : ¬ k % 32 < 8) : (strmOf p).getD (kpos k) 0 = p.getD k 0 := by
  have : kpos k < 192 := by unfold kpos; omega
  rw [strmOf, getD_map _ _ _ this]
  congr 1
  unfold kpos; omega
theorem take_more (l : List Int) (m : Nat) (h : m < l.length) : l.take (m + 1) = l.take m ++ [l.getD m 0] := by
  rw [List.take_succ_eq_append_getElem h]; simp [List.getD, h]
/-- What open answers. -/
def OpenIs (w w' : World) (p : List Int) (s : Nat) (e : Ending) : Prop := ∃ v, e = .returned (.tuple #[v, .int .u64 (opn p s).2.1, .bool (opn p s).2.2]) ∧ SlI .u8 w' v (opn p s).1 ∧ Fr noB w w'

set_option maxRecDepth 100000 in
set_option maxHeartbeats 4000000 in
theorem open_no (p : List Int) (hp : p.length = 256) (hb : Byt p) (s : Nat) (hs : s < 2) (w : World) (hno : genAt p 0 = 0 ∨ genAt p 0 % 2 ≠ (s : Int) ∨ 186 < lenOf p) :
    Calls Try.prog 46 #[pgV p, .int .i64 (s : Int)] w fun e w' => OpenIs w w' p s e := by
  have Hp := show Hid _ from hp
  clear hp
  have ho : opn p s = ([], 0, false) := by unfold opn; rw [if_pos hno]
  unfold OpenIs
  rw [ho]
  have hnum := show Hid _ from fun W => number_any p Hp.out hb 0 (by decide) 0 (by simp) W
  have hlen2 := lenOf_two (p := p)
  have hGb := genAt_bd hb 0
  obtain ⟨G, HG⟩ : ∃ G, Hid (genAt p 0 = G) := ⟨_, rfl⟩
  rw [HG.out] at hno hGb
  simp only [HG.out] at hnum
  obtain ⟨x, Hx⟩ : ∃ x, Hid (p.getD 8 0 = x) := ⟨_, rfl⟩
  obtain ⟨y, Hy⟩ : ∃ y, Hid (p.getD 9 0 = y) := ⟨_, rfl⟩
  have hx := hb.at 8
  have hy := hb.at 9
  have hq8 : Hid ((pgv p)[8]? = some (.int .u8 x)) := by show _ = _; rw [pgv_get p 8 (by rw [Hp.out]; decide), ← Hx.out]; simp [List.getD, show 8 < p.length by rw [Hp.out]; decide]
  have hq9 : Hid ((pgv p)[9]? = some (.int .u8 y)) := by show _ = _; rw [pgv_get p 9 (by rw [Hp.out]; decide), ← Hy.out]; simp [List.getD, show 9 < p.length by rw [Hp.out]; decide]
  rw [Hx.out] at hx
  rw [Hy.out] at hy
  rw [hlen2, Hx.out, Hy.out] at hno
  clear hlen2
  have ex : IntKind.i64.wrap x = x := by rw [IntKind.wrap_i64]; omega
  have ey : IntKind.i64.wrap y = y := by rw [IntKind.wrap_i64]; omega
  have em : IntKind.i64.wrap (256 * y) = 256 * y := by rw [IntKind.wrap_i64]; omega
  have es : IntKind.i64.wrap (x + 256 * y) = x + 256 * y := by rw [IntKind.wrap_i64]; omega
  have etm : G.tmod 2 = G % 2 := Int.tmod_eq_emod_of_nonneg hGb.1
  have ewm : IntKind.i64.wrap (G % 2) = G % 2 := by rw [IntKind.wrap_i64]; omega
  by_cases h0 : G = 0
  · subst h0
    go_enter Try.func46, Try.ntmps46
    go_wp2_with (first
      | (with_reducible refine at_wpP ?_; refine wpList_boxV rfl 46 _ rfl (pgv p) rfl ?_; intro g2 w1 hg2 b1 f1 s1)
      | (with_reducible refine at_wpP ?_; refine at_ld 46 _ rfl ?_; go_must (refine wpList_loadP rfl _ rfl g2 rfl _ b1 Hp.out ?_))
      | (go_at_call 47; go_must (refine (hnum.out _).mono ?_; rintro e w2 ⟨rfl, f2⟩; have b2 := b1.fr0 f2; obtain ⟨q8, _⟩ := b2.cell 8 _ hq8.out; obtain ⟨q9, _⟩ := b2.cell 9 _ hq9.out)))
    go_ret3
    exact ⟨_, rfl, SlI.nil _ _, f1.thenN f2⟩
  · have h0' : (G == 0) = false := by simpa using h0
    by_cases h1 : G % 2 = (s : Int)
    · have h2 : 186 < x + 256 * y := by
        rcases hno with h | h | h
        · exact absurd h h0
        · exact absurd h1 h
        · exact h
      go_enter Try.func46, Try.ntmps46
      go_wp2_with (first
        | (with_reducible refine at_wpP ?_; refine wpList_boxV rfl 46 _ rfl (pgv p) rfl ?_; intro g2 w1 hg2 b1 f1 s1)
        | (with_reducible refine at_wpP ?_; refine at_ld 46 _ rfl ?_; go_must (refine wpList_loadP rfl _ rfl g2 rfl _ b1 Hp.out ?_))
        | (go_at_call 47; go_must (refine (hnum.out _).mono ?_; rintro e w2 ⟨rfl, f2⟩; have b2 := b1.fr0 f2; obtain ⟨q8, _⟩ := b2.cell 8 _ hq8.out; obtain ⟨q9, _⟩ := b2.cell 9 _ hq9.out)))
      go_ret3
      exact ⟨_, rfl, SlI.nil _ _, f1.thenN f2⟩
    · go_enter Try.func46, Try.ntmps46
      go_wp2_with (first
        | (with_reducible refine at_wpP ?_; refine wpList_boxV rfl 46 _ rfl (pgv p) rfl ?_; intro g2 w1 hg2 b1 f1 s1)
        | (with_reducible refine at_wpP ?_; refine at_ld 46 _ rfl ?_; go_must (refine wpList_loadP rfl _ rfl g2 rfl _ b1 Hp.out ?_))
        | (go_at_call 47; go_must (refine (hnum.out _).mono ?_; rintro e w2 ⟨rfl, f2⟩; have b2 := b1.fr0 f2; obtain ⟨q8, _⟩ := b2.cell 8 _ hq8.out; obtain ⟨q9, _⟩ := b2.cell 9 _ hq9.out)))
      go_ret3
      exact ⟨_, rfl, SlI.nil _ _, f1.thenN f2⟩

set_option maxRecDepth 100000 in
set_option maxHeartbeats 4000000 in
theorem open_yes (p : List Int) (hp : p.length = 256) (hb : Byt p) (s : Nat) (hs : s < 2) (w : World) (hno : ¬ (genAt p 0 = 0 ∨ genAt p 0 % 2 ≠ (s : Int) ∨ 186 < lenOf p)) :
    Calls Try.prog 46 #[pgV p, .int .i64 (s : Int)] w fun e w' => OpenIs w w' p s e := by
  have Hp := show Hid _ from hp
  clear hp
  have ho : opn p s = (contOf p, genAt p 0, rootP (genAt p 0) (contOf p) == p) := by unfold opn; rw [if_neg hno]
  unfold OpenIs
  rw [ho]
  have hnum := show Hid _ from fun W => number_any p Hp.out hb 0 (by decide) 0 (by simp) W
  have hlen2 := lenOf_two (p := p)
  have hG := genAt_bd hb 0
  have hCl : (contOf p).length ≤ 186 := by rw [contOf_len hb (by omega)]; omega
  have hCb := contOf_byt hb
  have hcl : Hid ((contOf p).length = (lenOf p).toNat) := contOf_len hb (by omega)
  have hcd : Hid (contOf p = ((strmOf p).drop 2).take (lenOf p).toNat) := rfl
  obtain ⟨G, HG⟩ : ∃ G, Hid (genAt p 0 = G) := ⟨_, rfl⟩
  rw [HG.out] at hno hG ⊢
  simp only [HG.out] at hnum
  obtain ⟨C, HC⟩ : ∃ C, Hid (contOf p = C) := ⟨_, rfl⟩
  rw [HC.out] at hCl hCb hcl hcd ⊢
  obtain ⟨x, Hx⟩ : ∃ x, Hid (p.getD 8 0 = x) := ⟨_, rfl⟩
  obtain ⟨y, Hy⟩ : ∃ y, Hid (p.getD 9 0 = y) := ⟨_, rfl⟩
  have hx := hb.at 8
  have hy := hb.at 9
  have hq8 : Hid ((pgv p)[8]? = some (.int .u8 x)) := by show _ = _; rw [pgv_get p 8 (by rw [Hp.out]; decide), ← Hx.out]; simp [List.getD, show 8 < p.length by rw [Hp.out]; decide]
  have hq9 : Hid ((pgv p)[9]? = some (.int .u8 y)) := by show _ = _; rw [pgv_get p 9 (by rw [Hp.out]; decide), ← Hy.out]; simp [List.getD, show 9 < p.length by rw [Hp.out]; decide]
  rw [Hx.out] at hx
  rw [Hy.out] at hy
  rw [hlen2, Hx.out, Hy.out] at hno hcl hcd
  clear hlen2
  have ex : IntKind.i64.wrap x = x := by rw [IntKind.wrap_i64]; omega
  have ey : IntKind.i64.wrap y = y := by rw [IntKind.wrap_i64]; omega
  have em : IntKind.i64.wrap (256 * y) = 256 * y := by rw [IntKind.wrap_i64]; omega
  have es : IntKind.i64.wrap (x + 256 * y) = x + 256 * y := by rw [IntKind.wrap_i64]; omega
  have etm : G.tmod 2 = G % 2 := Int.tmod_eq_emod_of_nonneg hG.1
  have ewm : IntKind.i64.wrap (G % 2) = G % 2 := by rw [IntKind.wrap_i64]; omega
  have h0' : (G == 0) = false := by simp; omega
  have h1 : G % 2 = (s : Int) := by omega
  have h2 : ¬ 186 < x + 256 * y := by omega
  obtain ⟨N, HN⟩ : ∃ N : Nat, Hid (x + 256 * y = (N : Int)) := ⟨(x + 256 * y).toNat, show _ = _ by omega⟩
  have hN : N ≤ 186 := by have := HN.out; omega
  have hcl : Hid (C.length = N) := by show _ = _; rw [hcl.out]; have := HN.out; omega
  have hcd : Hid (C = ((strmOf p).drop 2).take N) := by show _ = _; rw [hcd.out, HN.out]; rfl
  obtain ⟨R, HR⟩ : ∃ R, Hid (rootP G C = R) := ⟨_, rfl⟩
  have hRl : Hid (R.length = 256) := by show _ = _; rw [← HR.out, rootP_len]
  rw [HR.out]
  clear hno
  go_enter Try.func46, Try.ntmps46
  go_wp2_with (first
    | (with_reducible refine at_wpP ?_; refine wpList_boxV rfl 46 _ rfl (pgv p) rfl ?_; intro g2 w1 hg2 b1 f1 s1)
    | (with_reducible refine at_wpP ?_; refine at_ld 46 _ rfl ?_; go_must (refine wpList_loadP rfl _ rfl g2 rfl _ b1 Hp.out ?_))
    | (go_at_call 47; go_must (refine (hnum.out _).mono ?_; rintro e w2 ⟨rfl, f2⟩; have b2 := b1.fr0 f2; obtain ⟨q8, _⟩ := b2.cell 8 _ hq8.out; obtain ⟨q9, _⟩ := b2.cell 9 _ hq9.out)))
  have z1 := f1.size
  have z2 := f2.size
  have F2 := f1.thenN f2
  have hDl : Hid (((strmOf p).drop 2).length = 190) := by show _ = _; rw [List.length_drop, strmOf_len]
  have hDb : Byt ((strmOf p).drop 2) := (strmOf_byt hb).drop 2
  have hDat : Hid (∀ k, k < 256 → ¬ k % 32 < 8 → 2 ≤ kpos k → ((strmOf p).drop 2).getD (kpos k - 2) 0 = p.getD k 0) := by
    intro k hk hh h2
    have e : ((strmOf p).drop 2).getD (kpos k - 2) 0 = (strmOf p).getD (kpos k) 0 := by
      simp only [List.getD, List.getElem?_drop]
      congr 2; omega
    rw [e, strm_at hk hh]
  obtain ⟨D, HD⟩ : ∃ D, Hid ((strmOf p).drop 2 = D) := ⟨_, rfl⟩
  rw [HD.out] at hDl hDb hDat hcd
  go_loopw [9, 10] (fun t i wr => ∃ k : Nat, 10 ≤ k ∧ k ≤ 256 ∧ i = .int .i64 (k : Int) ∧ Hid (kpos k - 2 ≤ N) ∧ OwnI .u8 5 wr w2.heap.size t (D.take (kpos k - 2)) ∧ Fr noB w2 wr) (fun _ i _ => 256 - (intOf i).toNat)
  case atStart => exact ⟨10, by omega, by omega, rfl, show _ ≤ _ by simp [kpos], OwnI.mk [] (World.ownsRow_made _ #[] 0 (Nat.le_refl _) (Nat.zero_le _) rfl) rfl, (Fr.refl _ _).alloc _⟩
  case round =>
    obtain ⟨k, hk0, hk, rfl, hkN, ho, hf⟩ := hrel
    have hB := b2.fr0 hf
    have hkp : 2 ≤ kpos k ∧ kpos k ≤ 192 := by unfold kpos; omega
    have hkl : Hid (k = 256 → kpos k = 192) := by show _ → _; intro e; subst e; rfl
    have htl : Hid ((D.take (kpos k - 2)).length = kpos k - 2) := by show _ = _; rw [List.length_take, hDl.out]; omega
    obtain ⟨L, HL⟩ : ∃ L, Hid (D.take (kpos k - 2) = L) := ⟨_, rfl⟩
    rw [HL.out] at ho htl
    obtain ⟨a1, c1, rfl⟩ := ho.opn
    by_cases hlt : kpos k - 2 < N
    · have hlt' : (L.length : Int) < x + 256 * y := by have := htl.out; have := HN.out; omega
      have hk9 : k < 256 := by
        apply Decidable.byContradiction; intro h
        have := hkl.out (by omega)
        omega
      have d1 : (0 : Int) ≤ (k : Int) := by omega
      have d2 : (k : Int) < 256 := by omega
      have hmod : (k : Int).tmod 32 = ((k % 32 : Nat) : Int) := by rw [Int.tmod_eq_emod_of_nonneg (by omega)]; omega
      by_cases hh : k % 32 < 8
      · have hh' : ¬ (8 : Int) ≤ ((k % 32 : Nat) : Int) := by omega
        have hkn := show Hid _ from kpos_head hh
        go_wp2
        go_roundw
        case rel => exact ⟨k + 1, by omega, by omega, by go_num, by rw [hkn.out]; exact hkN, by rw [hkn.out, HL.out]; exact ho, hf⟩
        case measure => simp [intOf]; omega
      · have hh' : (8 : Int) ≤ ((k % 32 : Nat) : Int) := by omega
        have hkn := show Hid _ from kpos_rest hh
        obtain ⟨c0, Hc0⟩ : ∃ c0, Hid (p.getD k 0 = c0) := ⟨_, rfl⟩
        have hkp' : k < p.length := by rw [Hp.out]; exact hk9
        obtain ⟨q0, _⟩ := hB.cell k (.int .u8 c0) (by rw [pgv_get p k hkp', ← Hc0.out]; simp [List.getD, hkp'])
        have htk : Hid (D.take (kpos k - 2 + 1) = L ++ [c0]) := by
          show _ = _
          rw [take_more _ _ (by rw [hDl.out]; omega), hDat.out k hk9 hh hkp.1, Hc0.out, HL.out]
        have hfs := hf.size
        go_wp2_with (at_builtin; go_must (refine wpList_app rfl _ _ 24 rfl w2.heap.size 5 _ 1 1 Try.underlying24 info5 rfl (by decide) _ _ _ rfl (owns_alloc ho _) _ _ _ rfl (Sl_one _ _ _) ?h1 ?hq1 ?hq2 ?hq3 ?_; rotate_left 4; intro v3 w3 hown3 hgr3))
        case h1 => simp [Value.oneCell']
        case hq1 => have := htl.out; unfold maxLen; omega
        case hq2 => have := htl.out; omega
        case hq3 => simp; omega
        have o3 : OwnI .u8 5 w3 w2.heap.size v3 (D.take (kpos k - 2 + 1)) := OwnI.mk _ hown3 (by rw [htk.out]; simp)
        obtain ⟨a3, c3, rfl⟩ := o3.opn
        have hf3 := (hf.alloc _).grown hgr3 (owns_new ho)
        have hkx : Hid (kpos (k + 1) - 2 = kpos k - 2 + 1) := by show _ = _; rw [hkn.out]; omega
        go_roundw
        case rel => exact ⟨k + 1, by omega, by omega, by go_num, show _ ≤ _ by rw [hkx.out]; omega, by rw [hkx.out]; exact o3, hf3⟩
        case measure => simp [intOf]; omega
    · have hlt' : ¬ (L.length : Int) < x + 256 * y := by have := htl.out; have := HN.out; omega
      have hkC : L = C := by
        have := hkN.out
        rw [hcd.out, ← HL.out]; congr 1; omega
      have i9 : SlI .u8 wr (.slice a1 L.length c1) C := by
        have := ho.sl (by rw [hkC]; exact hCb)
        rw [hkC] at this ⊢; exact this
      clear hkC
      go_wp2
      obtain ⟨w0, HW⟩ : ∃ w0, Hid (wr.drew = w0) := ⟨_, rfl⟩
      have f0 : Fr noB wr w0 := by rw [← HW.out]; exact (Fr.refl _ _).drew
      have hB0 := hB.fr0 f0
      have hIC := i9.fr0 f0
      have F0 := (F2.thenN hf).thenN f0
      refine wp_region_chain_lay (by kernel_rfl) [4] [none, none, none, none, some 0, none, none, none, none, none]
        [fun v => v = (.slice a1 L.length c1), fun v => v = .int .u64 G, fun v => v = .int .u64 G, fun v => v = (.slice a1 L.length c1), fun _ => True, fun v => v = pgV p, fun v => v = .bool (R == p), fun v => v = (.slice a1 L.length c1), fun v => v = .int .u64 G, fun v => v = .bool (R == p)]
        (JV w0 (pgV R)) (HW.out) (by kernel_rfl) (by kernel_rfl) (by decide) ⟨?o0, ?o1, ?o2, ?o3, ?o4, ?o5, ?o6, ?o7, ?o8, ?o9, trivial⟩ ?oe
      case o0 =>
        intro A W hv hlen hJ hbase hdL hdH
        have e9 : A.eval (.tmp 9) = (.slice a1 L.length c1) := hbase 9 (by kernel_rfl)
        have f9 : A.tmps[9]?.getD undef = (.slice a1 L.length c1) := by simpa [Act.eval] using e9
        exact light_val rfl (v := (.slice a1 L.length c1)) (by simp [execOp, e9, f9]) hJ rfl
      case o1 =>
        intro A W hv hlen hJ hbase hdL hdH
        have e7 : A.eval (.tmp 7) = .int .u64 G := hbase 7 (by kernel_rfl)
        have f7 : A.tmps[7]?.getD undef = .int .u64 G := by simpa [Act.eval] using e7
        exact light_val rfl (v := .int .u64 G) (by simp [execOp, e7, f7]) hJ rfl
      case o2 =>
        intro A W hv hlen hJ hbase hdL hdH
        have e7 : A.eval (.tmp 7) = .int .u64 G := hbase 7 (by kernel_rfl)
        have f7 : A.tmps[7]?.getD undef = .int .u64 G := by simpa [Act.eval] using e7
        exact light_val rfl (v := .int .u64 G) (by simp [execOp, e7, f7]) hJ rfl
      case o3 =>
        intro A W hv hlen hJ hbase hdL hdH
        have e9 : A.eval (.tmp 9) = (.slice a1 L.length c1) := hbase 9 (by kernel_rfl)
        have f9 : A.tmps[9]?.getD undef = (.slice a1 L.length c1) := by simpa [Act.eval] using e9
        exact light_val rfl (v := (.slice a1 L.length c1)) (by simp [execOp, e9, f9]) hJ rfl
      case o4 =>
        intro A W hv hlen hJ hbase hdL hdH
        have e52 : A.eval (.tmp 52) = .int .u64 G := hdL 2 52 (by kernel_rfl) (by kernel_rfl) (by kernel_rfl)
        have f52 : A.tmps[52]?.getD undef = .int .u64 G := by simpa [Act.eval] using e52
        have e53 : A.eval (.tmp 53) = (.slice a1 L.length c1) := hdL 3 53 (by kernel_rfl) (by kernel_rfl) (by kernel_rfl)
        have f53 : A.tmps[53]?.getD undef = (.slice a1 L.length c1) := by simpa [Act.eval] using e53
        obtain rfl : hv = [] := List.eq_nil_of_length_eq_zero hlen
        obtain rfl := hJ
        refine heavy_call rfl (f := 16) (args := #[.int .u64 G, .slice a1 L.length c1]) (by simp [execOp, resolve, invoke, go_sem, e52, f52, e53, f53]) ?_
        refine (page_any G hG (.slice a1 L.length c1) C hCl _ hIC).mono ?_
        rw [HR.out]
        rintro e W1 ⟨rfl, fW⟩
        exact ⟨_, rfl, rfl, fW⟩
      case o5 =>
        intro A W hv hlen hJ hbase hdL hdH
        have e2 : A.eval (.tmp 2) = ptr g2 := hbase 2 (by kernel_rfl)
        have f2 : A.tmps[2]?.getD undef = ptr g2 := by simpa [Act.eval] using e2
        have hr := run_loadP W g2 0 p ((hB0.fr0 hJ.fr).range 0 (pgv p) (by rw [List.drop_zero, List.take_length])) Hp.out
        exact light_val rfl (v := pgV p) (by simp [execOp, e2, hr, Result.andThen]) hJ rfl
      case o6 =>
        intro A W hv hlen hJ hbase hdL hdH
        have e55 : A.eval (.tmp 55) = pgV p := hdL 5 55 (by kernel_rfl) (by kernel_rfl) (by kernel_rfl)
        have f55 : A.tmps[55]?.getD undef = pgV p := by simpa [Act.eval] using e55
        have v54 := hdH 4 54 0 (by kernel_rfl) rfl (by kernel_rfl)
        have e54 : A.eval (.tmp 54) = pgV R := by
          match hv, hJ, v54 with
          | [y], hJ, v54 =>
            have h1 : y = pgV R := hJ.1
            simp at v54
            rw [← v54]; exact h1
        have hr := run_eql_page W R p hRl.out Hp.out
        exact light_val rfl (v := .bool (R == p)) (by simp [execOp, e54, e55, hr, eqg_eql, Result.andThen]) hJ rfl
      case o7 =>
        intro A W hv hlen hJ hbase hdL hdH
        have e50 : A.eval (.tmp 50) = (.slice a1 L.length c1) := hdL 0 50 (by kernel_rfl) (by kernel_rfl) (by kernel_rfl)
        have f50 : A.tmps[50]?.getD undef = (.slice a1 L.length c1) := by simpa [Act.eval] using e50
        exact light_val rfl (v := (.slice a1 L.length c1)) (by simp [execOp, go_sem, e50, f50]) hJ rfl
      case o8 =>
        intro A W hv hlen hJ hbase hdL hdH
        have e51 : A.eval (.tmp 51) = .int .u64 G := hdL 1 51 (by kernel_rfl) (by kernel_rfl) (by kernel_rfl)
        have f51 : A.tmps[51]?.getD undef = .int .u64 G := by simpa [Act.eval] using e51
        exact light_val rfl (v := .int .u64 G) (by simp [execOp, go_sem, e51, f51]) hJ rfl
      case o9 =>
        intro A W hv hlen hJ hbase hdL hdH
        have e56 : A.eval (.tmp 56) = .bool (R == p) := hdL 6 56 (by kernel_rfl) (by kernel_rfl) (by kernel_rfl)
        have f56 : A.tmps[56]?.getD undef = .bool (R == p) := by simpa [Act.eval] using e56
        exact light_val rfl (v := .bool (R == p)) (by simp [execOp, go_sem, e56, f56]) hJ rfl
      case oe =>
        intro vs W' hv hlen hJ hL hH
        have h7 : vs 7 = .slice a1 L.length c1 := hL 7 (by rfl) (by rfl)
        have h8 : vs 8 = .int .u64 G := hL 8 (by rfl) (by rfl)
        have h9 : vs 9 = .bool (R == p) := hL 9 (by rfl) (by rfl)
        have fW := hJ.fr
        have iC := hIC.fr0 fW
        simp only [layL, Nat.reduceAdd, Act.put, List.setIfInBounds_toArray, List.set_cons_zero, List.set_cons_succ]
        clear hL hH
        generalize vs 0 = y100 at *
        generalize vs 1 = y101 at *
        generalize vs 2 = y102 at *
        generalize vs 3 = y103 at *
        generalize vs 4 = y104 at *
        generalize vs 5 = y105 at *
        generalize vs 6 = y106 at *
        generalize vs 7 = y107 at *
        generalize vs 8 = y108 at *
        generalize vs 9 = y109 at *
        subst h7 h8 h9
        go_wp2
        go_ret3
        exact ⟨_, rfl, iC, F0.thenN fW⟩
theorem open_any (p : List Int) (hp : p.length = 256) (hb : Byt p) (s : Nat) (hs : s < 2) (w : World) : Calls Try.prog 46 #[pgV p, .int .i64 (s : Int)] w fun e w' => OpenIs w w' p s e := by
  by_cases h : genAt p 0 = 0 ∨ genAt p 0 % 2 ≠ (s : Int) ∨ 186 < lenOf p
  · exact open_no p hp hb s hs w h
  · exact open_yes p hp hb s hs w h
end Go.Proofs.Ytijgfojnppcbjaa
