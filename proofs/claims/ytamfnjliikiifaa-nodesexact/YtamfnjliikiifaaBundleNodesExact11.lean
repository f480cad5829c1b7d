/- Texts Y0, Y2, Y3 of the proof of NodesExact, one behind the other. -/
import Derived.Test.YtamfnjliikiifaaBundleNodesExact1
import Derived.Test.YtamfnjliikiifaaBundleNodesExact2
import Derived.Test.YtamfnjliikiifaaBundleNodesExact3
import Derived.Test.YtamfnjliikiifaaBundleNodesExact4
import Derived.Test.YtamfnjliikiifaaBundleNodesExact5
import Derived.Test.YtamfnjliikiifaaBundleNodesExact6
import Derived.Test.YtamfnjliikiifaaBundleNodesExact7
import Derived.Test.YtamfnjliikiifaaBundleNodesExact8
import Derived.Test.YtamfnjliikiifaaBundleNodesExact9
import Derived.Test.YtamfnjliikiifaaBundleNodesExact10
/- A pool of pages, plain: what is done with it, and what stays as it is; no condition. -/
namespace Go.Proofs.Ytamfnjliikiifaa
open Go.RowKit Go.Proofs.U
set_option linter.unusedSimpArgs false
set_option linter.unusedVariables false
/-- A page: its count, and what it is: still 0, fresh 1, young 2, spent 3, it goes 4. -/
structure Pg where
  c : Int
  s : Nat
def Pg0 : Pg := ⟨0, 0⟩
def Pg.free (x : Pg) : Bool := x.c == 0 && x.s == 0
def Pg.held (x : Pg) : Bool := !(x.c == 0) || (x.s == 1 || x.s == 2)
def Pg.ok (x : Pg) : Prop := 0 ≤ x.c ∧ x.c ≤ 255 ∧ x.s ≤ 4 ∧ (3 ≤ x.s → x.c = 0)
theorem Pg0_ok : Pg0.ok := by unfold Pg.ok Pg0; simp
def plN (n : Int) : Nat := (min (max n 0) 240).toNat
def plNew (n : Int) : List Pg := List.replicate (plN n) Pg0
theorem plN_le (n : Int) : plN n ≤ 240 := by unfold plN; omega
theorem plNew_len (n : Int) : (plNew n).length = plN n := List.length_replicate
def plIn (L : List Pg) (i : Int) : Bool := decide (0 ≤ i) && decide (i < (L.length : Int))
def plAt (L : List Pg) (i : Nat) : Pg := L.getD i Pg0
def plOk (L : List Pg) : Prop := L.length ≤ 240 ∧ ∀ i, (plAt L i).ok
theorem plAt_get (L : List Pg) (i : Nat) (h : i < L.length) : plAt L i = L[i] := by simp [plAt, List.getD, h]
theorem plAt_out (L : List Pg) (i : Nat) (h : L.length ≤ i) : plAt L i = Pg0 := by simp [plAt, List.getD, h]
theorem plAt_set (L : List Pg) (k : Nat) (x : Pg) (i : Nat) (hk : k < L.length) : plAt (L.set k x) i = if i = k then x else plAt L i := by
  unfold plAt
  simp only [List.getD]
  rw [List.getElem?_set]
  by_cases h : k = i
  · subst h; simp [hk]
  · rw [if_neg h, if_neg (fun e => h e.symm)]
theorem plAt_map (L : List Pg) (f : Pg → Pg) (h0 : f Pg0 = Pg0) (i : Nat) : plAt (L.map f) i = f (plAt L i) := by
  by_cases h : i < L.length
  · rw [plAt_get _ _ (by simpa using h), plAt_get _ _ h]; simp
  · rw [plAt_out _ _ (by simpa using h), plAt_out _ _ (by omega), h0]
theorem plNew_ok (n : Int) : plOk (plNew n) := by
  refine ⟨by rw [plNew_len]; exact plN_le n, fun i => ?_⟩
  have : plAt (plNew n) i = Pg0 := by
    unfold plAt plNew
    simp only [List.getD, List.getElem?_replicate]
    split <;> rfl
  rw [this]; exact Pg0_ok
/-- Counts that are told, as pages that are still. -/
def plLoad (n : Int) (c : List Int) : Option (List Pg) := if (c.drop (plN n)).all (fun x => x == 0) then some ((c.take (plN n)).map fun x => ⟨x, 0⟩) else none
theorem plLoad_len {n : Int} {c : List Int} (hc : c.length = 240) {L : List Pg} (h : plLoad n c = some L) : L.length = plN n := by
  unfold plLoad at h
  split at h
  · cases h
    have := plN_le n
    rw [List.length_map, List.length_take, hc]; omega
  · cases h
theorem plLoad_at {n : Int} {c : List Int} (hc : c.length = 240) {L : List Pg} (h : plLoad n c = some L) (i : Nat) : plAt L i = ⟨c.getD i 0, 0⟩ := by
  unfold plLoad at h
  split at h
  · rename_i hz
    cases h
    have hn := plN_le n
    by_cases hi : i < plN n
    · rw [plAt_get _ _ (by rw [List.length_map, List.length_take, hc]; omega)]
      simp [List.getD, show i < c.length by omega]
    · rw [plAt_out _ _ (by rw [List.length_map, List.length_take, hc]; omega)]
      have : c.getD i 0 = 0 := by
        by_cases h2 : i < c.length
        · have hm : c[i] ∈ c.drop (plN n) := by
            rw [List.mem_iff_getElem]
            exact ⟨i - plN n, by rw [List.length_drop]; omega, by rw [List.getElem_drop]; congr 1; omega⟩
          have := List.all_eq_true.1 hz _ hm
          simp [List.getD, h2]
          simpa using this
        · simp [List.getD, h2]
      rw [this]; rfl
  · cases h
theorem plLoad_ok {n : Int} {c : List Int} (hc : c.length = 240) (hb : ∀ i, 0 ≤ c.getD i 0 ∧ c.getD i 0 < 256) {L : List Pg} (h : plLoad n c = some L) : plOk L := by
  refine ⟨by rw [plLoad_len hc h]; exact plN_le n, fun i => ?_⟩
  rw [plLoad_at hc h i]
  have := hb i
  exact ⟨this.1, by show c.getD i 0 ≤ 255; omega, Nat.zero_le _, fun h => by simp at h⟩

/-- The least free one is taken. -/
def plTake (L : List Pg) : List Pg × Int × Int :=
  match L.findIdx? Pg.free with
  | some i => (L.set i ⟨0, 1⟩, (i : Int), 0)
  | none => (L, 0, 71)
theorem plTake_some (L : List Pg) (k : Nat) (hk : k < L.length) (hf : (plAt L k).free = true) (h : ∀ j, j < k → (plAt L j).free = false) : plTake L = (L.set k ⟨0, 1⟩, (k : Int), 0) := by
  have : L.findIdx? Pg.free = some k := by
    rw [List.findIdx?_eq_some_iff_getElem]
    refine ⟨hk, by rw [← plAt_get L k hk]; exact hf, fun j hj => ?_⟩
    have := h j hj
    rw [plAt_get L j (by omega)] at this
    simpa using this
  unfold plTake
  rw [this]
theorem plTake_none (L : List Pg) (h : ∀ j, j < L.length → (plAt L j).free = false) : plTake L = (L, 0, 71) := by
  have : L.findIdx? Pg.free = none := by
    rw [List.findIdx?_eq_none_iff]
    intro x hx
    obtain ⟨j, hj, rfl⟩ := List.mem_iff_getElem.1 hx
    have := h j hj
    rwa [plAt_get L j hj] at this
  unfold plTake
  rw [this]
theorem plTake_cases (L : List Pg) : (∃ k, k < L.length ∧ (plAt L k).free = true ∧ (∀ j, j < k → (plAt L j).free = false) ∧ plTake L = (L.set k ⟨0, 1⟩, (k : Int), 0)) ∨ ((∀ j, j < L.length → (plAt L j).free = false) ∧ plTake L = (L, 0, 71)) := by
  by_cases h : ∀ j, j < L.length → (plAt L j).free = false
  · exact Or.inr ⟨h, plTake_none L h⟩
  · cases hf : L.findIdx? Pg.free with
    | none =>
      exfalso; apply h
      intro j hj
      have := List.findIdx?_eq_none_iff.1 hf L[j] (by simp)
      rwa [plAt_get L j hj]
    | some k =>
      obtain ⟨hk, h1, h2⟩ := List.findIdx?_eq_some_iff_getElem.1 hf
      refine Or.inl ⟨k, hk, by rw [plAt_get L k hk]; exact h1, fun j hj => ?_, ?_⟩
      · rw [plAt_get L j (by omega)]; simpa using h2 j hj
      · unfold plTake; rw [hf]
def plHold (L : List Pg) (i : Int) : List Pg × Int :=
  if plIn L i && (plAt L i.toNat).held then (if (plAt L i.toNat).c = 255 then (L, 72) else (L.set i.toNat ⟨(plAt L i.toNat).c + 1, (plAt L i.toNat).s⟩, 0)) else (L, 73)
def dropS (s : Nat) : Nat := if s = 1 then 0 else if s = 2 then 3 else 4
def plDrop (L : List Pg) (i : Int) : List Pg × Bool × Int :=
  if plIn L i && (plAt L i.toNat).held then (if 1 < (plAt L i.toNat).c then (L.set i.toNat ⟨(plAt L i.toNat).c - 1, (plAt L i.toNat).s⟩, false, 0) else (L.set i.toNat ⟨0, dropS (plAt L i.toNat).s⟩, true, 0)) else (L, false, 73)
def markP (x : Pg) : Pg := if x.s = 1 then ⟨x.c, 2⟩ else x
def tidyP (x : Pg) : Pg := if x.s = 3 then ⟨x.c, 0⟩ else x
def commP (x : Pg) : Pg := ⟨x.c, 0⟩
def plMark (L : List Pg) : List Pg := L.map markP
def plTidy (L : List Pg) : List Pg := L.map tidyP
def plCommit (L : List Pg) : List Pg := L.map commP
/-- How many are free. -/
def plFree (L : List Pg) : Nat := L.countP Pg.free
theorem plFree_le (L : List Pg) : plFree L ≤ L.length := List.countP_le_length
theorem plFree_succ (L : List Pg) (k : Nat) (h : k < L.length) : plFree (L.take (k + 1)) = plFree (L.take k) + if (plAt L k).free then 1 else 0 := by
  unfold plFree
  rw [List.take_succ_eq_append_getElem h, List.countP_append, plAt_get L k h]
  congr 1
  simp [List.countP_cons]
/-- All counts, noughts behind those that there are. -/
def plCounts (L : List Pg) : List Int := (List.range 240).map fun i => (plAt L i).c
theorem plCounts_len (L : List Pg) : (plCounts L).length = 240 := by simp [plCounts]
theorem plCounts_at (L : List Pg) (i : Nat) (h : i < 240) : (plCounts L).getD i 0 = (plAt L i).c := by simp [plCounts, List.getD, h]

theorem plIn_lt {L : List Pg} {i : Int} (h : plIn L i = true) : i.toNat < L.length ∧ ((i.toNat : Nat) : Int) = i := by
  simp [plIn] at h; omega
theorem take_len (L : List Pg) : (plTake L).1.length = L.length := by
  rcases plTake_cases L with ⟨k, _, _, _, h⟩ | ⟨_, h⟩ <;> rw [h]
  simp
theorem hold_len (L : List Pg) (i : Int) : (plHold L i).1.length = L.length := by
  unfold plHold
  split
  · split
    · rfl
    · simp
  · rfl
theorem drop_len (L : List Pg) (i : Int) : (plDrop L i).1.length = L.length := by
  unfold plDrop
  split
  · split <;> simp
  · rfl
theorem mark_len (L : List Pg) : (plMark L).length = L.length := by simp [plMark]
theorem tidy_len (L : List Pg) : (plTidy L).length = L.length := by simp [plTidy]
theorem comm_len (L : List Pg) : (plCommit L).length = L.length := by simp [plCommit]

/-- What holds of each page and its place, and stays, whatever is done with it alone. -/
theorem take_all {R : Nat → Pg → Prop} {L : List Pg} (h : ∀ i, R i (plAt L i)) (hs : ∀ i x, R i x → x.free = true → R i ⟨0, 1⟩) : ∀ i, R i (plAt (plTake L).1 i) := by
  intro i
  rcases plTake_cases L with ⟨k, hk, hf, _, e⟩ | ⟨_, e⟩ <;> rw [e]
  · show R i (plAt (L.set k ⟨0, 1⟩) i)
    rw [plAt_set _ _ _ _ hk]
    split
    · rename_i hik; subst hik; exact hs i _ (h i) hf
    · exact h i
  · exact h i
theorem hold_all {R : Nat → Pg → Prop} {L : List Pg} (h : ∀ i, R i (plAt L i)) (k : Int) (hs : ∀ i x, R i x → x.held = true → x.c ≠ 255 → R i ⟨x.c + 1, x.s⟩) : ∀ i, R i (plAt (plHold L k).1 i) := by
  intro i
  unfold plHold
  split
  · rename_i hc
    simp only [Bool.and_eq_true] at hc
    split
    · exact h i
    · rename_i h255
      show R i (plAt (L.set k.toNat _) i)
      rw [plAt_set _ _ _ _ (plIn_lt hc.1).1]
      split
      · rename_i hik; subst hik; exact hs _ _ (h _) hc.2 h255
      · exact h i
  · exact h i
theorem drop_all {R : Nat → Pg → Prop} {L : List Pg} (h : ∀ i, R i (plAt L i)) (k : Int) (h1 : ∀ i x, R i x → x.held = true → 1 < x.c → R i ⟨x.c - 1, x.s⟩) (h2 : ∀ i x, R i x → x.held = true → ¬ 1 < x.c → R i ⟨0, dropS x.s⟩) : ∀ i, R i (plAt (plDrop L k).1 i) := by
  intro i
  unfold plDrop
  split
  · rename_i hc
    simp only [Bool.and_eq_true] at hc
    split
    · rename_i h255
      show R i (plAt (L.set k.toNat _) i)
      rw [plAt_set _ _ _ _ (plIn_lt hc.1).1]
      split
      · rename_i hik; subst hik; exact h1 _ _ (h _) hc.2 h255
      · exact h i
    · rename_i h255
      show R i (plAt (L.set k.toNat _) i)
      rw [plAt_set _ _ _ _ (plIn_lt hc.1).1]
      split
      · rename_i hik; subst hik; exact h2 _ _ (h _) hc.2 h255
      · exact h i
  · exact h i
theorem mark0 : markP Pg0 = Pg0 := rfl
theorem tidy0 : tidyP Pg0 = Pg0 := rfl
theorem comm0 : commP Pg0 = Pg0 := rfl
theorem mark_all {R : Nat → Pg → Prop} {L : List Pg} (h : ∀ i, R i (plAt L i)) (hs : ∀ i x, R i x → R i (markP x)) : ∀ i, R i (plAt (plMark L) i) := by
  intro i; unfold plMark; rw [plAt_map _ _ mark0]; exact hs i _ (h i)
theorem tidy_all {R : Nat → Pg → Prop} {L : List Pg} (h : ∀ i, R i (plAt L i)) (hs : ∀ i x, R i x → R i (tidyP x)) : ∀ i, R i (plAt (plTidy L) i) := by
  intro i; unfold plTidy; rw [plAt_map _ _ tidy0]; exact hs i _ (h i)
theorem comm_at (L : List Pg) (i : Nat) : plAt (plCommit L) i = ⟨(plAt L i).c, 0⟩ := by unfold plCommit; rw [plAt_map _ _ comm0]; rfl

theorem dropS_le (s : Nat) : dropS s ≤ 4 := by unfold dropS; split; omega; split <;> omega
theorem take_ok {L : List Pg} (h : plOk L) : plOk (plTake L).1 := ⟨by rw [take_len]; exact h.1, take_all (R := fun _ x => x.ok) h.2 (fun _ x _ _ => by unfold Pg.ok; simp)⟩
theorem hold_ok {L : List Pg} (h : plOk L) (i : Int) : plOk (plHold L i).1 := ⟨by rw [hold_len]; exact h.1, hold_all (R := fun _ x => x.ok) h.2 i (fun _ x hx hh h255 => by
  unfold Pg.ok at *
  unfold Pg.held at hh
  simp at hh
  refine ⟨by show 0 ≤ x.c + 1; omega, by show x.c + 1 ≤ 255; omega, hx.2.2.1, fun h3 => ?_⟩
  have := hx.2.2.2 h3
  have h3 : 3 ≤ x.s := h3
  omega)⟩
theorem drop_ok {L : List Pg} (h : plOk L) (i : Int) : plOk (plDrop L i).1 := ⟨by rw [drop_len]; exact h.1, drop_all (R := fun _ x => x.ok) h.2 i (fun _ x hx hh h1 => by
  unfold Pg.ok at *
  refine ⟨by show 0 ≤ x.c - 1; omega, by show x.c - 1 ≤ 255; omega, hx.2.2.1, fun h3 => ?_⟩
  have := hx.2.2.2 h3
  omega) (fun _ x hx hh h1 => by unfold Pg.ok; exact ⟨Int.le_refl _, (by decide : (0 : Int) ≤ 255), dropS_le _, fun _ => rfl⟩)⟩
theorem mark_ok {L : List Pg} (h : plOk L) : plOk (plMark L) := ⟨by rw [mark_len]; exact h.1, mark_all (R := fun _ x => x.ok) h.2 (fun _ x hx => by
  unfold markP
  split
  · unfold Pg.ok at *; exact ⟨hx.1, hx.2.1, (by decide : 2 ≤ 4), fun h => by simp at h⟩
  · exact hx)⟩
theorem tidy_ok {L : List Pg} (h : plOk L) : plOk (plTidy L) := ⟨by rw [tidy_len]; exact h.1, tidy_all (R := fun _ x => x.ok) h.2 (fun _ x hx => by
  unfold tidyP
  split
  · unfold Pg.ok at *; exact ⟨hx.1, hx.2.1, (by decide : 0 ≤ 4), fun h => by simp at h⟩
  · exact hx)⟩
theorem comm_ok {L : List Pg} (h : plOk L) : plOk (plCommit L) := ⟨by rw [comm_len]; exact h.1, fun i => by
  rw [comm_at]
  have hx := h.2 i
  unfold Pg.ok at *
  exact ⟨hx.1, hx.2.1, (by decide : 0 ≤ 4), fun h => by simp at h⟩⟩

/-- What was held at a commit isn't free before the next one. -/
def safeP (b : Int) (x : Pg) : Prop := 0 < b → (0 < x.c ∧ x.s = 0) ∨ x.s = 4
theorem safe_free {b : Int} {x : Pg} (h : safeP b x) (hf : x.free = true) : ¬ 0 < b := by
  intro hb
  unfold Pg.free at hf
  simp at hf
  rcases h hb with h | h <;> omega
theorem safe_take {base : Nat → Int} {L : List Pg} (h : ∀ i, safeP (base i) (plAt L i)) : ∀ i, safeP (base i) (plAt (plTake L).1 i) :=
  take_all (R := fun i x => safeP (base i) x) h (fun i x hx hf hb => absurd hb (safe_free hx hf))
theorem safe_hold {base : Nat → Int} {L : List Pg} (h : ∀ i, safeP (base i) (plAt L i)) (k : Int) : ∀ i, safeP (base i) (plAt (plHold L k).1 i) :=
  hold_all (R := fun i x => safeP (base i) x) h k (fun i x hx hh h255 hb => by
    rcases hx hb with h | h
    · exact Or.inl ⟨by show 0 < x.c + 1; omega, h.2⟩
    · exact Or.inr h)
theorem safe_drop {base : Nat → Int} {L : List Pg} (h : ∀ i, safeP (base i) (plAt L i)) (k : Int) : ∀ i, safeP (base i) (plAt (plDrop L k).1 i) :=
  drop_all (R := fun i x => safeP (base i) x) h k (fun i x hx hh h1 hb => by
    rcases hx hb with h | h
    · exact Or.inl ⟨by show 0 < x.c - 1; omega, h.2⟩
    · exact Or.inr h) (fun i x hx hh h1 hb => by
    rcases hx hb with h | h
    · exact Or.inr (by show dropS x.s = 4; rw [h.2]; rfl)
    · exact Or.inr (by show dropS x.s = 4; rw [h]; rfl))
theorem safe_mark {base : Nat → Int} {L : List Pg} (h : ∀ i, safeP (base i) (plAt L i)) : ∀ i, safeP (base i) (plAt (plMark L) i) :=
  mark_all (R := fun i x => safeP (base i) x) h (fun i x hx hb => by
    rcases hx hb with h | h
    · have : markP x = x := by unfold markP; rw [if_neg (by omega)]
      rw [this]; exact Or.inl h
    · have : markP x = x := by unfold markP; rw [if_neg (by omega)]
      rw [this]; exact Or.inr h)
theorem safe_tidy {base : Nat → Int} {L : List Pg} (h : ∀ i, safeP (base i) (plAt L i)) : ∀ i, safeP (base i) (plAt (plTidy L) i) :=
  tidy_all (R := fun i x => safeP (base i) x) h (fun i x hx hb => by
    rcases hx hb with h | h
    · have : tidyP x = x := by unfold tidyP; rw [if_neg (by omega)]
      rw [this]; exact Or.inl h
    · have : tidyP x = x := by unfold tidyP; rw [if_neg (by omega)]
      rw [this]; exact Or.inr h)
theorem safe_start {L : List Pg} (h : ∀ i, (plAt L i).s = 0) : ∀ i, safeP (plAt L i).c (plAt L i) := fun i hb => Or.inl ⟨hb, h i⟩
theorem comm_still (L : List Pg) (i : Nat) : (plAt (plCommit L) i).s = 0 := by rw [comm_at]
theorem load_still {n : Int} {c : List Int} (hc : c.length = 240) {L : List Pg} (h : plLoad n c = some L) (i : Nat) : (plAt L i).s = 0 := by rw [plLoad_at hc h]

/-- What was held at a mark isn't free before the next tidying or commit. -/
def keptP (b : Int) (x : Pg) : Prop := 0 < b → (0 < x.c ∧ (x.s = 0 ∨ x.s = 2)) ∨ 3 ≤ x.s
theorem kept_free {b : Int} {x : Pg} (h : keptP b x) (hf : x.free = true) : ¬ 0 < b := by
  intro hb
  unfold Pg.free at hf
  simp at hf
  rcases h hb with h | h <;> omega
theorem kept_take {base : Nat → Int} {L : List Pg} (h : ∀ i, keptP (base i) (plAt L i)) : ∀ i, keptP (base i) (plAt (plTake L).1 i) :=
  take_all (R := fun i x => keptP (base i) x) h (fun i x hx hf hb => absurd hb (kept_free hx hf))
theorem kept_hold {base : Nat → Int} {L : List Pg} (h : ∀ i, keptP (base i) (plAt L i)) (k : Int) : ∀ i, keptP (base i) (plAt (plHold L k).1 i) :=
  hold_all (R := fun i x => keptP (base i) x) h k (fun i x hx hh h255 hb => by
    rcases hx hb with h | h
    · exact Or.inl ⟨by show 0 < x.c + 1; omega, h.2⟩
    · exact Or.inr h)
theorem kept_drop {base : Nat → Int} {L : List Pg} (h : ∀ i, keptP (base i) (plAt L i)) (k : Int) : ∀ i, keptP (base i) (plAt (plDrop L k).1 i) :=
  drop_all (R := fun i x => keptP (base i) x) h k (fun i x hx hh h1 hb => by
    rcases hx hb with h | h
    · exact Or.inl ⟨by show 0 < x.c - 1; omega, h.2⟩
    · exact Or.inr h) (fun i x hx hh h1 hb => by
    refine Or.inr ?_
    show 3 ≤ dropS x.s
    unfold dropS
    rcases hx hb with ⟨_, h | h⟩ | h
    · rw [h]; decide
    · rw [h]; decide
    · rw [if_neg (by omega), if_neg (by omega)]; decide)
theorem kept_start {L : List Pg} (h : plOk L) : ∀ i, keptP (plAt (plMark L) i).c (plAt (plMark L) i) := by
  intro i hb
  unfold plMark at hb ⊢
  rw [plAt_map _ _ mark0] at hb ⊢
  have hx := h.2 i
  unfold Pg.ok at hx
  unfold markP at hb ⊢
  split
  · rename_i h1
    rw [if_pos h1] at hb
    exact Or.inl ⟨hb, Or.inr rfl⟩
  · rename_i h1
    rw [if_neg h1] at hb
    by_cases h3 : 3 ≤ (plAt L i).s
    · exact Or.inr h3
    · exact Or.inl ⟨hb, by omega⟩
/-- Of pages that are all still those are free that aren't held. -/
theorem free_still {L : List Pg} (h : ∀ i, (plAt L i).s = 0) : plFree L + L.countP (fun x => !(x.c == 0)) = L.length := by
  have : ∀ x ∈ L, x.s = 0 := by
    intro x hx
    obtain ⟨j, hj, rfl⟩ := List.mem_iff_getElem.1 hx
    have := h j
    rwa [plAt_get L j hj] at this
  clear h
  unfold plFree
  induction L with
  | nil => rfl
  | cons x L ih =>
    have hx := this x (by simp)
    have ih := ih (fun y hy => this y (by simp [hy]))
    rw [List.countP_cons, List.countP_cons, List.length_cons]
    by_cases h0 : x.c = 0
    · simp [Pg.free, hx, h0] at *; omega
    · simp [Pg.free, hx, h0] at *; omega

/-- A pool of which the first page is x, all others free. -/
def turnL (n : Nat) (x : Pg) : List Pg := x :: List.replicate n Pg0
theorem turn_new {n : Int} (h : 1 ≤ n ∧ n ≤ 240) : plNew n = turnL (n.toNat - 1) Pg0 := by
  unfold plNew turnL
  rw [← List.replicate_succ]
  congr 1
  unfold plN; omega
theorem turn_len (n : Nat) (x : Pg) : (turnL n x).length = n + 1 := by simp [turnL]
theorem turn_at0 (n : Nat) (x : Pg) : plAt (turnL n x) 0 = x := rfl
theorem turn_in (n : Nat) (x : Pg) : plIn (turnL n x) 0 = true := by simp [plIn, turn_len]
theorem turn_take (n : Nat) (x : Pg) (h : x.free = true) : plTake (turnL n x) = (turnL n ⟨0, 1⟩, 0, 0) := by
  rw [plTake_some (turnL n x) 0 (by rw [turn_len]; omega) h (fun j hj => by omega)]
  rfl
theorem turn_free (n : Nat) (x : Pg) : plFree (turnL n x) = n + if x.free then 1 else 0 := by
  unfold plFree turnL
  rw [List.countP_cons]
  have : (List.replicate n Pg0).countP Pg.free = n := by
    rw [List.countP_replicate]; simp [Pg.free, Pg0]
  rw [this]
theorem turn_hold (n : Nat) (k : Int) (s : Nat) (hh : (Pg.mk k s).held = true) : plHold (turnL n ⟨k, s⟩) 0 = if k = 255 then (turnL n ⟨k, s⟩, 72) else (turnL n ⟨k + 1, s⟩, 0) := by
  unfold plHold
  rw [turn_in, show (0 : Int).toNat = 0 from rfl, turn_at0, hh]
  rfl
theorem turn_drop (n : Nat) (k : Int) (s : Nat) (hh : (Pg.mk k s).held = true) : plDrop (turnL n ⟨k, s⟩) 0 = if 1 < k then (turnL n ⟨k - 1, s⟩, false, 0) else (turnL n ⟨0, dropS s⟩, true, 0) := by
  unfold plDrop
  rw [turn_in, show (0 : Int).toNat = 0 from rfl, turn_at0, hh]
  rfl
theorem turn_dropN (n : Nat) (k : Int) (s : Nat) (hh : (Pg.mk k s).held = false) : plDrop (turnL n ⟨k, s⟩) 0 = (turnL n ⟨k, s⟩, false, 73) := by
  unfold plDrop
  rw [show (0 : Int).toNat = 0 from rfl, turn_at0, hh, Bool.and_false]
  rfl
theorem turn_comm (n : Nat) (x : Pg) : plCommit (turnL n x) = turnL n ⟨x.c, 0⟩ := by
  unfold plCommit turnL
  rw [List.map_cons, List.map_replicate]
  rfl

/-- A page as the document's leaf, cell by cell. -/
def encG (x : Pg) : List Value := [.int .i64 x.c, .bool (x.s == 1), .bool (x.s == 2), .bool (x.s == 3), .bool (x.s == 4)]
theorem encG_len (x : Pg) : (encG x).length = 5 := rfl
theorem encG_one (x : Pg) : ∀ u ∈ encG x, u.oneCell' = true := by
  intro u hu
  simp [encG] at hu
  rcases hu with rfl | rfl | rfl | rfl | rfl <;> rfl
theorem free_leaf {x : Pg} (h : x.s ≤ 4) : x.free = (x.c == 0 && (!(x.s == 1) && (!(x.s == 2) && (!(x.s == 3) && !(x.s == 4))))) := by
  unfold Pg.free
  have : x.s = 0 ∨ x.s = 1 ∨ x.s = 2 ∨ x.s = 3 ∨ x.s = 4 := by omega
  rcases this with e | e | e | e | e <;> simp [e]
theorem held_leaf {x : Pg} (h : 0 ≤ x.c) : x.held = (decide (0 < x.c) || ((x.s == 1) || (x.s == 2))) := by
  unfold Pg.held
  congr 1
  rw [Bool.eq_iff_iff]
  simp
  omega
theorem drop_leaf (s : Nat) (h : s ≤ 4) : encG ⟨0, dropS s⟩ = [.int .i64 0, .bool false, .bool false, .bool (s == 2), .bool (!(s == 1) && !(s == 2))] := by
  have : s = 0 ∨ s = 1 ∨ s = 2 ∨ s = 3 ∨ s = 4 := by omega
  rcases this with e | e | e | e | e <;> subst e <;> rfl
theorem mark_leaf (x : Pg) : encG (markP x) = [.int .i64 x.c, .bool false, .bool ((x.s == 2) || (x.s == 1)), .bool (x.s == 3), .bool (x.s == 4)] := by
  unfold markP
  by_cases h : x.s = 1
  · rw [if_pos h]; simp [encG, h]
  · rw [if_neg h]; simp [encG, h]
theorem tidy_leaf (x : Pg) : encG (tidyP x) = [.int .i64 x.c, .bool (x.s == 1), .bool (x.s == 2), .bool false, .bool (x.s == 4)] := by
  unfold tidyP
  by_cases h : x.s = 3
  · rw [if_pos h]; simp [encG, h]
  · rw [if_neg h]; simp [encG, h]
theorem comm_leaf (x : Pg) : encG (commP x) = [.int .i64 x.c, .bool false, .bool false, .bool false, .bool false] := rfl
end Go.Proofs.Ytamfnjliikiifaa
/- A pool in memory, cell by cell; its small functions: has, Size, free, Fresh, held, Count, givenUp. -/
namespace Go.Proofs.Ytamfnjliikiifaa
open Go.RowKit Go.Proofs.U
set_option linter.unusedSimpArgs false
set_option linter.unusedVariables false
def plKinds (L : List Pg) : List Int := (List.range 240).map fun i => ((plAt L i).s : Int)
theorem plKinds_len (L : List Pg) : (plKinds L).length = 240 := by simp [plKinds]
theorem plKinds_at (L : List Pg) (i : Nat) (h : i < 240) : (plKinds L).getD i 0 = ((plAt L i).s : Int) := by simp [plKinds, List.getD, h]
/-- A pool's cells: how many pages, their counts, what they are. -/
def poolL (L : List Pg) : List Value := .int .i64 (L.length : Int) :: (pgv (plCounts L) ++ pgv (plKinds L))
theorem poolL_len (L : List Pg) : (poolL L).length = 481 := by simp [poolL, pgv_len, plCounts_len, plKinds_len]
theorem poolL_size (L : List Pg) : (poolL L)[0]? = some (.int .i64 (L.length : Int)) := rfl
theorem poolL_cnt (L : List Pg) (i : Nat) (h : i < 240) : (poolL L)[1 + i]? = some (.int .u8 (plAt L i).c) := by
  rw [Nat.add_comm]
  unfold poolL
  rw [List.getElem?_cons_succ, List.getElem?_append_left (by rw [pgv_len, plCounts_len]; exact h)]
  simp [pgv, plCounts, h]
theorem poolL_knd (L : List Pg) (i : Nat) (h : i < 240) : (poolL L)[241 + i]? = some (.int .u8 ((plAt L i).s : Int)) := by
  rw [show 241 + i = (240 + i) + 1 by omega]
  unfold poolL
  rw [List.getElem?_cons_succ, List.getElem?_append_right (by rw [pgv_len, plCounts_len]; omega), pgv_len, plCounts_len, Nat.add_sub_cancel_left]
  simp [pgv, plKinds, h]
theorem poolL_ext {cs : List Value} {L : List Pg} (hl : cs.length = 481) (h0 : cs[0]? = some (.int .i64 (L.length : Int))) (h1 : ∀ i, i < 240 → cs[1 + i]? = some (.int .u8 (plAt L i).c)) (h2 : ∀ i, i < 240 → cs[241 + i]? = some (.int .u8 ((plAt L i).s : Int))) : cs = poolL L := by
  refine List.ext_getElem? fun j => ?_
  by_cases hj : j < 481
  · rcases Nat.lt_or_ge j 1 with h | h
    · obtain rfl : j = 0 := by omega
      rw [h0, poolL_size]
    · rcases Nat.lt_or_ge j 241 with h' | h'
      · have e : j = 1 + (j - 1) := by omega
        rw [e, h1 _ (by omega), poolL_cnt _ _ (by omega)]
      · have e : j = 241 + (j - 241) := by omega
        rw [e, h2 _ (by omega), poolL_knd _ _ (by omega)]
  · rw [List.getElem?_eq_none (by omega), List.getElem?_eq_none (by rw [poolL_len]; omega)]
theorem poolL_setK (L : List Pg) (i : Nat) (hi : i < L.length) (h : L.length ≤ 240) (s : Nat) (z : Int) (hz : z = (s : Int)) : (poolL L).set (241 + i) (.int .u8 z) = poolL (L.set i ⟨(plAt L i).c, s⟩) := by
  subst hz
  refine poolL_ext (by rw [List.length_set, poolL_len]) ?_ ?_ ?_
  · rw [List.getElem?_set_ne (by omega), poolL_size, List.length_set]
  · intro j hj
    rw [List.getElem?_set_ne (by omega), poolL_cnt _ _ hj, plAt_set _ _ _ _ hi]
    split
    · rename_i e; subst e; rfl
    · rfl
  · intro j hj
    rw [plAt_set _ _ _ _ hi]
    by_cases e : j = i
    · subst e
      rw [List.getElem?_set_self (by rw [poolL_len]; omega), if_pos rfl]
    · rw [List.getElem?_set_ne (by omega), poolL_knd _ _ hj, if_neg e]
theorem poolL_setC (L : List Pg) (i : Nat) (hi : i < L.length) (h : L.length ≤ 240) (c : Int) : (poolL L).set (1 + i) (.int .u8 c) = poolL (L.set i ⟨c, (plAt L i).s⟩) := by
  refine poolL_ext (by rw [List.length_set, poolL_len]) ?_ ?_ ?_
  · rw [List.getElem?_set_ne (by omega), poolL_size, List.length_set]
  · intro j hj
    rw [plAt_set _ _ _ _ hi]
    by_cases e : j = i
    · subst e
      rw [List.getElem?_set_self (by rw [poolL_len]; omega), if_pos rfl]
    · rw [List.getElem?_set_ne (by omega), poolL_cnt _ _ hj, if_neg e]
  · intro j hj
    rw [List.getElem?_set_ne (by omega), poolL_knd _ _ hj, plAt_set _ _ _ _ hi]
    split
    · rename_i e; subst e; rfl
    · rfl
theorem putAt_get (cs : List Value) (o : Nat) (ds : List Value) (h : o + ds.length ≤ cs.length) (j : Nat) : (putAt cs o ds)[j]? = if o ≤ j ∧ j < o + ds.length then ds[j - o]? else cs[j]? := by
  unfold putAt
  rcases Nat.lt_or_ge j o with h1 | h1
  · rw [if_neg (by omega), List.getElem?_append_left (by simp; omega), List.getElem?_append_left (by simp; omega), List.getElem?_take, if_pos h1]
  · rcases Nat.lt_or_ge j (o + ds.length) with h2 | h2
    · rw [if_pos ⟨h1, h2⟩, List.getElem?_append_left (by simp; omega), List.getElem?_append_right (by simp; omega), List.length_take, Nat.min_eq_left (by omega)]
    · rw [if_neg (by omega), List.getElem?_append_right (by simp; omega), List.getElem?_drop]
      congr 1
      simp; omega
theorem putAt_len (cs : List Value) (o : Nat) (ds : List Value) (h : o + ds.length ≤ cs.length) : (putAt cs o ds).length = cs.length := by
  unfold putAt; simp; omega
theorem poolL_comm (L : List Pg) : putAt (poolL L) 241 (List.replicate 240 (.int .u8 0)) = poolL (plCommit L) := by
  have hl : 241 + (List.replicate 240 (Value.int .u8 0)).length ≤ (poolL L).length := by rw [List.length_replicate, poolL_len]; decide
  refine poolL_ext (by rw [putAt_len _ _ _ hl, poolL_len]) ?_ ?_ ?_
  · rw [putAt_get _ _ _ hl, if_neg (by omega), poolL_size, comm_len]
  · intro j hj
    rw [putAt_get _ _ _ hl, if_neg (by omega), poolL_cnt _ _ hj, comm_at]
  · intro j hj
    rw [putAt_get _ _ _ hl, if_pos (by rw [List.length_replicate]; omega), comm_at, Nat.add_sub_cancel_left, List.getElem?_replicate, if_pos hj]
    rfl
theorem plNew_at (n : Int) (i : Nat) : plAt (plNew n) i = Pg0 := by
  unfold plAt plNew
  simp only [List.getD, List.getElem?_replicate]
  split <;> rfl
theorem poolL_new (n : Int) : Value.int .i64 (plN n : Int) :: List.replicate 480 (.int .u8 0) = poolL (plNew n) := by
  refine poolL_ext (by rw [List.length_cons, List.length_replicate]) ?_ ?_ ?_
  · rw [plNew_len]; rfl
  · intro j hj
    rw [plNew_at, Nat.add_comm, List.getElem?_cons_succ, List.getElem?_replicate, if_pos (by omega)]; rfl
  · intro j hj
    rw [plNew_at, show 241 + j = (240 + j) + 1 by omega, List.getElem?_cons_succ, List.getElem?_replicate, if_pos (by omega)]; rfl
theorem poolL_load {n : Int} {c : List Int} (hc : c.length = 240) {L : List Pg} (h : plLoad n c = some L) : putAt (poolL (plNew n)) 1 (pgv c) = poolL L := by
  have hl : 1 + (pgv c).length ≤ (poolL (plNew n)).length := by rw [pgv_len, hc, poolL_len]; decide
  refine poolL_ext (by rw [putAt_len _ _ _ hl, poolL_len]) ?_ ?_ ?_
  · rw [putAt_get _ _ _ hl, if_neg (by omega), poolL_size, plNew_len, plLoad_len hc h]
  · intro j hj
    rw [putAt_get _ _ _ hl, if_pos (by rw [pgv_len, hc]; omega), plLoad_at hc h, Nat.add_sub_cancel_left, pgv_get _ _ (by omega)]
    simp [List.getD, show j < c.length by omega]
  · intro j hj
    rw [putAt_get _ _ _ hl, if_neg (by rw [pgv_len, hc]; omega), poolL_knd _ _ hj, plNew_at, plLoad_at hc h]; rfl
theorem poolL_counts (L : List Pg) : ((poolL L).drop 1).take 240 = pgv (plCounts L) := by
  show (pgv (plCounts L) ++ pgv (plKinds L)).take 240 = _
  rw [List.take_left' (by rw [pgv_len, plCounts_len])]
theorem poolL_kinds (L : List Pg) : ((poolL L).drop 241).take 240 = pgv (plKinds L) := by
  show ((pgv (plCounts L) ++ pgv (plKinds L)).drop 240).take 240 = _
  rw [List.drop_left' (by rw [pgv_len, plCounts_len]), List.take_of_length_le (by rw [pgv_len, plKinds_len]; decide)]
theorem poolL_one (L : List Pg) : ∀ v ∈ poolL L, v.oneCell' = true := by
  intro v hv
  rcases List.mem_cons.1 hv with rfl | hv
  · rfl
  · rcases List.mem_append.1 hv with hv | hv <;> exact pgv_one _ v hv
/-- The pool at block g. -/
abbrev PoolB (w : World) (g : Nat) (L : List Pg) : Prop := BxV w g 83 (poolL L)
theorem PoolB.size {w : World} {g : Nat} {L : List Pg} (h : PoolB w g L) : w.cell? ⟨g, 0, none⟩ = some (.int .i64 (L.length : Int)) := (h.cell 0 _ (poolL_size L)).1
theorem PoolB.cnt {w : World} {g : Nat} {L : List Pg} (h : PoolB w g L) (i : Nat) (hi : i < 240) : w.cell? ⟨g, 1 + i, none⟩ = some (.int .u8 (plAt L i).c) := (h.cell _ _ (poolL_cnt L i hi)).1
theorem PoolB.knd {w : World} {g : Nat} {L : List Pg} (h : PoolB w g L) (i : Nat) (hi : i < 240) : w.cell? ⟨g, 241 + i, none⟩ = some (.int .u8 ((plAt L i).s : Int)) := (h.cell _ _ (poolL_knd L i hi)).1
theorem arr1_counts : Arr1 Try.prog 57 5 240 := ⟨by kernel_rfl, by kernel_rfl, by kernel_rfl, by kernel_rfl⟩
theorem arr1_kinds : Arr1 Try.prog 81 80 240 := ⟨by kernel_rfl, by kernel_rfl, by kernel_rfl, by kernel_rfl⟩

theorem cast_beq0 (a : Nat) : ((a : Int) == 0) = (a == 0) := by rw [Bool.eq_iff_iff]; simp
theorem cast_beq1 (a : Nat) : ((a : Int) == 1) = (a == 1) := by rw [Bool.eq_iff_iff]; simp; omega
theorem cast_beq2 (a : Nat) : ((a : Int) == 2) = (a == 2) := by rw [Bool.eq_iff_iff]; simp; omega

theorem phas_any {L : List Pg} (g : Nat) (i : Int) (w : World) (h : PoolB w g L) :
    Calls Try.prog 56 #[ptr g, .int .i64 i] w fun r w' => r = .returned (.bool (plIn L i)) ∧ w = w' := by
  have k0 := h.size
  by_cases h0 : 0 ≤ i
  · go_enter Try.func56, Try.ntmps56
    go_wp2
    go_ret
    exact ⟨by simp [h0, plIn], rfl⟩
  · have h1 : decide (0 ≤ i) = false := by simpa using h0
    go_enter Try.func56, Try.ntmps56
    go_wp2
    go_ret
    exact ⟨by simp [plIn, h1], rfl⟩
theorem psize_any {L : List Pg} (g : Nat) (w : World) (h : PoolB w g L) :
    Calls Try.prog 19 #[ptr g] w fun r w' => r = .returned (.int .i64 (L.length : Int)) ∧ w = w' := by
  have k0 := h.size
  go_enter Try.func19, Try.ntmps19
  go_wp2
  go_ret
  exact ⟨rfl, rfl⟩
theorem pfree_any {L : List Pg} (hL : plOk L) (g : Nat) (i : Nat) (hi : i < 240) (w : World) (h : PoolB w g L) :
    Calls Try.prog 39 #[ptr g, .int .i64 (i : Int)] w fun r w' => r = .returned (.bool (plAt L i).free) ∧ w = w' := by
  have k1 := h.cnt i hi
  have k2 := h.knd i hi
  obtain ⟨x, Hx⟩ : ∃ x, Hid (plAt L i = x) := ⟨_, rfl⟩
  rw [Hx.out] at k1 k2 ⊢
  by_cases h0 : x.c = 0
  · rw [h0] at k1
    go_enter Try.func39, Try.ntmps39
    go_wp2_with (first
      | (refine at_idx 57 _ _ rfl ?_; go_must (refine wpList_idxOff arr1_counts rfl _ _ rfl g 1 rfl .i64 _ i rfl rfl hi ?_))
      | (refine at_idx 81 _ _ rfl ?_; go_must (refine wpList_idxOff arr1_kinds rfl _ _ rfl g 241 rfl .i64 _ i rfl rfl hi ?_)))
    go_ret
    refine ⟨?_, rfl⟩
    unfold Pg.free
    rw [h0]
    simp [cast_beq0]
  · have h0' : (x.c == 0) = false := by simpa using h0
    go_enter Try.func39, Try.ntmps39
    go_wp2_with (first
      | (refine at_idx 57 _ _ rfl ?_; go_must (refine wpList_idxOff arr1_counts rfl _ _ rfl g 1 rfl .i64 _ i rfl rfl hi ?_)))
    go_ret
    refine ⟨?_, rfl⟩
    unfold Pg.free
    rw [h0']
    rfl
def Pg.frsh (x : Pg) : Bool := x.s == 1 || x.s == 2
def plFresh (L : List Pg) (i : Int) : Bool := plIn L i && (plAt L i.toNat).frsh
def plHeld (L : List Pg) (i : Int) : Bool := plIn L i && (plAt L i.toNat).held
def plCount (L : List Pg) (i : Int) : Int := if plIn L i then (plAt L i.toNat).c else 0
theorem plFresh_nat {L : List Pg} (i : Nat) : plFresh L (i : Int) = (plAt L i).frsh := by
  unfold plFresh plIn
  by_cases h : i < L.length
  · simp [h]
  · rw [Int.toNat_natCast, plAt_out _ _ (by omega)]
    simp [Pg.frsh, Pg0]
theorem plCount_nat {L : List Pg} (i : Nat) : plCount L (i : Int) = (plAt L i).c := by
  unfold plCount plIn
  by_cases h : i < L.length
  · simp [h]
  · rw [Int.toNat_natCast, plAt_out _ _ (by omega)]
    simp [h, Pg0]

theorem pfresh_any {L : List Pg} (hL : plOk L) (g : Nat) (i : Int) (w : World) (h : PoolB w g L) :
    Calls Try.prog 42 #[ptr g, .int .i64 i] w fun r w' => r = .returned (.bool (plFresh L i)) ∧ w = w' := by
  unfold plFresh
  cases hin : plIn L i with
  | false =>
    go_enter Try.func42, Try.ntmps42
    go_wp2_with (first
      | (go_at_call 56; go_must (refine (phas_any g i _ h).mono ?_; rintro e w' ⟨rfl, rfl⟩; rw [hin])))
    go_ret
    exact ⟨rfl, rfl⟩
  | true =>
    obtain ⟨hlt, hi⟩ := plIn_lt hin
    obtain ⟨j, rfl⟩ : ∃ j : Nat, i = (j : Int) := ⟨_, hi.symm⟩
    have hj : j < 240 := by have := hL.1; rw [Int.toNat_natCast] at hlt; omega
    rw [Int.toNat_natCast] at *
    have k2 := h.knd j hj
    obtain ⟨x, Hx⟩ : ∃ x, Hid (plAt L j = x) := ⟨_, rfl⟩
    rw [Hx.out] at k2 ⊢
    by_cases h1 : x.s = 1
    · rw [h1] at k2
      have k2 : w.cell? ⟨g, 241 + j, none⟩ = some (.int .u8 1) := k2
      go_enter Try.func42, Try.ntmps42
      go_wp2_with (first
        | (go_at_call 56; go_must (refine (phas_any g j _ h).mono ?_; rintro e w' ⟨rfl, rfl⟩; rw [hin]))
        | (refine at_idx 81 _ _ rfl ?_; refine wpList_idxOff arr1_kinds rfl _ _ rfl g 241 rfl .i64 _ j rfl rfl hj ?_))
      go_ret
      exact ⟨by simp [Pg.frsh, h1], rfl⟩
    · have h1' : ((x.s : Int) == 1) = false := by rw [cast_beq1]; simpa using h1
      go_enter Try.func42, Try.ntmps42
      go_wp2_with (first
        | (go_at_call 56; go_must (refine (phas_any g j _ h).mono ?_; rintro e w' ⟨rfl, rfl⟩; rw [hin]))
        | (refine at_idx 81 _ _ rfl ?_; refine wpList_idxOff arr1_kinds rfl _ _ rfl g 241 rfl .i64 _ j rfl rfl hj ?_))
      go_ret
      exact ⟨by simp [Pg.frsh, h1, cast_beq2], rfl⟩
theorem pheld_any {L : List Pg} (hL : plOk L) (g : Nat) (i : Int) (w : World) (h : PoolB w g L) :
    Calls Try.prog 51 #[ptr g, .int .i64 i] w fun r w' => r = .returned (.bool (plHeld L i)) ∧ w = w' := by
  unfold plHeld
  cases hin : plIn L i with
  | false =>
    go_enter Try.func51, Try.ntmps51
    go_wp2_with (first
      | (go_at_call 56; go_must (refine (phas_any g i _ h).mono ?_; rintro e w' ⟨rfl, rfl⟩; rw [hin])))
    go_ret
    exact ⟨rfl, rfl⟩
  | true =>
    obtain ⟨hlt, hi⟩ := plIn_lt hin
    obtain ⟨j, rfl⟩ : ∃ j : Nat, i = (j : Int) := ⟨_, hi.symm⟩
    have hj : j < 240 := by have := hL.1; rw [Int.toNat_natCast] at hlt; omega
    rw [Int.toNat_natCast] at *
    have k1 := h.cnt j hj
    have hf := pfresh_any hL g (j : Int) w h
    rw [plFresh_nat] at hf
    obtain ⟨x, Hx⟩ : ∃ x, Hid (plAt L j = x) := ⟨_, rfl⟩
    rw [Hx.out] at k1 hf ⊢
    by_cases h1 : x.c = 0
    · rw [h1] at k1
      go_enter Try.func51, Try.ntmps51
      go_wp2_with (first
        | (go_at_call 56; go_must (refine (phas_any g j _ h).mono ?_; rintro e w' ⟨rfl, rfl⟩; rw [hin]))
        | (go_at_call 42; go_must (refine hf.mono ?_; rintro e w' ⟨rfl, rfl⟩))
        | (refine at_idx 57 _ _ rfl ?_; refine wpList_idxOff arr1_counts rfl _ _ rfl g 1 rfl .i64 _ j rfl rfl hj ?_))
      go_ret
      exact ⟨by simp [Pg.frsh, Pg.held, h1], rfl⟩
    · have h1' : ¬ (x.c = 0) := h1
      go_enter Try.func51, Try.ntmps51
      go_wp2_with (first
        | (go_at_call 56; go_must (refine (phas_any g j _ h).mono ?_; rintro e w' ⟨rfl, rfl⟩; rw [hin]))
        | (refine at_idx 57 _ _ rfl ?_; refine wpList_idxOff arr1_counts rfl _ _ rfl g 1 rfl .i64 _ j rfl rfl hj ?_))
      go_ret
      exact ⟨by simp [Pg.held, h1], rfl⟩
theorem pcount_any {L : List Pg} (hL : plOk L) (g : Nat) (i : Int) (w : World) (h : PoolB w g L) :
    Calls Try.prog 38 #[ptr g, .int .i64 i] w fun r w' => r = .returned (.int .i64 (plCount L i)) ∧ w = w' := by
  unfold plCount
  cases hin : plIn L i with
  | false =>
    go_enter Try.func38, Try.ntmps38
    go_wp2_with (first
      | (go_at_call 56; go_must (refine (phas_any g i _ h).mono ?_; rintro e w' ⟨rfl, rfl⟩; rw [hin])))
    go_ret
    exact ⟨rfl, rfl⟩
  | true =>
    obtain ⟨hlt, hi⟩ := plIn_lt hin
    obtain ⟨j, rfl⟩ : ∃ j : Nat, i = (j : Int) := ⟨_, hi.symm⟩
    have hj : j < 240 := by have := hL.1; rw [Int.toNat_natCast] at hlt; omega
    rw [Int.toNat_natCast] at *
    have k1 := h.cnt j hj
    have hx := hL.2 j
    obtain ⟨x, Hx⟩ : ∃ x, Hid (plAt L j = x) := ⟨_, rfl⟩
    rw [Hx.out] at k1 hx ⊢
    have hcv : IntKind.i64.wrap x.c = x.c := by rw [IntKind.wrap_i64]; have := hx.1; have := hx.2.1; omega
    go_enter Try.func38, Try.ntmps38
    go_wp2_with (first
      | (go_at_call 56; go_must (refine (phas_any g j _ h).mono ?_; rintro e w' ⟨rfl, rfl⟩; rw [hin]))
      | (refine at_idx 57 _ _ rfl ?_; go_must (refine wpList_idxOff arr1_counts rfl _ _ rfl g 1 rfl .i64 _ j rfl rfl hj ?_)))
    go_ret
    exact ⟨by simp [hcv], rfl⟩
theorem givenUp_any (s : Nat) (w : World) :
    Calls Try.prog 52 #[.int .u8 (s : Int)] w fun r w' => r = .returned (.int .u8 ((dropS s : Nat) : Int)) ∧ w = w' := by
  unfold dropS
  by_cases h1 : s = 1
  · subst h1
    go_enter Try.func52, Try.ntmps52
    go_wp2
    go_ret
    exact ⟨rfl, rfl⟩
  · by_cases h2 : s = 2
    · subst h2
      go_enter Try.func52, Try.ntmps52
      go_wp2
      go_ret
      exact ⟨rfl, rfl⟩
    · have h1' : ((s : Int) == 1) = false := by rw [cast_beq1]; simpa using h1
      have h2' : ((s : Int) == 2) = false := by rw [cast_beq2]; simpa using h2
      rw [if_neg h1, if_neg h2]
      clear h1 h2
      go_enter Try.func52, Try.ntmps52
      go_wp2
      go_ret
      exact ⟨rfl, rfl⟩
end Go.Proofs.Ytamfnjliikiifaa
/- A pool in memory: Counts, Clone, Commit, New, Free, turn, Mark, Tidy, Take, Hold, Drop, Load. -/
namespace Go.Proofs.Ytamfnjliikiifaa
open Go.RowKit Go.Proofs.U
set_option linter.unusedSimpArgs false
set_option linter.unusedVariables false
theorem pool_size : (Try.prog.info? 83).map (·.size) = some 481 := by kernel_rfl
theorem pool_under : ∃ d, Try.prog.underlying 83 = some d ∧ d.isRow = true := ⟨.struct (Try.prog.fieldsOf 83), by kernel_rfl, rfl⟩
theorem pool_zero : (Try.prog.info? 83).map (·.zero) = some (some (.agg (poolL []).toArray)) := by kernel_rfl
theorem kind_size : (Try.prog.info? 80).map (·.size) = some 1 := by kernel_rfl
theorem kinds_size : (Try.prog.info? 81).map (·.size) = some 240 := by kernel_rfl

set_option maxRecDepth 100000 in
theorem pcounts_any {L : List Pg} (g : Nat) (w : World) (h : PoolB w g L) :
    Calls Try.prog 24 #[ptr g] w fun r w' => r = .returned (pgV (plCounts L)) ∧ Fr noB w w' := by
  obtain ⟨c, Hc⟩ : ∃ c, Hid (plCounts L = c) := ⟨_, rfl⟩
  have hcl : Hid (c.length = 240) := by show _ = _; rw [← Hc.out, plCounts_len]
  have hds := show Hid _ from poolL_counts L
  rw [Hc.out] at hds ⊢
  obtain ⟨X, HX⟩ : ∃ X, Hid (poolL L = X) := ⟨_, rfl⟩
  unfold PoolB at h
  rw [HX.out] at hds h
  have hl := h.lt
  go_enter Try.func24, Try.ntmps24
  go_wp2_with (first
    | (with_reducible refine at_wpP ?_; refine wpList_allocA arr_counts rfl rfl ?_; intro g2 w2 hg2 b2 f2 s2; have h2 := h.fr0 f2)
    | (with_reducible refine at_wpP ?_; refine at_ld 57 _ rfl ?_; go_must (refine wpList_loadV rfl 57 _ rfl g 1 rfl _ X (pgv c) _ h2 arr_counts.und rfl (by rw [arr_counts.size, pgv_len, hcl.out]) (by rw [pgv_len, hcl.out]; exact hds.out) ?_))
    | (with_reducible refine at_wpP ?_; refine at_st 57 _ _ rfl ?_; go_must (refine wpList_storeA arr_counts rfl _ _ rfl g2 rfl c rfl _ b2 hcl.out (zerB_len 240) ?_; intro w3 b3 f3)))
  refine bodyPost_ret (v := pgV c) (results_arr arr_counts Try.results24 _ w3 g2 c rfl b3 hcl.out) rfl ⟨rfl, ?_⟩
  exact f2.thenT f3 (fun i hi q => by unfold onB1 at q; omega)

set_option maxRecDepth 100000 in
theorem pclone_any {L : List Pg} (g : Nat) (w : World) (h : PoolB w g L) :
    Calls Try.prog 41 #[ptr g] w fun r w' => ∃ g', r = .returned (ptr g') ∧ w.heap.size ≤ g' ∧ PoolB w' g' L ∧ Fr noB w w' := by
  obtain ⟨X, HX⟩ : ∃ X, Hid (poolL L = X) := ⟨_, rfl⟩
  have hXl : Hid (X.length = 481) := by show _ = _; rw [← HX.out, poolL_len]
  have hX1 : ∀ v ∈ X, v.oneCell' = true := by rw [← HX.out]; exact poolL_one L
  obtain ⟨Z, HZ⟩ : ∃ Z, Hid (poolL [] = Z) := ⟨_, rfl⟩
  have hZl : Hid (Z.length = 481) := by show _ = _; rw [← HZ.out, poolL_len]
  have hz0 := pool_zero
  rw [HZ.out] at hz0
  unfold PoolB at h ⊢
  rw [HX.out] at h ⊢
  have hl := h.lt
  obtain ⟨d, hu, hd⟩ := pool_under
  go_enter Try.func41, Try.ntmps41
  go_wp2_with (first
    | (with_reducible refine at_wpP ?_; refine at_ld 83 _ rfl ?_; go_must (refine wpList_loadV rfl 83 _ rfl g 0 rfl _ X X d h hu hd (by rw [pool_size, hXl.out]) (by rw [List.drop_zero, List.take_length]) ?_))
    | (with_reducible refine at_wpP ?_; refine wpList_allocV rfl 83 rfl Z hz0 ?_; intro g2 w2 hg2 b2 f2 s2)
    | (with_reducible refine at_wpP ?_; refine at_st 83 _ _ rfl ?_; go_must (refine wpList_storeV rfl 83 _ _ rfl g2 0 rfl X rfl _ _ b2 (by rw [pool_size, hXl.out]) (by rw [hXl.out, hZl.out]; decide) hX1 ?_; intro w3 b3 f3; rw [putAt_all _ _ (by rw [hXl.out, hZl.out])] at b3)))
  go_ret
  exact ⟨g2, rfl, s2, b3, f2.thenT f3 (fun i hi q => by unfold onB1 at q; omega)⟩

set_option maxRecDepth 100000 in
theorem pcommit_any {L : List Pg} (g : Nat) (w : World) (h : PoolB w g L) :
    Calls Try.prog 16 #[ptr g] w fun r w' => r = .returned (.tuple #[]) ∧ PoolB w' g (plCommit L) ∧ Fr (onB1 g) w w' := by
  obtain ⟨X, HX⟩ : ∃ X, Hid (poolL L = X) := ⟨_, rfl⟩
  have hXl : Hid (X.length = 481) := by show _ = _; rw [← HX.out, poolL_len]
  have hcm := show Hid _ from poolL_comm L
  unfold PoolB at h ⊢
  rw [HX.out] at h hcm
  go_enter Try.func16, Try.ntmps16
  go_wp2_with (first
    | (refine at_cut 81 _ _ _ _ rfl ?_; go_must (refine wpList_allOff arr1_kinds (by decide) rfl _ rfl g 241 rfl ?_))
    | (with_reducible refine at_wpP ?_; refine at_clr _ 79 rfl ?_; go_must (refine wpList_clrV rfl _ 79 rfl g _ X h 80 (.int .u8 0) Try.underlying79 (by kernel_rfl) rfl rfl 241 240 240 rfl (by decide) (by rw [hXl.out]; decide) ?_; intro w1 b1 f1)))
  go_end0
  refine ⟨rfl, ?_, f1⟩
  rw [← hcm.out]; exact b1
theorem pool_places : (Try.prog.fieldsOf 83).toList.mapM (fun f => (Try.prog.info? f.type).map fun i => (f.offset, i.size)) = some [(0, 1), (1, 240), (241, 240)] := by kernel_rfl
theorem pool_struct : Try.prog.underlying 83 = some (.struct (Try.prog.fieldsOf 83)) := by kernel_rfl
theorem built_pool (n : Int) : Try.prog.built 83 [(0, .int .i64 (plN n : Int))] = some (poolL (plNew n)).toArray := by
  rw [built_struct _ _ pool_struct _ pool_zero _ pool_places]
  rw [fill_put _ _ 0 0 1 (.int .i64 (plN n : Int)) [.int .i64 (plN n : Int)] rfl rfl rfl (by rw [poolL_len]; decide)]
  have hl1 : 0 + [Value.int .i64 (plN n : Int)].length ≤ (poolL []).length := by rw [poolL_len]; simp
  unfold Instr.fill
  congr 2
  refine poolL_ext (by rw [putAt_len _ _ _ hl1, poolL_len]) ?_ ?_ ?_
  · rw [plNew_len]; rfl
  · intro j hj
    rw [putAt_get _ _ _ hl1, if_neg (by simp), poolL_cnt _ _ hj, plNew_at]; rfl
  · intro j hj
    rw [putAt_get _ _ _ hl1, if_neg (by simp), poolL_knd _ _ hj, plNew_at]; rfl
section
variable {w : World} {ops : Array Oper} {rest : List Oper} {o : Oper} {a : Act} {Q : Exit → Act → World → Prop}
theorem wpList_buildPool (hgd : Region.wanted o (yielded ops a.tmps) = true) (x : Operand) (ho : o.op = .build 83 #[(0, x)]) (n : Int) (z : Int) (hx : a.eval x = .int .i64 z) (hz : z = (plN n : Int))
    (h : wpList Try.prog ops Q rest (a.put o.dst (.agg (poolL (plNew n)).toArray)) w) : wpList Try.prog ops Q (o :: rest) a w := by
  subst hz
  refine wpList_wanted hgd fun K hK => ?_
  have hrun := run_build (P := Try.prog) w 83 #[(0, .int .i64 (plN n : Int))] _ (built_pool n)
  unfold Oper.wp
  simp [execOp, ho, hx, hrun, Result.andThen]
  exact hK _ _ h
end
set_option maxRecDepth 100000 in
theorem pnew_any (n : Int) (w : World) :
    Calls Try.prog 27 #[.int .i64 n] w fun r w' => ∃ g, r = .returned (ptr g) ∧ w.heap.size ≤ g ∧ PoolB w' g (plNew n) ∧ Fr noB w w' := by
  unfold PoolB
  obtain ⟨X, HX⟩ : ∃ X, Hid (poolL (plNew n) = X) := ⟨_, rfl⟩
  rw [HX.out]
  go_enter Try.func27, Try.ntmps27
  go_wp2_with (first
    | (with_reducible refine at_wpP ?_; refine wpList_buildPool rfl _ rfl n _ rfl ?hz ?_; rotate_left 1; rw [HX.out])
    | (with_reducible refine at_wpP ?_; refine wpList_boxV rfl 83 _ rfl X rfl ?_; intro g1 w1 hg1 b1 f1 s1))
  case hz => unfold plN; omega
  go_ret
  exact ⟨g1, rfl, s1, b1, f1⟩

set_option maxHeartbeats 1000000 in
theorem pfreeN_any {L : List Pg} (hL : plOk L) (g : Nat) (w : World) (h : PoolB w g L) :
    Calls Try.prog 18 #[ptr g] w fun r w' => r = .returned (.int .i64 ((plFree L : Nat) : Int)) ∧ w = w' := by
  have k0 := h.size
  have hl240 := hL.1
  obtain ⟨N, HN⟩ : ∃ N, Hid (plFree L = N) := ⟨_, rfl⟩
  rw [HN.out]
  go_enter Try.func18, Try.ntmps18
  go_wp2
  go_loop [3, 9] (fun u i => ∃ (k : Nat) (m : Nat), k ≤ L.length ∧ i = .int .i64 (k : Int) ∧ u = .int .i64 (m : Int) ∧ Hid (plFree (L.take k) = m)) (fun _ i => L.length - (intOf i).toNat)
  case atStart => exact ⟨0, 0, by omega, rfl, rfl, rfl⟩
  case round =>
    obtain ⟨k, m, hk, rfl, rfl, hm⟩ := hrel
    have hml : m ≤ 240 := by
      have := plFree_le (L.take k)
      rw [hm.out, List.length_take] at this; omega
    by_cases hlt : k < L.length
    · have hs := show Hid _ from plFree_succ L k hlt
      rw [hm.out] at hs
      cases hb : (plAt L k).free with
      | false =>
        rw [hb] at hs
        go_wp2_with (first
          | (go_at_call 39; go_must (refine (pfree_any hL g k (by omega) _ h).mono ?_; rintro e w' ⟨rfl, rfl⟩; rw [hb])))
        go_round
        case rel => exact ⟨k + 1, m, by omega, by go_num, rfl, hs⟩
        case measure => simp [intOf]; omega
      | true =>
        rw [hb] at hs
        go_wp2_with (first
          | (go_at_call 39; go_must (refine (pfree_any hL g k (by omega) _ h).mono ?_; rintro e w' ⟨rfl, rfl⟩; rw [hb])))
        go_round
        case rel => exact ⟨k + 1, m + 1, by omega, by go_num, by go_num, hs⟩
        case measure => simp [intOf]; omega
    · obtain rfl : k = L.length := by omega
      rw [List.take_length] at hm
      obtain rfl : m = N := hm.out.symm.trans HN.out
      go_wp2
      go_ret
      exact ⟨rfl, rfl⟩
def turnP (a b : Nat) (x : Pg) : Pg := if x.s = a then ⟨x.c, b⟩ else x
theorem turnP0 (a b : Nat) (h : a ≠ 0) : turnP a b Pg0 = Pg0 := by unfold turnP; rw [if_neg (fun e => h e.symm)]
theorem plExt {L M : List Pg} (hl : L.length = M.length) (h : ∀ i, i < L.length → plAt L i = plAt M i) : L = M := by
  refine List.ext_getElem hl fun i h1 h2 => ?_
  have := h i h1
  rwa [plAt_get _ _ h1, plAt_get _ _ h2] at this
/-- The first k pages turned. -/
def turnK (a b k : Nat) (L : List Pg) : List Pg := (L.take k).map (turnP a b) ++ L.drop k
theorem turnK_len (a b k : Nat) (L : List Pg) : (turnK a b k L).length = L.length := by
  unfold turnK; rw [List.length_append, List.length_map, ← List.length_append, List.take_append_drop]
theorem turnK_at (a b k : Nat) (L : List Pg) (ha : a ≠ 0) (i : Nat) : plAt (turnK a b k L) i = if i < k then turnP a b (plAt L i) else plAt L i := by
  by_cases hi : i < L.length
  · rw [plAt_get _ _ (by rw [turnK_len]; exact hi), plAt_get _ _ hi]
    unfold turnK
    by_cases hk : i < k
    · rw [if_pos hk, List.getElem_append_left (by simp; omega), List.getElem_map, List.getElem_take]
    · rw [if_neg hk, List.getElem_append_right (by simp; omega), List.getElem_drop]
      congr 1; simp; omega
  · rw [plAt_out _ _ (by rw [turnK_len]; omega), plAt_out _ _ (by omega), turnP0 _ _ ha, ite_self]
theorem turnK_zero (a b : Nat) (L : List Pg) : turnK a b 0 L = L := by simp [turnK]
theorem turnK_all (a b : Nat) (L : List Pg) (h : L.length ≤ 240) : turnK a b 240 L = L.map (turnP a b) := by
  unfold turnK; rw [List.take_of_length_le h, List.drop_of_length_le h, List.append_nil]
theorem turnK_yes (a b k : Nat) (L : List Pg) (ha : a ≠ 0) (hk : k < L.length) (h : (plAt L k).s = a) : (turnK a b k L).set k ⟨(plAt (turnK a b k L) k).c, b⟩ = turnK a b (k + 1) L := by
  refine plExt (by rw [List.length_set, turnK_len, turnK_len]) fun i hi => ?_
  rw [plAt_set _ _ _ _ (by rw [turnK_len]; exact hk), turnK_at _ _ _ _ ha, turnK_at _ _ _ _ ha, turnK_at _ _ _ _ ha, if_neg (Nat.lt_irrefl k)]
  by_cases e : i = k
  · subst e
    rw [if_pos rfl, if_pos (by omega)]
    unfold turnP; rw [if_pos h]
  · rw [if_neg e]
    by_cases h2 : i < k
    · rw [if_pos h2, if_pos (by omega)]
    · rw [if_neg h2, if_neg (by omega)]
theorem turnK_no (a b k : Nat) (L : List Pg) (ha : a ≠ 0) (h : ¬ (plAt L k).s = a) : turnK a b (k + 1) L = turnK a b k L := by
  refine plExt (by rw [turnK_len, turnK_len]) fun i hi => ?_
  rw [turnK_at _ _ _ _ ha, turnK_at _ _ _ _ ha]
  by_cases e : i = k
  · subst e
    rw [if_pos (by omega), if_neg (Nat.lt_irrefl _)]
    unfold turnP; rw [if_neg h]
  · by_cases h2 : i < k
    · rw [if_pos h2, if_pos (by omega)]
    · rw [if_neg h2, if_neg (by omega)]
theorem run_index1 {P : Program} {t e : TypeId} {n : Nat} (T : Arr1 P t e n) (k : IntKind) (he : P.underlying e = some (.int k)) (w : World) (p : List Int) (hl : p.length = n) (i : Nat) (hi : i < n) : (Instr.index t (.agg (p.map (Value.int k)).toArray) (.int .i64 (i : Int))).run P w = .ok (.int k (p.getD i 0)) w := by
  obtain ⟨ii, hii, hs⟩ := Option.map_eq_some_iff.1 T.size
  have hgi : p[i]? = some (p.getD i 0) := by simp [List.getD, show i < p.length by omega]
  generalize p.getD i 0 = y at hgi
  simp [Instr.index, asIntOf, run_underlying T.und, run_underlying he, part, isAgg, sizeOf, typeInfo, hii, hs, go_sem, hi, hgi]
theorem wpList_indexK {w : World} {ops : Array Oper} {rest : List Oper} {o : Oper} {a : Act} {Q : Exit → Act → World → Prop} {t e : TypeId} {n : Nat} (T : Arr1 Try.prog t e n) (he : Try.prog.underlying e = some (.int .u8)) (hgd : Region.wanted o (yielded ops a.tmps) = true) (x y : Operand) (ho : o.op = .index t x y) (p : List Int) (hx : a.eval x = pgV p) (hl : p.length = n) (i : Nat) (hy : a.eval y = .int .i64 (i : Int)) (hi : i < n)
    (h : wpList Try.prog ops Q rest (a.put o.dst (.int .u8 (p.getD i 0))) w) : wpList Try.prog ops Q (o :: rest) a w := by
  refine wpList_wanted hgd fun K hK => ?_
  have hrun := run_index1 T .u8 he w p hl i hi
  unfold pgV pgv at hx
  unfold Oper.wp
  simp [execOp, ho, hx, hy, hrun, Result.andThen]
  exact hK _ _ h
theorem cast_inj {a b : Nat} (h : ¬ a = b) : ((a : Int) == (b : Int)) = false := by simp; omega
set_option maxRecDepth 100000 in
set_option maxHeartbeats 1000000 in
theorem pturn_any {L : List Pg} (hL : plOk L) (g a b : Nat) (ha : a ≠ 0) (w : World) (h : PoolB w g L) :
    Calls Try.prog 57 #[ptr g, .int .u8 (a : Int), .int .u8 (b : Int)] w fun r w' => r = .returned (.tuple #[]) ∧ PoolB w' g (L.map (turnP a b)) ∧ Fr (onB1 g) w w' := by
  have hl240 := hL.1
  obtain ⟨M, HM⟩ : ∃ M, Hid (L.map (turnP a b) = M) := ⟨_, rfl⟩
  rw [HM.out]
  obtain ⟨c, Hc⟩ : ∃ c, Hid (plKinds L = c) := ⟨_, rfl⟩
  have hcl : Hid (c.length = 240) := by show _ = _; rw [← Hc.out, plKinds_len]
  have hds := show Hid _ from poolL_kinds L
  rw [Hc.out] at hds
  have hca : ∀ i, i < 240 → Hid (c.getD i 0 = ((plAt L i).s : Int)) := fun i hi => by show _ = _; rw [← Hc.out, plKinds_at _ _ hi]
  go_enter Try.func57, Try.ntmps57
  go_wp2_with (first
    | (with_reducible refine at_wpP ?_; refine at_ld 81 _ rfl ?_; go_must (refine wpList_loadV rfl 81 _ rfl g 241 rfl _ _ (pgv c) _ h arr1_kinds.und rfl (by rw [kinds_size, pgv_len, hcl.out]) (by rw [pgv_len, hcl.out]; exact hds.out) ?_)))
  go_loopw [12] (fun i wr => ∃ (k : Nat), k ≤ 240 ∧ i = .int .i64 (k : Int) ∧ PoolB wr g (turnK a b k L) ∧ Fr (onB1 g) w wr) (fun i _ => 240 - (intOf i).toNat)
  case atStart => exact ⟨0, by omega, rfl, by rw [turnK_zero]; exact h, Fr.refl _ _⟩
  case round =>
    obtain ⟨k, hk, rfl, hb, hf⟩ := hrel
    by_cases hlt : k < 240
    · have hck := hca k hlt
      by_cases hs : (plAt L k).s = a
      · rw [hs] at hck
        have hkl : k < L.length := by
          by_cases q : k < L.length
          · exact q
          · rw [plAt_out _ _ (by omega)] at hs; exact absurd hs.symm ha
        have hst := show Hid _ from poolL_setK (turnK a b k L) k (by rw [turnK_len]; exact hkl) (by rw [turnK_len]; exact hl240) b (b : Int) rfl
        rw [turnK_yes a b k L ha hkl hs] at hst
        obtain ⟨X, HX⟩ : ∃ X, Hid (poolL (turnK a b k L) = X) := ⟨_, rfl⟩
        have hXl : Hid (X.length = 481) := by show _ = _; rw [← HX.out, poolL_len]
        unfold PoolB at hb
        rw [HX.out] at hb hst
        clear hs
        go_wp2_with (first
          | (refine at_index 81 _ _ rfl ?_; go_must (refine wpList_indexK arr1_kinds Try.underlying80 rfl _ _ rfl c rfl hcl.out k rfl hlt ?_; rw [hck.out]))
          | (refine at_idx 81 _ _ rfl ?_; go_must (refine wpList_idxOff arr1_kinds rfl _ _ rfl g 241 rfl .i64 _ k rfl rfl hlt ?_))
          | (with_reducible refine at_wpP ?_; refine at_st 80 _ _ rfl ?_; go_must (refine wpList_store1 rfl 80 _ _ rfl g (241 + k) rfl (.int .u8 (b : Int)) rfl rfl _ _ hb kind_size (by rw [hXl.out]; omega) ?_; intro w1 b1 f1; rw [hst.out] at b1; have F1 := hf.trans f1)))
        go_roundw
        case rel => exact ⟨k + 1, by omega, by go_num, b1, F1⟩
        case measure => simp [intOf]; omega
      · have hs' := cast_inj hs
        have hno := show Hid _ from turnK_no a b k L ha hs
        clear hs
        obtain ⟨y, Hy⟩ : ∃ y, Hid (((plAt L k).s : Int) = y) := ⟨_, rfl⟩
        rw [Hy.out] at hck hs'
        go_wp2_with (first
          | (refine at_index 81 _ _ rfl ?_; go_must (refine wpList_indexK arr1_kinds Try.underlying80 rfl _ _ rfl c rfl hcl.out k rfl hlt ?_; rw [hck.out])))
        go_roundw
        case rel => exact ⟨k + 1, by omega, by go_num, by rw [hno.out]; exact hb, hf⟩
        case measure => simp [intOf]; omega
    · obtain rfl : k = 240 := by omega
      rw [turnK_all a b L hl240, HM.out] at hb
      go_wp2
      go_end0
      exact ⟨rfl, hb, hf⟩
theorem pmark_any {L : List Pg} (hL : plOk L) (g : Nat) (w : World) (h : PoolB w g L) :
    Calls Try.prog 40 #[ptr g] w fun r w' => ∃ g', r = .returned (ptr g') ∧ w.heap.size ≤ g' ∧ PoolB w' g' (plMark L) ∧ PoolB w' g (plMark L) ∧ Fr (onB1 g) w w' := by
  have ht := fun w h => pturn_any hL g 1 2 (by decide) w h
  change ∀ w h, Calls Try.prog _ _ w (fun r w' => r = .returned (.tuple #[]) ∧ PoolB w' g (plMark L) ∧ Fr (onB1 g) w w') at ht
  go_enter Try.func40, Try.ntmps40
  go_wp2_with (first
    | (go_at_call 57; go_must (refine (ht _ h).mono ?_; rintro e w1 ⟨rfl, b1, f1⟩))
    | (go_at_call 41; go_must (refine (pclone_any g _ b1).mono ?_; rintro e w2 ⟨g2, rfl, s2, b2, f2⟩)))
  go_ret
  have := f1.size
  exact ⟨g2, rfl, by omega, b2, b1.fr0 f2, f1.thenN f2⟩
end Go.Proofs.Ytamfnjliikiifaa
