/- Contract of strconv.FormatUint at base 10, by the library's own contracts of what it calls, and of digits of package label. -/
import Derived.Test.YtcpkkdffedndiaaDoorSh
import Derived.Test.YtcpkkdffedndiaaDoorL1
import Derived.Lib.ItoaMem
import Derived.Lib.ItoaLen
import Derived.Laws.Slices
namespace Go.Proofs.YtcpkkdffedndiaaDoor
open Go.RowKit Go.Proofs.U Go.Sort
set_option linter.unusedSimpArgs false
set_option linter.unusedVariables false

abbrev bEnc : UInt8 → Value := fun (b : UInt8) => Value.int .u8 (b.toNat : Int)

/-- The library's table of the powers of ten lies as it was laid. -/
def Tab (w : World) : Prop := ∃ t f, w.heap[(1 : Nat)]? = some (.cells (Lib.pow10Tab.map fun z => Value.int .u64 z).toArray t f)
theorem Tab.fr0 {w w' : World} (h : Tab w) (f : Fr noB w w') : Tab w' := by
  obtain ⟨t, r, h⟩ := h
  exact ⟨t, r, (f.block _ (Array.getElem?_eq_some_iff.mp h).1 (fun q => q)).trans h⟩

theorem zero_row (w : World) (T : TypeId) (nd : Nat) (hs : nd ≤ 24) : Holds bEnc (w.alloc (.cells Lib.zeros24 T)) w.heap.size 0 (Array.replicate nd (0 : UInt8)) := fun j hj => by
  have hj' : j < nd := by simpa using hj
  refine ⟨?_, World.frozen?_alloc_new _ _ _ _⟩
  rw [World.cell?_alloc_new, Lib.zeros24_at _ (by omega), getElem!_pos _ j hj]
  simp

theorem fr_put (w : World) (o : Obj) (dk : Array UInt8) (k : Nat) : Fr noB w ((putRow bEnc (w.alloc o) w.heap.size 0 dk).drewN k) := by
  rw [alloc_eq_grow]
  obtain ⟨os', _, e⟩ := putRow_grow_new bEnc w #[o] w.heap.size 0 dk (Nat.le_refl _)
  rw [e]
  refine Fr.drewN ?_ k
  exact ⟨rfl, rfl, rfl, by simp [grow], fun i hi _ => by simp [grow, Array.getElem?_append, hi]⟩

set_option maxHeartbeats 2000000 in
set_option maxRecDepth 100000 in
theorem fmt_any (u : Nat) (hu64 : u < 18446744073709551616) (w : World) (htab : Tab w) :
    Calls Tryd.prog 44 #[.int .u64 (u : Int), .int .i64 10] w fun r w' => r = .returned (.string ⟨(Lib.decDigits u).toArray⟩) ∧ Fr noB w w' := by
  by_cases hs : u < 100
  · go_enter Tryd.func44, Tryd.ntmps44
    go_wp2_with (go_at_call 49; go_must (refine (Tryd.internal_strconv_small u hs _).mono ?_; rintro e w' ⟨rfl, rfl⟩))
    go_ret
    exact ⟨rfl, Fr.refl _ _⟩
  · have hu1 : 1 ≤ u := by omega
    have hnd20 : Lib.nDigits u ≤ 20 := Lib.nDigits_le20 u hu64
    have hal : Tryd.prog.arrayLen 75 = 24 := by simp [Program.arrayLen, Tryd.underlying75]
    have hsl : ∀ W, (Instr.sliceAt 75 (.pointer (some ⟨w.heap.size, 0, none⟩)) none (some (.int .i64 (Lib.nDigits u : Int))) none).run Tryd.prog W = .ok (.slice (some ⟨w.heap.size, 0, none⟩) (Lib.nDigits u) 24) W := fun W => by
      rw [run_sliceAt_array_h W 75 ⟨w.heap.size, 0, none⟩ (by simp [Program.arrayLen, Program.elem, Tryd.underlying75]) .i64 (Lib.nDigits u : Int) (by omega) (by rw [hal]; omega)]
      go_simp
    have hH0 := zero_row w 75 (Lib.nDigits u) (by omega)
    have hfmt := Tryd.internal_strconv_formatBase10 w.heap.size 0 24 u (Array.replicate (Lib.nDigits u) 0) (w.alloc (.cells Lib.zeros24 75)) hH0 (by rw [Array.size_replicate]; exact Lib.lt_pow_nDigits u) hu64 (by rw [Array.size_replicate]; omega)
    rw [Array.size_replicate] at hfmt
    have HH0 : Hid (Holds bEnc (w.alloc (.cells Lib.zeros24 75)) w.heap.size 0 (Array.replicate (Lib.nDigits u) (0 : UInt8))) := hH0
    have htab' := Any.internal_strconv_numDigits Tryd.laysM284 u hu1 hu64 (w.alloc (.cells Lib.zeros24 75)) (by
      obtain ⟨t, f, h⟩ := htab.fr0 ((Fr.refl _ _).alloc (.cells Lib.zeros24 75))
      unfold Lib.TabIs World.var?
      rw [Tryd.laysM284.m17]
      show (match (w.alloc (.cells Lib.zeros24 75)).heap[(1 : Nat)]? with | some (.cells cs _ _) => some cs | _ => none) = _
      rw [h])
    clear hH0 hal
    go_enter Tryd.func44, Tryd.ntmps44
    go_wp2_with (go_at_call 50; go_must (refine htab'.mono ?_; rintro e w' ⟨rfl, rfl⟩))
    refine hfmt.mono ?_
    rintro e w' ⟨rfl, k, v', dk, rfl, hF⟩
    have hfr := fr_put w (.cells Lib.zeros24 75) dk k
    have hcv : (convert 38 9 (.slice (some ⟨w.heap.size, 0, none⟩) (Lib.nDigits u) 24)).run Tryd.prog ((putRow bEnc (w.alloc (.cells Lib.zeros24 75)) w.heap.size 0 dk).drewN k) = .ok (.string ⟨(Lib.decDigits u).toArray⟩) ((putRow bEnc (w.alloc (.cells Lib.zeros24 75)) w.heap.size 0 dk).drewN k) := by
      have h := run_convert_bytes_back (P := Tryd.prog) ((putRow bEnc (w.alloc (.cells Lib.zeros24 75)) w.heap.size 0 dk).drewN k) 38 9 5 ⟨w.heap.size, 0, none⟩ 24 (Lib.decDigits u) Tryd.underlying38 Tryd.underlying5 Tryd.underlying9 (fun j hj => by
        rw [Lib.row_is_numeral hF j hj, Lib.add_plain, World.cell?_drewN]
        exact cell?_putRow bEnc _ w.heap.size 0 _ dk HH0.out (by rw [hF.size, Array.size_replicate]) j (by rw [hF.size]; rw [Lib.decDigits_length] at hj; exact hj))
      rw [Lib.decDigits_length] at h
      exact h
    go_wp2
    go_ret
    exact ⟨rfl, hfr⟩

/-- A number's decimal digits. -/
def dig (n : Int) : ByteArray := ⟨(Lib.decDigits n.toNat).toArray⟩

set_option maxHeartbeats 1000000 in
theorem digits_any (n : Int) (h0 : 0 ≤ n) (h1 : n < 4294967296) (w : World) (ht : Tab w) :
    Calls Tryd.prog 35 #[.int .u32 n] w fun r w' => r = .returned (.string (dig n)) ∧ Fr noB w w' := by
  obtain ⟨u, rfl⟩ : ∃ u : Nat, n = u := ⟨n.toNat, by omega⟩
  go_enter Tryd.func35, Tryd.ntmps35
  go_wp2_with (first
    | (go_at_call 44; go_must (refine (fmt_any u (by omega) _ ht).mono ?_; rintro e w' ⟨rfl, f1⟩))
    | go_in)
  go_ret
  exact ⟨rfl, f1⟩
end Go.Proofs.YtcpkkdffedndiaaDoor
