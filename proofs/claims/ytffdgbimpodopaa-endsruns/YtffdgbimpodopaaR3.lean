/- Contracts of Left, Failed and Ended in their quiet form, and of the document's own Take; bytes of at most 10^12. -/
import Derived.Test.YtffdgbimpodopaaR2
namespace Go.Proofs.Ytffdgbimpodopaa
open Go.RowKit Go.Proofs.U

/-- Nothing but draws. -/
def Qt (w w' : World) : Prop := ∃ m, w' = w.drewN m
theorem Qt.fr {w w' : World} (h : Qt w w') : Fr noB w w' := by obtain ⟨m, rfl⟩ := h; exact (Fr.refl _ _).drewN m

set_option maxHeartbeats 1000000 in
theorem left_q (b : Nat) (vb : Value) (l : List Int) (t : Nat) (f : Bool) (w : World) (hr : Rd w b vb l t f) :
    Calls Try.prog 14 #[.pointer (some ⟨b, 0, none⟩)] w fun e w' => e = .returned (.int .i64 ((l.length - t : Nat) : Int)) ∧ ∃ m, w' = w.drewN m := by
  obtain ⟨h0, h1, h2, h3, h4, h5, h6, h7⟩ := hr
  obtain ⟨a, cap, rfl, hcap⟩ := h4.opn
  go_enter Try.func14, Try.ntmps14
  go_wp2
  go_quiet (fail)
  go_wp2
  go_ret
  refine ⟨?_, _, rfl⟩
  simp
  omega

set_option maxHeartbeats 1000000 in
theorem failed_q (b : Nat) (vb : Value) (l : List Int) (t : Nat) (f : Bool) (w : World) (hr : Rd w b vb l t f) :
    Calls Try.prog 13 #[.pointer (some ⟨b, 0, none⟩)] w fun e w' => e = .returned (.bool f) ∧ ∃ m, w' = w.drewN m := by
  obtain ⟨h0, h1, h2, h3, h4, h5, h6, h7⟩ := hr
  go_enter Try.func13, Try.ntmps13
  go_wp2
  go_ret
  exact ⟨rfl, 0, rfl⟩

theorem Rd.q {w : World} {b : Nat} {vb : Value} {l : List Int} {t : Nat} {f : Bool} (h : Rd w b vb l t f) (m : Nat) : Rd (w.drewN m) b vb l t f := h.fr0 ((Fr.refl _ _).drewN m)

set_option maxHeartbeats 1000000 in
theorem ended_q (b : Nat) (vb : Value) (l : List Int) (t : Nat) (f : Bool) (w : World) (hr : Rd w b vb l t f) :
    Calls Try.prog 15 #[.pointer (some ⟨b, 0, none⟩)] w fun e w' => e = .returned (.bool (decide (l.length = t) && !f)) ∧ ∃ m, w' = w.drewN m := by
  have hr0 := hr
  obtain ⟨h0, h1, h2, h3, h4, h5, h6, h7⟩ := hr
  by_cases hz : l.length = t
  · have hz2 : (((l.length - t : Nat) : Int) == 0) = true := by simp; omega
    go_enter Try.func15, Try.ntmps15
    go_wp2_with (go_at_call 14; refine (left_q _ _ _ _ _ _ hr0).mono ?_; rintro e w1 ⟨rfl, m, rfl⟩)
    go_ret
    exact ⟨by simp [hz], m, rfl⟩
  · have hz2 : (((l.length - t : Nat) : Int) == 0) = false := by simp; omega
    go_enter Try.func15, Try.ntmps15
    go_wp2_with (go_at_call 14; refine (left_q _ _ _ _ _ _ hr0).mono ?_; rintro e w1 ⟨rfl, m, rfl⟩)
    go_ret
    exact ⟨by simp [hz], m, rfl⟩

set_option maxHeartbeats 1000000 in
theorem rtake_no (vb : Value) (l : List Int) (t : Nat) (f : Bool) (n : Int) (w : World) (hb : SlI .u8 w vb l) (ht : t ≤ l.length) (hl : l.length ≤ 1000000000000) (hno : tkOk l t f n = false) :
    Calls Try.prog 18 #[.agg #[vb, .int .i64 t, .bool f], .int .i64 n] w fun e w' => e = .returned (.tuple #[.agg #[vb, .int .i64 t, .bool true], .slice none 0 0]) ∧ Fr noB w w' := by
  obtain ⟨a, cap, rfl, hcap⟩ := hb.opn
  by_cases hf : f = true
  · subst hf
    go_enter Try.func18, Try.ntmps18
    go_wp2
    refine bodyPost_ret (v := .tuple #[.agg #[.slice a l.length cap, .int .i64 t, .bool true], .slice none 0 0]) (by simp [results, Try.results18, go_sem]) rfl ⟨rfl, ?_⟩
    exact ((Fr.refl _ _).alloc _).alloc _
  obtain rfl : f = false := by simpa using hf
  by_cases hn : n < 0
  · skip
    go_enter Try.func18, Try.ntmps18
    go_wp2
    refine bodyPost_ret (v := .tuple #[.agg #[.slice a l.length cap, .int .i64 t, .bool true], .slice none 0 0]) (by simp [results, Try.results18, go_sem]) rfl ⟨rfl, ?_⟩
    exact ((Fr.refl _ _).alloc _).alloc _
  · have hlt : (l.length : Int) - (t : Int) < n := by
      simp [tkOk] at hno
      have := hno (by omega)
      omega
    go_enter Try.func18, Try.ntmps18
    go_wp2
    refine bodyPost_ret (v := .tuple #[.agg #[.slice a l.length cap, .int .i64 t, .bool true], .slice none 0 0]) (by simp [results, Try.results18, go_sem]) rfl ⟨rfl, ?_⟩
    exact ((Fr.refl _ _).alloc _).alloc _

theorem owns_empty (W : World) (e : TypeId) (base g : Nat) (hg : g = W.heap.size) (hb : base ≤ g) : (W.alloc (.cells #[] e)).ownsRow base e 1 (.slice (some ⟨g, 0, none⟩) 0 0) 0 [] := by
  subst hg; exact World.ownsRow_made W #[] 0 hb (Nat.zero_le _) rfl

theorem box3 {w : World} {k : Nat} {x y z : Value} {T : TypeId} (h : w.heap[k]? = some (.cells #[x, y, z] T (0, 0))) :
    w.cell? ⟨k, 0, none⟩ = some x ∧ w.cell? ⟨k, 1, none⟩ = some y ∧ w.cell? ⟨k, 2, none⟩ = some z ∧ w.frozen? ⟨k, 0, none⟩ = false ∧ w.frozen? ⟨k, 1, none⟩ = false ∧ w.frozen? ⟨k, 2, none⟩ = false := by
  simp [World.cell?, World.frozen?, h]

theorem heap3_0 (w : World) (A B C : Obj) : (((w.alloc A).alloc B).alloc C).heap[w.heap.size]? = some A := by
  show (((w.heap.push A).push B).push C)[w.heap.size]? = _
  rw [Array.getElem?_push, if_neg (by simp; omega), Array.getElem?_push, if_neg (by simp), Array.getElem?_push, if_pos rfl]
theorem heap3_1 (w : World) (A B C : Obj) : (((w.alloc A).alloc B).alloc C).heap[w.heap.size + 1]? = some B := by
  show (((w.heap.push A).push B).push C)[w.heap.size + 1]? = _
  rw [Array.getElem?_push, if_neg (by simp), Array.getElem?_push, if_pos (by simp)]

/-- The boxes of a call that made them stay while another row grows. -/
theorem box_kept {W w4 : World} {g : Nat} (hf : Fr (onB g) W w4) {p : Addr} {v : Value} (hc : W.cell? p = some v) (hz : W.frozen? p = false) (hne : p.block ≠ g) : w4.cell? p = some v ∧ w4.frozen? p = false :=
  ⟨hf.cell hc hne, (hf.frozen hc hne).trans hz⟩

set_option maxHeartbeats 1000000 in
theorem rtake_yes (vb : Value) (l : List Int) (t n : Nat) (w : World) (hb : SlI .u8 w vb l) (ht : t ≤ l.length) (hl : l.length ≤ 1000000000000) (hn : n ≤ l.length - t) :
    Calls Try.prog 18 #[.agg #[vb, .int .i64 t, .bool false], .int .i64 n] w fun e w' => ∃ v, e = .returned (.tuple #[.agg #[vb, .int .i64 ((t + n : Nat) : Int), .bool false], v]) ∧ OwnI .u8 5 w' w.heap.size v ((l.drop t).take n) ∧ Fr noB w w' := by
  obtain ⟨a, cap, rfl, hcap⟩ := hb.opn
  have hn0 : ¬ (n : Int) < 0 := by omega
  have hlt : ¬ (l.length : Int) - (t : Int) < (n : Int) := by omega
  go_enter Try.func18, Try.ntmps18
  go_wp2_with (first
    | (refine at_cut 22 _ _ _ _ rfl ?_; go_must (refine wpList_cut rfl 22 _ _ _ rfl 5 Try.underlying22 1 size5 _ _ _ rfl (hb.1.fr0 ((((Fr.refl _ _).alloc _).alloc _).alloc _)) _ _ _ _ t (t + n) rfl rfl rfl (by simp) (by omega) (by omega) ?_; intro v3 hS3 hO3; obtain ⟨a3, c3, rfl, hc3⟩ : ∃ a3 c3, v3 = .slice a3 (t + n - t) c3 ∧ True := by (obtain ⟨a3, c3, h, _⟩ := hS3; exact ⟨a3, c3, h, trivial⟩)))
    | (at_builtin; go_must (refine wpList_app rfl _ _ 22 rfl (w.heap.size + 2) 5 _ 1 1 Try.underlying22 info5 rfl (by decide) _ _ _ rfl (owns_empty _ _ _ _ (by simp) (Nat.le_refl _)) _ _ _ rfl hS3 ?h1 ?hq1 ?hq2 ?hq3 ?_; rotate_left 4; intro v4 w4 hown4 hgr4; replace hgr4 : World.grownBy _ w4 (some (w.heap.size + 2)) := hgr4; have B0 := box3 ((hgr4.block w.heap.size (by simp only [World.size_alloc]; omega) (by simp)).trans (heap3_0 _ _ _ _)); have B1 := box3 ((hgr4.block (w.heap.size + 1) (by simp only [World.size_alloc]; omega) (by simp)).trans (heap3_1 _ _ _ _)); obtain ⟨b00, b01, b02, b03, b04, b05⟩ := B0; obtain ⟨b10, b11, b12, b13, b14, b15⟩ := B1)))
  case h1 => intro u hu; exact ones .u8 l u (List.mem_of_mem_drop (List.mem_of_mem_take hu))
  case hq1 => unfold maxLen; omega
  case hq2 => omega
  refine bodyPost_ret (v := .tuple #[.agg #[.slice a l.length cap, .int .i64 ((t : Int) + (n : Int)), .bool false], v4]) (by simp [results, Try.results18, go_sem, b10, b11, b12]) rfl ⟨v4, rfl, ?_, ?_⟩
  · have hfs : Fr (fun k => k < w.heap.size + 2) w4 ((((w4.setCell ⟨w.heap.size, 1, none⟩ (.int .i64 ((t : Int) + (n : Int)))).setCell ⟨w.heap.size + 1, 0, none⟩ (.slice a l.length cap)).setCell ⟨w.heap.size + 1, 1, none⟩ (.int .i64 ((t : Int) + (n : Int)))).setCell ⟨w.heap.size + 1, 2, none⟩ (.bool false)) :=
      ((((Fr.refl _ _).setCell _ _ (fun _ => by simp)).setCell _ _ (fun _ => by simp)).setCell _ _ (fun _ => by simp)).setCell _ _ (fun _ => by simp)
    have o4 : OwnI .u8 5 w4 (w.heap.size + 2) v4 ((l.drop t).take n) := OwnI.mk _ hown4 (by simp [List.map_take, List.map_drop])
    exact (o4.fr hfs (fun k hk q => by have := (o4.newB k hk).1; omega)).rebase (by omega)
  · have hf4 : Fr noB w w4 := (((((Fr.refl _ _).alloc _).alloc _).alloc _)).grown hgr4 (fun k e hk => by cases e; omega)
    exact (((hf4.setCell _ _ (fun h => by simp at h)).setCell _ _ (fun h => by simp at h; omega)).setCell _ _ (fun h => by simp at h; omega)).setCell _ _ (fun h => by simp at h; omega)
end Go.Proofs.Ytffdgbimpodopaa
