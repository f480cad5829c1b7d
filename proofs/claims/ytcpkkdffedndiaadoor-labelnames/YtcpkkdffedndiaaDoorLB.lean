/- Blocks that hold one label: what is read, stored and handed back. -/
import Derived.Test.YtcpkkdffedndiaaDoorL2
import Derived.Deep.MidRow
import Derived.Laws.ResultCell
import Derived.Laws.Rows
namespace Go.Proofs.YtcpkkdffedndiaaDoor
open Go.RowKit Go.Proofs.U
set_option linter.unusedSimpArgs false
set_option linter.unusedVariables false

/-- A label lies in block g. -/
def Bx (w : World) (g : Nat) (e s : Int) : Prop := w.heap[g]? = some (.cells #[.int .u32 e, .int .u32 s] 24 (0, 0))
theorem Bx.all {w : World} {g : Nat} {e s : Int} (h : Bx w g e s) :
    w.cell? ⟨g, 0, none⟩ = some (.int .u32 e) ∧ w.cell? ⟨g, 1, none⟩ = some (.int .u32 s) ∧ w.frozen? ⟨g, 0, none⟩ = false ∧ w.frozen? ⟨g, 1, none⟩ = false := by
  have h' : w.heap[g]? = _ := h
  exact ⟨by simp [World.cell?, h'], by simp [World.cell?, h'], by simp [World.frozen?, h'], by simp [World.frozen?, h']⟩
theorem Bx.lt {w : World} {g : Nat} {e s : Int} (h : Bx w g e s) : g < w.heap.size := (Array.getElem?_eq_some_iff.mp h).1
theorem Bx.fr {S : Nat → Prop} {w w' : World} {g : Nat} {e s : Int} (h : Bx w g e s) (f : Fr S w w') (hs : ¬ S g) : Bx w' g e s := (f.block g h.lt hs).trans h
theorem Bx.fr0 {w w' : World} {g : Nat} {e s : Int} (h : Bx w g e s) (f : Fr noB w w') : Bx w' g e s := h.fr f (fun q => q)
theorem Bx.made (w : World) (e s : Int) : Bx (w.alloc (.cells #[.int .u32 e, .int .u32 s] 24)) w.heap.size e s := by
  show (w.heap.push _)[w.heap.size]? = _
  rw [Array.getElem?_push, if_pos rfl]
theorem Bx.alloc {w : World} {g : Nat} {e s : Int} (h : Bx w g e s) (o : Obj) : Bx (w.alloc o) g e s := h.fr0 ((Fr.refl _ _).alloc o)

def onL (g : Nat) : Nat → Prop := fun k => k = g

theorem Bx.set {w : World} {g : Nat} {a b e s : Int} (h : Bx w g a b) :
    Bx ((w.setCell ⟨g, 0, none⟩ (.int .u32 e)).setCell ⟨g, 1, none⟩ (.int .u32 s)) g e s ∧ Fr (onL g) w ((w.setCell ⟨g, 0, none⟩ (.int .u32 e)).setCell ⟨g, 1, none⟩ (.int .u32 s)) := by
  refine ⟨?_, Fr.setCell (S := onL g) (Fr.setCell (S := onL g) (Fr.refl _ _) ⟨g, 0, none⟩ _ (fun _ => rfl)) ⟨g, 1, none⟩ _ (fun _ => rfl)⟩
  have h' : w.heap[g]? = _ := h
  have hlt := h.lt
  have e1 : w.heap[g] = .cells #[.int .u32 a, .int .u32 b] 24 (0, 0) := by
    rw [Array.getElem?_eq_getElem hlt] at h'; exact Option.some.inj h'
  show _ = _
  simp [World.setCell, Array.getElem_modify, hlt, e1]

section
variable {ops : Array Oper} {rest : List Oper} {o : Oper} {a : Act} {w : World} {Q : Exit → Act → World → Prop}
theorem wpList_stL (hgd : o.guard = none) (x y : Operand) (ho : o.op = .store 24 x y) (g : Nat) (hx : a.eval x = .pointer (some ⟨g, 0, none⟩)) (e s b c : Int) (hy : a.eval y = lab e s) (hA : Bx w g b c)
    (h : ∀ w', Bx w' g e s → Fr (onL g) w w' → w'.heap.size = w.heap.size → wpList Tryd.prog ops Q rest (a.put o.dst undef) w') : wpList Tryd.prog ops Q (o :: rest) a w := by
  obtain ⟨k1, k2, k3, k4⟩ := hA.all
  have hs := hA.set (e := e) (s := s)
  refine wpList_store_mid hgd 24 x y ho g 0 #[.int .u32 e, .int .u32 s] hx hy ?_ (by kernel_rfl) (by simp [Value.oneCell']) (h _ hs.1 hs.2 (by simp [World.setCells, World.setCell]))
  intro j hj
  have hj : j < 2 := hj
  rcases j with _ | _ | j
  · exact ⟨by rw [k1]; rfl, k3⟩
  · exact ⟨by rw [k2]; rfl, k4⟩
  · omega
/-- To ask whether the goal is one of operations, before a law is tried at it. -/
theorem at_wp {l : List Oper} (h : wpList Tryd.prog ops Q l a w) : wpList Tryd.prog ops Q l a w := h
end
end Go.Proofs.YtcpkkdffedndiaaDoor
