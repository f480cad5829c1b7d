/-
  No cell of these rows narrows 'for every input' (looked for: loops, veiled, ifaces, maps, wideKeys, modest, calm, conditions, laid).
  DERIVED. THE GIVEN ROWS OF THIS SEAT. 4 by the template 'for every input the law returns true; each argument reads behind the call as it read before'; 0 by the template 'total and deterministic' (their statements: YtamfnjliikiifaaTotals.lean).
  GIVEN WITH THE SEED: the statements are not yours to turn. If you find one false, say at which input.
  Laid BY PROGRAM, IN A SANDBOX (cutbox-rows.mjs): the forced cells as the released guide's own fill.sh prints them over the translation 976bcc09b76541e4… (all of the seat's roots in one cut). By AI agents, Wed Nov 11 2026. No macro, syntax, notation, axiom, sorry.
-/
import Derived.Test.YtamfnjliikiifaaChecked
import GoSem.Claim
import GoSem.ClaimJoined
import GoSem.ClaimMapViews
import Derived.JoinedTies
import Derived.KernelRfl
namespace Go.Proofs.Ytamfnjliikiifaa
/- THE CELL 'sum', in the pinned program and in every row, IS THE sha256 OF THE DUMP (.gsa) THAT YtamfnjliikiifaaProg.lean LOADS. Nothing in Lean hashes anything: it is a label: what it is worth is what the hold of that sum in a sandbox is worth. -/
noncomputable def Try.pinned : Pinned := { name := "ytamfnjliikiifaa", sum := "976bcc09b76541e47966f9414d9dd1204c82b407c7897c302565551a4ff88739", checked := Try.checked }
namespace Rows
def none {H : Type} : Left H := { results := [], args := [] }

/-- 'understudylaw09.NodesNames': WHATEVER THE INPUT: true; the input reads as it did. -/
def nodesNamesSpec : ChangeSpec := { name := "nodesNames", fn := fun _ => fun
  | [] => { results := [.lit (.bool true)], args := [] }
  | _ => none }
def nodesNamesRow : OpenClaim := { program := "ytamfnjliikiifaa", sum := "976bcc09b76541e47966f9414d9dd1204c82b407c7897c302565551a4ff88739", func := "understudy/understudylaw09.NodesNames", spec := "nodesNames", unfollowed := true, recurses := true, apart := false }
def NodesNamesSaid : Prop := nodesNamesRow.holds Try.pinned (OpenSpec.ofChange nodesNamesSpec)

/-- ITS FALSE NEIGHBOUR: 'it returns false'. Refute it at one input. -/
def nodesNamesWrong : ChangeSpec := { name := "nodesNames", fn := fun _ => fun
  | [] => { results := [.lit (.bool false)], args := [] }
  | _ => none }
def NodesNamesWrongFalsely : Prop := nodesNamesRow.holds Try.pinned (OpenSpec.ofChange nodesNamesWrong)

/-- 'understudylaw09.NodesExact': WHATEVER THE INPUT: true; the input reads as it did. -/
def nodesExactSpec : ChangeSpec := { name := "nodesExact", fn := fun _ => fun
  | [d1, d2] => { results := [.lit (.bool true)], args := [d1, d2] }
  | _ => none }
def nodesExactRow : OpenClaim := { program := "ytamfnjliikiifaa", sum := "976bcc09b76541e47966f9414d9dd1204c82b407c7897c302565551a4ff88739", func := "understudy/understudylaw09.NodesExact", spec := "nodesExact", unfollowed := true, recurses := true, apart := false }
def NodesExactSaid : Prop := nodesExactRow.holds Try.pinned (OpenSpec.ofChange nodesExactSpec)

/-- ITS FALSE NEIGHBOUR: 'it returns false'. Refute it at one input. -/
def nodesExactWrong : ChangeSpec := { name := "nodesExact", fn := fun _ => fun
  | [d1, d2] => { results := [.lit (.bool false)], args := [d1, d2] }
  | _ => none }
def NodesExactWrongFalsely : Prop := nodesExactRow.holds Try.pinned (OpenSpec.ofChange nodesExactWrong)

/-- 'understudylaw09.NodesBack': WHATEVER THE INPUT: true; the input reads as it did. -/
def nodesBackSpec : ChangeSpec := { name := "nodesBack", fn := fun _ => fun
  | [d] => { results := [.lit (.bool true)], args := [d] }
  | _ => none }
def nodesBackRow : OpenClaim := { program := "ytamfnjliikiifaa", sum := "976bcc09b76541e47966f9414d9dd1204c82b407c7897c302565551a4ff88739", func := "understudy/understudylaw09.NodesBack", spec := "nodesBack", unfollowed := true, recurses := true, apart := false }
def NodesBackSaid : Prop := nodesBackRow.holds Try.pinned (OpenSpec.ofChange nodesBackSpec)

/-- ITS FALSE NEIGHBOUR: 'it returns false'. Refute it at one input. -/
def nodesBackWrong : ChangeSpec := { name := "nodesBack", fn := fun _ => fun
  | [d] => { results := [.lit (.bool false)], args := [d] }
  | _ => none }
def NodesBackWrongFalsely : Prop := nodesBackRow.holds Try.pinned (OpenSpec.ofChange nodesBackWrong)

/-- 'understudylaw09.NodesUndo': WHATEVER THE INPUT: true; the input reads as it did. -/
def nodesUndoSpec : ChangeSpec := { name := "nodesUndo", fn := fun _ => fun
  | [d1, d2, d3] => { results := [.lit (.bool true)], args := [d1, d2, d3] }
  | _ => none }
def nodesUndoRow : OpenClaim := { program := "ytamfnjliikiifaa", sum := "976bcc09b76541e47966f9414d9dd1204c82b407c7897c302565551a4ff88739", func := "understudy/understudylaw09.NodesUndo", spec := "nodesUndo", unfollowed := true, recurses := true, apart := false }
def NodesUndoSaid : Prop := nodesUndoRow.holds Try.pinned (OpenSpec.ofChange nodesUndoSpec)

/-- ITS FALSE NEIGHBOUR: 'it returns false'. Refute it at one input. -/
def nodesUndoWrong : ChangeSpec := { name := "nodesUndo", fn := fun _ => fun
  | [d1, d2, d3] => { results := [.lit (.bool false)], args := [d1, d2, d3] }
  | _ => none }
def NodesUndoWrongFalsely : Prop := nodesUndoRow.holds Try.pinned (OpenSpec.ofChange nodesUndoWrong)

/- THE SECOND FORM. 'bulk': how many values and letters a reading holds, each counted each time it is reached (what is shared counts as often as it is met; a slice's spare places count too). A statement '..UptoSaid' is the law's where the arguments, and the package variables that the reading takes, are together of bulk at most 1048576: NARROWER than '..Said'. Prove '..Said' where nothing that the law and all that it calls make is longer than what came in: it says more and counts as full. Else prove '..UptoSaid'. A law counts once. -/
mutual
def uptoBulk {H : Type} : DataW H → Nat
  | .lit (.string bytes) => bytes.length + 1
  | .lit _ => 1
  | .nil => 1
  | .ptr d => uptoBulk d + 1
  | .slice elems spare => uptoBulkAll elems + uptoBulkAll spare + 1
  | .agg parts => uptoBulkAll parts + 1
  | .iface _ d => uptoBulk d + 1
  | .map entries => uptoBulkEntries entries + 1
  | .held _ => 1
def uptoBulkAll {H : Type} : List (DataW H) → Nat
  | [] => 0
  | d :: r => uptoBulk d + uptoBulkAll r
def uptoBulkEntries {H : Type} : List (Lit × DataW H) → Nat
  | [] => 0
  | x :: r => uptoBulkEntry x + uptoBulkEntries r
def uptoBulkEntry {H : Type} : Lit × DataW H → Nat
  | (.string bytes, d) => bytes.length + uptoBulk d + 1
  | (_, d) => uptoBulk d + 1
 end
def uptoSmall : (H : Type) → List (DataW H) → Bool := fun _ ds => decide (uptoBulkAll ds ≤ 1048576)
def OpenSpec.upto (s : _root_.Go.ChangeSpec) : _root_.Go.OpenSpec := { _root_.Go.OpenSpec.ofChange s with cond := some uptoSmall }

/-- 'understudylaw09.NodesNames', WHERE WHAT IT READS IS OF BULK AT MOST 1048576: true; the input reads as it did. -/
def nodesNamesUptoRow : OpenClaim := { program := "ytamfnjliikiifaa", sum := "976bcc09b76541e47966f9414d9dd1204c82b407c7897c302565551a4ff88739", func := "understudy/understudylaw09.NodesNames", spec := "nodesNames", unfollowed := true, recurses := true, apart := false, narrowed := true }
def NodesNamesUptoSaid : Prop := nodesNamesUptoRow.holds Try.pinned (OpenSpec.upto nodesNamesSpec)

/-- 'understudylaw09.NodesExact', WHERE WHAT IT READS IS OF BULK AT MOST 1048576: true; the input reads as it did. -/
def nodesExactUptoRow : OpenClaim := { program := "ytamfnjliikiifaa", sum := "976bcc09b76541e47966f9414d9dd1204c82b407c7897c302565551a4ff88739", func := "understudy/understudylaw09.NodesExact", spec := "nodesExact", unfollowed := true, recurses := true, apart := false, narrowed := true }
def NodesExactUptoSaid : Prop := nodesExactUptoRow.holds Try.pinned (OpenSpec.upto nodesExactSpec)

/-- 'understudylaw09.NodesBack', WHERE WHAT IT READS IS OF BULK AT MOST 1048576: true; the input reads as it did. -/
def nodesBackUptoRow : OpenClaim := { program := "ytamfnjliikiifaa", sum := "976bcc09b76541e47966f9414d9dd1204c82b407c7897c302565551a4ff88739", func := "understudy/understudylaw09.NodesBack", spec := "nodesBack", unfollowed := true, recurses := true, apart := false, narrowed := true }
def NodesBackUptoSaid : Prop := nodesBackUptoRow.holds Try.pinned (OpenSpec.upto nodesBackSpec)

/-- 'understudylaw09.NodesUndo', WHERE WHAT IT READS IS OF BULK AT MOST 1048576: true; the input reads as it did. -/
def nodesUndoUptoRow : OpenClaim := { program := "ytamfnjliikiifaa", sum := "976bcc09b76541e47966f9414d9dd1204c82b407c7897c302565551a4ff88739", func := "understudy/understudylaw09.NodesUndo", spec := "nodesUndo", unfollowed := true, recurses := true, apart := false, narrowed := true }
def NodesUndoUptoSaid : Prop := nodesUndoUptoRow.holds Try.pinned (OpenSpec.upto nodesUndoSpec)

end Rows
end Go.Proofs.Ytamfnjliikiifaa
