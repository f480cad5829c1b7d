/-
  No cell of these rows narrows 'for every input' (looked for: loops, veiled, ifaces, maps, wideKeys, modest, calm, conditions, laid).
  DERIVED. THE GIVEN ROWS OF THIS SEAT. 6 by the template 'for every input the law returns true; each argument reads behind the call as it read before'; 0 by the template 'total and deterministic' (their statements: YtghkpeejogldkaaTotals.lean).
  GIVEN WITH THE SEED: the statements are not yours to turn. If you find one false, say at which input.
  Laid BY PROGRAM, IN A SANDBOX (cutbox-rows.mjs): the forced cells as the released guide's own fill.sh prints them over the translation 45ad165a78e1ee7d… (all of the seat's roots in one cut). By AI agents, Wed Nov 11 2026. No macro, syntax, notation, axiom, sorry.
-/
import Derived.Test.YtghkpeejogldkaaChecked
import GoSem.Claim
import GoSem.ClaimJoined
import GoSem.ClaimMapViews
import Derived.JoinedTies
import Derived.KernelRfl
namespace Go.Proofs.Ytghkpeejogldkaa
/- THE CELL 'sum', in the pinned program and in every row, IS THE sha256 OF THE DUMP (.gsa) THAT YtghkpeejogldkaaProg.lean LOADS. Nothing in Lean hashes anything: it is a label: what it is worth is what the hold of that sum in a sandbox is worth. -/
noncomputable def Try.pinned : Pinned := { name := "ytghkpeejogldkaa", sum := "45ad165a78e1ee7d362e0f643c77eda1451ed27dc5f4932e806e7c61dcde3cc9", checked := Try.checked }
namespace Rows
def none {H : Type} : Left H := { results := [], args := [] }

/-- 'understudylaw07.PoolNames': WHATEVER THE INPUT: true; the input reads as it did. -/
def poolNamesSpec : ChangeSpec := { name := "poolNames", fn := fun _ => fun
  | [] => { results := [.lit (.bool true)], args := [] }
  | _ => none }
def poolNamesRow : OpenClaim := { program := "ytghkpeejogldkaa", sum := "45ad165a78e1ee7d362e0f643c77eda1451ed27dc5f4932e806e7c61dcde3cc9", func := "understudy/understudylaw07.PoolNames", spec := "poolNames", apart := false }
def PoolNamesSaid : Prop := poolNamesRow.holds Try.pinned (OpenSpec.ofChange poolNamesSpec)

/-- ITS FALSE NEIGHBOUR: 'it returns false'. Refute it at one input. -/
def poolNamesWrong : ChangeSpec := { name := "poolNames", fn := fun _ => fun
  | [] => { results := [.lit (.bool false)], args := [] }
  | _ => none }
def PoolNamesWrongFalsely : Prop := poolNamesRow.holds Try.pinned (OpenSpec.ofChange poolNamesWrong)

/-- 'understudylaw07.PoolRuns': WHATEVER THE INPUT: true; the input reads as it did. -/
def poolRunsSpec : ChangeSpec := { name := "poolRuns", fn := fun _ => fun
  | [d1, d2, d3] => { results := [.lit (.bool true)], args := [d1, d2, d3] }
  | _ => none }
def poolRunsRow : OpenClaim := { program := "ytghkpeejogldkaa", sum := "45ad165a78e1ee7d362e0f643c77eda1451ed27dc5f4932e806e7c61dcde3cc9", func := "understudy/understudylaw07.PoolRuns", spec := "poolRuns", apart := false }
def PoolRunsSaid : Prop := poolRunsRow.holds Try.pinned (OpenSpec.ofChange poolRunsSpec)

/-- ITS FALSE NEIGHBOUR: 'it returns false'. Refute it at one input. -/
def poolRunsWrong : ChangeSpec := { name := "poolRuns", fn := fun _ => fun
  | [d1, d2, d3] => { results := [.lit (.bool false)], args := [d1, d2, d3] }
  | _ => none }
def PoolRunsWrongFalsely : Prop := poolRunsRow.holds Try.pinned (OpenSpec.ofChange poolRunsWrong)

/-- 'understudylaw07.PoolSafe': WHATEVER THE INPUT: true; the input reads as it did. -/
def poolSafeSpec : ChangeSpec := { name := "poolSafe", fn := fun _ => fun
  | [d1, d2, d3] => { results := [.lit (.bool true)], args := [d1, d2, d3] }
  | _ => none }
def poolSafeRow : OpenClaim := { program := "ytghkpeejogldkaa", sum := "45ad165a78e1ee7d362e0f643c77eda1451ed27dc5f4932e806e7c61dcde3cc9", func := "understudy/understudylaw07.PoolSafe", spec := "poolSafe", apart := false }
def PoolSafeSaid : Prop := poolSafeRow.holds Try.pinned (OpenSpec.ofChange poolSafeSpec)

/-- ITS FALSE NEIGHBOUR: 'it returns false'. Refute it at one input. -/
def poolSafeWrong : ChangeSpec := { name := "poolSafe", fn := fun _ => fun
  | [d1, d2, d3] => { results := [.lit (.bool false)], args := [d1, d2, d3] }
  | _ => none }
def PoolSafeWrongFalsely : Prop := poolSafeRow.holds Try.pinned (OpenSpec.ofChange poolSafeWrong)

/-- 'understudylaw07.PoolTurns': WHATEVER THE INPUT: true; the input reads as it did. -/
def poolTurnsSpec : ChangeSpec := { name := "poolTurns", fn := fun _ => fun
  | [d1, d2, d3] => { results := [.lit (.bool true)], args := [d1, d2, d3] }
  | _ => none }
def poolTurnsRow : OpenClaim := { program := "ytghkpeejogldkaa", sum := "45ad165a78e1ee7d362e0f643c77eda1451ed27dc5f4932e806e7c61dcde3cc9", func := "understudy/understudylaw07.PoolTurns", spec := "poolTurns", apart := false }
def PoolTurnsSaid : Prop := poolTurnsRow.holds Try.pinned (OpenSpec.ofChange poolTurnsSpec)

/-- ITS FALSE NEIGHBOUR: 'it returns false'. Refute it at one input. -/
def poolTurnsWrong : ChangeSpec := { name := "poolTurns", fn := fun _ => fun
  | [d1, d2, d3] => { results := [.lit (.bool false)], args := [d1, d2, d3] }
  | _ => none }
def PoolTurnsWrongFalsely : Prop := poolTurnsRow.holds Try.pinned (OpenSpec.ofChange poolTurnsWrong)

/-- 'understudylaw07.PoolClones': WHATEVER THE INPUT: true; the input reads as it did. -/
def poolClonesSpec : ChangeSpec := { name := "poolClones", fn := fun _ => fun
  | [d1, d2, d3] => { results := [.lit (.bool true)], args := [d1, d2, d3] }
  | _ => none }
def poolClonesRow : OpenClaim := { program := "ytghkpeejogldkaa", sum := "45ad165a78e1ee7d362e0f643c77eda1451ed27dc5f4932e806e7c61dcde3cc9", func := "understudy/understudylaw07.PoolClones", spec := "poolClones", apart := false }
def PoolClonesSaid : Prop := poolClonesRow.holds Try.pinned (OpenSpec.ofChange poolClonesSpec)

/-- ITS FALSE NEIGHBOUR: 'it returns false'. Refute it at one input. -/
def poolClonesWrong : ChangeSpec := { name := "poolClones", fn := fun _ => fun
  | [d1, d2, d3] => { results := [.lit (.bool false)], args := [d1, d2, d3] }
  | _ => none }
def PoolClonesWrongFalsely : Prop := poolClonesRow.holds Try.pinned (OpenSpec.ofChange poolClonesWrong)

/-- 'understudylaw07.PoolMarks': WHATEVER THE INPUT: true; the input reads as it did. -/
def poolMarksSpec : ChangeSpec := { name := "poolMarks", fn := fun _ => fun
  | [d1, d2, d3] => { results := [.lit (.bool true)], args := [d1, d2, d3] }
  | _ => none }
def poolMarksRow : OpenClaim := { program := "ytghkpeejogldkaa", sum := "45ad165a78e1ee7d362e0f643c77eda1451ed27dc5f4932e806e7c61dcde3cc9", func := "understudy/understudylaw07.PoolMarks", spec := "poolMarks", apart := false }
def PoolMarksSaid : Prop := poolMarksRow.holds Try.pinned (OpenSpec.ofChange poolMarksSpec)

/-- ITS FALSE NEIGHBOUR: 'it returns false'. Refute it at one input. -/
def poolMarksWrong : ChangeSpec := { name := "poolMarks", fn := fun _ => fun
  | [d1, d2, d3] => { results := [.lit (.bool false)], args := [d1, d2, d3] }
  | _ => none }
def PoolMarksWrongFalsely : Prop := poolMarksRow.holds Try.pinned (OpenSpec.ofChange poolMarksWrong)

/- THE SECOND FORM. 'bulk': how many values and letters a reading holds, each counted each time it is reached (what is shared counts as often as it is met; a slice's spare places count too). A statement '..UptoSaid' is the law's where the arguments, and the package variables that the reading takes, are together of bulk at most 1048576: NARROWER than '..Said'. Prove '..Said' where nothing that the law and all that it calls make is longer than what came in: it says more and counts as full. Else prove '..UptoSaid'. A law counts once. -/
mutual
def uptoBulk {H : Type} : DataW H → Nat
  | .lit (.string bytes) => bytes.length + 1
  | .lit _ => 1
  | .nil => 1
  | .ptr d => uptoBulk d + 1
  | .slice elems spare => uptoBulkAll elems + uptoBulkAll spare + 1
  | .agg parts => uptoBulkAll parts + 1
  | .iface _ d => uptoBulk d + 1
  | .map entries => uptoBulkEntries entries + 1
  | .held _ => 1
def uptoBulkAll {H : Type} : List (DataW H) → Nat
  | [] => 0
  | d :: r => uptoBulk d + uptoBulkAll r
def uptoBulkEntries {H : Type} : List (Lit × DataW H) → Nat
  | [] => 0
  | x :: r => uptoBulkEntry x + uptoBulkEntries r
def uptoBulkEntry {H : Type} : Lit × DataW H → Nat
  | (.string bytes, d) => bytes.length + uptoBulk d + 1
  | (_, d) => uptoBulk d + 1
 end
def uptoSmall : (H : Type) → List (DataW H) → Bool := fun _ ds => decide (uptoBulkAll ds ≤ 1048576)
def OpenSpec.upto (s : _root_.Go.ChangeSpec) : _root_.Go.OpenSpec := { _root_.Go.OpenSpec.ofChange s with cond := some uptoSmall }

/-- 'understudylaw07.PoolNames', WHERE WHAT IT READS IS OF BULK AT MOST 1048576: true; the input reads as it did. -/
def poolNamesUptoRow : OpenClaim := { program := "ytghkpeejogldkaa", sum := "45ad165a78e1ee7d362e0f643c77eda1451ed27dc5f4932e806e7c61dcde3cc9", func := "understudy/understudylaw07.PoolNames", spec := "poolNames", apart := false, narrowed := true }
def PoolNamesUptoSaid : Prop := poolNamesUptoRow.holds Try.pinned (OpenSpec.upto poolNamesSpec)

/-- 'understudylaw07.PoolRuns', WHERE WHAT IT READS IS OF BULK AT MOST 1048576: true; the input reads as it did. -/
def poolRunsUptoRow : OpenClaim := { program := "ytghkpeejogldkaa", sum := "45ad165a78e1ee7d362e0f643c77eda1451ed27dc5f4932e806e7c61dcde3cc9", func := "understudy/understudylaw07.PoolRuns", spec := "poolRuns", apart := false, narrowed := true }
def PoolRunsUptoSaid : Prop := poolRunsUptoRow.holds Try.pinned (OpenSpec.upto poolRunsSpec)

/-- 'understudylaw07.PoolSafe', WHERE WHAT IT READS IS OF BULK AT MOST 1048576: true; the input reads as it did. -/
def poolSafeUptoRow : OpenClaim := { program := "ytghkpeejogldkaa", sum := "45ad165a78e1ee7d362e0f643c77eda1451ed27dc5f4932e806e7c61dcde3cc9", func := "understudy/understudylaw07.PoolSafe", spec := "poolSafe", apart := false, narrowed := true }
def PoolSafeUptoSaid : Prop := poolSafeUptoRow.holds Try.pinned (OpenSpec.upto poolSafeSpec)

/-- 'understudylaw07.PoolTurns', WHERE WHAT IT READS IS OF BULK AT MOST 1048576: true; the input reads as it did. -/
def poolTurnsUptoRow : OpenClaim := { program := "ytghkpeejogldkaa", sum := "45ad165a78e1ee7d362e0f643c77eda1451ed27dc5f4932e806e7c61dcde3cc9", func := "understudy/understudylaw07.PoolTurns", spec := "poolTurns", apart := false, narrowed := true }
def PoolTurnsUptoSaid : Prop := poolTurnsUptoRow.holds Try.pinned (OpenSpec.upto poolTurnsSpec)

/-- 'understudylaw07.PoolClones', WHERE WHAT IT READS IS OF BULK AT MOST 1048576: true; the input reads as it did. -/
def poolClonesUptoRow : OpenClaim := { program := "ytghkpeejogldkaa", sum := "45ad165a78e1ee7d362e0f643c77eda1451ed27dc5f4932e806e7c61dcde3cc9", func := "understudy/understudylaw07.PoolClones", spec := "poolClones", apart := false, narrowed := true }
def PoolClonesUptoSaid : Prop := poolClonesUptoRow.holds Try.pinned (OpenSpec.upto poolClonesSpec)

/-- 'understudylaw07.PoolMarks', WHERE WHAT IT READS IS OF BULK AT MOST 1048576: true; the input reads as it did. -/
def poolMarksUptoRow : OpenClaim := { program := "ytghkpeejogldkaa", sum := "45ad165a78e1ee7d362e0f643c77eda1451ed27dc5f4932e806e7c61dcde3cc9", func := "understudy/understudylaw07.PoolMarks", spec := "poolMarks", apart := false, narrowed := true }
def PoolMarksUptoSaid : Prop := poolMarksUptoRow.holds Try.pinned (OpenSpec.upto poolMarksSpec)

end Rows
end Go.Proofs.Ytghkpeejogldkaa
