/-
  No cell of these rows narrows 'for every input' (looked for: loops, veiled, ifaces, maps, wideKeys, modest, calm, conditions, laid).
  DERIVED. THE GIVEN ROWS OF THIS SEAT. 5 by the template 'for every input the law returns true; each argument reads behind the call as it read before'; 0 by the template 'total and deterministic' (their statements: YtabjliijojidmaaTotals.lean).
  GIVEN WITH THE SEED: the statements are not yours to turn. If you find one false, say at which input.
  Laid BY PROGRAM, IN A SANDBOX (cutbox-rows.mjs): the forced cells as the released guide's own fill.sh prints them over the translation b0ed76e5fcd574b7… (all of the seat's roots in one cut). By AI agents, Wed Nov 11 2026. No macro, syntax, notation, axiom, sorry.
-/
import Derived.Test.YtabjliijojidmaaChecked
import GoSem.Claim
import GoSem.ClaimJoined
import GoSem.ClaimMapViews
import Derived.JoinedTies
import Derived.KernelRfl
namespace Go.Proofs.Ytabjliijojidmaa
/- THE CELL 'sum', in the pinned program and in every row, IS THE sha256 OF THE DUMP (.gsa) THAT YtabjliijojidmaaProg.lean LOADS. Nothing in Lean hashes anything: it is a label: what it is worth is what the hold of that sum in a sandbox is worth. -/
noncomputable def Try.pinned : Pinned := { name := "ytabjliijojidmaa", sum := "b0ed76e5fcd574b7b7555f6c5a2f1dfa7120657ac5358b07a460873b3f6cff48", checked := Try.checked }
namespace Rows
def none {H : Type} : Left H := { results := [], args := [] }

/-- 'quipulaw.FlipBads': WHATEVER THE INPUT: true; the input reads as it did. -/
def flipBadsSpec : ChangeSpec := { name := "flipBads", fn := fun _ => fun
  | [d1, d2, d3] => { results := [.lit (.bool true)], args := [d1, d2, d3] }
  | _ => none }
def flipBadsRow : OpenClaim := { program := "ytabjliijojidmaa", sum := "b0ed76e5fcd574b7b7555f6c5a2f1dfa7120657ac5358b07a460873b3f6cff48", func := "quipu/quipulaw.FlipBads", spec := "flipBads", apart := false }
def FlipBadsSaid : Prop := flipBadsRow.holds Try.pinned (OpenSpec.ofChange flipBadsSpec)

/-- ITS FALSE NEIGHBOUR: 'it returns false'. Refute it at one input. -/
def flipBadsWrong : ChangeSpec := { name := "flipBads", fn := fun _ => fun
  | [d1, d2, d3] => { results := [.lit (.bool false)], args := [d1, d2, d3] }
  | _ => none }
def FlipBadsWrongFalsely : Prop := flipBadsRow.holds Try.pinned (OpenSpec.ofChange flipBadsWrong)

/-- 'quipulaw.FlipSteps': WHATEVER THE INPUT: true; the input reads as it did. -/
def flipStepsSpec : ChangeSpec := { name := "flipSteps", fn := fun _ => fun
  | [d1, d2, d3] => { results := [.lit (.bool true)], args := [d1, d2, d3] }
  | _ => none }
def flipStepsRow : OpenClaim := { program := "ytabjliijojidmaa", sum := "b0ed76e5fcd574b7b7555f6c5a2f1dfa7120657ac5358b07a460873b3f6cff48", func := "quipu/quipulaw.FlipSteps", spec := "flipSteps", apart := false }
def FlipStepsSaid : Prop := flipStepsRow.holds Try.pinned (OpenSpec.ofChange flipStepsSpec)

/-- ITS FALSE NEIGHBOUR: 'it returns false'. Refute it at one input. -/
def flipStepsWrong : ChangeSpec := { name := "flipSteps", fn := fun _ => fun
  | [d1, d2, d3] => { results := [.lit (.bool false)], args := [d1, d2, d3] }
  | _ => none }
def FlipStepsWrongFalsely : Prop := flipStepsRow.holds Try.pinned (OpenSpec.ofChange flipStepsWrong)

/-- 'quipulaw.FlipRuns': WHATEVER THE INPUT: true; the input reads as it did. -/
def flipRunsSpec : ChangeSpec := { name := "flipRuns", fn := fun _ => fun
  | [d1, d2, d3] => { results := [.lit (.bool true)], args := [d1, d2, d3] }
  | _ => none }
def flipRunsRow : OpenClaim := { program := "ytabjliijojidmaa", sum := "b0ed76e5fcd574b7b7555f6c5a2f1dfa7120657ac5358b07a460873b3f6cff48", func := "quipu/quipulaw.FlipRuns", spec := "flipRuns", apart := false }
def FlipRunsSaid : Prop := flipRunsRow.holds Try.pinned (OpenSpec.ofChange flipRunsSpec)

/-- ITS FALSE NEIGHBOUR: 'it returns false'. Refute it at one input. -/
def flipRunsWrong : ChangeSpec := { name := "flipRuns", fn := fun _ => fun
  | [d1, d2, d3] => { results := [.lit (.bool false)], args := [d1, d2, d3] }
  | _ => none }
def FlipRunsWrongFalsely : Prop := flipRunsRow.holds Try.pinned (OpenSpec.ofChange flipRunsWrong)

/-- 'quipukeep.FlipFewer': WHATEVER THE INPUT: true; the input reads as it did. -/
def flipFewerSpec : ChangeSpec := { name := "flipFewer", fn := fun _ => fun
  | [d1, d2, d3] => { results := [.lit (.bool true)], args := [d1, d2, d3] }
  | _ => none }
def flipFewerRow : OpenClaim := { program := "ytabjliijojidmaa", sum := "b0ed76e5fcd574b7b7555f6c5a2f1dfa7120657ac5358b07a460873b3f6cff48", func := "quipu/quipukeep.FlipFewer", spec := "flipFewer", apart := false }
def FlipFewerSaid : Prop := flipFewerRow.holds Try.pinned (OpenSpec.ofChange flipFewerSpec)

/-- ITS FALSE NEIGHBOUR: 'it returns false'. Refute it at one input. -/
def flipFewerWrong : ChangeSpec := { name := "flipFewer", fn := fun _ => fun
  | [d1, d2, d3] => { results := [.lit (.bool false)], args := [d1, d2, d3] }
  | _ => none }
def FlipFewerWrongFalsely : Prop := flipFewerRow.holds Try.pinned (OpenSpec.ofChange flipFewerWrong)

/-- 'quipukeep.FlipEnds': WHATEVER THE INPUT: true; the input reads as it did. -/
def flipEndsSpec : ChangeSpec := { name := "flipEnds", fn := fun _ => fun
  | [d1, d2, d3] => { results := [.lit (.bool true)], args := [d1, d2, d3] }
  | _ => none }
def flipEndsRow : OpenClaim := { program := "ytabjliijojidmaa", sum := "b0ed76e5fcd574b7b7555f6c5a2f1dfa7120657ac5358b07a460873b3f6cff48", func := "quipu/quipukeep.FlipEnds", spec := "flipEnds", apart := false }
def FlipEndsSaid : Prop := flipEndsRow.holds Try.pinned (OpenSpec.ofChange flipEndsSpec)

/-- ITS FALSE NEIGHBOUR: 'it returns false'. Refute it at one input. -/
def flipEndsWrong : ChangeSpec := { name := "flipEnds", fn := fun _ => fun
  | [d1, d2, d3] => { results := [.lit (.bool false)], args := [d1, d2, d3] }
  | _ => none }
def FlipEndsWrongFalsely : Prop := flipEndsRow.holds Try.pinned (OpenSpec.ofChange flipEndsWrong)

/- THE SECOND FORM. 'bulk': how many values and letters a reading holds, each counted each time it is reached (what is shared counts as often as it is met; a slice's spare places count too). A statement '..UptoSaid' is the law's where the arguments, and the package variables that the reading takes, are together of bulk at most 1048576: NARROWER than '..Said'. Prove '..Said' where nothing that the law and all that it calls make is longer than what came in: it says more and counts as full. Else prove '..UptoSaid'. A law counts once. -/
mutual
def uptoBulk {H : Type} : DataW H → Nat
  | .lit (.string bytes) => bytes.length + 1
  | .lit _ => 1
  | .nil => 1
  | .ptr d => uptoBulk d + 1
  | .slice elems spare => uptoBulkAll elems + uptoBulkAll spare + 1
  | .agg parts => uptoBulkAll parts + 1
  | .iface _ d => uptoBulk d + 1
  | .map entries => uptoBulkEntries entries + 1
  | .held _ => 1
def uptoBulkAll {H : Type} : List (DataW H) → Nat
  | [] => 0
  | d :: r => uptoBulk d + uptoBulkAll r
def uptoBulkEntries {H : Type} : List (Lit × DataW H) → Nat
  | [] => 0
  | x :: r => uptoBulkEntry x + uptoBulkEntries r
def uptoBulkEntry {H : Type} : Lit × DataW H → Nat
  | (.string bytes, d) => bytes.length + uptoBulk d + 1
  | (_, d) => uptoBulk d + 1
 end
def uptoSmall : (H : Type) → List (DataW H) → Bool := fun _ ds => decide (uptoBulkAll ds ≤ 1048576)
def OpenSpec.upto (s : _root_.Go.ChangeSpec) : _root_.Go.OpenSpec := { _root_.Go.OpenSpec.ofChange s with cond := some uptoSmall }

/-- 'quipulaw.FlipBads', WHERE WHAT IT READS IS OF BULK AT MOST 1048576: true; the input reads as it did. -/
def flipBadsUptoRow : OpenClaim := { program := "ytabjliijojidmaa", sum := "b0ed76e5fcd574b7b7555f6c5a2f1dfa7120657ac5358b07a460873b3f6cff48", func := "quipu/quipulaw.FlipBads", spec := "flipBads", apart := false, narrowed := true }
def FlipBadsUptoSaid : Prop := flipBadsUptoRow.holds Try.pinned (OpenSpec.upto flipBadsSpec)

/-- 'quipulaw.FlipSteps', WHERE WHAT IT READS IS OF BULK AT MOST 1048576: true; the input reads as it did. -/
def flipStepsUptoRow : OpenClaim := { program := "ytabjliijojidmaa", sum := "b0ed76e5fcd574b7b7555f6c5a2f1dfa7120657ac5358b07a460873b3f6cff48", func := "quipu/quipulaw.FlipSteps", spec := "flipSteps", apart := false, narrowed := true }
def FlipStepsUptoSaid : Prop := flipStepsUptoRow.holds Try.pinned (OpenSpec.upto flipStepsSpec)

/-- 'quipulaw.FlipRuns', WHERE WHAT IT READS IS OF BULK AT MOST 1048576: true; the input reads as it did. -/
def flipRunsUptoRow : OpenClaim := { program := "ytabjliijojidmaa", sum := "b0ed76e5fcd574b7b7555f6c5a2f1dfa7120657ac5358b07a460873b3f6cff48", func := "quipu/quipulaw.FlipRuns", spec := "flipRuns", apart := false, narrowed := true }
def FlipRunsUptoSaid : Prop := flipRunsUptoRow.holds Try.pinned (OpenSpec.upto flipRunsSpec)

/-- 'quipukeep.FlipFewer', WHERE WHAT IT READS IS OF BULK AT MOST 1048576: true; the input reads as it did. -/
def flipFewerUptoRow : OpenClaim := { program := "ytabjliijojidmaa", sum := "b0ed76e5fcd574b7b7555f6c5a2f1dfa7120657ac5358b07a460873b3f6cff48", func := "quipu/quipukeep.FlipFewer", spec := "flipFewer", apart := false, narrowed := true }
def FlipFewerUptoSaid : Prop := flipFewerUptoRow.holds Try.pinned (OpenSpec.upto flipFewerSpec)

/-- 'quipukeep.FlipEnds', WHERE WHAT IT READS IS OF BULK AT MOST 1048576: true; the input reads as it did. -/
def flipEndsUptoRow : OpenClaim := { program := "ytabjliijojidmaa", sum := "b0ed76e5fcd574b7b7555f6c5a2f1dfa7120657ac5358b07a460873b3f6cff48", func := "quipu/quipukeep.FlipEnds", spec := "flipEnds", apart := false, narrowed := true }
def FlipEndsUptoSaid : Prop := flipEndsUptoRow.holds Try.pinned (OpenSpec.upto flipEndsSpec)

end Rows
end Go.Proofs.Ytabjliijojidmaa
