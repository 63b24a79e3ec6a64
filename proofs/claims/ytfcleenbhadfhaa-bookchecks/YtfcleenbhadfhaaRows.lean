/-
  No cell of these rows narrows 'for every input' (looked for: loops, veiled, ifaces, maps, wideKeys, modest, calm, conditions, laid).
  DERIVED. THE GIVEN ROWS OF THIS SEAT. 6 by the template 'for every input the law returns true; each argument reads behind the call as it read before'; 0 by the template 'total and deterministic' (their statements: YtfcleenbhadfhaaTotals.lean).
  GIVEN WITH THE SEED: the statements are not yours to turn. If you find one false, say at which input.
  Laid BY PROGRAM, IN A SANDBOX (cutbox-rows.mjs): the forced cells as the released guide's own fill.sh prints them over the translation e06eaf181a22535e… (all of the seat's roots in one cut). By AI agents, Wed Nov 11 2026. No macro, syntax, notation, axiom, sorry.
-/
import Derived.Test.YtfcleenbhadfhaaChecked
import GoSem.Claim
import GoSem.ClaimJoined
import GoSem.ClaimMapViews
import Derived.JoinedTies
import Derived.KernelRfl
namespace Go.Proofs.Ytfcleenbhadfhaa
/- THE CELL 'sum', in the pinned program and in every row, IS THE sha256 OF THE DUMP (.gsa) THAT YtfcleenbhadfhaaProg.lean LOADS. Nothing in Lean hashes anything: it is a label: what it is worth is what the hold of that sum in a sandbox is worth. -/
noncomputable def Try.pinned : Pinned := { name := "ytfcleenbhadfhaa", sum := "e06eaf181a22535e85a290c3565cd07fd533c46da61e1e0e3d26c26de5aadb4c", checked := Try.checked }
namespace Rows
def none {H : Type} : Left H := { results := [], args := [] }

/-- 'quipulaw.BallDists': WHATEVER THE INPUT: true; the input reads as it did. -/
def ballDistsSpec : ChangeSpec := { name := "ballDists", fn := fun _ => fun
  | [d1, d2, d3] => { results := [.lit (.bool true)], args := [d1, d2, d3] }
  | _ => none }
def ballDistsRow : OpenClaim := { program := "ytfcleenbhadfhaa", sum := "e06eaf181a22535e85a290c3565cd07fd533c46da61e1e0e3d26c26de5aadb4c", func := "quipu/quipulaw.BallDists", spec := "ballDists", apart := false }
def BallDistsSaid : Prop := ballDistsRow.holds Try.pinned (OpenSpec.ofChange ballDistsSpec)

/-- ITS FALSE NEIGHBOUR: 'it returns false'. Refute it at one input. -/
def ballDistsWrong : ChangeSpec := { name := "ballDists", fn := fun _ => fun
  | [d1, d2, d3] => { results := [.lit (.bool false)], args := [d1, d2, d3] }
  | _ => none }
def BallDistsWrongFalsely : Prop := ballDistsRow.holds Try.pinned (OpenSpec.ofChange ballDistsWrong)

/-- 'quipulaw.BallTells': WHATEVER THE INPUT: true; the input reads as it did. -/
def ballTellsSpec : ChangeSpec := { name := "ballTells", fn := fun _ => fun
  | [d1, d2, d3] => { results := [.lit (.bool true)], args := [d1, d2, d3] }
  | _ => none }
def ballTellsRow : OpenClaim := { program := "ytfcleenbhadfhaa", sum := "e06eaf181a22535e85a290c3565cd07fd533c46da61e1e0e3d26c26de5aadb4c", func := "quipu/quipulaw.BallTells", spec := "ballTells", apart := false }
def BallTellsSaid : Prop := ballTellsRow.holds Try.pinned (OpenSpec.ofChange ballTellsSpec)

/-- ITS FALSE NEIGHBOUR: 'it returns false'. Refute it at one input. -/
def ballTellsWrong : ChangeSpec := { name := "ballTells", fn := fun _ => fun
  | [d1, d2, d3] => { results := [.lit (.bool false)], args := [d1, d2, d3] }
  | _ => none }
def BallTellsWrongFalsely : Prop := ballTellsRow.holds Try.pinned (OpenSpec.ofChange ballTellsWrong)

/-- 'quipulaw.BallSizes': WHATEVER THE INPUT: true; the input reads as it did. -/
def ballSizesSpec : ChangeSpec := { name := "ballSizes", fn := fun _ => fun
  | [d1, d2] => { results := [.lit (.bool true)], args := [d1, d2] }
  | _ => none }
def ballSizesRow : OpenClaim := { program := "ytfcleenbhadfhaa", sum := "e06eaf181a22535e85a290c3565cd07fd533c46da61e1e0e3d26c26de5aadb4c", func := "quipu/quipulaw.BallSizes", spec := "ballSizes", apart := false }
def BallSizesSaid : Prop := ballSizesRow.holds Try.pinned (OpenSpec.ofChange ballSizesSpec)

/-- ITS FALSE NEIGHBOUR: 'it returns false'. Refute it at one input. -/
def ballSizesWrong : ChangeSpec := { name := "ballSizes", fn := fun _ => fun
  | [d1, d2] => { results := [.lit (.bool false)], args := [d1, d2] }
  | _ => none }
def BallSizesWrongFalsely : Prop := ballSizesRow.holds Try.pinned (OpenSpec.ofChange ballSizesWrong)

/-- 'quipukeep.BallMetric': WHATEVER THE INPUT: true; the input reads as it did. -/
def ballMetricSpec : ChangeSpec := { name := "ballMetric", fn := fun _ => fun
  | [d1, d2, d3, d4] => { results := [.lit (.bool true)], args := [d1, d2, d3, d4] }
  | _ => none }
def ballMetricRow : OpenClaim := { program := "ytfcleenbhadfhaa", sum := "e06eaf181a22535e85a290c3565cd07fd533c46da61e1e0e3d26c26de5aadb4c", func := "quipu/quipukeep.BallMetric", spec := "ballMetric", apart := false }
def BallMetricSaid : Prop := ballMetricRow.holds Try.pinned (OpenSpec.ofChange ballMetricSpec)

/-- ITS FALSE NEIGHBOUR: 'it returns false'. Refute it at one input. -/
def ballMetricWrong : ChangeSpec := { name := "ballMetric", fn := fun _ => fun
  | [d1, d2, d3, d4] => { results := [.lit (.bool false)], args := [d1, d2, d3, d4] }
  | _ => none }
def BallMetricWrongFalsely : Prop := ballMetricRow.holds Try.pinned (OpenSpec.ofChange ballMetricWrong)

/-- 'quipukeep.BallSize': WHATEVER THE INPUT: true; the input reads as it did. -/
def ballSizeSpec : ChangeSpec := { name := "ballSize", fn := fun _ => fun
  | [d1, d2, d3] => { results := [.lit (.bool true)], args := [d1, d2, d3] }
  | _ => none }
def ballSizeRow : OpenClaim := { program := "ytfcleenbhadfhaa", sum := "e06eaf181a22535e85a290c3565cd07fd533c46da61e1e0e3d26c26de5aadb4c", func := "quipu/quipukeep.BallSize", spec := "ballSize", apart := false }
def BallSizeSaid : Prop := ballSizeRow.holds Try.pinned (OpenSpec.ofChange ballSizeSpec)

/-- ITS FALSE NEIGHBOUR: 'it returns false'. Refute it at one input. -/
def ballSizeWrong : ChangeSpec := { name := "ballSize", fn := fun _ => fun
  | [d1, d2, d3] => { results := [.lit (.bool false)], args := [d1, d2, d3] }
  | _ => none }
def BallSizeWrongFalsely : Prop := ballSizeRow.holds Try.pinned (OpenSpec.ofChange ballSizeWrong)

/-- 'quipulaw.BookChecks': WHATEVER THE INPUT: true; the input reads as it did. -/
def bookChecksSpec : ChangeSpec := { name := "bookChecks", fn := fun _ => fun
  | [d1, d2] => { results := [.lit (.bool true)], args := [d1, d2] }
  | _ => none }
def bookChecksRow : OpenClaim := { program := "ytfcleenbhadfhaa", sum := "e06eaf181a22535e85a290c3565cd07fd533c46da61e1e0e3d26c26de5aadb4c", func := "quipu/quipulaw.BookChecks", spec := "bookChecks", apart := false }
def BookChecksSaid : Prop := bookChecksRow.holds Try.pinned (OpenSpec.ofChange bookChecksSpec)

/-- ITS FALSE NEIGHBOUR: 'it returns false'. Refute it at one input. -/
def bookChecksWrong : ChangeSpec := { name := "bookChecks", fn := fun _ => fun
  | [d1, d2] => { results := [.lit (.bool false)], args := [d1, d2] }
  | _ => none }
def BookChecksWrongFalsely : Prop := bookChecksRow.holds Try.pinned (OpenSpec.ofChange bookChecksWrong)

/- THE SECOND FORM. 'bulk': how many values and letters a reading holds, each counted each time it is reached (what is shared counts as often as it is met; a slice's spare places count too). A statement '..UptoSaid' is the law's where the arguments, and the package variables that the reading takes, are together of bulk at most 1048576: NARROWER than '..Said'. Prove '..Said' where nothing that the law and all that it calls make is longer than what came in: it says more and counts as full. Else prove '..UptoSaid'. A law counts once. -/
mutual
def uptoBulk {H : Type} : DataW H → Nat
  | .lit (.string bytes) => bytes.length + 1
  | .lit _ => 1
  | .nil => 1
  | .ptr d => uptoBulk d + 1
  | .slice elems spare => uptoBulkAll elems + uptoBulkAll spare + 1
  | .agg parts => uptoBulkAll parts + 1
  | .iface _ d => uptoBulk d + 1
  | .map entries => uptoBulkEntries entries + 1
  | .held _ => 1
def uptoBulkAll {H : Type} : List (DataW H) → Nat
  | [] => 0
  | d :: r => uptoBulk d + uptoBulkAll r
def uptoBulkEntries {H : Type} : List (Lit × DataW H) → Nat
  | [] => 0
  | x :: r => uptoBulkEntry x + uptoBulkEntries r
def uptoBulkEntry {H : Type} : Lit × DataW H → Nat
  | (.string bytes, d) => bytes.length + uptoBulk d + 1
  | (_, d) => uptoBulk d + 1
 end
def uptoSmall : (H : Type) → List (DataW H) → Bool := fun _ ds => decide (uptoBulkAll ds ≤ 1048576)
def OpenSpec.upto (s : _root_.Go.ChangeSpec) : _root_.Go.OpenSpec := { _root_.Go.OpenSpec.ofChange s with cond := some uptoSmall }

/-- 'quipulaw.BallDists', WHERE WHAT IT READS IS OF BULK AT MOST 1048576: true; the input reads as it did. -/
def ballDistsUptoRow : OpenClaim := { program := "ytfcleenbhadfhaa", sum := "e06eaf181a22535e85a290c3565cd07fd533c46da61e1e0e3d26c26de5aadb4c", func := "quipu/quipulaw.BallDists", spec := "ballDists", apart := false, narrowed := true }
def BallDistsUptoSaid : Prop := ballDistsUptoRow.holds Try.pinned (OpenSpec.upto ballDistsSpec)

/-- 'quipulaw.BallTells', WHERE WHAT IT READS IS OF BULK AT MOST 1048576: true; the input reads as it did. -/
def ballTellsUptoRow : OpenClaim := { program := "ytfcleenbhadfhaa", sum := "e06eaf181a22535e85a290c3565cd07fd533c46da61e1e0e3d26c26de5aadb4c", func := "quipu/quipulaw.BallTells", spec := "ballTells", apart := false, narrowed := true }
def BallTellsUptoSaid : Prop := ballTellsUptoRow.holds Try.pinned (OpenSpec.upto ballTellsSpec)

/-- 'quipulaw.BallSizes', WHERE WHAT IT READS IS OF BULK AT MOST 1048576: true; the input reads as it did. -/
def ballSizesUptoRow : OpenClaim := { program := "ytfcleenbhadfhaa", sum := "e06eaf181a22535e85a290c3565cd07fd533c46da61e1e0e3d26c26de5aadb4c", func := "quipu/quipulaw.BallSizes", spec := "ballSizes", apart := false, narrowed := true }
def BallSizesUptoSaid : Prop := ballSizesUptoRow.holds Try.pinned (OpenSpec.upto ballSizesSpec)

/-- 'quipukeep.BallMetric', WHERE WHAT IT READS IS OF BULK AT MOST 1048576: true; the input reads as it did. -/
def ballMetricUptoRow : OpenClaim := { program := "ytfcleenbhadfhaa", sum := "e06eaf181a22535e85a290c3565cd07fd533c46da61e1e0e3d26c26de5aadb4c", func := "quipu/quipukeep.BallMetric", spec := "ballMetric", apart := false, narrowed := true }
def BallMetricUptoSaid : Prop := ballMetricUptoRow.holds Try.pinned (OpenSpec.upto ballMetricSpec)

/-- 'quipukeep.BallSize', WHERE WHAT IT READS IS OF BULK AT MOST 1048576: true; the input reads as it did. -/
def ballSizeUptoRow : OpenClaim := { program := "ytfcleenbhadfhaa", sum := "e06eaf181a22535e85a290c3565cd07fd533c46da61e1e0e3d26c26de5aadb4c", func := "quipu/quipukeep.BallSize", spec := "ballSize", apart := false, narrowed := true }
def BallSizeUptoSaid : Prop := ballSizeUptoRow.holds Try.pinned (OpenSpec.upto ballSizeSpec)

/-- 'quipulaw.BookChecks', WHERE WHAT IT READS IS OF BULK AT MOST 1048576: true; the input reads as it did. -/
def bookChecksUptoRow : OpenClaim := { program := "ytfcleenbhadfhaa", sum := "e06eaf181a22535e85a290c3565cd07fd533c46da61e1e0e3d26c26de5aadb4c", func := "quipu/quipulaw.BookChecks", spec := "bookChecks", apart := false, narrowed := true }
def BookChecksUptoSaid : Prop := bookChecksUptoRow.holds Try.pinned (OpenSpec.upto bookChecksSpec)

end Rows
end Go.Proofs.Ytfcleenbhadfhaa
