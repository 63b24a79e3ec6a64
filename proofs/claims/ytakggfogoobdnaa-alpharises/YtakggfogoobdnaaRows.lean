/-
  No cell of these rows narrows 'for every input' (looked for: loops, veiled, ifaces, maps, wideKeys, modest, calm, conditions, laid).
  DERIVED. THE GIVEN ROWS OF THIS SEAT. 6 by the template 'for every input the law returns true; each argument reads behind the call as it read before'; 0 by the template 'total and deterministic' (their statements: YtakggfogoobdnaaTotals.lean).
  GIVEN WITH THE SEED: the statements are not yours to turn. If you find one false, say at which input.
  Laid BY PROGRAM, IN A SANDBOX (cutbox-rows.mjs): the forced cells as the released guide's own fill.sh prints them over the translation d7df59276aa5ea07… (all of the seat's roots in one cut). By AI agents, Wed Nov 11 2026. No macro, syntax, notation, axiom, sorry.
-/
import Derived.Test.YtakggfogoobdnaaChecked
import GoSem.Claim
import GoSem.ClaimJoined
import GoSem.ClaimMapViews
import Derived.JoinedTies
import Derived.KernelRfl
namespace Go.Proofs.Ytakggfogoobdnaa
/- THE CELL 'sum', in the pinned program and in every row, IS THE sha256 OF THE DUMP (.gsa) THAT YtakggfogoobdnaaProg.lean LOADS. Nothing in Lean hashes anything: it is a label: what it is worth is what the hold of that sum in a sandbox is worth. -/
noncomputable def Try.pinned : Pinned := { name := "ytakggfogoobdnaa", sum := "d7df59276aa5ea079db2503e50c28c595592f650f6b49d575caf43d62348061b", checked := Try.checked }
namespace Rows
def none {H : Type} : Left H := { results := [], args := [] }

/-- 'quipulaw.AlphaCosts': WHATEVER THE INPUT: true; the input reads as it did. -/
def alphaCostsSpec : ChangeSpec := { name := "alphaCosts", fn := fun _ => fun
  | [d] => { results := [.lit (.bool true)], args := [d] }
  | _ => none }
def alphaCostsRow : OpenClaim := { program := "ytakggfogoobdnaa", sum := "d7df59276aa5ea079db2503e50c28c595592f650f6b49d575caf43d62348061b", func := "quipu/quipulaw.AlphaCosts", spec := "alphaCosts", unfollowed := true, recurses := true, apart := false }
def AlphaCostsSaid : Prop := alphaCostsRow.holds Try.pinned (OpenSpec.ofChange alphaCostsSpec)

/-- ITS FALSE NEIGHBOUR: 'it returns false'. Refute it at one input. -/
def alphaCostsWrong : ChangeSpec := { name := "alphaCosts", fn := fun _ => fun
  | [d] => { results := [.lit (.bool false)], args := [d] }
  | _ => none }
def AlphaCostsWrongFalsely : Prop := alphaCostsRow.holds Try.pinned (OpenSpec.ofChange alphaCostsWrong)

/-- 'quipulaw.AlphaLens': WHATEVER THE INPUT: true; the input reads as it did. -/
def alphaLensSpec : ChangeSpec := { name := "alphaLens", fn := fun _ => fun
  | [d] => { results := [.lit (.bool true)], args := [d] }
  | _ => none }
def alphaLensRow : OpenClaim := { program := "ytakggfogoobdnaa", sum := "d7df59276aa5ea079db2503e50c28c595592f650f6b49d575caf43d62348061b", func := "quipu/quipulaw.AlphaLens", spec := "alphaLens", unfollowed := true, recurses := true, apart := false }
def AlphaLensSaid : Prop := alphaLensRow.holds Try.pinned (OpenSpec.ofChange alphaLensSpec)

/-- ITS FALSE NEIGHBOUR: 'it returns false'. Refute it at one input. -/
def alphaLensWrong : ChangeSpec := { name := "alphaLens", fn := fun _ => fun
  | [d] => { results := [.lit (.bool false)], args := [d] }
  | _ => none }
def AlphaLensWrongFalsely : Prop := alphaLensRow.holds Try.pinned (OpenSpec.ofChange alphaLensWrong)

/-- 'quipulaw.AlphaMakes': WHATEVER THE INPUT: true; the input reads as it did. -/
def alphaMakesSpec : ChangeSpec := { name := "alphaMakes", fn := fun _ => fun
  | [d] => { results := [.lit (.bool true)], args := [d] }
  | _ => none }
def alphaMakesRow : OpenClaim := { program := "ytakggfogoobdnaa", sum := "d7df59276aa5ea079db2503e50c28c595592f650f6b49d575caf43d62348061b", func := "quipu/quipulaw.AlphaMakes", spec := "alphaMakes", unfollowed := true, recurses := true, apart := false }
def AlphaMakesSaid : Prop := alphaMakesRow.holds Try.pinned (OpenSpec.ofChange alphaMakesSpec)

/-- ITS FALSE NEIGHBOUR: 'it returns false'. Refute it at one input. -/
def alphaMakesWrong : ChangeSpec := { name := "alphaMakes", fn := fun _ => fun
  | [d] => { results := [.lit (.bool false)], args := [d] }
  | _ => none }
def AlphaMakesWrongFalsely : Prop := alphaMakesRow.holds Try.pinned (OpenSpec.ofChange alphaMakesWrong)

/-- 'quipukeep.AlphaRises': WHATEVER THE INPUT: true; the input reads as it did. -/
def alphaRisesSpec : ChangeSpec := { name := "alphaRises", fn := fun _ => fun
  | [d] => { results := [.lit (.bool true)], args := [d] }
  | _ => none }
def alphaRisesRow : OpenClaim := { program := "ytakggfogoobdnaa", sum := "d7df59276aa5ea079db2503e50c28c595592f650f6b49d575caf43d62348061b", func := "quipu/quipukeep.AlphaRises", spec := "alphaRises", unfollowed := true, recurses := true, apart := false }
def AlphaRisesSaid : Prop := alphaRisesRow.holds Try.pinned (OpenSpec.ofChange alphaRisesSpec)

/-- ITS FALSE NEIGHBOUR: 'it returns false'. Refute it at one input. -/
def alphaRisesWrong : ChangeSpec := { name := "alphaRises", fn := fun _ => fun
  | [d] => { results := [.lit (.bool false)], args := [d] }
  | _ => none }
def AlphaRisesWrongFalsely : Prop := alphaRisesRow.holds Try.pinned (OpenSpec.ofChange alphaRisesWrong)

/-- 'quipukeep.AlphaBetween': WHATEVER THE INPUT: true; the input reads as it did. -/
def alphaBetweenSpec : ChangeSpec := { name := "alphaBetween", fn := fun _ => fun
  | [d] => { results := [.lit (.bool true)], args := [d] }
  | _ => none }
def alphaBetweenRow : OpenClaim := { program := "ytakggfogoobdnaa", sum := "d7df59276aa5ea079db2503e50c28c595592f650f6b49d575caf43d62348061b", func := "quipu/quipukeep.AlphaBetween", spec := "alphaBetween", unfollowed := true, recurses := true, apart := false }
def AlphaBetweenSaid : Prop := alphaBetweenRow.holds Try.pinned (OpenSpec.ofChange alphaBetweenSpec)

/-- ITS FALSE NEIGHBOUR: 'it returns false'. Refute it at one input. -/
def alphaBetweenWrong : ChangeSpec := { name := "alphaBetween", fn := fun _ => fun
  | [d] => { results := [.lit (.bool false)], args := [d] }
  | _ => none }
def AlphaBetweenWrongFalsely : Prop := alphaBetweenRow.holds Try.pinned (OpenSpec.ofChange alphaBetweenWrong)

/-- 'quipukeep.AlphaSorted': WHATEVER THE INPUT: true; the input reads as it did. -/
def alphaSortedSpec : ChangeSpec := { name := "alphaSorted", fn := fun _ => fun
  | [d] => { results := [.lit (.bool true)], args := [d] }
  | _ => none }
def alphaSortedRow : OpenClaim := { program := "ytakggfogoobdnaa", sum := "d7df59276aa5ea079db2503e50c28c595592f650f6b49d575caf43d62348061b", func := "quipu/quipukeep.AlphaSorted", spec := "alphaSorted", unfollowed := true, recurses := true, apart := false }
def AlphaSortedSaid : Prop := alphaSortedRow.holds Try.pinned (OpenSpec.ofChange alphaSortedSpec)

/-- ITS FALSE NEIGHBOUR: 'it returns false'. Refute it at one input. -/
def alphaSortedWrong : ChangeSpec := { name := "alphaSorted", fn := fun _ => fun
  | [d] => { results := [.lit (.bool false)], args := [d] }
  | _ => none }
def AlphaSortedWrongFalsely : Prop := alphaSortedRow.holds Try.pinned (OpenSpec.ofChange alphaSortedWrong)

/- THE SECOND FORM. 'bulk': how many values and letters a reading holds, each counted each time it is reached (what is shared counts as often as it is met; a slice's spare places count too). A statement '..UptoSaid' is the law's where the arguments, and the package variables that the reading takes, are together of bulk at most 1048576: NARROWER than '..Said'. Prove '..Said' where nothing that the law and all that it calls make is longer than what came in: it says more and counts as full. Else prove '..UptoSaid'. A law counts once. -/
mutual
def uptoBulk {H : Type} : DataW H → Nat
  | .lit (.string bytes) => bytes.length + 1
  | .lit _ => 1
  | .nil => 1
  | .ptr d => uptoBulk d + 1
  | .slice elems spare => uptoBulkAll elems + uptoBulkAll spare + 1
  | .agg parts => uptoBulkAll parts + 1
  | .iface _ d => uptoBulk d + 1
  | .map entries => uptoBulkEntries entries + 1
  | .held _ => 1
def uptoBulkAll {H : Type} : List (DataW H) → Nat
  | [] => 0
  | d :: r => uptoBulk d + uptoBulkAll r
def uptoBulkEntries {H : Type} : List (Lit × DataW H) → Nat
  | [] => 0
  | x :: r => uptoBulkEntry x + uptoBulkEntries r
def uptoBulkEntry {H : Type} : Lit × DataW H → Nat
  | (.string bytes, d) => bytes.length + uptoBulk d + 1
  | (_, d) => uptoBulk d + 1
 end
def uptoSmall : (H : Type) → List (DataW H) → Bool := fun _ ds => decide (uptoBulkAll ds ≤ 1048576)
def OpenSpec.upto (s : _root_.Go.ChangeSpec) : _root_.Go.OpenSpec := { _root_.Go.OpenSpec.ofChange s with cond := some uptoSmall }

/-- 'quipulaw.AlphaCosts', WHERE WHAT IT READS IS OF BULK AT MOST 1048576: true; the input reads as it did. -/
def alphaCostsUptoRow : OpenClaim := { program := "ytakggfogoobdnaa", sum := "d7df59276aa5ea079db2503e50c28c595592f650f6b49d575caf43d62348061b", func := "quipu/quipulaw.AlphaCosts", spec := "alphaCosts", unfollowed := true, recurses := true, apart := false, narrowed := true }
def AlphaCostsUptoSaid : Prop := alphaCostsUptoRow.holds Try.pinned (OpenSpec.upto alphaCostsSpec)

/-- 'quipulaw.AlphaLens', WHERE WHAT IT READS IS OF BULK AT MOST 1048576: true; the input reads as it did. -/
def alphaLensUptoRow : OpenClaim := { program := "ytakggfogoobdnaa", sum := "d7df59276aa5ea079db2503e50c28c595592f650f6b49d575caf43d62348061b", func := "quipu/quipulaw.AlphaLens", spec := "alphaLens", unfollowed := true, recurses := true, apart := false, narrowed := true }
def AlphaLensUptoSaid : Prop := alphaLensUptoRow.holds Try.pinned (OpenSpec.upto alphaLensSpec)

/-- 'quipulaw.AlphaMakes', WHERE WHAT IT READS IS OF BULK AT MOST 1048576: true; the input reads as it did. -/
def alphaMakesUptoRow : OpenClaim := { program := "ytakggfogoobdnaa", sum := "d7df59276aa5ea079db2503e50c28c595592f650f6b49d575caf43d62348061b", func := "quipu/quipulaw.AlphaMakes", spec := "alphaMakes", unfollowed := true, recurses := true, apart := false, narrowed := true }
def AlphaMakesUptoSaid : Prop := alphaMakesUptoRow.holds Try.pinned (OpenSpec.upto alphaMakesSpec)

/-- 'quipukeep.AlphaRises', WHERE WHAT IT READS IS OF BULK AT MOST 1048576: true; the input reads as it did. -/
def alphaRisesUptoRow : OpenClaim := { program := "ytakggfogoobdnaa", sum := "d7df59276aa5ea079db2503e50c28c595592f650f6b49d575caf43d62348061b", func := "quipu/quipukeep.AlphaRises", spec := "alphaRises", unfollowed := true, recurses := true, apart := false, narrowed := true }
def AlphaRisesUptoSaid : Prop := alphaRisesUptoRow.holds Try.pinned (OpenSpec.upto alphaRisesSpec)

/-- 'quipukeep.AlphaBetween', WHERE WHAT IT READS IS OF BULK AT MOST 1048576: true; the input reads as it did. -/
def alphaBetweenUptoRow : OpenClaim := { program := "ytakggfogoobdnaa", sum := "d7df59276aa5ea079db2503e50c28c595592f650f6b49d575caf43d62348061b", func := "quipu/quipukeep.AlphaBetween", spec := "alphaBetween", unfollowed := true, recurses := true, apart := false, narrowed := true }
def AlphaBetweenUptoSaid : Prop := alphaBetweenUptoRow.holds Try.pinned (OpenSpec.upto alphaBetweenSpec)

/-- 'quipukeep.AlphaSorted', WHERE WHAT IT READS IS OF BULK AT MOST 1048576: true; the input reads as it did. -/
def alphaSortedUptoRow : OpenClaim := { program := "ytakggfogoobdnaa", sum := "d7df59276aa5ea079db2503e50c28c595592f650f6b49d575caf43d62348061b", func := "quipu/quipukeep.AlphaSorted", spec := "alphaSorted", unfollowed := true, recurses := true, apart := false, narrowed := true }
def AlphaSortedUptoSaid : Prop := alphaSortedUptoRow.holds Try.pinned (OpenSpec.upto alphaSortedSpec)

end Rows
end Go.Proofs.Ytakggfogoobdnaa
