/-
  No cell of these rows narrows 'for every input' (looked for: loops, veiled, ifaces, maps, wideKeys, modest, calm, conditions, laid).
  DERIVED. THE GIVEN ROWS OF THIS SEAT. 5 by the template 'for every input the law returns true; each argument reads behind the call as it read before'; 0 by the template 'total and deterministic' (their statements: YtdfjjjcaibadoaaTotals.lean).
  GIVEN WITH THE SEED: the statements are not yours to turn. If you find one false, say at which input.
  Laid BY PROGRAM, IN A SANDBOX (cutbox-rows.mjs): the forced cells as the released guide's own fill.sh prints them over the translation 0b390b40f109a235… (all of the seat's roots in one cut). By AI agents, Wed Nov 11 2026. No macro, syntax, notation, axiom, sorry.
-/
import Derived.Test.YtdfjjjcaibadoaaChecked
import GoSem.Claim
import GoSem.ClaimJoined
import GoSem.ClaimMapViews
import Derived.JoinedTies
import Derived.KernelRfl
namespace Go.Proofs.Ytdfjjjcaibadoaa
/- THE CELL 'sum', in the pinned program and in every row, IS THE sha256 OF THE DUMP (.gsa) THAT YtdfjjjcaibadoaaProg.lean LOADS. Nothing in Lean hashes anything: it is a label: what it is worth is what the hold of that sum in a sandbox is worth. -/
noncomputable def Try.pinned : Pinned := { name := "ytdfjjjcaibadoaa", sum := "0b390b40f109a235dcaeda61e0b8ea415a28ccbff2ba982a569eb7b2ba0b0804", checked := Try.checked }
namespace Rows
def none {H : Type} : Left H := { results := [], args := [] }

/-- 'quipulaw.SpanTells': WHATEVER THE INPUT: true; the input reads as it did. -/
def spanTellsSpec : ChangeSpec := { name := "spanTells", fn := fun _ => fun
  | [d1, d2] => { results := [.lit (.bool true)], args := [d1, d2] }
  | _ => none }
def spanTellsRow : OpenClaim := { program := "ytdfjjjcaibadoaa", sum := "0b390b40f109a235dcaeda61e0b8ea415a28ccbff2ba982a569eb7b2ba0b0804", func := "quipu/quipulaw.SpanTells", spec := "spanTells", unfollowed := true, recurses := true, apart := false }
def SpanTellsSaid : Prop := spanTellsRow.holds Try.pinned (OpenSpec.ofChange spanTellsSpec)

/-- ITS FALSE NEIGHBOUR: 'it returns false'. Refute it at one input. -/
def spanTellsWrong : ChangeSpec := { name := "spanTells", fn := fun _ => fun
  | [d1, d2] => { results := [.lit (.bool false)], args := [d1, d2] }
  | _ => none }
def SpanTellsWrongFalsely : Prop := spanTellsRow.holds Try.pinned (OpenSpec.ofChange spanTellsWrong)

/-- 'quipulaw.SpanDuals': WHATEVER THE INPUT: true; the input reads as it did. -/
def spanDualsSpec : ChangeSpec := { name := "spanDuals", fn := fun _ => fun
  | [d1, d2] => { results := [.lit (.bool true)], args := [d1, d2] }
  | _ => none }
def spanDualsRow : OpenClaim := { program := "ytdfjjjcaibadoaa", sum := "0b390b40f109a235dcaeda61e0b8ea415a28ccbff2ba982a569eb7b2ba0b0804", func := "quipu/quipulaw.SpanDuals", spec := "spanDuals", unfollowed := true, recurses := true, apart := false }
def SpanDualsSaid : Prop := spanDualsRow.holds Try.pinned (OpenSpec.ofChange spanDualsSpec)

/-- ITS FALSE NEIGHBOUR: 'it returns false'. Refute it at one input. -/
def spanDualsWrong : ChangeSpec := { name := "spanDuals", fn := fun _ => fun
  | [d1, d2] => { results := [.lit (.bool false)], args := [d1, d2] }
  | _ => none }
def SpanDualsWrongFalsely : Prop := spanDualsRow.holds Try.pinned (OpenSpec.ofChange spanDualsWrong)

/-- 'quipulaw.SpanWeighs': WHATEVER THE INPUT: true; the input reads as it did. -/
def spanWeighsSpec : ChangeSpec := { name := "spanWeighs", fn := fun _ => fun
  | [d1, d2] => { results := [.lit (.bool true)], args := [d1, d2] }
  | _ => none }
def spanWeighsRow : OpenClaim := { program := "ytdfjjjcaibadoaa", sum := "0b390b40f109a235dcaeda61e0b8ea415a28ccbff2ba982a569eb7b2ba0b0804", func := "quipu/quipulaw.SpanWeighs", spec := "spanWeighs", unfollowed := true, recurses := true, apart := false }
def SpanWeighsSaid : Prop := spanWeighsRow.holds Try.pinned (OpenSpec.ofChange spanWeighsSpec)

/-- ITS FALSE NEIGHBOUR: 'it returns false'. Refute it at one input. -/
def spanWeighsWrong : ChangeSpec := { name := "spanWeighs", fn := fun _ => fun
  | [d1, d2] => { results := [.lit (.bool false)], args := [d1, d2] }
  | _ => none }
def SpanWeighsWrongFalsely : Prop := spanWeighsRow.holds Try.pinned (OpenSpec.ofChange spanWeighsWrong)

/-- 'quipulaw.SpanPuts': WHATEVER THE INPUT: true; the input reads as it did. -/
def spanPutsSpec : ChangeSpec := { name := "spanPuts", fn := fun _ => fun
  | [d1, d2, d3] => { results := [.lit (.bool true)], args := [d1, d2, d3] }
  | _ => none }
def spanPutsRow : OpenClaim := { program := "ytdfjjjcaibadoaa", sum := "0b390b40f109a235dcaeda61e0b8ea415a28ccbff2ba982a569eb7b2ba0b0804", func := "quipu/quipulaw.SpanPuts", spec := "spanPuts", unfollowed := true, recurses := true, apart := false }
def SpanPutsSaid : Prop := spanPutsRow.holds Try.pinned (OpenSpec.ofChange spanPutsSpec)

/-- ITS FALSE NEIGHBOUR: 'it returns false'. Refute it at one input. -/
def spanPutsWrong : ChangeSpec := { name := "spanPuts", fn := fun _ => fun
  | [d1, d2, d3] => { results := [.lit (.bool false)], args := [d1, d2, d3] }
  | _ => none }
def SpanPutsWrongFalsely : Prop := spanPutsRow.holds Try.pinned (OpenSpec.ofChange spanPutsWrong)

/-- 'quipukeep.SpanClosed': WHATEVER THE INPUT: true; the input reads as it did. -/
def spanClosedSpec : ChangeSpec := { name := "spanClosed", fn := fun _ => fun
  | [d1, d2, d3, d4] => { results := [.lit (.bool true)], args := [d1, d2, d3, d4] }
  | _ => none }
def spanClosedRow : OpenClaim := { program := "ytdfjjjcaibadoaa", sum := "0b390b40f109a235dcaeda61e0b8ea415a28ccbff2ba982a569eb7b2ba0b0804", func := "quipu/quipukeep.SpanClosed", spec := "spanClosed", unfollowed := true, recurses := true, apart := false }
def SpanClosedSaid : Prop := spanClosedRow.holds Try.pinned (OpenSpec.ofChange spanClosedSpec)

/-- ITS FALSE NEIGHBOUR: 'it returns false'. Refute it at one input. -/
def spanClosedWrong : ChangeSpec := { name := "spanClosed", fn := fun _ => fun
  | [d1, d2, d3, d4] => { results := [.lit (.bool false)], args := [d1, d2, d3, d4] }
  | _ => none }
def SpanClosedWrongFalsely : Prop := spanClosedRow.holds Try.pinned (OpenSpec.ofChange spanClosedWrong)

/- THE SECOND FORM. 'bulk': how many values and letters a reading holds, each counted each time it is reached (what is shared counts as often as it is met; a slice's spare places count too). A statement '..UptoSaid' is the law's where the arguments, and the package variables that the reading takes, are together of bulk at most 1048576: NARROWER than '..Said'. Prove '..Said' where nothing that the law and all that it calls make is longer than what came in: it says more and counts as full. Else prove '..UptoSaid'. A law counts once. -/
mutual
def uptoBulk {H : Type} : DataW H → Nat
  | .lit (.string bytes) => bytes.length + 1
  | .lit _ => 1
  | .nil => 1
  | .ptr d => uptoBulk d + 1
  | .slice elems spare => uptoBulkAll elems + uptoBulkAll spare + 1
  | .agg parts => uptoBulkAll parts + 1
  | .iface _ d => uptoBulk d + 1
  | .map entries => uptoBulkEntries entries + 1
  | .held _ => 1
def uptoBulkAll {H : Type} : List (DataW H) → Nat
  | [] => 0
  | d :: r => uptoBulk d + uptoBulkAll r
def uptoBulkEntries {H : Type} : List (Lit × DataW H) → Nat
  | [] => 0
  | x :: r => uptoBulkEntry x + uptoBulkEntries r
def uptoBulkEntry {H : Type} : Lit × DataW H → Nat
  | (.string bytes, d) => bytes.length + uptoBulk d + 1
  | (_, d) => uptoBulk d + 1
 end
def uptoSmall : (H : Type) → List (DataW H) → Bool := fun _ ds => decide (uptoBulkAll ds ≤ 1048576)
def OpenSpec.upto (s : _root_.Go.ChangeSpec) : _root_.Go.OpenSpec := { _root_.Go.OpenSpec.ofChange s with cond := some uptoSmall }

/-- 'quipulaw.SpanTells', WHERE WHAT IT READS IS OF BULK AT MOST 1048576: true; the input reads as it did. -/
def spanTellsUptoRow : OpenClaim := { program := "ytdfjjjcaibadoaa", sum := "0b390b40f109a235dcaeda61e0b8ea415a28ccbff2ba982a569eb7b2ba0b0804", func := "quipu/quipulaw.SpanTells", spec := "spanTells", unfollowed := true, recurses := true, apart := false, narrowed := true }
def SpanTellsUptoSaid : Prop := spanTellsUptoRow.holds Try.pinned (OpenSpec.upto spanTellsSpec)

/-- 'quipulaw.SpanDuals', WHERE WHAT IT READS IS OF BULK AT MOST 1048576: true; the input reads as it did. -/
def spanDualsUptoRow : OpenClaim := { program := "ytdfjjjcaibadoaa", sum := "0b390b40f109a235dcaeda61e0b8ea415a28ccbff2ba982a569eb7b2ba0b0804", func := "quipu/quipulaw.SpanDuals", spec := "spanDuals", unfollowed := true, recurses := true, apart := false, narrowed := true }
def SpanDualsUptoSaid : Prop := spanDualsUptoRow.holds Try.pinned (OpenSpec.upto spanDualsSpec)

/-- 'quipulaw.SpanWeighs', WHERE WHAT IT READS IS OF BULK AT MOST 1048576: true; the input reads as it did. -/
def spanWeighsUptoRow : OpenClaim := { program := "ytdfjjjcaibadoaa", sum := "0b390b40f109a235dcaeda61e0b8ea415a28ccbff2ba982a569eb7b2ba0b0804", func := "quipu/quipulaw.SpanWeighs", spec := "spanWeighs", unfollowed := true, recurses := true, apart := false, narrowed := true }
def SpanWeighsUptoSaid : Prop := spanWeighsUptoRow.holds Try.pinned (OpenSpec.upto spanWeighsSpec)

/-- 'quipulaw.SpanPuts', WHERE WHAT IT READS IS OF BULK AT MOST 1048576: true; the input reads as it did. -/
def spanPutsUptoRow : OpenClaim := { program := "ytdfjjjcaibadoaa", sum := "0b390b40f109a235dcaeda61e0b8ea415a28ccbff2ba982a569eb7b2ba0b0804", func := "quipu/quipulaw.SpanPuts", spec := "spanPuts", unfollowed := true, recurses := true, apart := false, narrowed := true }
def SpanPutsUptoSaid : Prop := spanPutsUptoRow.holds Try.pinned (OpenSpec.upto spanPutsSpec)

/-- 'quipukeep.SpanClosed', WHERE WHAT IT READS IS OF BULK AT MOST 1048576: true; the input reads as it did. -/
def spanClosedUptoRow : OpenClaim := { program := "ytdfjjjcaibadoaa", sum := "0b390b40f109a235dcaeda61e0b8ea415a28ccbff2ba982a569eb7b2ba0b0804", func := "quipu/quipukeep.SpanClosed", spec := "spanClosed", unfollowed := true, recurses := true, apart := false, narrowed := true }
def SpanClosedUptoSaid : Prop := spanClosedUptoRow.holds Try.pinned (OpenSpec.upto spanClosedSpec)

end Rows
end Go.Proofs.Ytdfjjjcaibadoaa
