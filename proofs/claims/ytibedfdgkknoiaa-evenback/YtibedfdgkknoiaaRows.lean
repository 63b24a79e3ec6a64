/-
  No cell of these rows narrows 'for every input' (looked for: loops, veiled, ifaces, maps, wideKeys, modest, calm, conditions, laid).
  DERIVED. THE GIVEN ROWS OF THIS SEAT. 5 by the template 'for every input the law returns true; each argument reads behind the call as it read before'; 0 by the template 'total and deterministic' (their statements: YtibedfdgkknoiaaTotals.lean).
  GIVEN WITH THE SEED: the statements are not yours to turn. If you find one false, say at which input.
  Laid BY PROGRAM, IN A SANDBOX (cutbox-rows.mjs): the forced cells as the released guide's own fill.sh prints them over the translation cf632ceb9dc611dc… (all of the seat's roots in one cut). By AI agents, Wed Nov 11 2026. No macro, syntax, notation, axiom, sorry.
-/
import Derived.Test.YtibedfdgkknoiaaChecked
import GoSem.Claim
import GoSem.ClaimJoined
import GoSem.ClaimMapViews
import Derived.JoinedTies
import Derived.KernelRfl
namespace Go.Proofs.Ytibedfdgkknoiaa
/- THE CELL 'sum', in the pinned program and in every row, IS THE sha256 OF THE DUMP (.gsa) THAT YtibedfdgkknoiaaProg.lean LOADS. Nothing in Lean hashes anything: it is a label: what it is worth is what the hold of that sum in a sandbox is worth. -/
noncomputable def Try.pinned : Pinned := { name := "ytibedfdgkknoiaa", sum := "cf632ceb9dc611dc3c3a44e39a6be085d61a87922d9dc986db23ecc7548c3818", checked := Try.checked }
namespace Rows
def none {H : Type} : Left H := { results := [], args := [] }

/-- 'quipulaw.EvenTurns': WHATEVER THE INPUT: true; the input reads as it did. -/
def evenTurnsSpec : ChangeSpec := { name := "evenTurns", fn := fun _ => fun
  | [d] => { results := [.lit (.bool true)], args := [d] }
  | _ => none }
def evenTurnsRow : OpenClaim := { program := "ytibedfdgkknoiaa", sum := "cf632ceb9dc611dc3c3a44e39a6be085d61a87922d9dc986db23ecc7548c3818", func := "quipu/quipulaw.EvenTurns", spec := "evenTurns", apart := false }
def EvenTurnsSaid : Prop := evenTurnsRow.holds Try.pinned (OpenSpec.ofChange evenTurnsSpec)

/-- ITS FALSE NEIGHBOUR: 'it returns false'. Refute it at one input. -/
def evenTurnsWrong : ChangeSpec := { name := "evenTurns", fn := fun _ => fun
  | [d] => { results := [.lit (.bool false)], args := [d] }
  | _ => none }
def EvenTurnsWrongFalsely : Prop := evenTurnsRow.holds Try.pinned (OpenSpec.ofChange evenTurnsWrong)

/-- 'quipulaw.EvenPuts': WHATEVER THE INPUT: true; the input reads as it did. -/
def evenPutsSpec : ChangeSpec := { name := "evenPuts", fn := fun _ => fun
  | [d] => { results := [.lit (.bool true)], args := [d] }
  | _ => none }
def evenPutsRow : OpenClaim := { program := "ytibedfdgkknoiaa", sum := "cf632ceb9dc611dc3c3a44e39a6be085d61a87922d9dc986db23ecc7548c3818", func := "quipu/quipulaw.EvenPuts", spec := "evenPuts", apart := false }
def EvenPutsSaid : Prop := evenPutsRow.holds Try.pinned (OpenSpec.ofChange evenPutsSpec)

/-- ITS FALSE NEIGHBOUR: 'it returns false'. Refute it at one input. -/
def evenPutsWrong : ChangeSpec := { name := "evenPuts", fn := fun _ => fun
  | [d] => { results := [.lit (.bool false)], args := [d] }
  | _ => none }
def EvenPutsWrongFalsely : Prop := evenPutsRow.holds Try.pinned (OpenSpec.ofChange evenPutsWrong)

/-- 'quipulaw.EvenGets': WHATEVER THE INPUT: true; the input reads as it did. -/
def evenGetsSpec : ChangeSpec := { name := "evenGets", fn := fun _ => fun
  | [d] => { results := [.lit (.bool true)], args := [d] }
  | _ => none }
def evenGetsRow : OpenClaim := { program := "ytibedfdgkknoiaa", sum := "cf632ceb9dc611dc3c3a44e39a6be085d61a87922d9dc986db23ecc7548c3818", func := "quipu/quipulaw.EvenGets", spec := "evenGets", apart := false }
def EvenGetsSaid : Prop := evenGetsRow.holds Try.pinned (OpenSpec.ofChange evenGetsSpec)

/-- ITS FALSE NEIGHBOUR: 'it returns false'. Refute it at one input. -/
def evenGetsWrong : ChangeSpec := { name := "evenGets", fn := fun _ => fun
  | [d] => { results := [.lit (.bool false)], args := [d] }
  | _ => none }
def EvenGetsWrongFalsely : Prop := evenGetsRow.holds Try.pinned (OpenSpec.ofChange evenGetsWrong)

/-- 'quipukeep.EvenHalf': WHATEVER THE INPUT: true; the input reads as it did. -/
def evenHalfSpec : ChangeSpec := { name := "evenHalf", fn := fun _ => fun
  | [d1, d2] => { results := [.lit (.bool true)], args := [d1, d2] }
  | _ => none }
def evenHalfRow : OpenClaim := { program := "ytibedfdgkknoiaa", sum := "cf632ceb9dc611dc3c3a44e39a6be085d61a87922d9dc986db23ecc7548c3818", func := "quipu/quipukeep.EvenHalf", spec := "evenHalf", apart := false }
def EvenHalfSaid : Prop := evenHalfRow.holds Try.pinned (OpenSpec.ofChange evenHalfSpec)

/-- ITS FALSE NEIGHBOUR: 'it returns false'. Refute it at one input. -/
def evenHalfWrong : ChangeSpec := { name := "evenHalf", fn := fun _ => fun
  | [d1, d2] => { results := [.lit (.bool false)], args := [d1, d2] }
  | _ => none }
def EvenHalfWrongFalsely : Prop := evenHalfRow.holds Try.pinned (OpenSpec.ofChange evenHalfWrong)

/-- 'quipukeep.EvenBack': WHATEVER THE INPUT: true; the input reads as it did. -/
def evenBackSpec : ChangeSpec := { name := "evenBack", fn := fun _ => fun
  | [d] => { results := [.lit (.bool true)], args := [d] }
  | _ => none }
def evenBackRow : OpenClaim := { program := "ytibedfdgkknoiaa", sum := "cf632ceb9dc611dc3c3a44e39a6be085d61a87922d9dc986db23ecc7548c3818", func := "quipu/quipukeep.EvenBack", spec := "evenBack", apart := false }
def EvenBackSaid : Prop := evenBackRow.holds Try.pinned (OpenSpec.ofChange evenBackSpec)

/-- ITS FALSE NEIGHBOUR: 'it returns false'. Refute it at one input. -/
def evenBackWrong : ChangeSpec := { name := "evenBack", fn := fun _ => fun
  | [d] => { results := [.lit (.bool false)], args := [d] }
  | _ => none }
def EvenBackWrongFalsely : Prop := evenBackRow.holds Try.pinned (OpenSpec.ofChange evenBackWrong)

/- THE SECOND FORM. 'bulk': how many values and letters a reading holds, each counted each time it is reached (what is shared counts as often as it is met; a slice's spare places count too). A statement '..UptoSaid' is the law's where the arguments, and the package variables that the reading takes, are together of bulk at most 1048576: NARROWER than '..Said'. Prove '..Said' where nothing that the law and all that it calls make is longer than what came in: it says more and counts as full. Else prove '..UptoSaid'. A law counts once. -/
mutual
def uptoBulk {H : Type} : DataW H → Nat
  | .lit (.string bytes) => bytes.length + 1
  | .lit _ => 1
  | .nil => 1
  | .ptr d => uptoBulk d + 1
  | .slice elems spare => uptoBulkAll elems + uptoBulkAll spare + 1
  | .agg parts => uptoBulkAll parts + 1
  | .iface _ d => uptoBulk d + 1
  | .map entries => uptoBulkEntries entries + 1
  | .held _ => 1
def uptoBulkAll {H : Type} : List (DataW H) → Nat
  | [] => 0
  | d :: r => uptoBulk d + uptoBulkAll r
def uptoBulkEntries {H : Type} : List (Lit × DataW H) → Nat
  | [] => 0
  | x :: r => uptoBulkEntry x + uptoBulkEntries r
def uptoBulkEntry {H : Type} : Lit × DataW H → Nat
  | (.string bytes, d) => bytes.length + uptoBulk d + 1
  | (_, d) => uptoBulk d + 1
 end
def uptoSmall : (H : Type) → List (DataW H) → Bool := fun _ ds => decide (uptoBulkAll ds ≤ 1048576)
def OpenSpec.upto (s : _root_.Go.ChangeSpec) : _root_.Go.OpenSpec := { _root_.Go.OpenSpec.ofChange s with cond := some uptoSmall }

/-- 'quipulaw.EvenTurns', WHERE WHAT IT READS IS OF BULK AT MOST 1048576: true; the input reads as it did. -/
def evenTurnsUptoRow : OpenClaim := { program := "ytibedfdgkknoiaa", sum := "cf632ceb9dc611dc3c3a44e39a6be085d61a87922d9dc986db23ecc7548c3818", func := "quipu/quipulaw.EvenTurns", spec := "evenTurns", apart := false, narrowed := true }
def EvenTurnsUptoSaid : Prop := evenTurnsUptoRow.holds Try.pinned (OpenSpec.upto evenTurnsSpec)

/-- 'quipulaw.EvenPuts', WHERE WHAT IT READS IS OF BULK AT MOST 1048576: true; the input reads as it did. -/
def evenPutsUptoRow : OpenClaim := { program := "ytibedfdgkknoiaa", sum := "cf632ceb9dc611dc3c3a44e39a6be085d61a87922d9dc986db23ecc7548c3818", func := "quipu/quipulaw.EvenPuts", spec := "evenPuts", apart := false, narrowed := true }
def EvenPutsUptoSaid : Prop := evenPutsUptoRow.holds Try.pinned (OpenSpec.upto evenPutsSpec)

/-- 'quipulaw.EvenGets', WHERE WHAT IT READS IS OF BULK AT MOST 1048576: true; the input reads as it did. -/
def evenGetsUptoRow : OpenClaim := { program := "ytibedfdgkknoiaa", sum := "cf632ceb9dc611dc3c3a44e39a6be085d61a87922d9dc986db23ecc7548c3818", func := "quipu/quipulaw.EvenGets", spec := "evenGets", apart := false, narrowed := true }
def EvenGetsUptoSaid : Prop := evenGetsUptoRow.holds Try.pinned (OpenSpec.upto evenGetsSpec)

/-- 'quipukeep.EvenHalf', WHERE WHAT IT READS IS OF BULK AT MOST 1048576: true; the input reads as it did. -/
def evenHalfUptoRow : OpenClaim := { program := "ytibedfdgkknoiaa", sum := "cf632ceb9dc611dc3c3a44e39a6be085d61a87922d9dc986db23ecc7548c3818", func := "quipu/quipukeep.EvenHalf", spec := "evenHalf", apart := false, narrowed := true }
def EvenHalfUptoSaid : Prop := evenHalfUptoRow.holds Try.pinned (OpenSpec.upto evenHalfSpec)

/-- 'quipukeep.EvenBack', WHERE WHAT IT READS IS OF BULK AT MOST 1048576: true; the input reads as it did. -/
def evenBackUptoRow : OpenClaim := { program := "ytibedfdgkknoiaa", sum := "cf632ceb9dc611dc3c3a44e39a6be085d61a87922d9dc986db23ecc7548c3818", func := "quipu/quipukeep.EvenBack", spec := "evenBack", apart := false, narrowed := true }
def EvenBackUptoSaid : Prop := evenBackUptoRow.holds Try.pinned (OpenSpec.upto evenBackSpec)

end Rows
end Go.Proofs.Ytibedfdgkknoiaa
