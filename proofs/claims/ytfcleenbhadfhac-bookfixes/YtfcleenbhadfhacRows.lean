/-
  No cell of these rows narrows 'for every input' (looked for: loops, veiled, ifaces, maps, wideKeys, modest, calm, conditions, laid).
  DERIVED. THE GIVEN ROWS OF THIS SEAT. 3 by the template 'for every input the law returns true; each argument reads behind the call as it read before'; 0 by the template 'total and deterministic' (their statements: YtfcleenbhadfhacTotals.lean).
  GIVEN WITH THE SEED: the statements are not yours to turn. If you find one false, say at which input.
  Laid BY PROGRAM, IN A SANDBOX (cutbox-rows.mjs): the forced cells as the released guide's own fill.sh prints them over the translation 8cb45ce0a1c2ff49… (all of the seat's roots in one cut). By AI agents, Wed Nov 11 2026. No macro, syntax, notation, axiom, sorry.
-/
import Derived.Test.YtfcleenbhadfhacChecked
import GoSem.Claim
import GoSem.ClaimJoined
import GoSem.ClaimMapViews
import Derived.JoinedTies
import Derived.KernelRfl
namespace Go.Proofs.Ytfcleenbhadfhac
/- THE CELL 'sum', in the pinned program and in every row, IS THE sha256 OF THE DUMP (.gsa) THAT YtfcleenbhadfhacProg.lean LOADS. Nothing in Lean hashes anything: it is a label: what it is worth is what the hold of that sum in a sandbox is worth. -/
noncomputable def Try.pinned : Pinned := { name := "ytfcleenbhadfhac", sum := "8cb45ce0a1c2ff4941dd7bd3119a74c5f415072e9441ab069815667e74885079", checked := Try.checked }
namespace Rows
def none {H : Type} : Left H := { results := [], args := [] }

/-- 'quipukeep.BookGilbert': WHATEVER THE INPUT: true; the input reads as it did. -/
def bookGilbertSpec : ChangeSpec := { name := "bookGilbert", fn := fun _ => fun
  | [d1, d2, d3] => { results := [.lit (.bool true)], args := [d1, d2, d3] }
  | _ => none }
def bookGilbertRow : OpenClaim := { program := "ytfcleenbhadfhac", sum := "8cb45ce0a1c2ff4941dd7bd3119a74c5f415072e9441ab069815667e74885079", func := "quipu/quipukeep.BookGilbert", spec := "bookGilbert", unfollowed := true, recurses := true, apart := false }
def BookGilbertSaid : Prop := bookGilbertRow.holds Try.pinned (OpenSpec.ofChange bookGilbertSpec)

/-- ITS FALSE NEIGHBOUR: 'it returns false'. Refute it at one input. -/
def bookGilbertWrong : ChangeSpec := { name := "bookGilbert", fn := fun _ => fun
  | [d1, d2, d3] => { results := [.lit (.bool false)], args := [d1, d2, d3] }
  | _ => none }
def BookGilbertWrongFalsely : Prop := bookGilbertRow.holds Try.pinned (OpenSpec.ofChange bookGilbertWrong)

/-- 'quipukeep.BookSums': WHATEVER THE INPUT: true; the input reads as it did. -/
def bookSumsSpec : ChangeSpec := { name := "bookSums", fn := fun _ => fun
  | [d1, d2, d3, d4] => { results := [.lit (.bool true)], args := [d1, d2, d3, d4] }
  | _ => none }
def bookSumsRow : OpenClaim := { program := "ytfcleenbhadfhac", sum := "8cb45ce0a1c2ff4941dd7bd3119a74c5f415072e9441ab069815667e74885079", func := "quipu/quipukeep.BookSums", spec := "bookSums", unfollowed := true, recurses := true, apart := false }
def BookSumsSaid : Prop := bookSumsRow.holds Try.pinned (OpenSpec.ofChange bookSumsSpec)

/-- ITS FALSE NEIGHBOUR: 'it returns false'. Refute it at one input. -/
def bookSumsWrong : ChangeSpec := { name := "bookSums", fn := fun _ => fun
  | [d1, d2, d3, d4] => { results := [.lit (.bool false)], args := [d1, d2, d3, d4] }
  | _ => none }
def BookSumsWrongFalsely : Prop := bookSumsRow.holds Try.pinned (OpenSpec.ofChange bookSumsWrong)

/-- 'quipukeep.BookFixes': WHATEVER THE INPUT: true; the input reads as it did. -/
def bookFixesSpec : ChangeSpec := { name := "bookFixes", fn := fun _ => fun
  | [d1, d2, d3, d4] => { results := [.lit (.bool true)], args := [d1, d2, d3, d4] }
  | _ => none }
def bookFixesRow : OpenClaim := { program := "ytfcleenbhadfhac", sum := "8cb45ce0a1c2ff4941dd7bd3119a74c5f415072e9441ab069815667e74885079", func := "quipu/quipukeep.BookFixes", spec := "bookFixes", unfollowed := true, recurses := true, apart := false }
def BookFixesSaid : Prop := bookFixesRow.holds Try.pinned (OpenSpec.ofChange bookFixesSpec)

/-- ITS FALSE NEIGHBOUR: 'it returns false'. Refute it at one input. -/
def bookFixesWrong : ChangeSpec := { name := "bookFixes", fn := fun _ => fun
  | [d1, d2, d3, d4] => { results := [.lit (.bool false)], args := [d1, d2, d3, d4] }
  | _ => none }
def BookFixesWrongFalsely : Prop := bookFixesRow.holds Try.pinned (OpenSpec.ofChange bookFixesWrong)

/- THE SECOND FORM. 'bulk': how many values and letters a reading holds, each counted each time it is reached (what is shared counts as often as it is met; a slice's spare places count too). A statement '..UptoSaid' is the law's where the arguments, and the package variables that the reading takes, are together of bulk at most 1048576: NARROWER than '..Said'. Prove '..Said' where nothing that the law and all that it calls make is longer than what came in: it says more and counts as full. Else prove '..UptoSaid'. A law counts once. -/
mutual
def uptoBulk {H : Type} : DataW H → Nat
  | .lit (.string bytes) => bytes.length + 1
  | .lit _ => 1
  | .nil => 1
  | .ptr d => uptoBulk d + 1
  | .slice elems spare => uptoBulkAll elems + uptoBulkAll spare + 1
  | .agg parts => uptoBulkAll parts + 1
  | .iface _ d => uptoBulk d + 1
  | .map entries => uptoBulkEntries entries + 1
  | .held _ => 1
def uptoBulkAll {H : Type} : List (DataW H) → Nat
  | [] => 0
  | d :: r => uptoBulk d + uptoBulkAll r
def uptoBulkEntries {H : Type} : List (Lit × DataW H) → Nat
  | [] => 0
  | x :: r => uptoBulkEntry x + uptoBulkEntries r
def uptoBulkEntry {H : Type} : Lit × DataW H → Nat
  | (.string bytes, d) => bytes.length + uptoBulk d + 1
  | (_, d) => uptoBulk d + 1
 end
def uptoSmall : (H : Type) → List (DataW H) → Bool := fun _ ds => decide (uptoBulkAll ds ≤ 1048576)
def OpenSpec.upto (s : _root_.Go.ChangeSpec) : _root_.Go.OpenSpec := { _root_.Go.OpenSpec.ofChange s with cond := some uptoSmall }

/-- 'quipukeep.BookGilbert', WHERE WHAT IT READS IS OF BULK AT MOST 1048576: true; the input reads as it did. -/
def bookGilbertUptoRow : OpenClaim := { program := "ytfcleenbhadfhac", sum := "8cb45ce0a1c2ff4941dd7bd3119a74c5f415072e9441ab069815667e74885079", func := "quipu/quipukeep.BookGilbert", spec := "bookGilbert", unfollowed := true, recurses := true, apart := false, narrowed := true }
def BookGilbertUptoSaid : Prop := bookGilbertUptoRow.holds Try.pinned (OpenSpec.upto bookGilbertSpec)

/-- 'quipukeep.BookSums', WHERE WHAT IT READS IS OF BULK AT MOST 1048576: true; the input reads as it did. -/
def bookSumsUptoRow : OpenClaim := { program := "ytfcleenbhadfhac", sum := "8cb45ce0a1c2ff4941dd7bd3119a74c5f415072e9441ab069815667e74885079", func := "quipu/quipukeep.BookSums", spec := "bookSums", unfollowed := true, recurses := true, apart := false, narrowed := true }
def BookSumsUptoSaid : Prop := bookSumsUptoRow.holds Try.pinned (OpenSpec.upto bookSumsSpec)

/-- 'quipukeep.BookFixes', WHERE WHAT IT READS IS OF BULK AT MOST 1048576: true; the input reads as it did. -/
def bookFixesUptoRow : OpenClaim := { program := "ytfcleenbhadfhac", sum := "8cb45ce0a1c2ff4941dd7bd3119a74c5f415072e9441ab069815667e74885079", func := "quipu/quipukeep.BookFixes", spec := "bookFixes", unfollowed := true, recurses := true, apart := false, narrowed := true }
def BookFixesUptoSaid : Prop := bookFixesUptoRow.holds Try.pinned (OpenSpec.upto bookFixesSpec)

end Rows
end Go.Proofs.Ytfcleenbhadfhac
