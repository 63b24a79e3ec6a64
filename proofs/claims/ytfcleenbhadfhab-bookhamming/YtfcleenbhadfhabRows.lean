/-
  No cell of these rows narrows 'for every input' (looked for: loops, veiled, ifaces, maps, wideKeys, modest, calm, conditions, laid).
  DERIVED. THE GIVEN ROWS OF THIS SEAT. 6 by the template 'for every input the law returns true; each argument reads behind the call as it read before'; 0 by the template 'total and deterministic' (their statements: YtfcleenbhadfhabTotals.lean).
  GIVEN WITH THE SEED: the statements are not yours to turn. If you find one false, say at which input.
  Laid BY PROGRAM, IN A SANDBOX (cutbox-rows.mjs): the forced cells as the released guide's own fill.sh prints them over the translation da2341f136ac57da… (all of the seat's roots in one cut). By AI agents, Wed Nov 11 2026. No macro, syntax, notation, axiom, sorry.
-/
import Derived.Test.YtfcleenbhadfhabChecked
import GoSem.Claim
import GoSem.ClaimJoined
import GoSem.ClaimMapViews
import Derived.JoinedTies
import Derived.KernelRfl
namespace Go.Proofs.Ytfcleenbhadfhab
/- THE CELL 'sum', in the pinned program and in every row, IS THE sha256 OF THE DUMP (.gsa) THAT YtfcleenbhadfhabProg.lean LOADS. Nothing in Lean hashes anything: it is a label: what it is worth is what the hold of that sum in a sandbox is worth. -/
noncomputable def Try.pinned : Pinned := { name := "ytfcleenbhadfhab", sum := "da2341f136ac57da111c3f28f473dae0a2b46cd0a8fbe9cd9909018b2c4dafd8", checked := Try.checked }
namespace Rows
def none {H : Type} : Left H := { results := [], args := [] }

/-- 'quipulaw.BookLeasts': WHATEVER THE INPUT: true; the input reads as it did. -/
def bookLeastsSpec : ChangeSpec := { name := "bookLeasts", fn := fun _ => fun
  | [d1, d2] => { results := [.lit (.bool true)], args := [d1, d2] }
  | _ => none }
def bookLeastsRow : OpenClaim := { program := "ytfcleenbhadfhab", sum := "da2341f136ac57da111c3f28f473dae0a2b46cd0a8fbe9cd9909018b2c4dafd8", func := "quipu/quipulaw.BookLeasts", spec := "bookLeasts", unfollowed := true, recurses := true, apart := false }
def BookLeastsSaid : Prop := bookLeastsRow.holds Try.pinned (OpenSpec.ofChange bookLeastsSpec)

/-- ITS FALSE NEIGHBOUR: 'it returns false'. Refute it at one input. -/
def bookLeastsWrong : ChangeSpec := { name := "bookLeasts", fn := fun _ => fun
  | [d1, d2] => { results := [.lit (.bool false)], args := [d1, d2] }
  | _ => none }
def BookLeastsWrongFalsely : Prop := bookLeastsRow.holds Try.pinned (OpenSpec.ofChange bookLeastsWrong)

/-- 'quipulaw.BookNears': WHATEVER THE INPUT: true; the input reads as it did. -/
def bookNearsSpec : ChangeSpec := { name := "bookNears", fn := fun _ => fun
  | [d1, d2, d3] => { results := [.lit (.bool true)], args := [d1, d2, d3] }
  | _ => none }
def bookNearsRow : OpenClaim := { program := "ytfcleenbhadfhab", sum := "da2341f136ac57da111c3f28f473dae0a2b46cd0a8fbe9cd9909018b2c4dafd8", func := "quipu/quipulaw.BookNears", spec := "bookNears", unfollowed := true, recurses := true, apart := false }
def BookNearsSaid : Prop := bookNearsRow.holds Try.pinned (OpenSpec.ofChange bookNearsSpec)

/-- ITS FALSE NEIGHBOUR: 'it returns false'. Refute it at one input. -/
def bookNearsWrong : ChangeSpec := { name := "bookNears", fn := fun _ => fun
  | [d1, d2, d3] => { results := [.lit (.bool false)], args := [d1, d2, d3] }
  | _ => none }
def BookNearsWrongFalsely : Prop := bookNearsRow.holds Try.pinned (OpenSpec.ofChange bookNearsWrong)

/-- 'quipulaw.BookGrows': WHATEVER THE INPUT: true; the input reads as it did. -/
def bookGrowsSpec : ChangeSpec := { name := "bookGrows", fn := fun _ => fun
  | [d1, d2] => { results := [.lit (.bool true)], args := [d1, d2] }
  | _ => none }
def bookGrowsRow : OpenClaim := { program := "ytfcleenbhadfhab", sum := "da2341f136ac57da111c3f28f473dae0a2b46cd0a8fbe9cd9909018b2c4dafd8", func := "quipu/quipulaw.BookGrows", spec := "bookGrows", unfollowed := true, recurses := true, apart := false }
def BookGrowsSaid : Prop := bookGrowsRow.holds Try.pinned (OpenSpec.ofChange bookGrowsSpec)

/-- ITS FALSE NEIGHBOUR: 'it returns false'. Refute it at one input. -/
def bookGrowsWrong : ChangeSpec := { name := "bookGrows", fn := fun _ => fun
  | [d1, d2] => { results := [.lit (.bool false)], args := [d1, d2] }
  | _ => none }
def BookGrowsWrongFalsely : Prop := bookGrowsRow.holds Try.pinned (OpenSpec.ofChange bookGrowsWrong)

/-- 'quipukeep.BookSingleton': WHATEVER THE INPUT: true; the input reads as it did. -/
def bookSingletonSpec : ChangeSpec := { name := "bookSingleton", fn := fun _ => fun
  | [d1, d2] => { results := [.lit (.bool true)], args := [d1, d2] }
  | _ => none }
def bookSingletonRow : OpenClaim := { program := "ytfcleenbhadfhab", sum := "da2341f136ac57da111c3f28f473dae0a2b46cd0a8fbe9cd9909018b2c4dafd8", func := "quipu/quipukeep.BookSingleton", spec := "bookSingleton", unfollowed := true, recurses := true, apart := false }
def BookSingletonSaid : Prop := bookSingletonRow.holds Try.pinned (OpenSpec.ofChange bookSingletonSpec)

/-- ITS FALSE NEIGHBOUR: 'it returns false'. Refute it at one input. -/
def bookSingletonWrong : ChangeSpec := { name := "bookSingleton", fn := fun _ => fun
  | [d1, d2] => { results := [.lit (.bool false)], args := [d1, d2] }
  | _ => none }
def BookSingletonWrongFalsely : Prop := bookSingletonRow.holds Try.pinned (OpenSpec.ofChange bookSingletonWrong)

/-- 'quipukeep.BookHamming': WHATEVER THE INPUT: true; the input reads as it did. -/
def bookHammingSpec : ChangeSpec := { name := "bookHamming", fn := fun _ => fun
  | [d1, d2] => { results := [.lit (.bool true)], args := [d1, d2] }
  | _ => none }
def bookHammingRow : OpenClaim := { program := "ytfcleenbhadfhab", sum := "da2341f136ac57da111c3f28f473dae0a2b46cd0a8fbe9cd9909018b2c4dafd8", func := "quipu/quipukeep.BookHamming", spec := "bookHamming", unfollowed := true, recurses := true, apart := false }
def BookHammingSaid : Prop := bookHammingRow.holds Try.pinned (OpenSpec.ofChange bookHammingSpec)

/-- ITS FALSE NEIGHBOUR: 'it returns false'. Refute it at one input. -/
def bookHammingWrong : ChangeSpec := { name := "bookHamming", fn := fun _ => fun
  | [d1, d2] => { results := [.lit (.bool false)], args := [d1, d2] }
  | _ => none }
def BookHammingWrongFalsely : Prop := bookHammingRow.holds Try.pinned (OpenSpec.ofChange bookHammingWrong)

/-- 'quipukeep.BookPlotkin': WHATEVER THE INPUT: true; the input reads as it did. -/
def bookPlotkinSpec : ChangeSpec := { name := "bookPlotkin", fn := fun _ => fun
  | [d1, d2] => { results := [.lit (.bool true)], args := [d1, d2] }
  | _ => none }
def bookPlotkinRow : OpenClaim := { program := "ytfcleenbhadfhab", sum := "da2341f136ac57da111c3f28f473dae0a2b46cd0a8fbe9cd9909018b2c4dafd8", func := "quipu/quipukeep.BookPlotkin", spec := "bookPlotkin", unfollowed := true, recurses := true, apart := false }
def BookPlotkinSaid : Prop := bookPlotkinRow.holds Try.pinned (OpenSpec.ofChange bookPlotkinSpec)

/-- ITS FALSE NEIGHBOUR: 'it returns false'. Refute it at one input. -/
def bookPlotkinWrong : ChangeSpec := { name := "bookPlotkin", fn := fun _ => fun
  | [d1, d2] => { results := [.lit (.bool false)], args := [d1, d2] }
  | _ => none }
def BookPlotkinWrongFalsely : Prop := bookPlotkinRow.holds Try.pinned (OpenSpec.ofChange bookPlotkinWrong)

/- THE SECOND FORM. 'bulk': how many values and letters a reading holds, each counted each time it is reached (what is shared counts as often as it is met; a slice's spare places count too). A statement '..UptoSaid' is the law's where the arguments, and the package variables that the reading takes, are together of bulk at most 1048576: NARROWER than '..Said'. Prove '..Said' where nothing that the law and all that it calls make is longer than what came in: it says more and counts as full. Else prove '..UptoSaid'. A law counts once. -/
mutual
def uptoBulk {H : Type} : DataW H → Nat
  | .lit (.string bytes) => bytes.length + 1
  | .lit _ => 1
  | .nil => 1
  | .ptr d => uptoBulk d + 1
  | .slice elems spare => uptoBulkAll elems + uptoBulkAll spare + 1
  | .agg parts => uptoBulkAll parts + 1
  | .iface _ d => uptoBulk d + 1
  | .map entries => uptoBulkEntries entries + 1
  | .held _ => 1
def uptoBulkAll {H : Type} : List (DataW H) → Nat
  | [] => 0
  | d :: r => uptoBulk d + uptoBulkAll r
def uptoBulkEntries {H : Type} : List (Lit × DataW H) → Nat
  | [] => 0
  | x :: r => uptoBulkEntry x + uptoBulkEntries r
def uptoBulkEntry {H : Type} : Lit × DataW H → Nat
  | (.string bytes, d) => bytes.length + uptoBulk d + 1
  | (_, d) => uptoBulk d + 1
 end
def uptoSmall : (H : Type) → List (DataW H) → Bool := fun _ ds => decide (uptoBulkAll ds ≤ 1048576)
def OpenSpec.upto (s : _root_.Go.ChangeSpec) : _root_.Go.OpenSpec := { _root_.Go.OpenSpec.ofChange s with cond := some uptoSmall }

/-- 'quipulaw.BookLeasts', WHERE WHAT IT READS IS OF BULK AT MOST 1048576: true; the input reads as it did. -/
def bookLeastsUptoRow : OpenClaim := { program := "ytfcleenbhadfhab", sum := "da2341f136ac57da111c3f28f473dae0a2b46cd0a8fbe9cd9909018b2c4dafd8", func := "quipu/quipulaw.BookLeasts", spec := "bookLeasts", unfollowed := true, recurses := true, apart := false, narrowed := true }
def BookLeastsUptoSaid : Prop := bookLeastsUptoRow.holds Try.pinned (OpenSpec.upto bookLeastsSpec)

/-- 'quipulaw.BookNears', WHERE WHAT IT READS IS OF BULK AT MOST 1048576: true; the input reads as it did. -/
def bookNearsUptoRow : OpenClaim := { program := "ytfcleenbhadfhab", sum := "da2341f136ac57da111c3f28f473dae0a2b46cd0a8fbe9cd9909018b2c4dafd8", func := "quipu/quipulaw.BookNears", spec := "bookNears", unfollowed := true, recurses := true, apart := false, narrowed := true }
def BookNearsUptoSaid : Prop := bookNearsUptoRow.holds Try.pinned (OpenSpec.upto bookNearsSpec)

/-- 'quipulaw.BookGrows', WHERE WHAT IT READS IS OF BULK AT MOST 1048576: true; the input reads as it did. -/
def bookGrowsUptoRow : OpenClaim := { program := "ytfcleenbhadfhab", sum := "da2341f136ac57da111c3f28f473dae0a2b46cd0a8fbe9cd9909018b2c4dafd8", func := "quipu/quipulaw.BookGrows", spec := "bookGrows", unfollowed := true, recurses := true, apart := false, narrowed := true }
def BookGrowsUptoSaid : Prop := bookGrowsUptoRow.holds Try.pinned (OpenSpec.upto bookGrowsSpec)

/-- 'quipukeep.BookSingleton', WHERE WHAT IT READS IS OF BULK AT MOST 1048576: true; the input reads as it did. -/
def bookSingletonUptoRow : OpenClaim := { program := "ytfcleenbhadfhab", sum := "da2341f136ac57da111c3f28f473dae0a2b46cd0a8fbe9cd9909018b2c4dafd8", func := "quipu/quipukeep.BookSingleton", spec := "bookSingleton", unfollowed := true, recurses := true, apart := false, narrowed := true }
def BookSingletonUptoSaid : Prop := bookSingletonUptoRow.holds Try.pinned (OpenSpec.upto bookSingletonSpec)

/-- 'quipukeep.BookHamming', WHERE WHAT IT READS IS OF BULK AT MOST 1048576: true; the input reads as it did. -/
def bookHammingUptoRow : OpenClaim := { program := "ytfcleenbhadfhab", sum := "da2341f136ac57da111c3f28f473dae0a2b46cd0a8fbe9cd9909018b2c4dafd8", func := "quipu/quipukeep.BookHamming", spec := "bookHamming", unfollowed := true, recurses := true, apart := false, narrowed := true }
def BookHammingUptoSaid : Prop := bookHammingUptoRow.holds Try.pinned (OpenSpec.upto bookHammingSpec)

/-- 'quipukeep.BookPlotkin', WHERE WHAT IT READS IS OF BULK AT MOST 1048576: true; the input reads as it did. -/
def bookPlotkinUptoRow : OpenClaim := { program := "ytfcleenbhadfhab", sum := "da2341f136ac57da111c3f28f473dae0a2b46cd0a8fbe9cd9909018b2c4dafd8", func := "quipu/quipukeep.BookPlotkin", spec := "bookPlotkin", unfollowed := true, recurses := true, apart := false, narrowed := true }
def BookPlotkinUptoSaid : Prop := bookPlotkinUptoRow.holds Try.pinned (OpenSpec.upto bookPlotkinSpec)

end Rows
end Go.Proofs.Ytfcleenbhadfhab
