/-
  No cell of these rows narrows 'for every input' (looked for: loops, veiled, ifaces, maps, wideKeys, modest, calm, conditions, laid).
  DERIVED. THE GIVEN ROWS OF THIS SEAT. 5 by the template 'for every input the law returns true; each argument reads behind the call as it read before'; 0 by the template 'total and deterministic' (their statements: YtlhkifbjbibfoaaTotals.lean).
  GIVEN WITH THE SEED: the statements are not yours to turn. If you find one false, say at which input.
  Laid BY PROGRAM, IN A SANDBOX (cutbox-rows.mjs): the forced cells as the released guide's own fill.sh prints them over the translation cd4dedbb1911eafb… (all of the seat's roots in one cut). By AI agents, Wed Nov 11 2026. No macro, syntax, notation, axiom, sorry.
-/
import Derived.Test.YtlhkifbjbibfoaaChecked
import GoSem.Claim
import GoSem.ClaimJoined
import GoSem.ClaimMapViews
import Derived.JoinedTies
import Derived.KernelRfl
namespace Go.Proofs.Ytlhkifbjbibfoaa
/- THE CELL 'sum', in the pinned program and in every row, IS THE sha256 OF THE DUMP (.gsa) THAT YtlhkifbjbibfoaaProg.lean LOADS. Nothing in Lean hashes anything: it is a label: what it is worth is what the hold of that sum in a sandbox is worth. -/
noncomputable def Try.pinned : Pinned := { name := "ytlhkifbjbibfoaa", sum := "cd4dedbb1911eafb069cda2ccf2b98f2b26c1a544e007e9ecac6067c9e499465", checked := Try.checked }
namespace Rows
def none {H : Type} : Left H := { results := [], args := [] }

/-- 'quipulaw.UniqueTells': WHATEVER THE INPUT: true; the input reads as it did. -/
def uniqueTellsSpec : ChangeSpec := { name := "uniqueTells", fn := fun _ => fun
  | [d] => { results := [.lit (.bool true)], args := [d] }
  | _ => none }
def uniqueTellsRow : OpenClaim := { program := "ytlhkifbjbibfoaa", sum := "cd4dedbb1911eafb069cda2ccf2b98f2b26c1a544e007e9ecac6067c9e499465", func := "quipu/quipulaw.UniqueTells", spec := "uniqueTells", unfollowed := true, recurses := true, apart := false }
def UniqueTellsSaid : Prop := uniqueTellsRow.holds Try.pinned (OpenSpec.ofChange uniqueTellsSpec)

/-- ITS FALSE NEIGHBOUR: 'it returns false'. Refute it at one input. -/
def uniqueTellsWrong : ChangeSpec := { name := "uniqueTells", fn := fun _ => fun
  | [d] => { results := [.lit (.bool false)], args := [d] }
  | _ => none }
def UniqueTellsWrongFalsely : Prop := uniqueTellsRow.holds Try.pinned (OpenSpec.ofChange uniqueTellsWrong)

/-- 'quipulaw.UniqueTwice': WHATEVER THE INPUT: true; the input reads as it did. -/
def uniqueTwiceSpec : ChangeSpec := { name := "uniqueTwice", fn := fun _ => fun
  | [d] => { results := [.lit (.bool true)], args := [d] }
  | _ => none }
def uniqueTwiceRow : OpenClaim := { program := "ytlhkifbjbibfoaa", sum := "cd4dedbb1911eafb069cda2ccf2b98f2b26c1a544e007e9ecac6067c9e499465", func := "quipu/quipulaw.UniqueTwice", spec := "uniqueTwice", unfollowed := true, recurses := true, apart := false }
def UniqueTwiceSaid : Prop := uniqueTwiceRow.holds Try.pinned (OpenSpec.ofChange uniqueTwiceSpec)

/-- ITS FALSE NEIGHBOUR: 'it returns false'. Refute it at one input. -/
def uniqueTwiceWrong : ChangeSpec := { name := "uniqueTwice", fn := fun _ => fun
  | [d] => { results := [.lit (.bool false)], args := [d] }
  | _ => none }
def UniqueTwiceWrongFalsely : Prop := uniqueTwiceRow.holds Try.pinned (OpenSpec.ofChange uniqueTwiceWrong)

/-- 'quipukeep.UniquePrefix': WHATEVER THE INPUT: true; the input reads as it did. -/
def uniquePrefixSpec : ChangeSpec := { name := "uniquePrefix", fn := fun _ => fun
  | [d] => { results := [.lit (.bool true)], args := [d] }
  | _ => none }
def uniquePrefixRow : OpenClaim := { program := "ytlhkifbjbibfoaa", sum := "cd4dedbb1911eafb069cda2ccf2b98f2b26c1a544e007e9ecac6067c9e499465", func := "quipu/quipukeep.UniquePrefix", spec := "uniquePrefix", unfollowed := true, recurses := true, apart := false }
def UniquePrefixSaid : Prop := uniquePrefixRow.holds Try.pinned (OpenSpec.ofChange uniquePrefixSpec)

/-- ITS FALSE NEIGHBOUR: 'it returns false'. Refute it at one input. -/
def uniquePrefixWrong : ChangeSpec := { name := "uniquePrefix", fn := fun _ => fun
  | [d] => { results := [.lit (.bool false)], args := [d] }
  | _ => none }
def UniquePrefixWrongFalsely : Prop := uniquePrefixRow.holds Try.pinned (OpenSpec.ofChange uniquePrefixWrong)

/-- 'quipukeep.UniqueKraft': WHATEVER THE INPUT: true; the input reads as it did. -/
def uniqueKraftSpec : ChangeSpec := { name := "uniqueKraft", fn := fun _ => fun
  | [d] => { results := [.lit (.bool true)], args := [d] }
  | _ => none }
def uniqueKraftRow : OpenClaim := { program := "ytlhkifbjbibfoaa", sum := "cd4dedbb1911eafb069cda2ccf2b98f2b26c1a544e007e9ecac6067c9e499465", func := "quipu/quipukeep.UniqueKraft", spec := "uniqueKraft", unfollowed := true, recurses := true, apart := false }
def UniqueKraftSaid : Prop := uniqueKraftRow.holds Try.pinned (OpenSpec.ofChange uniqueKraftSpec)

/-- ITS FALSE NEIGHBOUR: 'it returns false'. Refute it at one input. -/
def uniqueKraftWrong : ChangeSpec := { name := "uniqueKraft", fn := fun _ => fun
  | [d] => { results := [.lit (.bool false)], args := [d] }
  | _ => none }
def UniqueKraftWrongFalsely : Prop := uniqueKraftRow.holds Try.pinned (OpenSpec.ofChange uniqueKraftWrong)

/-- 'quipukeep.UniqueTexts': WHATEVER THE INPUT: true; the input reads as it did. -/
def uniqueTextsSpec : ChangeSpec := { name := "uniqueTexts", fn := fun _ => fun
  | [d1, d2, d3] => { results := [.lit (.bool true)], args := [d1, d2, d3] }
  | _ => none }
def uniqueTextsRow : OpenClaim := { program := "ytlhkifbjbibfoaa", sum := "cd4dedbb1911eafb069cda2ccf2b98f2b26c1a544e007e9ecac6067c9e499465", func := "quipu/quipukeep.UniqueTexts", spec := "uniqueTexts", unfollowed := true, recurses := true, apart := false }
def UniqueTextsSaid : Prop := uniqueTextsRow.holds Try.pinned (OpenSpec.ofChange uniqueTextsSpec)

/-- ITS FALSE NEIGHBOUR: 'it returns false'. Refute it at one input. -/
def uniqueTextsWrong : ChangeSpec := { name := "uniqueTexts", fn := fun _ => fun
  | [d1, d2, d3] => { results := [.lit (.bool false)], args := [d1, d2, d3] }
  | _ => none }
def UniqueTextsWrongFalsely : Prop := uniqueTextsRow.holds Try.pinned (OpenSpec.ofChange uniqueTextsWrong)

/- THE SECOND FORM. 'bulk': how many values and letters a reading holds, each counted each time it is reached (what is shared counts as often as it is met; a slice's spare places count too). A statement '..UptoSaid' is the law's where the arguments, and the package variables that the reading takes, are together of bulk at most 1048576: NARROWER than '..Said'. Prove '..Said' where nothing that the law and all that it calls make is longer than what came in: it says more and counts as full. Else prove '..UptoSaid'. A law counts once. -/
mutual
def uptoBulk {H : Type} : DataW H → Nat
  | .lit (.string bytes) => bytes.length + 1
  | .lit _ => 1
  | .nil => 1
  | .ptr d => uptoBulk d + 1
  | .slice elems spare => uptoBulkAll elems + uptoBulkAll spare + 1
  | .agg parts => uptoBulkAll parts + 1
  | .iface _ d => uptoBulk d + 1
  | .map entries => uptoBulkEntries entries + 1
  | .held _ => 1
def uptoBulkAll {H : Type} : List (DataW H) → Nat
  | [] => 0
  | d :: r => uptoBulk d + uptoBulkAll r
def uptoBulkEntries {H : Type} : List (Lit × DataW H) → Nat
  | [] => 0
  | x :: r => uptoBulkEntry x + uptoBulkEntries r
def uptoBulkEntry {H : Type} : Lit × DataW H → Nat
  | (.string bytes, d) => bytes.length + uptoBulk d + 1
  | (_, d) => uptoBulk d + 1
 end
def uptoSmall : (H : Type) → List (DataW H) → Bool := fun _ ds => decide (uptoBulkAll ds ≤ 1048576)
def OpenSpec.upto (s : _root_.Go.ChangeSpec) : _root_.Go.OpenSpec := { _root_.Go.OpenSpec.ofChange s with cond := some uptoSmall }

/-- 'quipulaw.UniqueTells', WHERE WHAT IT READS IS OF BULK AT MOST 1048576: true; the input reads as it did. -/
def uniqueTellsUptoRow : OpenClaim := { program := "ytlhkifbjbibfoaa", sum := "cd4dedbb1911eafb069cda2ccf2b98f2b26c1a544e007e9ecac6067c9e499465", func := "quipu/quipulaw.UniqueTells", spec := "uniqueTells", unfollowed := true, recurses := true, apart := false, narrowed := true }
def UniqueTellsUptoSaid : Prop := uniqueTellsUptoRow.holds Try.pinned (OpenSpec.upto uniqueTellsSpec)

/-- 'quipulaw.UniqueTwice', WHERE WHAT IT READS IS OF BULK AT MOST 1048576: true; the input reads as it did. -/
def uniqueTwiceUptoRow : OpenClaim := { program := "ytlhkifbjbibfoaa", sum := "cd4dedbb1911eafb069cda2ccf2b98f2b26c1a544e007e9ecac6067c9e499465", func := "quipu/quipulaw.UniqueTwice", spec := "uniqueTwice", unfollowed := true, recurses := true, apart := false, narrowed := true }
def UniqueTwiceUptoSaid : Prop := uniqueTwiceUptoRow.holds Try.pinned (OpenSpec.upto uniqueTwiceSpec)

/-- 'quipukeep.UniquePrefix', WHERE WHAT IT READS IS OF BULK AT MOST 1048576: true; the input reads as it did. -/
def uniquePrefixUptoRow : OpenClaim := { program := "ytlhkifbjbibfoaa", sum := "cd4dedbb1911eafb069cda2ccf2b98f2b26c1a544e007e9ecac6067c9e499465", func := "quipu/quipukeep.UniquePrefix", spec := "uniquePrefix", unfollowed := true, recurses := true, apart := false, narrowed := true }
def UniquePrefixUptoSaid : Prop := uniquePrefixUptoRow.holds Try.pinned (OpenSpec.upto uniquePrefixSpec)

/-- 'quipukeep.UniqueKraft', WHERE WHAT IT READS IS OF BULK AT MOST 1048576: true; the input reads as it did. -/
def uniqueKraftUptoRow : OpenClaim := { program := "ytlhkifbjbibfoaa", sum := "cd4dedbb1911eafb069cda2ccf2b98f2b26c1a544e007e9ecac6067c9e499465", func := "quipu/quipukeep.UniqueKraft", spec := "uniqueKraft", unfollowed := true, recurses := true, apart := false, narrowed := true }
def UniqueKraftUptoSaid : Prop := uniqueKraftUptoRow.holds Try.pinned (OpenSpec.upto uniqueKraftSpec)

/-- 'quipukeep.UniqueTexts', WHERE WHAT IT READS IS OF BULK AT MOST 1048576: true; the input reads as it did. -/
def uniqueTextsUptoRow : OpenClaim := { program := "ytlhkifbjbibfoaa", sum := "cd4dedbb1911eafb069cda2ccf2b98f2b26c1a544e007e9ecac6067c9e499465", func := "quipu/quipukeep.UniqueTexts", spec := "uniqueTexts", unfollowed := true, recurses := true, apart := false, narrowed := true }
def UniqueTextsUptoSaid : Prop := uniqueTextsUptoRow.holds Try.pinned (OpenSpec.upto uniqueTextsSpec)

end Rows
end Go.Proofs.Ytlhkifbjbibfoaa
