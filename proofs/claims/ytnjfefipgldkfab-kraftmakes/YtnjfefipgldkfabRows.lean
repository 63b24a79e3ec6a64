/-
  No cell of these rows narrows 'for every input' (looked for: loops, veiled, ifaces, maps, wideKeys, modest, calm, conditions, laid).
  DERIVED. THE GIVEN ROWS OF THIS SEAT. 4 by the template 'for every input the law returns true; each argument reads behind the call as it read before'; 0 by the template 'total and deterministic' (their statements: YtnjfefipgldkfabTotals.lean).
  GIVEN WITH THE SEED: the statements are not yours to turn. If you find one false, say at which input.
  Laid BY PROGRAM, IN A SANDBOX (cutbox-rows.mjs): the forced cells as the released guide's own fill.sh prints them over the translation 6bd3df3105a21dd3… (all of the seat's roots in one cut). By AI agents, Wed Nov 11 2026. No macro, syntax, notation, axiom, sorry.
-/
import Derived.Test.YtnjfefipgldkfabChecked
import GoSem.Claim
import GoSem.ClaimJoined
import GoSem.ClaimMapViews
import Derived.JoinedTies
import Derived.KernelRfl
namespace Go.Proofs.Ytnjfefipgldkfab
/- THE CELL 'sum', in the pinned program and in every row, IS THE sha256 OF THE DUMP (.gsa) THAT YtnjfefipgldkfabProg.lean LOADS. Nothing in Lean hashes anything: it is a label: what it is worth is what the hold of that sum in a sandbox is worth. -/
noncomputable def Try.pinned : Pinned := { name := "ytnjfefipgldkfab", sum := "6bd3df3105a21dd323e3c0e54cc99076b57614ccb2e30327bd43efee659b0394", checked := Try.checked }
namespace Rows
def none {H : Type} : Left H := { results := [], args := [] }

/-- 'quipulaw.KraftSums': WHATEVER THE INPUT: true; the input reads as it did. -/
def kraftSumsSpec : ChangeSpec := { name := "kraftSums", fn := fun _ => fun
  | [d] => { results := [.lit (.bool true)], args := [d] }
  | _ => none }
def kraftSumsRow : OpenClaim := { program := "ytnjfefipgldkfab", sum := "6bd3df3105a21dd323e3c0e54cc99076b57614ccb2e30327bd43efee659b0394", func := "quipu/quipulaw.KraftSums", spec := "kraftSums", unfollowed := true, recurses := true, apart := false }
def KraftSumsSaid : Prop := kraftSumsRow.holds Try.pinned (OpenSpec.ofChange kraftSumsSpec)

/-- ITS FALSE NEIGHBOUR: 'it returns false'. Refute it at one input. -/
def kraftSumsWrong : ChangeSpec := { name := "kraftSums", fn := fun _ => fun
  | [d] => { results := [.lit (.bool false)], args := [d] }
  | _ => none }
def KraftSumsWrongFalsely : Prop := kraftSumsRow.holds Try.pinned (OpenSpec.ofChange kraftSumsWrong)

/-- 'quipulaw.KraftMakes': WHATEVER THE INPUT: true; the input reads as it did. -/
def kraftMakesSpec : ChangeSpec := { name := "kraftMakes", fn := fun _ => fun
  | [d] => { results := [.lit (.bool true)], args := [d] }
  | _ => none }
def kraftMakesRow : OpenClaim := { program := "ytnjfefipgldkfab", sum := "6bd3df3105a21dd323e3c0e54cc99076b57614ccb2e30327bd43efee659b0394", func := "quipu/quipulaw.KraftMakes", spec := "kraftMakes", unfollowed := true, recurses := true, apart := false }
def KraftMakesSaid : Prop := kraftMakesRow.holds Try.pinned (OpenSpec.ofChange kraftMakesSpec)

/-- ITS FALSE NEIGHBOUR: 'it returns false'. Refute it at one input. -/
def kraftMakesWrong : ChangeSpec := { name := "kraftMakes", fn := fun _ => fun
  | [d] => { results := [.lit (.bool false)], args := [d] }
  | _ => none }
def KraftMakesWrongFalsely : Prop := kraftMakesRow.holds Try.pinned (OpenSpec.ofChange kraftMakesWrong)

/-- 'quipukeep.KraftFits': WHATEVER THE INPUT: true; the input reads as it did. -/
def kraftFitsSpec : ChangeSpec := { name := "kraftFits", fn := fun _ => fun
  | [d] => { results := [.lit (.bool true)], args := [d] }
  | _ => none }
def kraftFitsRow : OpenClaim := { program := "ytnjfefipgldkfab", sum := "6bd3df3105a21dd323e3c0e54cc99076b57614ccb2e30327bd43efee659b0394", func := "quipu/quipukeep.KraftFits", spec := "kraftFits", unfollowed := true, recurses := true, apart := false }
def KraftFitsSaid : Prop := kraftFitsRow.holds Try.pinned (OpenSpec.ofChange kraftFitsSpec)

/-- ITS FALSE NEIGHBOUR: 'it returns false'. Refute it at one input. -/
def kraftFitsWrong : ChangeSpec := { name := "kraftFits", fn := fun _ => fun
  | [d] => { results := [.lit (.bool false)], args := [d] }
  | _ => none }
def KraftFitsWrongFalsely : Prop := kraftFitsRow.holds Try.pinned (OpenSpec.ofChange kraftFitsWrong)

/-- 'quipukeep.KraftAny': WHATEVER THE INPUT: true; the input reads as it did. -/
def kraftAnySpec : ChangeSpec := { name := "kraftAny", fn := fun _ => fun
  | [d] => { results := [.lit (.bool true)], args := [d] }
  | _ => none }
def kraftAnyRow : OpenClaim := { program := "ytnjfefipgldkfab", sum := "6bd3df3105a21dd323e3c0e54cc99076b57614ccb2e30327bd43efee659b0394", func := "quipu/quipukeep.KraftAny", spec := "kraftAny", unfollowed := true, recurses := true, apart := false }
def KraftAnySaid : Prop := kraftAnyRow.holds Try.pinned (OpenSpec.ofChange kraftAnySpec)

/-- ITS FALSE NEIGHBOUR: 'it returns false'. Refute it at one input. -/
def kraftAnyWrong : ChangeSpec := { name := "kraftAny", fn := fun _ => fun
  | [d] => { results := [.lit (.bool false)], args := [d] }
  | _ => none }
def KraftAnyWrongFalsely : Prop := kraftAnyRow.holds Try.pinned (OpenSpec.ofChange kraftAnyWrong)

/- THE SECOND FORM. 'bulk': how many values and letters a reading holds, each counted each time it is reached (what is shared counts as often as it is met; a slice's spare places count too). A statement '..UptoSaid' is the law's where the arguments, and the package variables that the reading takes, are together of bulk at most 1048576: NARROWER than '..Said'. Prove '..Said' where nothing that the law and all that it calls make is longer than what came in: it says more and counts as full. Else prove '..UptoSaid'. A law counts once. -/
mutual
def uptoBulk {H : Type} : DataW H → Nat
  | .lit (.string bytes) => bytes.length + 1
  | .lit _ => 1
  | .nil => 1
  | .ptr d => uptoBulk d + 1
  | .slice elems spare => uptoBulkAll elems + uptoBulkAll spare + 1
  | .agg parts => uptoBulkAll parts + 1
  | .iface _ d => uptoBulk d + 1
  | .map entries => uptoBulkEntries entries + 1
  | .held _ => 1
def uptoBulkAll {H : Type} : List (DataW H) → Nat
  | [] => 0
  | d :: r => uptoBulk d + uptoBulkAll r
def uptoBulkEntries {H : Type} : List (Lit × DataW H) → Nat
  | [] => 0
  | x :: r => uptoBulkEntry x + uptoBulkEntries r
def uptoBulkEntry {H : Type} : Lit × DataW H → Nat
  | (.string bytes, d) => bytes.length + uptoBulk d + 1
  | (_, d) => uptoBulk d + 1
 end
def uptoSmall : (H : Type) → List (DataW H) → Bool := fun _ ds => decide (uptoBulkAll ds ≤ 1048576)
def OpenSpec.upto (s : _root_.Go.ChangeSpec) : _root_.Go.OpenSpec := { _root_.Go.OpenSpec.ofChange s with cond := some uptoSmall }

/-- 'quipulaw.KraftSums', WHERE WHAT IT READS IS OF BULK AT MOST 1048576: true; the input reads as it did. -/
def kraftSumsUptoRow : OpenClaim := { program := "ytnjfefipgldkfab", sum := "6bd3df3105a21dd323e3c0e54cc99076b57614ccb2e30327bd43efee659b0394", func := "quipu/quipulaw.KraftSums", spec := "kraftSums", unfollowed := true, recurses := true, apart := false, narrowed := true }
def KraftSumsUptoSaid : Prop := kraftSumsUptoRow.holds Try.pinned (OpenSpec.upto kraftSumsSpec)

/-- 'quipulaw.KraftMakes', WHERE WHAT IT READS IS OF BULK AT MOST 1048576: true; the input reads as it did. -/
def kraftMakesUptoRow : OpenClaim := { program := "ytnjfefipgldkfab", sum := "6bd3df3105a21dd323e3c0e54cc99076b57614ccb2e30327bd43efee659b0394", func := "quipu/quipulaw.KraftMakes", spec := "kraftMakes", unfollowed := true, recurses := true, apart := false, narrowed := true }
def KraftMakesUptoSaid : Prop := kraftMakesUptoRow.holds Try.pinned (OpenSpec.upto kraftMakesSpec)

/-- 'quipukeep.KraftFits', WHERE WHAT IT READS IS OF BULK AT MOST 1048576: true; the input reads as it did. -/
def kraftFitsUptoRow : OpenClaim := { program := "ytnjfefipgldkfab", sum := "6bd3df3105a21dd323e3c0e54cc99076b57614ccb2e30327bd43efee659b0394", func := "quipu/quipukeep.KraftFits", spec := "kraftFits", unfollowed := true, recurses := true, apart := false, narrowed := true }
def KraftFitsUptoSaid : Prop := kraftFitsUptoRow.holds Try.pinned (OpenSpec.upto kraftFitsSpec)

/-- 'quipukeep.KraftAny', WHERE WHAT IT READS IS OF BULK AT MOST 1048576: true; the input reads as it did. -/
def kraftAnyUptoRow : OpenClaim := { program := "ytnjfefipgldkfab", sum := "6bd3df3105a21dd323e3c0e54cc99076b57614ccb2e30327bd43efee659b0394", func := "quipu/quipukeep.KraftAny", spec := "kraftAny", unfollowed := true, recurses := true, apart := false, narrowed := true }
def KraftAnyUptoSaid : Prop := kraftAnyUptoRow.holds Try.pinned (OpenSpec.upto kraftAnySpec)

end Rows
end Go.Proofs.Ytnjfefipgldkfab
