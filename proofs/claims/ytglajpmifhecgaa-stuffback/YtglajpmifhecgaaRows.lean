/-
  No cell of these rows narrows 'for every input' (looked for: loops, veiled, ifaces, maps, wideKeys, modest, calm, conditions, laid).
  DERIVED. THE GIVEN ROWS OF THIS SEAT. 6 by the template 'for every input the law returns true; each argument reads behind the call as it read before'; 0 by the template 'total and deterministic' (their statements: YtglajpmifhecgaaTotals.lean).
  GIVEN WITH THE SEED: the statements are not yours to turn. If you find one false, say at which input.
  Laid BY PROGRAM, IN A SANDBOX (cutbox-rows.mjs): the forced cells as the released guide's own fill.sh prints them over the translation 357c7e4b2a31739b… (all of the seat's roots in one cut). By AI agents, Wed Nov 11 2026. No macro, syntax, notation, axiom, sorry.
-/
import Derived.Test.YtglajpmifhecgaaChecked
import GoSem.Claim
import GoSem.ClaimJoined
import GoSem.ClaimMapViews
import Derived.JoinedTies
import Derived.KernelRfl
namespace Go.Proofs.Ytglajpmifhecgaa
/- THE CELL 'sum', in the pinned program and in every row, IS THE sha256 OF THE DUMP (.gsa) THAT YtglajpmifhecgaaProg.lean LOADS. Nothing in Lean hashes anything: it is a label: what it is worth is what the hold of that sum in a sandbox is worth. -/
noncomputable def Try.pinned : Pinned := { name := "ytglajpmifhecgaa", sum := "357c7e4b2a31739b7cbfb578bf51922f0d28315747954cec4179ba98237eb23d", checked := Try.checked }
namespace Rows
def none {H : Type} : Left H := { results := [], args := [] }

/-- 'quipulaw.StuffTells': WHATEVER THE INPUT: true; the input reads as it did. -/
def stuffTellsSpec : ChangeSpec := { name := "stuffTells", fn := fun _ => fun
  | [d] => { results := [.lit (.bool true)], args := [d] }
  | _ => none }
def stuffTellsRow : OpenClaim := { program := "ytglajpmifhecgaa", sum := "357c7e4b2a31739b7cbfb578bf51922f0d28315747954cec4179ba98237eb23d", func := "quipu/quipulaw.StuffTells", spec := "stuffTells", apart := false }
def StuffTellsSaid : Prop := stuffTellsRow.holds Try.pinned (OpenSpec.ofChange stuffTellsSpec)

/-- ITS FALSE NEIGHBOUR: 'it returns false'. Refute it at one input. -/
def stuffTellsWrong : ChangeSpec := { name := "stuffTells", fn := fun _ => fun
  | [d] => { results := [.lit (.bool false)], args := [d] }
  | _ => none }
def StuffTellsWrongFalsely : Prop := stuffTellsRow.holds Try.pinned (OpenSpec.ofChange stuffTellsWrong)

/-- 'quipulaw.StuffBares': WHATEVER THE INPUT: true; the input reads as it did. -/
def stuffBaresSpec : ChangeSpec := { name := "stuffBares", fn := fun _ => fun
  | [d] => { results := [.lit (.bool true)], args := [d] }
  | _ => none }
def stuffBaresRow : OpenClaim := { program := "ytglajpmifhecgaa", sum := "357c7e4b2a31739b7cbfb578bf51922f0d28315747954cec4179ba98237eb23d", func := "quipu/quipulaw.StuffBares", spec := "stuffBares", apart := false }
def StuffBaresSaid : Prop := stuffBaresRow.holds Try.pinned (OpenSpec.ofChange stuffBaresSpec)

/-- ITS FALSE NEIGHBOUR: 'it returns false'. Refute it at one input. -/
def stuffBaresWrong : ChangeSpec := { name := "stuffBares", fn := fun _ => fun
  | [d] => { results := [.lit (.bool false)], args := [d] }
  | _ => none }
def StuffBaresWrongFalsely : Prop := stuffBaresRow.holds Try.pinned (OpenSpec.ofChange stuffBaresWrong)

/-- 'quipulaw.StuffFrames': WHATEVER THE INPUT: true; the input reads as it did. -/
def stuffFramesSpec : ChangeSpec := { name := "stuffFrames", fn := fun _ => fun
  | [d] => { results := [.lit (.bool true)], args := [d] }
  | _ => none }
def stuffFramesRow : OpenClaim := { program := "ytglajpmifhecgaa", sum := "357c7e4b2a31739b7cbfb578bf51922f0d28315747954cec4179ba98237eb23d", func := "quipu/quipulaw.StuffFrames", spec := "stuffFrames", unfollowed := true, recurses := true, apart := false }
def StuffFramesSaid : Prop := stuffFramesRow.holds Try.pinned (OpenSpec.ofChange stuffFramesSpec)

/-- ITS FALSE NEIGHBOUR: 'it returns false'. Refute it at one input. -/
def stuffFramesWrong : ChangeSpec := { name := "stuffFrames", fn := fun _ => fun
  | [d] => { results := [.lit (.bool false)], args := [d] }
  | _ => none }
def StuffFramesWrongFalsely : Prop := stuffFramesRow.holds Try.pinned (OpenSpec.ofChange stuffFramesWrong)

/-- 'quipulaw.StuffSplits': WHATEVER THE INPUT: true; the input reads as it did. -/
def stuffSplitsSpec : ChangeSpec := { name := "stuffSplits", fn := fun _ => fun
  | [d] => { results := [.lit (.bool true)], args := [d] }
  | _ => none }
def stuffSplitsRow : OpenClaim := { program := "ytglajpmifhecgaa", sum := "357c7e4b2a31739b7cbfb578bf51922f0d28315747954cec4179ba98237eb23d", func := "quipu/quipulaw.StuffSplits", spec := "stuffSplits", unfollowed := true, recurses := true, apart := false }
def StuffSplitsSaid : Prop := stuffSplitsRow.holds Try.pinned (OpenSpec.ofChange stuffSplitsSpec)

/-- ITS FALSE NEIGHBOUR: 'it returns false'. Refute it at one input. -/
def stuffSplitsWrong : ChangeSpec := { name := "stuffSplits", fn := fun _ => fun
  | [d] => { results := [.lit (.bool false)], args := [d] }
  | _ => none }
def StuffSplitsWrongFalsely : Prop := stuffSplitsRow.holds Try.pinned (OpenSpec.ofChange stuffSplitsWrong)

/-- 'quipukeep.StuffBack': WHATEVER THE INPUT: true; the input reads as it did. -/
def stuffBackSpec : ChangeSpec := { name := "stuffBack", fn := fun _ => fun
  | [d] => { results := [.lit (.bool true)], args := [d] }
  | _ => none }
def stuffBackRow : OpenClaim := { program := "ytglajpmifhecgaa", sum := "357c7e4b2a31739b7cbfb578bf51922f0d28315747954cec4179ba98237eb23d", func := "quipu/quipukeep.StuffBack", spec := "stuffBack", apart := false }
def StuffBackSaid : Prop := stuffBackRow.holds Try.pinned (OpenSpec.ofChange stuffBackSpec)

/-- ITS FALSE NEIGHBOUR: 'it returns false'. Refute it at one input. -/
def stuffBackWrong : ChangeSpec := { name := "stuffBack", fn := fun _ => fun
  | [d] => { results := [.lit (.bool false)], args := [d] }
  | _ => none }
def StuffBackWrongFalsely : Prop := stuffBackRow.holds Try.pinned (OpenSpec.ofChange stuffBackWrong)

/-- 'quipukeep.StuffTexts': WHATEVER THE INPUT: true; the input reads as it did. -/
def stuffTextsSpec : ChangeSpec := { name := "stuffTexts", fn := fun _ => fun
  | [d1, d2] => { results := [.lit (.bool true)], args := [d1, d2] }
  | _ => none }
def stuffTextsRow : OpenClaim := { program := "ytglajpmifhecgaa", sum := "357c7e4b2a31739b7cbfb578bf51922f0d28315747954cec4179ba98237eb23d", func := "quipu/quipukeep.StuffTexts", spec := "stuffTexts", unfollowed := true, recurses := true, apart := false }
def StuffTextsSaid : Prop := stuffTextsRow.holds Try.pinned (OpenSpec.ofChange stuffTextsSpec)

/-- ITS FALSE NEIGHBOUR: 'it returns false'. Refute it at one input. -/
def stuffTextsWrong : ChangeSpec := { name := "stuffTexts", fn := fun _ => fun
  | [d1, d2] => { results := [.lit (.bool false)], args := [d1, d2] }
  | _ => none }
def StuffTextsWrongFalsely : Prop := stuffTextsRow.holds Try.pinned (OpenSpec.ofChange stuffTextsWrong)

/- THE SECOND FORM. 'bulk': how many values and letters a reading holds, each counted each time it is reached (what is shared counts as often as it is met; a slice's spare places count too). A statement '..UptoSaid' is the law's where the arguments, and the package variables that the reading takes, are together of bulk at most 1048576: NARROWER than '..Said'. Prove '..Said' where nothing that the law and all that it calls make is longer than what came in: it says more and counts as full. Else prove '..UptoSaid'. A law counts once. -/
mutual
def uptoBulk {H : Type} : DataW H → Nat
  | .lit (.string bytes) => bytes.length + 1
  | .lit _ => 1
  | .nil => 1
  | .ptr d => uptoBulk d + 1
  | .slice elems spare => uptoBulkAll elems + uptoBulkAll spare + 1
  | .agg parts => uptoBulkAll parts + 1
  | .iface _ d => uptoBulk d + 1
  | .map entries => uptoBulkEntries entries + 1
  | .held _ => 1
def uptoBulkAll {H : Type} : List (DataW H) → Nat
  | [] => 0
  | d :: r => uptoBulk d + uptoBulkAll r
def uptoBulkEntries {H : Type} : List (Lit × DataW H) → Nat
  | [] => 0
  | x :: r => uptoBulkEntry x + uptoBulkEntries r
def uptoBulkEntry {H : Type} : Lit × DataW H → Nat
  | (.string bytes, d) => bytes.length + uptoBulk d + 1
  | (_, d) => uptoBulk d + 1
 end
def uptoSmall : (H : Type) → List (DataW H) → Bool := fun _ ds => decide (uptoBulkAll ds ≤ 1048576)
def OpenSpec.upto (s : _root_.Go.ChangeSpec) : _root_.Go.OpenSpec := { _root_.Go.OpenSpec.ofChange s with cond := some uptoSmall }

/-- 'quipulaw.StuffTells', WHERE WHAT IT READS IS OF BULK AT MOST 1048576: true; the input reads as it did. -/
def stuffTellsUptoRow : OpenClaim := { program := "ytglajpmifhecgaa", sum := "357c7e4b2a31739b7cbfb578bf51922f0d28315747954cec4179ba98237eb23d", func := "quipu/quipulaw.StuffTells", spec := "stuffTells", apart := false, narrowed := true }
def StuffTellsUptoSaid : Prop := stuffTellsUptoRow.holds Try.pinned (OpenSpec.upto stuffTellsSpec)

/-- 'quipulaw.StuffBares', WHERE WHAT IT READS IS OF BULK AT MOST 1048576: true; the input reads as it did. -/
def stuffBaresUptoRow : OpenClaim := { program := "ytglajpmifhecgaa", sum := "357c7e4b2a31739b7cbfb578bf51922f0d28315747954cec4179ba98237eb23d", func := "quipu/quipulaw.StuffBares", spec := "stuffBares", apart := false, narrowed := true }
def StuffBaresUptoSaid : Prop := stuffBaresUptoRow.holds Try.pinned (OpenSpec.upto stuffBaresSpec)

/-- 'quipulaw.StuffFrames', WHERE WHAT IT READS IS OF BULK AT MOST 1048576: true; the input reads as it did. -/
def stuffFramesUptoRow : OpenClaim := { program := "ytglajpmifhecgaa", sum := "357c7e4b2a31739b7cbfb578bf51922f0d28315747954cec4179ba98237eb23d", func := "quipu/quipulaw.StuffFrames", spec := "stuffFrames", unfollowed := true, recurses := true, apart := false, narrowed := true }
def StuffFramesUptoSaid : Prop := stuffFramesUptoRow.holds Try.pinned (OpenSpec.upto stuffFramesSpec)

/-- 'quipulaw.StuffSplits', WHERE WHAT IT READS IS OF BULK AT MOST 1048576: true; the input reads as it did. -/
def stuffSplitsUptoRow : OpenClaim := { program := "ytglajpmifhecgaa", sum := "357c7e4b2a31739b7cbfb578bf51922f0d28315747954cec4179ba98237eb23d", func := "quipu/quipulaw.StuffSplits", spec := "stuffSplits", unfollowed := true, recurses := true, apart := false, narrowed := true }
def StuffSplitsUptoSaid : Prop := stuffSplitsUptoRow.holds Try.pinned (OpenSpec.upto stuffSplitsSpec)

/-- 'quipukeep.StuffBack', WHERE WHAT IT READS IS OF BULK AT MOST 1048576: true; the input reads as it did. -/
def stuffBackUptoRow : OpenClaim := { program := "ytglajpmifhecgaa", sum := "357c7e4b2a31739b7cbfb578bf51922f0d28315747954cec4179ba98237eb23d", func := "quipu/quipukeep.StuffBack", spec := "stuffBack", apart := false, narrowed := true }
def StuffBackUptoSaid : Prop := stuffBackUptoRow.holds Try.pinned (OpenSpec.upto stuffBackSpec)

/-- 'quipukeep.StuffTexts', WHERE WHAT IT READS IS OF BULK AT MOST 1048576: true; the input reads as it did. -/
def stuffTextsUptoRow : OpenClaim := { program := "ytglajpmifhecgaa", sum := "357c7e4b2a31739b7cbfb578bf51922f0d28315747954cec4179ba98237eb23d", func := "quipu/quipukeep.StuffTexts", spec := "stuffTexts", unfollowed := true, recurses := true, apart := false, narrowed := true }
def StuffTextsUptoSaid : Prop := stuffTextsUptoRow.holds Try.pinned (OpenSpec.upto stuffTextsSpec)

end Rows
end Go.Proofs.Ytglajpmifhecgaa
