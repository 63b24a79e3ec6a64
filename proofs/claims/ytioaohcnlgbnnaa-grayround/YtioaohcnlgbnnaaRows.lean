/-
  No cell of these rows narrows 'for every input' (looked for: loops, veiled, ifaces, maps, wideKeys, modest, calm, conditions, laid).
  DERIVED. THE GIVEN ROWS OF THIS SEAT. 5 by the template 'for every input the law returns true; each argument reads behind the call as it read before'; 0 by the template 'total and deterministic' (their statements: YtioaohcnlgbnnaaTotals.lean).
  GIVEN WITH THE SEED: the statements are not yours to turn. If you find one false, say at which input.
  Laid BY PROGRAM, IN A SANDBOX (cutbox-rows.mjs): the forced cells as the released guide's own fill.sh prints them over the translation 44cada33d351c799… (all of the seat's roots in one cut). By AI agents, Wed Nov 11 2026. No macro, syntax, notation, axiom, sorry.
-/
import Derived.Test.YtioaohcnlgbnnaaChecked
import GoSem.Claim
import GoSem.ClaimJoined
import GoSem.ClaimMapViews
import Derived.JoinedTies
import Derived.KernelRfl
namespace Go.Proofs.Ytioaohcnlgbnnaa
/- THE CELL 'sum', in the pinned program and in every row, IS THE sha256 OF THE DUMP (.gsa) THAT YtioaohcnlgbnnaaProg.lean LOADS. Nothing in Lean hashes anything: it is a label: what it is worth is what the hold of that sum in a sandbox is worth. -/
noncomputable def Try.pinned : Pinned := { name := "ytioaohcnlgbnnaa", sum := "44cada33d351c799b662c0a9260e1cdf9f6fdb1b74ccdbd24c478dd3a803f447", checked := Try.checked }
namespace Rows
def none {H : Type} : Left H := { results := [], args := [] }

/-- 'quipulaw.GrayCodes': WHATEVER THE INPUT: true; the input reads as it did. -/
def grayCodesSpec : ChangeSpec := { name := "grayCodes", fn := fun _ => fun
  | [d1, d2] => { results := [.lit (.bool true)], args := [d1, d2] }
  | _ => none }
def grayCodesRow : OpenClaim := { program := "ytioaohcnlgbnnaa", sum := "44cada33d351c799b662c0a9260e1cdf9f6fdb1b74ccdbd24c478dd3a803f447", func := "quipu/quipulaw.GrayCodes", spec := "grayCodes", apart := false }
def GrayCodesSaid : Prop := grayCodesRow.holds Try.pinned (OpenSpec.ofChange grayCodesSpec)

/-- ITS FALSE NEIGHBOUR: 'it returns false'. Refute it at one input. -/
def grayCodesWrong : ChangeSpec := { name := "grayCodes", fn := fun _ => fun
  | [d1, d2] => { results := [.lit (.bool false)], args := [d1, d2] }
  | _ => none }
def GrayCodesWrongFalsely : Prop := grayCodesRow.holds Try.pinned (OpenSpec.ofChange grayCodesWrong)

/-- 'quipulaw.GrayPlaces': WHATEVER THE INPUT: true; the input reads as it did. -/
def grayPlacesSpec : ChangeSpec := { name := "grayPlaces", fn := fun _ => fun
  | [d1, d2] => { results := [.lit (.bool true)], args := [d1, d2] }
  | _ => none }
def grayPlacesRow : OpenClaim := { program := "ytioaohcnlgbnnaa", sum := "44cada33d351c799b662c0a9260e1cdf9f6fdb1b74ccdbd24c478dd3a803f447", func := "quipu/quipulaw.GrayPlaces", spec := "grayPlaces", apart := false }
def GrayPlacesSaid : Prop := grayPlacesRow.holds Try.pinned (OpenSpec.ofChange grayPlacesSpec)

/-- ITS FALSE NEIGHBOUR: 'it returns false'. Refute it at one input. -/
def grayPlacesWrong : ChangeSpec := { name := "grayPlaces", fn := fun _ => fun
  | [d1, d2] => { results := [.lit (.bool false)], args := [d1, d2] }
  | _ => none }
def GrayPlacesWrongFalsely : Prop := grayPlacesRow.holds Try.pinned (OpenSpec.ofChange grayPlacesWrong)

/-- 'quipulaw.GrayRounds': WHATEVER THE INPUT: true; the input reads as it did. -/
def grayRoundsSpec : ChangeSpec := { name := "grayRounds", fn := fun _ => fun
  | [d] => { results := [.lit (.bool true)], args := [d] }
  | _ => none }
def grayRoundsRow : OpenClaim := { program := "ytioaohcnlgbnnaa", sum := "44cada33d351c799b662c0a9260e1cdf9f6fdb1b74ccdbd24c478dd3a803f447", func := "quipu/quipulaw.GrayRounds", spec := "grayRounds", apart := false }
def GrayRoundsSaid : Prop := grayRoundsRow.holds Try.pinned (OpenSpec.ofChange grayRoundsSpec)

/-- ITS FALSE NEIGHBOUR: 'it returns false'. Refute it at one input. -/
def grayRoundsWrong : ChangeSpec := { name := "grayRounds", fn := fun _ => fun
  | [d] => { results := [.lit (.bool false)], args := [d] }
  | _ => none }
def GrayRoundsWrongFalsely : Prop := grayRoundsRow.holds Try.pinned (OpenSpec.ofChange grayRoundsWrong)

/-- 'quipukeep.GrayOne': WHATEVER THE INPUT: true; the input reads as it did. -/
def grayOneSpec : ChangeSpec := { name := "grayOne", fn := fun _ => fun
  | [d1, d2] => { results := [.lit (.bool true)], args := [d1, d2] }
  | _ => none }
def grayOneRow : OpenClaim := { program := "ytioaohcnlgbnnaa", sum := "44cada33d351c799b662c0a9260e1cdf9f6fdb1b74ccdbd24c478dd3a803f447", func := "quipu/quipukeep.GrayOne", spec := "grayOne", apart := false }
def GrayOneSaid : Prop := grayOneRow.holds Try.pinned (OpenSpec.ofChange grayOneSpec)

/-- ITS FALSE NEIGHBOUR: 'it returns false'. Refute it at one input. -/
def grayOneWrong : ChangeSpec := { name := "grayOne", fn := fun _ => fun
  | [d1, d2] => { results := [.lit (.bool false)], args := [d1, d2] }
  | _ => none }
def GrayOneWrongFalsely : Prop := grayOneRow.holds Try.pinned (OpenSpec.ofChange grayOneWrong)

/-- 'quipukeep.GrayRound': WHATEVER THE INPUT: true; the input reads as it did. -/
def grayRoundSpec : ChangeSpec := { name := "grayRound", fn := fun _ => fun
  | [d] => { results := [.lit (.bool true)], args := [d] }
  | _ => none }
def grayRoundRow : OpenClaim := { program := "ytioaohcnlgbnnaa", sum := "44cada33d351c799b662c0a9260e1cdf9f6fdb1b74ccdbd24c478dd3a803f447", func := "quipu/quipukeep.GrayRound", spec := "grayRound", apart := false }
def GrayRoundSaid : Prop := grayRoundRow.holds Try.pinned (OpenSpec.ofChange grayRoundSpec)

/-- ITS FALSE NEIGHBOUR: 'it returns false'. Refute it at one input. -/
def grayRoundWrong : ChangeSpec := { name := "grayRound", fn := fun _ => fun
  | [d] => { results := [.lit (.bool false)], args := [d] }
  | _ => none }
def GrayRoundWrongFalsely : Prop := grayRoundRow.holds Try.pinned (OpenSpec.ofChange grayRoundWrong)

/- THE SECOND FORM. 'bulk': how many values and letters a reading holds, each counted each time it is reached (what is shared counts as often as it is met; a slice's spare places count too). A statement '..UptoSaid' is the law's where the arguments, and the package variables that the reading takes, are together of bulk at most 1048576: NARROWER than '..Said'. Prove '..Said' where nothing that the law and all that it calls make is longer than what came in: it says more and counts as full. Else prove '..UptoSaid'. A law counts once. -/
mutual
def uptoBulk {H : Type} : DataW H → Nat
  | .lit (.string bytes) => bytes.length + 1
  | .lit _ => 1
  | .nil => 1
  | .ptr d => uptoBulk d + 1
  | .slice elems spare => uptoBulkAll elems + uptoBulkAll spare + 1
  | .agg parts => uptoBulkAll parts + 1
  | .iface _ d => uptoBulk d + 1
  | .map entries => uptoBulkEntries entries + 1
  | .held _ => 1
def uptoBulkAll {H : Type} : List (DataW H) → Nat
  | [] => 0
  | d :: r => uptoBulk d + uptoBulkAll r
def uptoBulkEntries {H : Type} : List (Lit × DataW H) → Nat
  | [] => 0
  | x :: r => uptoBulkEntry x + uptoBulkEntries r
def uptoBulkEntry {H : Type} : Lit × DataW H → Nat
  | (.string bytes, d) => bytes.length + uptoBulk d + 1
  | (_, d) => uptoBulk d + 1
 end
def uptoSmall : (H : Type) → List (DataW H) → Bool := fun _ ds => decide (uptoBulkAll ds ≤ 1048576)
def OpenSpec.upto (s : _root_.Go.ChangeSpec) : _root_.Go.OpenSpec := { _root_.Go.OpenSpec.ofChange s with cond := some uptoSmall }

/-- 'quipulaw.GrayCodes', WHERE WHAT IT READS IS OF BULK AT MOST 1048576: true; the input reads as it did. -/
def grayCodesUptoRow : OpenClaim := { program := "ytioaohcnlgbnnaa", sum := "44cada33d351c799b662c0a9260e1cdf9f6fdb1b74ccdbd24c478dd3a803f447", func := "quipu/quipulaw.GrayCodes", spec := "grayCodes", apart := false, narrowed := true }
def GrayCodesUptoSaid : Prop := grayCodesUptoRow.holds Try.pinned (OpenSpec.upto grayCodesSpec)

/-- 'quipulaw.GrayPlaces', WHERE WHAT IT READS IS OF BULK AT MOST 1048576: true; the input reads as it did. -/
def grayPlacesUptoRow : OpenClaim := { program := "ytioaohcnlgbnnaa", sum := "44cada33d351c799b662c0a9260e1cdf9f6fdb1b74ccdbd24c478dd3a803f447", func := "quipu/quipulaw.GrayPlaces", spec := "grayPlaces", apart := false, narrowed := true }
def GrayPlacesUptoSaid : Prop := grayPlacesUptoRow.holds Try.pinned (OpenSpec.upto grayPlacesSpec)

/-- 'quipulaw.GrayRounds', WHERE WHAT IT READS IS OF BULK AT MOST 1048576: true; the input reads as it did. -/
def grayRoundsUptoRow : OpenClaim := { program := "ytioaohcnlgbnnaa", sum := "44cada33d351c799b662c0a9260e1cdf9f6fdb1b74ccdbd24c478dd3a803f447", func := "quipu/quipulaw.GrayRounds", spec := "grayRounds", apart := false, narrowed := true }
def GrayRoundsUptoSaid : Prop := grayRoundsUptoRow.holds Try.pinned (OpenSpec.upto grayRoundsSpec)

/-- 'quipukeep.GrayOne', WHERE WHAT IT READS IS OF BULK AT MOST 1048576: true; the input reads as it did. -/
def grayOneUptoRow : OpenClaim := { program := "ytioaohcnlgbnnaa", sum := "44cada33d351c799b662c0a9260e1cdf9f6fdb1b74ccdbd24c478dd3a803f447", func := "quipu/quipukeep.GrayOne", spec := "grayOne", apart := false, narrowed := true }
def GrayOneUptoSaid : Prop := grayOneUptoRow.holds Try.pinned (OpenSpec.upto grayOneSpec)

/-- 'quipukeep.GrayRound', WHERE WHAT IT READS IS OF BULK AT MOST 1048576: true; the input reads as it did. -/
def grayRoundUptoRow : OpenClaim := { program := "ytioaohcnlgbnnaa", sum := "44cada33d351c799b662c0a9260e1cdf9f6fdb1b74ccdbd24c478dd3a803f447", func := "quipu/quipukeep.GrayRound", spec := "grayRound", apart := false, narrowed := true }
def GrayRoundUptoSaid : Prop := grayRoundUptoRow.holds Try.pinned (OpenSpec.upto grayRoundSpec)

end Rows
end Go.Proofs.Ytioaohcnlgbnnaa
