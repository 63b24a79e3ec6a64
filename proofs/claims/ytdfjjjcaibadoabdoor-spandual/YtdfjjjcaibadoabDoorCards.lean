/-
  DERIVED. GIVEN WITH THE SEED: THE CARDS: each row of YtdfjjjcaibadoabDoorRows.lean that lists a variable, with what it lists TIED to the program's text (the seventh form; the later family's looks); each row that meets fmt, with fmt's text TOLD by the authors' own Lean function (tested against real Go, not proved from fmt's source: count such statements apart). THE CARD IS WHAT COUNTS. Prove the row's statement (the work); the ties are given (YtdfjjjcaibadoabDoorTie.lean); close each card by the builder's one call (the guide's Derived/Test/ToyasCard.lean, 'card_holds'). Laid BY PROGRAM, IN A SANDBOX (cutbox-door.mjs). By AI agents, Wed Nov 11 2026. No macro, syntax, notation, axiom, sorry.
-/
import Derived.Test.YtdfjjjcaibadoabDoorRows
import GoSem.ClaimSeven
namespace Go.Proofs.YtdfjjjcaibadoabDoor
namespace Rows

/-- THE TIED CARD OF 'quipukeep.SpanDual'. -/
def spanDualCard : Claim7 := { stood := { row := spanDualRow, standIns := [], harness := (true, "0fdbf1309f70af3ad4fd6aab3a92cd97c0566f6a0918948365c9a673f1feebdc"), looks := false }, kinds := [], alts := [], laidByText := true, laidKinds := [.data, .data], laidTests := true, laidLooks := .later }
def SpanDualCardSaid : Prop := Claim7.holds Tryd.pinned (.plain (OpenSpec.ofChange spanDualSpec)) spanDualCard

/-- THE SECOND FORM's CARD OF 'quipukeep.SpanDual'. -/
def spanDualUptoCard : Claim7 := { stood := { row := spanDualUptoRow, standIns := [], harness := (true, "0fdbf1309f70af3ad4fd6aab3a92cd97c0566f6a0918948365c9a673f1feebdc"), looks := false }, kinds := [], alts := [], laidByText := true, laidKinds := [.data, .data], laidTests := true, laidLooks := .later }
def SpanDualUptoCardSaid : Prop := Claim7.holds Tryd.pinned (.plain (OpenSpec.upto spanDualSpec)) spanDualUptoCard
end Rows
end Go.Proofs.YtdfjjjcaibadoabDoor
