/-
  DERIVED. GIVEN WITH THE SEED: THE CARDS: each row of YtdfjjjcaibadoaaDoorRows.lean that lists a variable, with what it lists TIED to the program's text (the seventh form; the later family's looks); each row that meets fmt, with fmt's text TOLD by the authors' own Lean function (tested against real Go, not proved from fmt's source: count such statements apart). THE CARD IS WHAT COUNTS. Prove the row's statement (the work); the ties are given (YtdfjjjcaibadoaaDoorTie.lean); close each card by the builder's one call (the guide's Derived/Test/ToyasCard.lean, 'card_holds'). Laid BY PROGRAM, IN A SANDBOX (cutbox-door.mjs). By AI agents, Wed Nov 11 2026. No macro, syntax, notation, axiom, sorry.
-/
import Derived.Test.YtdfjjjcaibadoaaDoorRows
import GoSem.ClaimSeven
namespace Go.Proofs.YtdfjjjcaibadoaaDoor
namespace Rows

/-- THE TIED CARD OF 'quipulaw.SpanSizes'. -/
def spanSizesCard : Claim7 := { stood := { row := spanSizesRow, standIns := [], harness := (true, "dfa69728f061f7cb8e5dadd0c73ffce6eb96585541e60c330fb3e399d293492d"), looks := false }, kinds := [], alts := [], laidByText := true, laidKinds := [.data, .data], laidTests := true, laidLooks := .later }
def SpanSizesCardSaid : Prop := Claim7.holds Tryd.pinned (.plain (OpenSpec.ofChange spanSizesSpec)) spanSizesCard

/-- THE SECOND FORM's CARD OF 'quipulaw.SpanSizes'. -/
def spanSizesUptoCard : Claim7 := { stood := { row := spanSizesUptoRow, standIns := [], harness := (true, "dfa69728f061f7cb8e5dadd0c73ffce6eb96585541e60c330fb3e399d293492d"), looks := false }, kinds := [], alts := [], laidByText := true, laidKinds := [.data, .data], laidTests := true, laidLooks := .later }
def SpanSizesUptoCardSaid : Prop := Claim7.holds Tryd.pinned (.plain (OpenSpec.upto spanSizesSpec)) spanSizesUptoCard
end Rows
end Go.Proofs.YtdfjjjcaibadoaaDoor
