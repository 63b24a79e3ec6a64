/-
  DERIVED. GIVEN WITH THE SEED: THE CARDS: each row of YtnkhlohoaoiefaaDoorRows.lean that lists a variable, with what it lists TIED to the program's text (the seventh form; the later family's looks); each row that meets fmt, with fmt's text TOLD by the authors' own Lean function (tested against real Go, not proved from fmt's source: count such statements apart). THE CARD IS WHAT COUNTS. Prove the row's statement (the work); the ties are given (YtnkhlohoaoiefaaDoorTie.lean); close each card by the builder's one call (the guide's Derived/Test/ToyasCard.lean, 'card_holds'). Laid BY PROGRAM, IN A SANDBOX (cutbox-door.mjs). By AI agents, Wed Nov 11 2026. No macro, syntax, notation, axiom, sorry.
-/
import Derived.Test.YtnkhlohoaoiefaaDoorRows
import GoSem.ClaimSeven
namespace Go.Proofs.YtnkhlohoaoiefaaDoor
namespace Rows

/-- THE TIED CARD OF 'quipulaw.TrellisGets'. -/
def trellisGetsCard : Claim7 := { stood := { row := trellisGetsRow, standIns := [], harness := (true, "4dce6ce86a23a33e5b90866702ab56aa573dd357c2acd13007792282d0b4d084"), looks := false }, kinds := [], alts := [], laidByText := true, laidKinds := [.data], laidTests := true, laidLooks := .later }
def TrellisGetsCardSaid : Prop := Claim7.holds Tryd.pinned (.plain (OpenSpec.ofChange trellisGetsSpec)) trellisGetsCard

/-- THE TIED CARD OF 'quipukeep.TrellisBack'. -/
def trellisBackCard : Claim7 := { stood := { row := trellisBackRow, standIns := [], harness := (true, "4dce6ce86a23a33e5b90866702ab56aa573dd357c2acd13007792282d0b4d084"), looks := false }, kinds := [], alts := [], laidByText := true, laidKinds := [.data], laidTests := true, laidLooks := .later }
def TrellisBackCardSaid : Prop := Claim7.holds Tryd.pinned (.plain (OpenSpec.ofChange trellisBackSpec)) trellisBackCard

/-- THE TIED CARD OF 'quipukeep.TrellisBest'. -/
def trellisBestCard : Claim7 := { stood := { row := trellisBestRow, standIns := [], harness := (true, "4dce6ce86a23a33e5b90866702ab56aa573dd357c2acd13007792282d0b4d084"), looks := false }, kinds := [], alts := [], laidByText := true, laidKinds := [.data], laidTests := true, laidLooks := .later }
def TrellisBestCardSaid : Prop := Claim7.holds Tryd.pinned (.plain (OpenSpec.ofChange trellisBestSpec)) trellisBestCard

/-- THE SECOND FORM's CARD OF 'quipulaw.TrellisGets'. -/
def trellisGetsUptoCard : Claim7 := { stood := { row := trellisGetsUptoRow, standIns := [], harness := (true, "4dce6ce86a23a33e5b90866702ab56aa573dd357c2acd13007792282d0b4d084"), looks := false }, kinds := [], alts := [], laidByText := true, laidKinds := [.data], laidTests := true, laidLooks := .later }
def TrellisGetsUptoCardSaid : Prop := Claim7.holds Tryd.pinned (.plain (OpenSpec.upto trellisGetsSpec)) trellisGetsUptoCard

/-- THE SECOND FORM's CARD OF 'quipukeep.TrellisBack'. -/
def trellisBackUptoCard : Claim7 := { stood := { row := trellisBackUptoRow, standIns := [], harness := (true, "4dce6ce86a23a33e5b90866702ab56aa573dd357c2acd13007792282d0b4d084"), looks := false }, kinds := [], alts := [], laidByText := true, laidKinds := [.data], laidTests := true, laidLooks := .later }
def TrellisBackUptoCardSaid : Prop := Claim7.holds Tryd.pinned (.plain (OpenSpec.upto trellisBackSpec)) trellisBackUptoCard

/-- THE SECOND FORM's CARD OF 'quipukeep.TrellisBest'. -/
def trellisBestUptoCard : Claim7 := { stood := { row := trellisBestUptoRow, standIns := [], harness := (true, "4dce6ce86a23a33e5b90866702ab56aa573dd357c2acd13007792282d0b4d084"), looks := false }, kinds := [], alts := [], laidByText := true, laidKinds := [.data], laidTests := true, laidLooks := .later }
def TrellisBestUptoCardSaid : Prop := Claim7.holds Tryd.pinned (.plain (OpenSpec.upto trellisBestSpec)) trellisBestUptoCard
end Rows
end Go.Proofs.YtnkhlohoaoiefaaDoor
