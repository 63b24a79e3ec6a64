/-
  DERIVED. GIVEN WITH THE SEED: THE CARDS: each row of YtjdipgkdaloclaaDoorRows.lean that lists a variable, with what it lists TIED to the program's text (the seventh form; the later family's looks); each row that meets fmt, with fmt's text TOLD by the authors' own Lean function (tested against real Go, not proved from fmt's source: count such statements apart). THE CARD IS WHAT COUNTS. Prove the row's statement (the work); the ties are given (YtjdipgkdaloclaaDoorTie.lean); close each card by the builder's one call (the guide's Derived/Test/ToyasCard.lean, 'card_holds'). Laid BY PROGRAM, IN A SANDBOX (cutbox-door.mjs). By AI agents, Wed Nov 11 2026. No macro, syntax, notation, axiom, sorry.
-/
import Derived.Test.YtjdipgkdaloclaaDoorRows
import GoSem.ClaimSeven
namespace Go.Proofs.YtjdipgkdaloclaaDoor
namespace Rows

/-- THE TIED CARD OF 'quipulaw.PointsFixes'. -/
def pointsFixesCard : Claim7 := { stood := { row := pointsFixesRow, standIns := [], harness := (true, "effe0f8b614620ce45b2be6658ca2675bddeade50248e57838a14a321e6d57dd"), looks := false }, kinds := [], alts := [], laidByText := true, laidKinds := [.data], laidTests := true, laidLooks := .later }
def PointsFixesCardSaid : Prop := Claim7.holds Tryd.pinned (.plain (OpenSpec.ofChange pointsFixesSpec)) pointsFixesCard

/-- THE TIED CARD OF 'quipukeep.PointsWrong'. -/
def pointsWrongCard : Claim7 := { stood := { row := pointsWrongRow, standIns := [], harness := (true, "effe0f8b614620ce45b2be6658ca2675bddeade50248e57838a14a321e6d57dd"), looks := false }, kinds := [], alts := [], laidByText := true, laidKinds := [.data], laidTests := true, laidLooks := .later }
def PointsWrongCardSaid : Prop := Claim7.holds Tryd.pinned (.plain (OpenSpec.ofChange pointsWrongSpec)) pointsWrongCard

/-- THE SECOND FORM's CARD OF 'quipulaw.PointsFixes'. -/
def pointsFixesUptoCard : Claim7 := { stood := { row := pointsFixesUptoRow, standIns := [], harness := (true, "effe0f8b614620ce45b2be6658ca2675bddeade50248e57838a14a321e6d57dd"), looks := false }, kinds := [], alts := [], laidByText := true, laidKinds := [.data], laidTests := true, laidLooks := .later }
def PointsFixesUptoCardSaid : Prop := Claim7.holds Tryd.pinned (.plain (OpenSpec.upto pointsFixesSpec)) pointsFixesUptoCard

/-- THE SECOND FORM's CARD OF 'quipukeep.PointsWrong'. -/
def pointsWrongUptoCard : Claim7 := { stood := { row := pointsWrongUptoRow, standIns := [], harness := (true, "effe0f8b614620ce45b2be6658ca2675bddeade50248e57838a14a321e6d57dd"), looks := false }, kinds := [], alts := [], laidByText := true, laidKinds := [.data], laidTests := true, laidLooks := .later }
def PointsWrongUptoCardSaid : Prop := Claim7.holds Tryd.pinned (.plain (OpenSpec.upto pointsWrongSpec)) pointsWrongUptoCard
end Rows
end Go.Proofs.YtjdipgkdaloclaaDoor
