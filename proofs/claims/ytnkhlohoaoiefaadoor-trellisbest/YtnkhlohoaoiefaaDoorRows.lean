/-
  NARROWER THAN 'FOR EVERY INPUT', by the rows' own cells (each row's printed sentence says how): TrellisGets: laid · TrellisBack: laid · TrellisBest: laid.
  DERIVED. THE GIVEN ROWS OF THIS SEAT. 3 by the template 'for every input the law returns true; each argument reads behind the call as it read before'; 0 by the template 'total and deterministic' (their statements: YtnkhlohoaoiefaaDoorTotals.lean).
  GIVEN WITH THE SEED: the statements are not yours to turn. If you find one false, say at which input.
  Laid BY PROGRAM, IN A SANDBOX (cutbox-rows.mjs): the forced cells as the released guide's own fill.sh prints them over the translation 274c55020020a926… (all of the seat's roots in one cut). By AI agents, Wed Nov 11 2026. No macro, syntax, notation, axiom, sorry.
-/
import Derived.Test.YtnkhlohoaoiefaaDoorChecked
import GoSem.Claim
import GoSem.ClaimJoined
import GoSem.ClaimMapViews
import Derived.JoinedTies
import Derived.KernelRfl
namespace Go.Proofs.YtnkhlohoaoiefaaDoor
/- THE CELL 'sum', in the pinned program and in every row, IS THE sha256 OF THE DUMP (.gsa) THAT YtnkhlohoaoiefaaDoorProg.lean LOADS. Nothing in Lean hashes anything: it is a label: what it is worth is what the hold of that sum in a sandbox is worth. -/
noncomputable def Tryd.pinned : Pinned := { name := "ytnkhlohoaoiefaadoor", sum := "274c55020020a9267cf0475baa97b4f45ea9c9d27b235a01783481c5a31a2415", checked := Tryd.checked }
namespace Rows
def none {H : Type} : Left H := { results := [], args := [] }

/- WHAT THE LISTED PACKAGE-LEVEL VARIABLES READ AS WHEN THE CALL BEGINS. Each datum BY PROGRAM (the guide's laid-datum.mjs) off the statement by which the dump's own 'gosem.cut.vars' lays the variable. In a bare row this is a premise. The card (YtnkhlohoaoiefaaDoorCards.lean) ties it to the program's text. -/
def laid_quipu_trellis_states {H : Type} : DataW H := .agg [.agg [.lit (.bool false), .lit (.bool false)], .agg [.lit (.bool false), .lit (.bool true)], .agg [.lit (.bool true), .lit (.bool false)], .agg [.lit (.bool true), .lit (.bool true)]]

/-- 'quipulaw.TrellisGets': WHATEVER THE INPUT: true; the input reads as it did. -/
def trellisGetsSpec : ChangeSpec := { name := "trellisGets", fn := fun _ => fun
  | [d] => { results := [.lit (.bool true)], args := [d] }
  | _ => none }
def trellisGetsRow : OpenClaim := { program := "ytnkhlohoaoiefaadoor", sum := "274c55020020a9267cf0475baa97b4f45ea9c9d27b235a01783481c5a31a2415", func := "quipu/quipulaw.TrellisGets", spec := "trellisGets", named := ["quipu/trellis.states"], plainKeys := false, apart := false, laid := [("quipu/trellis.states", laid_quipu_trellis_states)] }
def TrellisGetsSaid : Prop := trellisGetsRow.holds Tryd.pinned (OpenSpec.ofChange trellisGetsSpec)

/-- ITS FALSE NEIGHBOUR: 'it returns false'. Refute it at one input. -/
def trellisGetsWrong : ChangeSpec := { name := "trellisGets", fn := fun _ => fun
  | [d] => { results := [.lit (.bool false)], args := [d] }
  | _ => none }
def TrellisGetsWrongFalsely : Prop := trellisGetsRow.holds Tryd.pinned (OpenSpec.ofChange trellisGetsWrong)

/-- 'quipukeep.TrellisBack': WHATEVER THE INPUT: true; the input reads as it did. -/
def trellisBackSpec : ChangeSpec := { name := "trellisBack", fn := fun _ => fun
  | [d1, d2, d3] => { results := [.lit (.bool true)], args := [d1, d2, d3] }
  | _ => none }
def trellisBackRow : OpenClaim := { program := "ytnkhlohoaoiefaadoor", sum := "274c55020020a9267cf0475baa97b4f45ea9c9d27b235a01783481c5a31a2415", func := "quipu/quipukeep.TrellisBack", spec := "trellisBack", named := ["quipu/trellis.states"], plainKeys := false, apart := false, laid := [("quipu/trellis.states", laid_quipu_trellis_states)] }
def TrellisBackSaid : Prop := trellisBackRow.holds Tryd.pinned (OpenSpec.ofChange trellisBackSpec)

/-- ITS FALSE NEIGHBOUR: 'it returns false'. Refute it at one input. -/
def trellisBackWrong : ChangeSpec := { name := "trellisBack", fn := fun _ => fun
  | [d1, d2, d3] => { results := [.lit (.bool false)], args := [d1, d2, d3] }
  | _ => none }
def TrellisBackWrongFalsely : Prop := trellisBackRow.holds Tryd.pinned (OpenSpec.ofChange trellisBackWrong)

/-- 'quipukeep.TrellisBest': WHATEVER THE INPUT: true; the input reads as it did. -/
def trellisBestSpec : ChangeSpec := { name := "trellisBest", fn := fun _ => fun
  | [d1, d2] => { results := [.lit (.bool true)], args := [d1, d2] }
  | _ => none }
def trellisBestRow : OpenClaim := { program := "ytnkhlohoaoiefaadoor", sum := "274c55020020a9267cf0475baa97b4f45ea9c9d27b235a01783481c5a31a2415", func := "quipu/quipukeep.TrellisBest", spec := "trellisBest", named := ["quipu/trellis.states"], plainKeys := false, apart := false, laid := [("quipu/trellis.states", laid_quipu_trellis_states)] }
def TrellisBestSaid : Prop := trellisBestRow.holds Tryd.pinned (OpenSpec.ofChange trellisBestSpec)

/-- ITS FALSE NEIGHBOUR: 'it returns false'. Refute it at one input. -/
def trellisBestWrong : ChangeSpec := { name := "trellisBest", fn := fun _ => fun
  | [d1, d2] => { results := [.lit (.bool false)], args := [d1, d2] }
  | _ => none }
def TrellisBestWrongFalsely : Prop := trellisBestRow.holds Tryd.pinned (OpenSpec.ofChange trellisBestWrong)

/- THE SECOND FORM. 'bulk': how many values and letters a reading holds, each counted each time it is reached (what is shared counts as often as it is met; a slice's spare places count too). A statement '..UptoSaid' is the law's where the arguments, and the package variables that the reading takes, are together of bulk at most 1048576: NARROWER than '..Said'. Prove '..Said' where nothing that the law and all that it calls make is longer than what came in: it says more and counts as full. Else prove '..UptoSaid'. A law counts once. -/
mutual
def uptoBulk {H : Type} : DataW H → Nat
  | .lit (.string bytes) => bytes.length + 1
  | .lit _ => 1
  | .nil => 1
  | .ptr d => uptoBulk d + 1
  | .slice elems spare => uptoBulkAll elems + uptoBulkAll spare + 1
  | .agg parts => uptoBulkAll parts + 1
  | .iface _ d => uptoBulk d + 1
  | .map entries => uptoBulkEntries entries + 1
  | .held _ => 1
def uptoBulkAll {H : Type} : List (DataW H) → Nat
  | [] => 0
  | d :: r => uptoBulk d + uptoBulkAll r
def uptoBulkEntries {H : Type} : List (Lit × DataW H) → Nat
  | [] => 0
  | x :: r => uptoBulkEntry x + uptoBulkEntries r
def uptoBulkEntry {H : Type} : Lit × DataW H → Nat
  | (.string bytes, d) => bytes.length + uptoBulk d + 1
  | (_, d) => uptoBulk d + 1
 end
def uptoSmall : (H : Type) → List (DataW H) → Bool := fun _ ds => decide (uptoBulkAll ds ≤ 1048576)
def OpenSpec.upto (s : _root_.Go.ChangeSpec) : _root_.Go.OpenSpec := { _root_.Go.OpenSpec.ofChange s with cond := some uptoSmall }

/-- 'quipulaw.TrellisGets', WHERE WHAT IT READS IS OF BULK AT MOST 1048576: true; the input reads as it did. -/
def trellisGetsUptoRow : OpenClaim := { program := "ytnkhlohoaoiefaadoor", sum := "274c55020020a9267cf0475baa97b4f45ea9c9d27b235a01783481c5a31a2415", func := "quipu/quipulaw.TrellisGets", spec := "trellisGets", named := ["quipu/trellis.states"], plainKeys := false, apart := false, laid := [("quipu/trellis.states", laid_quipu_trellis_states)], narrowed := true }
def TrellisGetsUptoSaid : Prop := trellisGetsUptoRow.holds Tryd.pinned (OpenSpec.upto trellisGetsSpec)

/-- 'quipukeep.TrellisBack', WHERE WHAT IT READS IS OF BULK AT MOST 1048576: true; the input reads as it did. -/
def trellisBackUptoRow : OpenClaim := { program := "ytnkhlohoaoiefaadoor", sum := "274c55020020a9267cf0475baa97b4f45ea9c9d27b235a01783481c5a31a2415", func := "quipu/quipukeep.TrellisBack", spec := "trellisBack", named := ["quipu/trellis.states"], plainKeys := false, apart := false, laid := [("quipu/trellis.states", laid_quipu_trellis_states)], narrowed := true }
def TrellisBackUptoSaid : Prop := trellisBackUptoRow.holds Tryd.pinned (OpenSpec.upto trellisBackSpec)

/-- 'quipukeep.TrellisBest', WHERE WHAT IT READS IS OF BULK AT MOST 1048576: true; the input reads as it did. -/
def trellisBestUptoRow : OpenClaim := { program := "ytnkhlohoaoiefaadoor", sum := "274c55020020a9267cf0475baa97b4f45ea9c9d27b235a01783481c5a31a2415", func := "quipu/quipukeep.TrellisBest", spec := "trellisBest", named := ["quipu/trellis.states"], plainKeys := false, apart := false, laid := [("quipu/trellis.states", laid_quipu_trellis_states)], narrowed := true }
def TrellisBestUptoSaid : Prop := trellisBestUptoRow.holds Tryd.pinned (OpenSpec.upto trellisBestSpec)

end Rows
end Go.Proofs.YtnkhlohoaoiefaaDoor
