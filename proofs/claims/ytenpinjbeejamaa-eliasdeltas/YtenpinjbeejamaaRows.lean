/-
  No cell of these rows narrows 'for every input' (looked for: loops, veiled, ifaces, maps, wideKeys, modest, calm, conditions, laid).
  DERIVED. THE GIVEN ROWS OF THIS SEAT. 6 by the template 'for every input the law returns true; each argument reads behind the call as it read before'; 0 by the template 'total and deterministic' (their statements: YtenpinjbeejamaaTotals.lean).
  GIVEN WITH THE SEED: the statements are not yours to turn. If you find one false, say at which input.
  Laid BY PROGRAM, IN A SANDBOX (cutbox-rows.mjs): the forced cells as the released guide's own fill.sh prints them over the translation 6db9fc3b35a7acd0… (all of the seat's roots in one cut). By AI agents, Wed Nov 11 2026. No macro, syntax, notation, axiom, sorry.
-/
import Derived.Test.YtenpinjbeejamaaChecked
import GoSem.Claim
import GoSem.ClaimJoined
import GoSem.ClaimMapViews
import Derived.JoinedTies
import Derived.KernelRfl
namespace Go.Proofs.Ytenpinjbeejamaa
/- THE CELL 'sum', in the pinned program and in every row, IS THE sha256 OF THE DUMP (.gsa) THAT YtenpinjbeejamaaProg.lean LOADS. Nothing in Lean hashes anything: it is a label: what it is worth is what the hold of that sum in a sandbox is worth. -/
noncomputable def Try.pinned : Pinned := { name := "ytenpinjbeejamaa", sum := "6db9fc3b35a7acd0da4ac3734ef5be4664ed142c44caba3b28e2b835227c287e", checked := Try.checked }
namespace Rows
def none {H : Type} : Left H := { results := [], args := [] }

/-- 'quipulaw.EliasGammas': WHATEVER THE INPUT: true; the input reads as it did. -/
def eliasGammasSpec : ChangeSpec := { name := "eliasGammas", fn := fun _ => fun
  | [d] => { results := [.lit (.bool true)], args := [d] }
  | _ => none }
def eliasGammasRow : OpenClaim := { program := "ytenpinjbeejamaa", sum := "6db9fc3b35a7acd0da4ac3734ef5be4664ed142c44caba3b28e2b835227c287e", func := "quipu/quipulaw.EliasGammas", spec := "eliasGammas", apart := false }
def EliasGammasSaid : Prop := eliasGammasRow.holds Try.pinned (OpenSpec.ofChange eliasGammasSpec)

/-- ITS FALSE NEIGHBOUR: 'it returns false'. Refute it at one input. -/
def eliasGammasWrong : ChangeSpec := { name := "eliasGammas", fn := fun _ => fun
  | [d] => { results := [.lit (.bool false)], args := [d] }
  | _ => none }
def EliasGammasWrongFalsely : Prop := eliasGammasRow.holds Try.pinned (OpenSpec.ofChange eliasGammasWrong)

/-- 'quipulaw.EliasDeltas': WHATEVER THE INPUT: true; the input reads as it did. -/
def eliasDeltasSpec : ChangeSpec := { name := "eliasDeltas", fn := fun _ => fun
  | [d] => { results := [.lit (.bool true)], args := [d] }
  | _ => none }
def eliasDeltasRow : OpenClaim := { program := "ytenpinjbeejamaa", sum := "6db9fc3b35a7acd0da4ac3734ef5be4664ed142c44caba3b28e2b835227c287e", func := "quipu/quipulaw.EliasDeltas", spec := "eliasDeltas", apart := false }
def EliasDeltasSaid : Prop := eliasDeltasRow.holds Try.pinned (OpenSpec.ofChange eliasDeltasSpec)

/-- ITS FALSE NEIGHBOUR: 'it returns false'. Refute it at one input. -/
def eliasDeltasWrong : ChangeSpec := { name := "eliasDeltas", fn := fun _ => fun
  | [d] => { results := [.lit (.bool false)], args := [d] }
  | _ => none }
def EliasDeltasWrongFalsely : Prop := eliasDeltasRow.holds Try.pinned (OpenSpec.ofChange eliasDeltasWrong)

/-- 'quipulaw.EliasReadsGamma': WHATEVER THE INPUT: true; the input reads as it did. -/
def eliasReadsGammaSpec : ChangeSpec := { name := "eliasReadsGamma", fn := fun _ => fun
  | [d] => { results := [.lit (.bool true)], args := [d] }
  | _ => none }
def eliasReadsGammaRow : OpenClaim := { program := "ytenpinjbeejamaa", sum := "6db9fc3b35a7acd0da4ac3734ef5be4664ed142c44caba3b28e2b835227c287e", func := "quipu/quipulaw.EliasReadsGamma", spec := "eliasReadsGamma", apart := false }
def EliasReadsGammaSaid : Prop := eliasReadsGammaRow.holds Try.pinned (OpenSpec.ofChange eliasReadsGammaSpec)

/-- ITS FALSE NEIGHBOUR: 'it returns false'. Refute it at one input. -/
def eliasReadsGammaWrong : ChangeSpec := { name := "eliasReadsGamma", fn := fun _ => fun
  | [d] => { results := [.lit (.bool false)], args := [d] }
  | _ => none }
def EliasReadsGammaWrongFalsely : Prop := eliasReadsGammaRow.holds Try.pinned (OpenSpec.ofChange eliasReadsGammaWrong)

/-- 'quipulaw.EliasReadsDelta': WHATEVER THE INPUT: true; the input reads as it did. -/
def eliasReadsDeltaSpec : ChangeSpec := { name := "eliasReadsDelta", fn := fun _ => fun
  | [d] => { results := [.lit (.bool true)], args := [d] }
  | _ => none }
def eliasReadsDeltaRow : OpenClaim := { program := "ytenpinjbeejamaa", sum := "6db9fc3b35a7acd0da4ac3734ef5be4664ed142c44caba3b28e2b835227c287e", func := "quipu/quipulaw.EliasReadsDelta", spec := "eliasReadsDelta", apart := false }
def EliasReadsDeltaSaid : Prop := eliasReadsDeltaRow.holds Try.pinned (OpenSpec.ofChange eliasReadsDeltaSpec)

/-- ITS FALSE NEIGHBOUR: 'it returns false'. Refute it at one input. -/
def eliasReadsDeltaWrong : ChangeSpec := { name := "eliasReadsDelta", fn := fun _ => fun
  | [d] => { results := [.lit (.bool false)], args := [d] }
  | _ => none }
def EliasReadsDeltaWrongFalsely : Prop := eliasReadsDeltaRow.holds Try.pinned (OpenSpec.ofChange eliasReadsDeltaWrong)

/-- 'quipukeep.EliasBack': WHATEVER THE INPUT: true; the input reads as it did. -/
def eliasBackSpec : ChangeSpec := { name := "eliasBack", fn := fun _ => fun
  | [d1, d2] => { results := [.lit (.bool true)], args := [d1, d2] }
  | _ => none }
def eliasBackRow : OpenClaim := { program := "ytenpinjbeejamaa", sum := "6db9fc3b35a7acd0da4ac3734ef5be4664ed142c44caba3b28e2b835227c287e", func := "quipu/quipukeep.EliasBack", spec := "eliasBack", apart := false }
def EliasBackSaid : Prop := eliasBackRow.holds Try.pinned (OpenSpec.ofChange eliasBackSpec)

/-- ITS FALSE NEIGHBOUR: 'it returns false'. Refute it at one input. -/
def eliasBackWrong : ChangeSpec := { name := "eliasBack", fn := fun _ => fun
  | [d1, d2] => { results := [.lit (.bool false)], args := [d1, d2] }
  | _ => none }
def EliasBackWrongFalsely : Prop := eliasBackRow.holds Try.pinned (OpenSpec.ofChange eliasBackWrong)

/-- 'quipukeep.EliasShort': WHATEVER THE INPUT: true; the input reads as it did. -/
def eliasShortSpec : ChangeSpec := { name := "eliasShort", fn := fun _ => fun
  | [d1, d2] => { results := [.lit (.bool true)], args := [d1, d2] }
  | _ => none }
def eliasShortRow : OpenClaim := { program := "ytenpinjbeejamaa", sum := "6db9fc3b35a7acd0da4ac3734ef5be4664ed142c44caba3b28e2b835227c287e", func := "quipu/quipukeep.EliasShort", spec := "eliasShort", apart := false }
def EliasShortSaid : Prop := eliasShortRow.holds Try.pinned (OpenSpec.ofChange eliasShortSpec)

/-- ITS FALSE NEIGHBOUR: 'it returns false'. Refute it at one input. -/
def eliasShortWrong : ChangeSpec := { name := "eliasShort", fn := fun _ => fun
  | [d1, d2] => { results := [.lit (.bool false)], args := [d1, d2] }
  | _ => none }
def EliasShortWrongFalsely : Prop := eliasShortRow.holds Try.pinned (OpenSpec.ofChange eliasShortWrong)

/- THE SECOND FORM. 'bulk': how many values and letters a reading holds, each counted each time it is reached (what is shared counts as often as it is met; a slice's spare places count too). A statement '..UptoSaid' is the law's where the arguments, and the package variables that the reading takes, are together of bulk at most 1048576: NARROWER than '..Said'. Prove '..Said' where nothing that the law and all that it calls make is longer than what came in: it says more and counts as full. Else prove '..UptoSaid'. A law counts once. -/
mutual
def uptoBulk {H : Type} : DataW H → Nat
  | .lit (.string bytes) => bytes.length + 1
  | .lit _ => 1
  | .nil => 1
  | .ptr d => uptoBulk d + 1
  | .slice elems spare => uptoBulkAll elems + uptoBulkAll spare + 1
  | .agg parts => uptoBulkAll parts + 1
  | .iface _ d => uptoBulk d + 1
  | .map entries => uptoBulkEntries entries + 1
  | .held _ => 1
def uptoBulkAll {H : Type} : List (DataW H) → Nat
  | [] => 0
  | d :: r => uptoBulk d + uptoBulkAll r
def uptoBulkEntries {H : Type} : List (Lit × DataW H) → Nat
  | [] => 0
  | x :: r => uptoBulkEntry x + uptoBulkEntries r
def uptoBulkEntry {H : Type} : Lit × DataW H → Nat
  | (.string bytes, d) => bytes.length + uptoBulk d + 1
  | (_, d) => uptoBulk d + 1
 end
def uptoSmall : (H : Type) → List (DataW H) → Bool := fun _ ds => decide (uptoBulkAll ds ≤ 1048576)
def OpenSpec.upto (s : _root_.Go.ChangeSpec) : _root_.Go.OpenSpec := { _root_.Go.OpenSpec.ofChange s with cond := some uptoSmall }

/-- 'quipulaw.EliasGammas', WHERE WHAT IT READS IS OF BULK AT MOST 1048576: true; the input reads as it did. -/
def eliasGammasUptoRow : OpenClaim := { program := "ytenpinjbeejamaa", sum := "6db9fc3b35a7acd0da4ac3734ef5be4664ed142c44caba3b28e2b835227c287e", func := "quipu/quipulaw.EliasGammas", spec := "eliasGammas", apart := false, narrowed := true }
def EliasGammasUptoSaid : Prop := eliasGammasUptoRow.holds Try.pinned (OpenSpec.upto eliasGammasSpec)

/-- 'quipulaw.EliasDeltas', WHERE WHAT IT READS IS OF BULK AT MOST 1048576: true; the input reads as it did. -/
def eliasDeltasUptoRow : OpenClaim := { program := "ytenpinjbeejamaa", sum := "6db9fc3b35a7acd0da4ac3734ef5be4664ed142c44caba3b28e2b835227c287e", func := "quipu/quipulaw.EliasDeltas", spec := "eliasDeltas", apart := false, narrowed := true }
def EliasDeltasUptoSaid : Prop := eliasDeltasUptoRow.holds Try.pinned (OpenSpec.upto eliasDeltasSpec)

/-- 'quipulaw.EliasReadsGamma', WHERE WHAT IT READS IS OF BULK AT MOST 1048576: true; the input reads as it did. -/
def eliasReadsGammaUptoRow : OpenClaim := { program := "ytenpinjbeejamaa", sum := "6db9fc3b35a7acd0da4ac3734ef5be4664ed142c44caba3b28e2b835227c287e", func := "quipu/quipulaw.EliasReadsGamma", spec := "eliasReadsGamma", apart := false, narrowed := true }
def EliasReadsGammaUptoSaid : Prop := eliasReadsGammaUptoRow.holds Try.pinned (OpenSpec.upto eliasReadsGammaSpec)

/-- 'quipulaw.EliasReadsDelta', WHERE WHAT IT READS IS OF BULK AT MOST 1048576: true; the input reads as it did. -/
def eliasReadsDeltaUptoRow : OpenClaim := { program := "ytenpinjbeejamaa", sum := "6db9fc3b35a7acd0da4ac3734ef5be4664ed142c44caba3b28e2b835227c287e", func := "quipu/quipulaw.EliasReadsDelta", spec := "eliasReadsDelta", apart := false, narrowed := true }
def EliasReadsDeltaUptoSaid : Prop := eliasReadsDeltaUptoRow.holds Try.pinned (OpenSpec.upto eliasReadsDeltaSpec)

/-- 'quipukeep.EliasBack', WHERE WHAT IT READS IS OF BULK AT MOST 1048576: true; the input reads as it did. -/
def eliasBackUptoRow : OpenClaim := { program := "ytenpinjbeejamaa", sum := "6db9fc3b35a7acd0da4ac3734ef5be4664ed142c44caba3b28e2b835227c287e", func := "quipu/quipukeep.EliasBack", spec := "eliasBack", apart := false, narrowed := true }
def EliasBackUptoSaid : Prop := eliasBackUptoRow.holds Try.pinned (OpenSpec.upto eliasBackSpec)

/-- 'quipukeep.EliasShort', WHERE WHAT IT READS IS OF BULK AT MOST 1048576: true; the input reads as it did. -/
def eliasShortUptoRow : OpenClaim := { program := "ytenpinjbeejamaa", sum := "6db9fc3b35a7acd0da4ac3734ef5be4664ed142c44caba3b28e2b835227c287e", func := "quipu/quipukeep.EliasShort", spec := "eliasShort", apart := false, narrowed := true }
def EliasShortUptoSaid : Prop := eliasShortUptoRow.holds Try.pinned (OpenSpec.upto eliasShortSpec)

end Rows
end Go.Proofs.Ytenpinjbeejamaa
