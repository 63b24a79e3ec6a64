/-
  No cell of these rows narrows 'for every input' (looked for: loops, veiled, ifaces, maps, wideKeys, modest, calm, conditions, laid).
  DERIVED. THE GIVEN ROWS OF THIS SEAT. 6 by the template 'for every input the law returns true; each argument reads behind the call as it read before'; 0 by the template 'total and deterministic' (their statements: YtebghhpjpmekkaaTotals.lean).
  GIVEN WITH THE SEED: the statements are not yours to turn. If you find one false, say at which input.
  Laid BY PROGRAM, IN A SANDBOX (cutbox-rows.mjs): the forced cells as the released guide's own fill.sh prints them over the translation 81407df1b77080d7… (all of the seat's roots in one cut). By AI agents, Wed Nov 11 2026. No macro, syntax, notation, axiom, sorry.
-/
import Derived.Test.YtebghhpjpmekkaaChecked
import GoSem.Claim
import GoSem.ClaimJoined
import GoSem.ClaimMapViews
import Derived.JoinedTies
import Derived.KernelRfl
namespace Go.Proofs.Ytebghhpjpmekkaa
/- THE CELL 'sum', in the pinned program and in every row, IS THE sha256 OF THE DUMP (.gsa) THAT YtebghhpjpmekkaaProg.lean LOADS. Nothing in Lean hashes anything: it is a label: what it is worth is what the hold of that sum in a sandbox is worth. -/
noncomputable def Try.pinned : Pinned := { name := "ytebghhpjpmekkaa", sum := "81407df1b77080d724d5539d070d2ed347b467cbd96185dd0d2ed53cf06c48ab", checked := Try.checked }
namespace Rows
def none {H : Type} : Left H := { results := [], args := [] }

/-- 'quipulaw.HuffCosts': WHATEVER THE INPUT: true; the input reads as it did. -/
def huffCostsSpec : ChangeSpec := { name := "huffCosts", fn := fun _ => fun
  | [d] => { results := [.lit (.bool true)], args := [d] }
  | _ => none }
def huffCostsRow : OpenClaim := { program := "ytebghhpjpmekkaa", sum := "81407df1b77080d724d5539d070d2ed347b467cbd96185dd0d2ed53cf06c48ab", func := "quipu/quipulaw.HuffCosts", spec := "huffCosts", unfollowed := true, recurses := true, apart := false }
def HuffCostsSaid : Prop := huffCostsRow.holds Try.pinned (OpenSpec.ofChange huffCostsSpec)

/-- ITS FALSE NEIGHBOUR: 'it returns false'. Refute it at one input. -/
def huffCostsWrong : ChangeSpec := { name := "huffCosts", fn := fun _ => fun
  | [d] => { results := [.lit (.bool false)], args := [d] }
  | _ => none }
def HuffCostsWrongFalsely : Prop := huffCostsRow.holds Try.pinned (OpenSpec.ofChange huffCostsWrong)

/-- 'quipulaw.HuffLens': WHATEVER THE INPUT: true; the input reads as it did. -/
def huffLensSpec : ChangeSpec := { name := "huffLens", fn := fun _ => fun
  | [d] => { results := [.lit (.bool true)], args := [d] }
  | _ => none }
def huffLensRow : OpenClaim := { program := "ytebghhpjpmekkaa", sum := "81407df1b77080d724d5539d070d2ed347b467cbd96185dd0d2ed53cf06c48ab", func := "quipu/quipulaw.HuffLens", spec := "huffLens", unfollowed := true, recurses := true, apart := false }
def HuffLensSaid : Prop := huffLensRow.holds Try.pinned (OpenSpec.ofChange huffLensSpec)

/-- ITS FALSE NEIGHBOUR: 'it returns false'. Refute it at one input. -/
def huffLensWrong : ChangeSpec := { name := "huffLens", fn := fun _ => fun
  | [d] => { results := [.lit (.bool false)], args := [d] }
  | _ => none }
def HuffLensWrongFalsely : Prop := huffLensRow.holds Try.pinned (OpenSpec.ofChange huffLensWrong)

/-- 'quipukeep.HuffBest': WHATEVER THE INPUT: true; the input reads as it did. -/
def huffBestSpec : ChangeSpec := { name := "huffBest", fn := fun _ => fun
  | [d1, d2] => { results := [.lit (.bool true)], args := [d1, d2] }
  | _ => none }
def huffBestRow : OpenClaim := { program := "ytebghhpjpmekkaa", sum := "81407df1b77080d724d5539d070d2ed347b467cbd96185dd0d2ed53cf06c48ab", func := "quipu/quipukeep.HuffBest", spec := "huffBest", unfollowed := true, recurses := true, apart := false }
def HuffBestSaid : Prop := huffBestRow.holds Try.pinned (OpenSpec.ofChange huffBestSpec)

/-- ITS FALSE NEIGHBOUR: 'it returns false'. Refute it at one input. -/
def huffBestWrong : ChangeSpec := { name := "huffBest", fn := fun _ => fun
  | [d1, d2] => { results := [.lit (.bool false)], args := [d1, d2] }
  | _ => none }
def HuffBestWrongFalsely : Prop := huffBestRow.holds Try.pinned (OpenSpec.ofChange huffBestWrong)

/-- 'quipukeep.HuffOrder': WHATEVER THE INPUT: true; the input reads as it did. -/
def huffOrderSpec : ChangeSpec := { name := "huffOrder", fn := fun _ => fun
  | [d] => { results := [.lit (.bool true)], args := [d] }
  | _ => none }
def huffOrderRow : OpenClaim := { program := "ytebghhpjpmekkaa", sum := "81407df1b77080d724d5539d070d2ed347b467cbd96185dd0d2ed53cf06c48ab", func := "quipu/quipukeep.HuffOrder", spec := "huffOrder", unfollowed := true, recurses := true, apart := false }
def HuffOrderSaid : Prop := huffOrderRow.holds Try.pinned (OpenSpec.ofChange huffOrderSpec)

/-- ITS FALSE NEIGHBOUR: 'it returns false'. Refute it at one input. -/
def huffOrderWrong : ChangeSpec := { name := "huffOrder", fn := fun _ => fun
  | [d] => { results := [.lit (.bool false)], args := [d] }
  | _ => none }
def HuffOrderWrongFalsely : Prop := huffOrderRow.holds Try.pinned (OpenSpec.ofChange huffOrderWrong)

/-- 'quipukeep.HuffMerges': WHATEVER THE INPUT: true; the input reads as it did. -/
def huffMergesSpec : ChangeSpec := { name := "huffMerges", fn := fun _ => fun
  | [d] => { results := [.lit (.bool true)], args := [d] }
  | _ => none }
def huffMergesRow : OpenClaim := { program := "ytebghhpjpmekkaa", sum := "81407df1b77080d724d5539d070d2ed347b467cbd96185dd0d2ed53cf06c48ab", func := "quipu/quipukeep.HuffMerges", spec := "huffMerges", unfollowed := true, recurses := true, apart := false }
def HuffMergesSaid : Prop := huffMergesRow.holds Try.pinned (OpenSpec.ofChange huffMergesSpec)

/-- ITS FALSE NEIGHBOUR: 'it returns false'. Refute it at one input. -/
def huffMergesWrong : ChangeSpec := { name := "huffMerges", fn := fun _ => fun
  | [d] => { results := [.lit (.bool false)], args := [d] }
  | _ => none }
def HuffMergesWrongFalsely : Prop := huffMergesRow.holds Try.pinned (OpenSpec.ofChange huffMergesWrong)

/-- 'quipulaw.AlphaCosts': WHATEVER THE INPUT: true; the input reads as it did. -/
def alphaCostsSpec : ChangeSpec := { name := "alphaCosts", fn := fun _ => fun
  | [d] => { results := [.lit (.bool true)], args := [d] }
  | _ => none }
def alphaCostsRow : OpenClaim := { program := "ytebghhpjpmekkaa", sum := "81407df1b77080d724d5539d070d2ed347b467cbd96185dd0d2ed53cf06c48ab", func := "quipu/quipulaw.AlphaCosts", spec := "alphaCosts", unfollowed := true, recurses := true, apart := false }
def AlphaCostsSaid : Prop := alphaCostsRow.holds Try.pinned (OpenSpec.ofChange alphaCostsSpec)

/-- ITS FALSE NEIGHBOUR: 'it returns false'. Refute it at one input. -/
def alphaCostsWrong : ChangeSpec := { name := "alphaCosts", fn := fun _ => fun
  | [d] => { results := [.lit (.bool false)], args := [d] }
  | _ => none }
def AlphaCostsWrongFalsely : Prop := alphaCostsRow.holds Try.pinned (OpenSpec.ofChange alphaCostsWrong)

/- THE SECOND FORM. 'bulk': how many values and letters a reading holds, each counted each time it is reached (what is shared counts as often as it is met; a slice's spare places count too). A statement '..UptoSaid' is the law's where the arguments, and the package variables that the reading takes, are together of bulk at most 1048576: NARROWER than '..Said'. Prove '..Said' where nothing that the law and all that it calls make is longer than what came in: it says more and counts as full. Else prove '..UptoSaid'. A law counts once. -/
mutual
def uptoBulk {H : Type} : DataW H → Nat
  | .lit (.string bytes) => bytes.length + 1
  | .lit _ => 1
  | .nil => 1
  | .ptr d => uptoBulk d + 1
  | .slice elems spare => uptoBulkAll elems + uptoBulkAll spare + 1
  | .agg parts => uptoBulkAll parts + 1
  | .iface _ d => uptoBulk d + 1
  | .map entries => uptoBulkEntries entries + 1
  | .held _ => 1
def uptoBulkAll {H : Type} : List (DataW H) → Nat
  | [] => 0
  | d :: r => uptoBulk d + uptoBulkAll r
def uptoBulkEntries {H : Type} : List (Lit × DataW H) → Nat
  | [] => 0
  | x :: r => uptoBulkEntry x + uptoBulkEntries r
def uptoBulkEntry {H : Type} : Lit × DataW H → Nat
  | (.string bytes, d) => bytes.length + uptoBulk d + 1
  | (_, d) => uptoBulk d + 1
 end
def uptoSmall : (H : Type) → List (DataW H) → Bool := fun _ ds => decide (uptoBulkAll ds ≤ 1048576)
def OpenSpec.upto (s : _root_.Go.ChangeSpec) : _root_.Go.OpenSpec := { _root_.Go.OpenSpec.ofChange s with cond := some uptoSmall }

/-- 'quipulaw.HuffCosts', WHERE WHAT IT READS IS OF BULK AT MOST 1048576: true; the input reads as it did. -/
def huffCostsUptoRow : OpenClaim := { program := "ytebghhpjpmekkaa", sum := "81407df1b77080d724d5539d070d2ed347b467cbd96185dd0d2ed53cf06c48ab", func := "quipu/quipulaw.HuffCosts", spec := "huffCosts", unfollowed := true, recurses := true, apart := false, narrowed := true }
def HuffCostsUptoSaid : Prop := huffCostsUptoRow.holds Try.pinned (OpenSpec.upto huffCostsSpec)

/-- 'quipulaw.HuffLens', WHERE WHAT IT READS IS OF BULK AT MOST 1048576: true; the input reads as it did. -/
def huffLensUptoRow : OpenClaim := { program := "ytebghhpjpmekkaa", sum := "81407df1b77080d724d5539d070d2ed347b467cbd96185dd0d2ed53cf06c48ab", func := "quipu/quipulaw.HuffLens", spec := "huffLens", unfollowed := true, recurses := true, apart := false, narrowed := true }
def HuffLensUptoSaid : Prop := huffLensUptoRow.holds Try.pinned (OpenSpec.upto huffLensSpec)

/-- 'quipukeep.HuffBest', WHERE WHAT IT READS IS OF BULK AT MOST 1048576: true; the input reads as it did. -/
def huffBestUptoRow : OpenClaim := { program := "ytebghhpjpmekkaa", sum := "81407df1b77080d724d5539d070d2ed347b467cbd96185dd0d2ed53cf06c48ab", func := "quipu/quipukeep.HuffBest", spec := "huffBest", unfollowed := true, recurses := true, apart := false, narrowed := true }
def HuffBestUptoSaid : Prop := huffBestUptoRow.holds Try.pinned (OpenSpec.upto huffBestSpec)

/-- 'quipukeep.HuffOrder', WHERE WHAT IT READS IS OF BULK AT MOST 1048576: true; the input reads as it did. -/
def huffOrderUptoRow : OpenClaim := { program := "ytebghhpjpmekkaa", sum := "81407df1b77080d724d5539d070d2ed347b467cbd96185dd0d2ed53cf06c48ab", func := "quipu/quipukeep.HuffOrder", spec := "huffOrder", unfollowed := true, recurses := true, apart := false, narrowed := true }
def HuffOrderUptoSaid : Prop := huffOrderUptoRow.holds Try.pinned (OpenSpec.upto huffOrderSpec)

/-- 'quipukeep.HuffMerges', WHERE WHAT IT READS IS OF BULK AT MOST 1048576: true; the input reads as it did. -/
def huffMergesUptoRow : OpenClaim := { program := "ytebghhpjpmekkaa", sum := "81407df1b77080d724d5539d070d2ed347b467cbd96185dd0d2ed53cf06c48ab", func := "quipu/quipukeep.HuffMerges", spec := "huffMerges", unfollowed := true, recurses := true, apart := false, narrowed := true }
def HuffMergesUptoSaid : Prop := huffMergesUptoRow.holds Try.pinned (OpenSpec.upto huffMergesSpec)

/-- 'quipulaw.AlphaCosts', WHERE WHAT IT READS IS OF BULK AT MOST 1048576: true; the input reads as it did. -/
def alphaCostsUptoRow : OpenClaim := { program := "ytebghhpjpmekkaa", sum := "81407df1b77080d724d5539d070d2ed347b467cbd96185dd0d2ed53cf06c48ab", func := "quipu/quipulaw.AlphaCosts", spec := "alphaCosts", unfollowed := true, recurses := true, apart := false, narrowed := true }
def AlphaCostsUptoSaid : Prop := alphaCostsUptoRow.holds Try.pinned (OpenSpec.upto alphaCostsSpec)

end Rows
end Go.Proofs.Ytebghhpjpmekkaa
