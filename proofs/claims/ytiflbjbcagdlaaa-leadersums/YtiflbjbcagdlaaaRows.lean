/-
  No cell of these rows narrows 'for every input' (looked for: loops, veiled, ifaces, maps, wideKeys, modest, calm, conditions, laid).
  DERIVED. THE GIVEN ROWS OF THIS SEAT. 5 by the template 'for every input the law returns true; each argument reads behind the call as it read before'; 0 by the template 'total and deterministic' (their statements: YtiflbjbcagdlaaaTotals.lean).
  GIVEN WITH THE SEED: the statements are not yours to turn. If you find one false, say at which input.
  Laid BY PROGRAM, IN A SANDBOX (cutbox-rows.mjs): the forced cells as the released guide's own fill.sh prints them over the translation 6fea4137b22acc8d… (all of the seat's roots in one cut). By AI agents, Wed Nov 11 2026. No macro, syntax, notation, axiom, sorry.
-/
import Derived.Test.YtiflbjbcagdlaaaChecked
import GoSem.Claim
import GoSem.ClaimJoined
import GoSem.ClaimMapViews
import Derived.JoinedTies
import Derived.KernelRfl
namespace Go.Proofs.Ytiflbjbcagdlaaa
/- THE CELL 'sum', in the pinned program and in every row, IS THE sha256 OF THE DUMP (.gsa) THAT YtiflbjbcagdlaaaProg.lean LOADS. Nothing in Lean hashes anything: it is a label: what it is worth is what the hold of that sum in a sandbox is worth. -/
noncomputable def Try.pinned : Pinned := { name := "ytiflbjbcagdlaaa", sum := "6fea4137b22acc8d4761f4b956f105dd0bf7d97d24440779e16ae9d00f4a0e41", checked := Try.checked }
namespace Rows
def none {H : Type} : Left H := { results := [], args := [] }

/-- 'quipulaw.LeaderMarks': WHATEVER THE INPUT: true; the input reads as it did. -/
def leaderMarksSpec : ChangeSpec := { name := "leaderMarks", fn := fun _ => fun
  | [d1, d2, d3] => { results := [.lit (.bool true)], args := [d1, d2, d3] }
  | _ => none }
def leaderMarksRow : OpenClaim := { program := "ytiflbjbcagdlaaa", sum := "6fea4137b22acc8d4761f4b956f105dd0bf7d97d24440779e16ae9d00f4a0e41", func := "quipu/quipulaw.LeaderMarks", spec := "leaderMarks", apart := false }
def LeaderMarksSaid : Prop := leaderMarksRow.holds Try.pinned (OpenSpec.ofChange leaderMarksSpec)

/-- ITS FALSE NEIGHBOUR: 'it returns false'. Refute it at one input. -/
def leaderMarksWrong : ChangeSpec := { name := "leaderMarks", fn := fun _ => fun
  | [d1, d2, d3] => { results := [.lit (.bool false)], args := [d1, d2, d3] }
  | _ => none }
def LeaderMarksWrongFalsely : Prop := leaderMarksRow.holds Try.pinned (OpenSpec.ofChange leaderMarksWrong)

/-- 'quipulaw.LeaderTells': WHATEVER THE INPUT: true; the input reads as it did. -/
def leaderTellsSpec : ChangeSpec := { name := "leaderTells", fn := fun _ => fun
  | [d1, d2, d3] => { results := [.lit (.bool true)], args := [d1, d2, d3] }
  | _ => none }
def leaderTellsRow : OpenClaim := { program := "ytiflbjbcagdlaaa", sum := "6fea4137b22acc8d4761f4b956f105dd0bf7d97d24440779e16ae9d00f4a0e41", func := "quipu/quipulaw.LeaderTells", spec := "leaderTells", apart := false }
def LeaderTellsSaid : Prop := leaderTellsRow.holds Try.pinned (OpenSpec.ofChange leaderTellsSpec)

/-- ITS FALSE NEIGHBOUR: 'it returns false'. Refute it at one input. -/
def leaderTellsWrong : ChangeSpec := { name := "leaderTells", fn := fun _ => fun
  | [d1, d2, d3] => { results := [.lit (.bool false)], args := [d1, d2, d3] }
  | _ => none }
def LeaderTellsWrongFalsely : Prop := leaderTellsRow.holds Try.pinned (OpenSpec.ofChange leaderTellsWrong)

/-- 'quipulaw.LeaderFixes': WHATEVER THE INPUT: true; the input reads as it did. -/
def leaderFixesSpec : ChangeSpec := { name := "leaderFixes", fn := fun _ => fun
  | [d1, d2, d3] => { results := [.lit (.bool true)], args := [d1, d2, d3] }
  | _ => none }
def leaderFixesRow : OpenClaim := { program := "ytiflbjbcagdlaaa", sum := "6fea4137b22acc8d4761f4b956f105dd0bf7d97d24440779e16ae9d00f4a0e41", func := "quipu/quipulaw.LeaderFixes", spec := "leaderFixes", apart := false }
def LeaderFixesSaid : Prop := leaderFixesRow.holds Try.pinned (OpenSpec.ofChange leaderFixesSpec)

/-- ITS FALSE NEIGHBOUR: 'it returns false'. Refute it at one input. -/
def leaderFixesWrong : ChangeSpec := { name := "leaderFixes", fn := fun _ => fun
  | [d1, d2, d3] => { results := [.lit (.bool false)], args := [d1, d2, d3] }
  | _ => none }
def LeaderFixesWrongFalsely : Prop := leaderFixesRow.holds Try.pinned (OpenSpec.ofChange leaderFixesWrong)

/-- 'quipukeep.LeaderNear': WHATEVER THE INPUT: true; the input reads as it did. -/
def leaderNearSpec : ChangeSpec := { name := "leaderNear", fn := fun _ => fun
  | [d1, d2, d3, d4] => { results := [.lit (.bool true)], args := [d1, d2, d3, d4] }
  | _ => none }
def leaderNearRow : OpenClaim := { program := "ytiflbjbcagdlaaa", sum := "6fea4137b22acc8d4761f4b956f105dd0bf7d97d24440779e16ae9d00f4a0e41", func := "quipu/quipukeep.LeaderNear", spec := "leaderNear", apart := false }
def LeaderNearSaid : Prop := leaderNearRow.holds Try.pinned (OpenSpec.ofChange leaderNearSpec)

/-- ITS FALSE NEIGHBOUR: 'it returns false'. Refute it at one input. -/
def leaderNearWrong : ChangeSpec := { name := "leaderNear", fn := fun _ => fun
  | [d1, d2, d3, d4] => { results := [.lit (.bool false)], args := [d1, d2, d3, d4] }
  | _ => none }
def LeaderNearWrongFalsely : Prop := leaderNearRow.holds Try.pinned (OpenSpec.ofChange leaderNearWrong)

/-- 'quipukeep.LeaderSums': WHATEVER THE INPUT: true; the input reads as it did. -/
def leaderSumsSpec : ChangeSpec := { name := "leaderSums", fn := fun _ => fun
  | [d1, d2, d3, d4] => { results := [.lit (.bool true)], args := [d1, d2, d3, d4] }
  | _ => none }
def leaderSumsRow : OpenClaim := { program := "ytiflbjbcagdlaaa", sum := "6fea4137b22acc8d4761f4b956f105dd0bf7d97d24440779e16ae9d00f4a0e41", func := "quipu/quipukeep.LeaderSums", spec := "leaderSums", apart := false }
def LeaderSumsSaid : Prop := leaderSumsRow.holds Try.pinned (OpenSpec.ofChange leaderSumsSpec)

/-- ITS FALSE NEIGHBOUR: 'it returns false'. Refute it at one input. -/
def leaderSumsWrong : ChangeSpec := { name := "leaderSums", fn := fun _ => fun
  | [d1, d2, d3, d4] => { results := [.lit (.bool false)], args := [d1, d2, d3, d4] }
  | _ => none }
def LeaderSumsWrongFalsely : Prop := leaderSumsRow.holds Try.pinned (OpenSpec.ofChange leaderSumsWrong)

/- THE SECOND FORM. 'bulk': how many values and letters a reading holds, each counted each time it is reached (what is shared counts as often as it is met; a slice's spare places count too). A statement '..UptoSaid' is the law's where the arguments, and the package variables that the reading takes, are together of bulk at most 1048576: NARROWER than '..Said'. Prove '..Said' where nothing that the law and all that it calls make is longer than what came in: it says more and counts as full. Else prove '..UptoSaid'. A law counts once. -/
mutual
def uptoBulk {H : Type} : DataW H → Nat
  | .lit (.string bytes) => bytes.length + 1
  | .lit _ => 1
  | .nil => 1
  | .ptr d => uptoBulk d + 1
  | .slice elems spare => uptoBulkAll elems + uptoBulkAll spare + 1
  | .agg parts => uptoBulkAll parts + 1
  | .iface _ d => uptoBulk d + 1
  | .map entries => uptoBulkEntries entries + 1
  | .held _ => 1
def uptoBulkAll {H : Type} : List (DataW H) → Nat
  | [] => 0
  | d :: r => uptoBulk d + uptoBulkAll r
def uptoBulkEntries {H : Type} : List (Lit × DataW H) → Nat
  | [] => 0
  | x :: r => uptoBulkEntry x + uptoBulkEntries r
def uptoBulkEntry {H : Type} : Lit × DataW H → Nat
  | (.string bytes, d) => bytes.length + uptoBulk d + 1
  | (_, d) => uptoBulk d + 1
 end
def uptoSmall : (H : Type) → List (DataW H) → Bool := fun _ ds => decide (uptoBulkAll ds ≤ 1048576)
def OpenSpec.upto (s : _root_.Go.ChangeSpec) : _root_.Go.OpenSpec := { _root_.Go.OpenSpec.ofChange s with cond := some uptoSmall }

/-- 'quipulaw.LeaderMarks', WHERE WHAT IT READS IS OF BULK AT MOST 1048576: true; the input reads as it did. -/
def leaderMarksUptoRow : OpenClaim := { program := "ytiflbjbcagdlaaa", sum := "6fea4137b22acc8d4761f4b956f105dd0bf7d97d24440779e16ae9d00f4a0e41", func := "quipu/quipulaw.LeaderMarks", spec := "leaderMarks", apart := false, narrowed := true }
def LeaderMarksUptoSaid : Prop := leaderMarksUptoRow.holds Try.pinned (OpenSpec.upto leaderMarksSpec)

/-- 'quipulaw.LeaderTells', WHERE WHAT IT READS IS OF BULK AT MOST 1048576: true; the input reads as it did. -/
def leaderTellsUptoRow : OpenClaim := { program := "ytiflbjbcagdlaaa", sum := "6fea4137b22acc8d4761f4b956f105dd0bf7d97d24440779e16ae9d00f4a0e41", func := "quipu/quipulaw.LeaderTells", spec := "leaderTells", apart := false, narrowed := true }
def LeaderTellsUptoSaid : Prop := leaderTellsUptoRow.holds Try.pinned (OpenSpec.upto leaderTellsSpec)

/-- 'quipulaw.LeaderFixes', WHERE WHAT IT READS IS OF BULK AT MOST 1048576: true; the input reads as it did. -/
def leaderFixesUptoRow : OpenClaim := { program := "ytiflbjbcagdlaaa", sum := "6fea4137b22acc8d4761f4b956f105dd0bf7d97d24440779e16ae9d00f4a0e41", func := "quipu/quipulaw.LeaderFixes", spec := "leaderFixes", apart := false, narrowed := true }
def LeaderFixesUptoSaid : Prop := leaderFixesUptoRow.holds Try.pinned (OpenSpec.upto leaderFixesSpec)

/-- 'quipukeep.LeaderNear', WHERE WHAT IT READS IS OF BULK AT MOST 1048576: true; the input reads as it did. -/
def leaderNearUptoRow : OpenClaim := { program := "ytiflbjbcagdlaaa", sum := "6fea4137b22acc8d4761f4b956f105dd0bf7d97d24440779e16ae9d00f4a0e41", func := "quipu/quipukeep.LeaderNear", spec := "leaderNear", apart := false, narrowed := true }
def LeaderNearUptoSaid : Prop := leaderNearUptoRow.holds Try.pinned (OpenSpec.upto leaderNearSpec)

/-- 'quipukeep.LeaderSums', WHERE WHAT IT READS IS OF BULK AT MOST 1048576: true; the input reads as it did. -/
def leaderSumsUptoRow : OpenClaim := { program := "ytiflbjbcagdlaaa", sum := "6fea4137b22acc8d4761f4b956f105dd0bf7d97d24440779e16ae9d00f4a0e41", func := "quipu/quipukeep.LeaderSums", spec := "leaderSums", apart := false, narrowed := true }
def LeaderSumsUptoSaid : Prop := leaderSumsUptoRow.holds Try.pinned (OpenSpec.upto leaderSumsSpec)

end Rows
end Go.Proofs.Ytiflbjbcagdlaaa
