/-
  No cell of these rows narrows 'for every input' (looked for: loops, veiled, ifaces, maps, wideKeys, modest, calm, conditions, laid).
  DERIVED. THE GIVEN ROWS OF THIS SEAT. 6 by the template 'for every input the law returns true; each argument reads behind the call as it read before'; 0 by the template 'total and deterministic' (their statements: YtkccdhidmihekaaTotals.lean).
  GIVEN WITH THE SEED: the statements are not yours to turn. If you find one false, say at which input.
  Laid BY PROGRAM, IN A SANDBOX (cutbox-rows.mjs): the forced cells as the released guide's own fill.sh prints them over the translation d8f06510fed5c082… (all of the seat's roots in one cut). By AI agents, Wed Nov 11 2026. No macro, syntax, notation, axiom, sorry.
-/
import Derived.Test.YtkccdhidmihekaaChecked
import GoSem.Claim
import GoSem.ClaimJoined
import GoSem.ClaimMapViews
import Derived.JoinedTies
import Derived.KernelRfl
namespace Go.Proofs.Ytkccdhidmihekaa
/- THE CELL 'sum', in the pinned program and in every row, IS THE sha256 OF THE DUMP (.gsa) THAT YtkccdhidmihekaaProg.lean LOADS. Nothing in Lean hashes anything: it is a label: what it is worth is what the hold of that sum in a sandbox is worth. -/
noncomputable def Try.pinned : Pinned := { name := "ytkccdhidmihekaa", sum := "d8f06510fed5c08248b8123f69244f2067115397011449c9ea9fc3d2d3a8a56d", checked := Try.checked }
namespace Rows
def none {H : Type} : Left H := { results := [], args := [] }

/-- 'quipulaw.TurnTells': WHATEVER THE INPUT: true; the input reads as it did. -/
def turnTellsSpec : ChangeSpec := { name := "turnTells", fn := fun _ => fun
  | [d] => { results := [.lit (.bool true)], args := [d] }
  | _ => none }
def turnTellsRow : OpenClaim := { program := "ytkccdhidmihekaa", sum := "d8f06510fed5c08248b8123f69244f2067115397011449c9ea9fc3d2d3a8a56d", func := "quipu/quipulaw.TurnTells", spec := "turnTells", inPlace := ["internal/bytealg.Compare"], unfollowed := true, recurses := true, apart := false }
def TurnTellsSaid : Prop := turnTellsRow.holds Try.pinned (OpenSpec.ofChange turnTellsSpec)

/-- ITS FALSE NEIGHBOUR: 'it returns false'. Refute it at one input. -/
def turnTellsWrong : ChangeSpec := { name := "turnTells", fn := fun _ => fun
  | [d] => { results := [.lit (.bool false)], args := [d] }
  | _ => none }
def TurnTellsWrongFalsely : Prop := turnTellsRow.holds Try.pinned (OpenSpec.ofChange turnTellsWrong)

/-- 'quipulaw.TurnBacks': WHATEVER THE INPUT: true; the input reads as it did. -/
def turnBacksSpec : ChangeSpec := { name := "turnBacks", fn := fun _ => fun
  | [d1, d2] => { results := [.lit (.bool true)], args := [d1, d2] }
  | _ => none }
def turnBacksRow : OpenClaim := { program := "ytkccdhidmihekaa", sum := "d8f06510fed5c08248b8123f69244f2067115397011449c9ea9fc3d2d3a8a56d", func := "quipu/quipulaw.TurnBacks", spec := "turnBacks", inPlace := ["internal/bytealg.Compare"], unfollowed := true, recurses := true, apart := false }
def TurnBacksSaid : Prop := turnBacksRow.holds Try.pinned (OpenSpec.ofChange turnBacksSpec)

/-- ITS FALSE NEIGHBOUR: 'it returns false'. Refute it at one input. -/
def turnBacksWrong : ChangeSpec := { name := "turnBacks", fn := fun _ => fun
  | [d1, d2] => { results := [.lit (.bool false)], args := [d1, d2] }
  | _ => none }
def TurnBacksWrongFalsely : Prop := turnBacksRow.holds Try.pinned (OpenSpec.ofChange turnBacksWrong)

/-- 'quipulaw.TurnFronts': WHATEVER THE INPUT: true; the input reads as it did. -/
def turnFrontsSpec : ChangeSpec := { name := "turnFronts", fn := fun _ => fun
  | [d] => { results := [.lit (.bool true)], args := [d] }
  | _ => none }
def turnFrontsRow : OpenClaim := { program := "ytkccdhidmihekaa", sum := "d8f06510fed5c08248b8123f69244f2067115397011449c9ea9fc3d2d3a8a56d", func := "quipu/quipulaw.TurnFronts", spec := "turnFronts", inPlace := ["internal/bytealg.IndexByte"], apart := false }
def TurnFrontsSaid : Prop := turnFrontsRow.holds Try.pinned (OpenSpec.ofChange turnFrontsSpec)

/-- ITS FALSE NEIGHBOUR: 'it returns false'. Refute it at one input. -/
def turnFrontsWrong : ChangeSpec := { name := "turnFronts", fn := fun _ => fun
  | [d] => { results := [.lit (.bool false)], args := [d] }
  | _ => none }
def TurnFrontsWrongFalsely : Prop := turnFrontsRow.holds Try.pinned (OpenSpec.ofChange turnFrontsWrong)

/-- 'quipulaw.TurnUnfronts': WHATEVER THE INPUT: true; the input reads as it did. -/
def turnUnfrontsSpec : ChangeSpec := { name := "turnUnfronts", fn := fun _ => fun
  | [d] => { results := [.lit (.bool true)], args := [d] }
  | _ => none }
def turnUnfrontsRow : OpenClaim := { program := "ytkccdhidmihekaa", sum := "d8f06510fed5c08248b8123f69244f2067115397011449c9ea9fc3d2d3a8a56d", func := "quipu/quipulaw.TurnUnfronts", spec := "turnUnfronts", unfollowed := true, recurses := true, apart := false }
def TurnUnfrontsSaid : Prop := turnUnfrontsRow.holds Try.pinned (OpenSpec.ofChange turnUnfrontsSpec)

/-- ITS FALSE NEIGHBOUR: 'it returns false'. Refute it at one input. -/
def turnUnfrontsWrong : ChangeSpec := { name := "turnUnfronts", fn := fun _ => fun
  | [d] => { results := [.lit (.bool false)], args := [d] }
  | _ => none }
def TurnUnfrontsWrongFalsely : Prop := turnUnfrontsRow.holds Try.pinned (OpenSpec.ofChange turnUnfrontsWrong)

/-- 'quipukeep.TurnBack': WHATEVER THE INPUT: true; the input reads as it did. -/
def turnBackSpec : ChangeSpec := { name := "turnBack", fn := fun _ => fun
  | [d] => { results := [.lit (.bool true)], args := [d] }
  | _ => none }
def turnBackRow : OpenClaim := { program := "ytkccdhidmihekaa", sum := "d8f06510fed5c08248b8123f69244f2067115397011449c9ea9fc3d2d3a8a56d", func := "quipu/quipukeep.TurnBack", spec := "turnBack", inPlace := ["internal/bytealg.Compare"], unfollowed := true, recurses := true, apart := false }
def TurnBackSaid : Prop := turnBackRow.holds Try.pinned (OpenSpec.ofChange turnBackSpec)

/-- ITS FALSE NEIGHBOUR: 'it returns false'. Refute it at one input. -/
def turnBackWrong : ChangeSpec := { name := "turnBack", fn := fun _ => fun
  | [d] => { results := [.lit (.bool false)], args := [d] }
  | _ => none }
def TurnBackWrongFalsely : Prop := turnBackRow.holds Try.pinned (OpenSpec.ofChange turnBackWrong)

/-- 'quipukeep.TurnSame': WHATEVER THE INPUT: true; the input reads as it did. -/
def turnSameSpec : ChangeSpec := { name := "turnSame", fn := fun _ => fun
  | [d1, d2] => { results := [.lit (.bool true)], args := [d1, d2] }
  | _ => none }
def turnSameRow : OpenClaim := { program := "ytkccdhidmihekaa", sum := "d8f06510fed5c08248b8123f69244f2067115397011449c9ea9fc3d2d3a8a56d", func := "quipu/quipukeep.TurnSame", spec := "turnSame", inPlace := ["internal/bytealg.Compare"], unfollowed := true, recurses := true, apart := false }
def TurnSameSaid : Prop := turnSameRow.holds Try.pinned (OpenSpec.ofChange turnSameSpec)

/-- ITS FALSE NEIGHBOUR: 'it returns false'. Refute it at one input. -/
def turnSameWrong : ChangeSpec := { name := "turnSame", fn := fun _ => fun
  | [d1, d2] => { results := [.lit (.bool false)], args := [d1, d2] }
  | _ => none }
def TurnSameWrongFalsely : Prop := turnSameRow.holds Try.pinned (OpenSpec.ofChange turnSameWrong)

/- THE SECOND FORM. 'bulk': how many values and letters a reading holds, each counted each time it is reached (what is shared counts as often as it is met; a slice's spare places count too). A statement '..UptoSaid' is the law's where the arguments, and the package variables that the reading takes, are together of bulk at most 1048576: NARROWER than '..Said'. Prove '..Said' where nothing that the law and all that it calls make is longer than what came in: it says more and counts as full. Else prove '..UptoSaid'. A law counts once. -/
mutual
def uptoBulk {H : Type} : DataW H → Nat
  | .lit (.string bytes) => bytes.length + 1
  | .lit _ => 1
  | .nil => 1
  | .ptr d => uptoBulk d + 1
  | .slice elems spare => uptoBulkAll elems + uptoBulkAll spare + 1
  | .agg parts => uptoBulkAll parts + 1
  | .iface _ d => uptoBulk d + 1
  | .map entries => uptoBulkEntries entries + 1
  | .held _ => 1
def uptoBulkAll {H : Type} : List (DataW H) → Nat
  | [] => 0
  | d :: r => uptoBulk d + uptoBulkAll r
def uptoBulkEntries {H : Type} : List (Lit × DataW H) → Nat
  | [] => 0
  | x :: r => uptoBulkEntry x + uptoBulkEntries r
def uptoBulkEntry {H : Type} : Lit × DataW H → Nat
  | (.string bytes, d) => bytes.length + uptoBulk d + 1
  | (_, d) => uptoBulk d + 1
 end
def uptoSmall : (H : Type) → List (DataW H) → Bool := fun _ ds => decide (uptoBulkAll ds ≤ 1048576)
def OpenSpec.upto (s : _root_.Go.ChangeSpec) : _root_.Go.OpenSpec := { _root_.Go.OpenSpec.ofChange s with cond := some uptoSmall }

/-- 'quipulaw.TurnTells', WHERE WHAT IT READS IS OF BULK AT MOST 1048576: true; the input reads as it did. -/
def turnTellsUptoRow : OpenClaim := { program := "ytkccdhidmihekaa", sum := "d8f06510fed5c08248b8123f69244f2067115397011449c9ea9fc3d2d3a8a56d", func := "quipu/quipulaw.TurnTells", spec := "turnTells", inPlace := ["internal/bytealg.Compare"], unfollowed := true, recurses := true, apart := false, narrowed := true }
def TurnTellsUptoSaid : Prop := turnTellsUptoRow.holds Try.pinned (OpenSpec.upto turnTellsSpec)

/-- 'quipulaw.TurnBacks', WHERE WHAT IT READS IS OF BULK AT MOST 1048576: true; the input reads as it did. -/
def turnBacksUptoRow : OpenClaim := { program := "ytkccdhidmihekaa", sum := "d8f06510fed5c08248b8123f69244f2067115397011449c9ea9fc3d2d3a8a56d", func := "quipu/quipulaw.TurnBacks", spec := "turnBacks", inPlace := ["internal/bytealg.Compare"], unfollowed := true, recurses := true, apart := false, narrowed := true }
def TurnBacksUptoSaid : Prop := turnBacksUptoRow.holds Try.pinned (OpenSpec.upto turnBacksSpec)

/-- 'quipulaw.TurnFronts', WHERE WHAT IT READS IS OF BULK AT MOST 1048576: true; the input reads as it did. -/
def turnFrontsUptoRow : OpenClaim := { program := "ytkccdhidmihekaa", sum := "d8f06510fed5c08248b8123f69244f2067115397011449c9ea9fc3d2d3a8a56d", func := "quipu/quipulaw.TurnFronts", spec := "turnFronts", inPlace := ["internal/bytealg.IndexByte"], apart := false, narrowed := true }
def TurnFrontsUptoSaid : Prop := turnFrontsUptoRow.holds Try.pinned (OpenSpec.upto turnFrontsSpec)

/-- 'quipulaw.TurnUnfronts', WHERE WHAT IT READS IS OF BULK AT MOST 1048576: true; the input reads as it did. -/
def turnUnfrontsUptoRow : OpenClaim := { program := "ytkccdhidmihekaa", sum := "d8f06510fed5c08248b8123f69244f2067115397011449c9ea9fc3d2d3a8a56d", func := "quipu/quipulaw.TurnUnfronts", spec := "turnUnfronts", unfollowed := true, recurses := true, apart := false, narrowed := true }
def TurnUnfrontsUptoSaid : Prop := turnUnfrontsUptoRow.holds Try.pinned (OpenSpec.upto turnUnfrontsSpec)

/-- 'quipukeep.TurnBack', WHERE WHAT IT READS IS OF BULK AT MOST 1048576: true; the input reads as it did. -/
def turnBackUptoRow : OpenClaim := { program := "ytkccdhidmihekaa", sum := "d8f06510fed5c08248b8123f69244f2067115397011449c9ea9fc3d2d3a8a56d", func := "quipu/quipukeep.TurnBack", spec := "turnBack", inPlace := ["internal/bytealg.Compare"], unfollowed := true, recurses := true, apart := false, narrowed := true }
def TurnBackUptoSaid : Prop := turnBackUptoRow.holds Try.pinned (OpenSpec.upto turnBackSpec)

/-- 'quipukeep.TurnSame', WHERE WHAT IT READS IS OF BULK AT MOST 1048576: true; the input reads as it did. -/
def turnSameUptoRow : OpenClaim := { program := "ytkccdhidmihekaa", sum := "d8f06510fed5c08248b8123f69244f2067115397011449c9ea9fc3d2d3a8a56d", func := "quipu/quipukeep.TurnSame", spec := "turnSame", inPlace := ["internal/bytealg.Compare"], unfollowed := true, recurses := true, apart := false, narrowed := true }
def TurnSameUptoSaid : Prop := turnSameUptoRow.holds Try.pinned (OpenSpec.upto turnSameSpec)

end Rows
end Go.Proofs.Ytkccdhidmihekaa
