/-
  No cell of these rows narrows 'for every input' (looked for: loops, veiled, ifaces, maps, wideKeys, modest, calm, conditions, laid).
  DERIVED. THE GIVEN ROWS OF THIS SEAT. 6 by the template 'for every input the law returns true; each argument reads behind the call as it read before'; 0 by the template 'total and deterministic' (their statements: YtofdinddloejbaaTotals.lean).
  GIVEN WITH THE SEED: the statements are not yours to turn. If you find one false, say at which input.
  Laid BY PROGRAM, IN A SANDBOX (cutbox-rows.mjs): the forced cells as the released guide's own fill.sh prints them over the translation 176e3f1e49dec7d3… (all of the seat's roots in one cut). By AI agents, Wed Nov 11 2026. No macro, syntax, notation, axiom, sorry.
-/
import Derived.Test.YtofdinddloejbaaChecked
import GoSem.Claim
import GoSem.ClaimJoined
import GoSem.ClaimMapViews
import Derived.JoinedTies
import Derived.KernelRfl
namespace Go.Proofs.Ytofdinddloejbaa
/- THE CELL 'sum', in the pinned program and in every row, IS THE sha256 OF THE DUMP (.gsa) THAT YtofdinddloejbaaProg.lean LOADS. Nothing in Lean hashes anything: it is a label: what it is worth is what the hold of that sum in a sandbox is worth. -/
noncomputable def Try.pinned : Pinned := { name := "ytofdinddloejbaa", sum := "176e3f1e49dec7d301ff86390ae8f4df39031b0619eb44691125d495da0eed20", checked := Try.checked }
namespace Rows
def none {H : Type} : Left H := { results := [], args := [] }

/-- 'quipulaw.DropSums': WHATEVER THE INPUT: true; the input reads as it did. -/
def dropSumsSpec : ChangeSpec := { name := "dropSums", fn := fun _ => fun
  | [d] => { results := [.lit (.bool true)], args := [d] }
  | _ => none }
def dropSumsRow : OpenClaim := { program := "ytofdinddloejbaa", sum := "176e3f1e49dec7d301ff86390ae8f4df39031b0619eb44691125d495da0eed20", func := "quipu/quipulaw.DropSums", spec := "dropSums", apart := false }
def DropSumsSaid : Prop := dropSumsRow.holds Try.pinned (OpenSpec.ofChange dropSumsSpec)

/-- ITS FALSE NEIGHBOUR: 'it returns false'. Refute it at one input. -/
def dropSumsWrong : ChangeSpec := { name := "dropSums", fn := fun _ => fun
  | [d] => { results := [.lit (.bool false)], args := [d] }
  | _ => none }
def DropSumsWrongFalsely : Prop := dropSumsRow.holds Try.pinned (OpenSpec.ofChange dropSumsWrong)

/-- 'quipulaw.DropWords': WHATEVER THE INPUT: true; the input reads as it did. -/
def dropWordsSpec : ChangeSpec := { name := "dropWords", fn := fun _ => fun
  | [d1, d2] => { results := [.lit (.bool true)], args := [d1, d2] }
  | _ => none }
def dropWordsRow : OpenClaim := { program := "ytofdinddloejbaa", sum := "176e3f1e49dec7d301ff86390ae8f4df39031b0619eb44691125d495da0eed20", func := "quipu/quipulaw.DropWords", spec := "dropWords", apart := false }
def DropWordsSaid : Prop := dropWordsRow.holds Try.pinned (OpenSpec.ofChange dropWordsSpec)

/-- ITS FALSE NEIGHBOUR: 'it returns false'. Refute it at one input. -/
def dropWordsWrong : ChangeSpec := { name := "dropWords", fn := fun _ => fun
  | [d1, d2] => { results := [.lit (.bool false)], args := [d1, d2] }
  | _ => none }
def DropWordsWrongFalsely : Prop := dropWordsRow.holds Try.pinned (OpenSpec.ofChange dropWordsWrong)

/-- 'quipulaw.DropFills': WHATEVER THE INPUT: true; the input reads as it did. -/
def dropFillsSpec : ChangeSpec := { name := "dropFills", fn := fun _ => fun
  | [d1, d2] => { results := [.lit (.bool true)], args := [d1, d2] }
  | _ => none }
def dropFillsRow : OpenClaim := { program := "ytofdinddloejbaa", sum := "176e3f1e49dec7d301ff86390ae8f4df39031b0619eb44691125d495da0eed20", func := "quipu/quipulaw.DropFills", spec := "dropFills", apart := false }
def DropFillsSaid : Prop := dropFillsRow.holds Try.pinned (OpenSpec.ofChange dropFillsSpec)

/-- ITS FALSE NEIGHBOUR: 'it returns false'. Refute it at one input. -/
def dropFillsWrong : ChangeSpec := { name := "dropFills", fn := fun _ => fun
  | [d1, d2] => { results := [.lit (.bool false)], args := [d1, d2] }
  | _ => none }
def DropFillsWrongFalsely : Prop := dropFillsRow.holds Try.pinned (OpenSpec.ofChange dropFillsWrong)

/-- 'quipukeep.DropBack': WHATEVER THE INPUT: true; the input reads as it did. -/
def dropBackSpec : ChangeSpec := { name := "dropBack", fn := fun _ => fun
  | [d1, d2] => { results := [.lit (.bool true)], args := [d1, d2] }
  | _ => none }
def dropBackRow : OpenClaim := { program := "ytofdinddloejbaa", sum := "176e3f1e49dec7d301ff86390ae8f4df39031b0619eb44691125d495da0eed20", func := "quipu/quipukeep.DropBack", spec := "dropBack", apart := false }
def DropBackSaid : Prop := dropBackRow.holds Try.pinned (OpenSpec.ofChange dropBackSpec)

/-- ITS FALSE NEIGHBOUR: 'it returns false'. Refute it at one input. -/
def dropBackWrong : ChangeSpec := { name := "dropBack", fn := fun _ => fun
  | [d1, d2] => { results := [.lit (.bool false)], args := [d1, d2] }
  | _ => none }
def DropBackWrongFalsely : Prop := dropBackRow.holds Try.pinned (OpenSpec.ofChange dropBackWrong)

/-- 'quipukeep.DropShares': WHATEVER THE INPUT: true; the input reads as it did. -/
def dropSharesSpec : ChangeSpec := { name := "dropShares", fn := fun _ => fun
  | [d] => { results := [.lit (.bool true)], args := [d] }
  | _ => none }
def dropSharesRow : OpenClaim := { program := "ytofdinddloejbaa", sum := "176e3f1e49dec7d301ff86390ae8f4df39031b0619eb44691125d495da0eed20", func := "quipu/quipukeep.DropShares", spec := "dropShares", apart := false }
def DropSharesSaid : Prop := dropSharesRow.holds Try.pinned (OpenSpec.ofChange dropSharesSpec)

/-- ITS FALSE NEIGHBOUR: 'it returns false'. Refute it at one input. -/
def dropSharesWrong : ChangeSpec := { name := "dropShares", fn := fun _ => fun
  | [d] => { results := [.lit (.bool false)], args := [d] }
  | _ => none }
def DropSharesWrongFalsely : Prop := dropSharesRow.holds Try.pinned (OpenSpec.ofChange dropSharesWrong)

/-- 'quipukeep.DropApart': WHATEVER THE INPUT: true; the input reads as it did. -/
def dropApartSpec : ChangeSpec := { name := "dropApart", fn := fun _ => fun
  | [d1, d2, d3, d4] => { results := [.lit (.bool true)], args := [d1, d2, d3, d4] }
  | _ => none }
def dropApartRow : OpenClaim := { program := "ytofdinddloejbaa", sum := "176e3f1e49dec7d301ff86390ae8f4df39031b0619eb44691125d495da0eed20", func := "quipu/quipukeep.DropApart", spec := "dropApart", apart := false }
def DropApartSaid : Prop := dropApartRow.holds Try.pinned (OpenSpec.ofChange dropApartSpec)

/-- ITS FALSE NEIGHBOUR: 'it returns false'. Refute it at one input. -/
def dropApartWrong : ChangeSpec := { name := "dropApart", fn := fun _ => fun
  | [d1, d2, d3, d4] => { results := [.lit (.bool false)], args := [d1, d2, d3, d4] }
  | _ => none }
def DropApartWrongFalsely : Prop := dropApartRow.holds Try.pinned (OpenSpec.ofChange dropApartWrong)

/- THE SECOND FORM. 'bulk': how many values and letters a reading holds, each counted each time it is reached (what is shared counts as often as it is met; a slice's spare places count too). A statement '..UptoSaid' is the law's where the arguments, and the package variables that the reading takes, are together of bulk at most 1048576: NARROWER than '..Said'. Prove '..Said' where nothing that the law and all that it calls make is longer than what came in: it says more and counts as full. Else prove '..UptoSaid'. A law counts once. -/
mutual
def uptoBulk {H : Type} : DataW H → Nat
  | .lit (.string bytes) => bytes.length + 1
  | .lit _ => 1
  | .nil => 1
  | .ptr d => uptoBulk d + 1
  | .slice elems spare => uptoBulkAll elems + uptoBulkAll spare + 1
  | .agg parts => uptoBulkAll parts + 1
  | .iface _ d => uptoBulk d + 1
  | .map entries => uptoBulkEntries entries + 1
  | .held _ => 1
def uptoBulkAll {H : Type} : List (DataW H) → Nat
  | [] => 0
  | d :: r => uptoBulk d + uptoBulkAll r
def uptoBulkEntries {H : Type} : List (Lit × DataW H) → Nat
  | [] => 0
  | x :: r => uptoBulkEntry x + uptoBulkEntries r
def uptoBulkEntry {H : Type} : Lit × DataW H → Nat
  | (.string bytes, d) => bytes.length + uptoBulk d + 1
  | (_, d) => uptoBulk d + 1
 end
def uptoSmall : (H : Type) → List (DataW H) → Bool := fun _ ds => decide (uptoBulkAll ds ≤ 1048576)
def OpenSpec.upto (s : _root_.Go.ChangeSpec) : _root_.Go.OpenSpec := { _root_.Go.OpenSpec.ofChange s with cond := some uptoSmall }

/-- 'quipulaw.DropSums', WHERE WHAT IT READS IS OF BULK AT MOST 1048576: true; the input reads as it did. -/
def dropSumsUptoRow : OpenClaim := { program := "ytofdinddloejbaa", sum := "176e3f1e49dec7d301ff86390ae8f4df39031b0619eb44691125d495da0eed20", func := "quipu/quipulaw.DropSums", spec := "dropSums", apart := false, narrowed := true }
def DropSumsUptoSaid : Prop := dropSumsUptoRow.holds Try.pinned (OpenSpec.upto dropSumsSpec)

/-- 'quipulaw.DropWords', WHERE WHAT IT READS IS OF BULK AT MOST 1048576: true; the input reads as it did. -/
def dropWordsUptoRow : OpenClaim := { program := "ytofdinddloejbaa", sum := "176e3f1e49dec7d301ff86390ae8f4df39031b0619eb44691125d495da0eed20", func := "quipu/quipulaw.DropWords", spec := "dropWords", apart := false, narrowed := true }
def DropWordsUptoSaid : Prop := dropWordsUptoRow.holds Try.pinned (OpenSpec.upto dropWordsSpec)

/-- 'quipulaw.DropFills', WHERE WHAT IT READS IS OF BULK AT MOST 1048576: true; the input reads as it did. -/
def dropFillsUptoRow : OpenClaim := { program := "ytofdinddloejbaa", sum := "176e3f1e49dec7d301ff86390ae8f4df39031b0619eb44691125d495da0eed20", func := "quipu/quipulaw.DropFills", spec := "dropFills", apart := false, narrowed := true }
def DropFillsUptoSaid : Prop := dropFillsUptoRow.holds Try.pinned (OpenSpec.upto dropFillsSpec)

/-- 'quipukeep.DropBack', WHERE WHAT IT READS IS OF BULK AT MOST 1048576: true; the input reads as it did. -/
def dropBackUptoRow : OpenClaim := { program := "ytofdinddloejbaa", sum := "176e3f1e49dec7d301ff86390ae8f4df39031b0619eb44691125d495da0eed20", func := "quipu/quipukeep.DropBack", spec := "dropBack", apart := false, narrowed := true }
def DropBackUptoSaid : Prop := dropBackUptoRow.holds Try.pinned (OpenSpec.upto dropBackSpec)

/-- 'quipukeep.DropShares', WHERE WHAT IT READS IS OF BULK AT MOST 1048576: true; the input reads as it did. -/
def dropSharesUptoRow : OpenClaim := { program := "ytofdinddloejbaa", sum := "176e3f1e49dec7d301ff86390ae8f4df39031b0619eb44691125d495da0eed20", func := "quipu/quipukeep.DropShares", spec := "dropShares", apart := false, narrowed := true }
def DropSharesUptoSaid : Prop := dropSharesUptoRow.holds Try.pinned (OpenSpec.upto dropSharesSpec)

/-- 'quipukeep.DropApart', WHERE WHAT IT READS IS OF BULK AT MOST 1048576: true; the input reads as it did. -/
def dropApartUptoRow : OpenClaim := { program := "ytofdinddloejbaa", sum := "176e3f1e49dec7d301ff86390ae8f4df39031b0619eb44691125d495da0eed20", func := "quipu/quipukeep.DropApart", spec := "dropApart", apart := false, narrowed := true }
def DropApartUptoSaid : Prop := dropApartUptoRow.holds Try.pinned (OpenSpec.upto dropApartSpec)

end Rows
end Go.Proofs.Ytofdinddloejbaa
