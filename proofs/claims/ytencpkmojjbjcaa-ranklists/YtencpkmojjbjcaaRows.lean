/-
  No cell of these rows narrows 'for every input' (looked for: loops, veiled, ifaces, maps, wideKeys, modest, calm, conditions, laid).
  DERIVED. THE GIVEN ROWS OF THIS SEAT. 6 by the template 'for every input the law returns true; each argument reads behind the call as it read before'; 0 by the template 'total and deterministic' (their statements: YtencpkmojjbjcaaTotals.lean).
  GIVEN WITH THE SEED: the statements are not yours to turn. If you find one false, say at which input.
  Laid BY PROGRAM, IN A SANDBOX (cutbox-rows.mjs): the forced cells as the released guide's own fill.sh prints them over the translation 78139d58eb8b0421… (all of the seat's roots in one cut). By AI agents, Wed Nov 11 2026. No macro, syntax, notation, axiom, sorry.
-/
import Derived.Test.YtencpkmojjbjcaaChecked
import GoSem.Claim
import GoSem.ClaimJoined
import GoSem.ClaimMapViews
import Derived.JoinedTies
import Derived.KernelRfl
namespace Go.Proofs.Ytencpkmojjbjcaa
/- THE CELL 'sum', in the pinned program and in every row, IS THE sha256 OF THE DUMP (.gsa) THAT YtencpkmojjbjcaaProg.lean LOADS. Nothing in Lean hashes anything: it is a label: what it is worth is what the hold of that sum in a sandbox is worth. -/
noncomputable def Try.pinned : Pinned := { name := "ytencpkmojjbjcaa", sum := "78139d58eb8b042110507fd49e21ff200a3d81d4bbdc71c4e10ba6788e0abca6", checked := Try.checked }
namespace Rows
def none {H : Type} : Left H := { results := [], args := [] }

/-- 'quipulaw.RankManies': WHATEVER THE INPUT: true; the input reads as it did. -/
def rankManiesSpec : ChangeSpec := { name := "rankManies", fn := fun _ => fun
  | [d1, d2] => { results := [.lit (.bool true)], args := [d1, d2] }
  | _ => none }
def rankManiesRow : OpenClaim := { program := "ytencpkmojjbjcaa", sum := "78139d58eb8b042110507fd49e21ff200a3d81d4bbdc71c4e10ba6788e0abca6", func := "quipu/quipulaw.RankManies", spec := "rankManies", apart := false }
def RankManiesSaid : Prop := rankManiesRow.holds Try.pinned (OpenSpec.ofChange rankManiesSpec)

/-- ITS FALSE NEIGHBOUR: 'it returns false'. Refute it at one input. -/
def rankManiesWrong : ChangeSpec := { name := "rankManies", fn := fun _ => fun
  | [d1, d2] => { results := [.lit (.bool false)], args := [d1, d2] }
  | _ => none }
def RankManiesWrongFalsely : Prop := rankManiesRow.holds Try.pinned (OpenSpec.ofChange rankManiesWrong)

/-- 'quipulaw.RankRanks': WHATEVER THE INPUT: true; the input reads as it did. -/
def rankRanksSpec : ChangeSpec := { name := "rankRanks", fn := fun _ => fun
  | [d1, d2] => { results := [.lit (.bool true)], args := [d1, d2] }
  | _ => none }
def rankRanksRow : OpenClaim := { program := "ytencpkmojjbjcaa", sum := "78139d58eb8b042110507fd49e21ff200a3d81d4bbdc71c4e10ba6788e0abca6", func := "quipu/quipulaw.RankRanks", spec := "rankRanks", apart := false }
def RankRanksSaid : Prop := rankRanksRow.holds Try.pinned (OpenSpec.ofChange rankRanksSpec)

/-- ITS FALSE NEIGHBOUR: 'it returns false'. Refute it at one input. -/
def rankRanksWrong : ChangeSpec := { name := "rankRanks", fn := fun _ => fun
  | [d1, d2] => { results := [.lit (.bool false)], args := [d1, d2] }
  | _ => none }
def RankRanksWrongFalsely : Prop := rankRanksRow.holds Try.pinned (OpenSpec.ofChange rankRanksWrong)

/-- 'quipulaw.RankWords': WHATEVER THE INPUT: true; the input reads as it did. -/
def rankWordsSpec : ChangeSpec := { name := "rankWords", fn := fun _ => fun
  | [d1, d2, d3] => { results := [.lit (.bool true)], args := [d1, d2, d3] }
  | _ => none }
def rankWordsRow : OpenClaim := { program := "ytencpkmojjbjcaa", sum := "78139d58eb8b042110507fd49e21ff200a3d81d4bbdc71c4e10ba6788e0abca6", func := "quipu/quipulaw.RankWords", spec := "rankWords", apart := false }
def RankWordsSaid : Prop := rankWordsRow.holds Try.pinned (OpenSpec.ofChange rankWordsSpec)

/-- ITS FALSE NEIGHBOUR: 'it returns false'. Refute it at one input. -/
def rankWordsWrong : ChangeSpec := { name := "rankWords", fn := fun _ => fun
  | [d1, d2, d3] => { results := [.lit (.bool false)], args := [d1, d2, d3] }
  | _ => none }
def RankWordsWrongFalsely : Prop := rankWordsRow.holds Try.pinned (OpenSpec.ofChange rankWordsWrong)

/-- 'quipulaw.RankOrders': WHATEVER THE INPUT: true; the input reads as it did. -/
def rankOrdersSpec : ChangeSpec := { name := "rankOrders", fn := fun _ => fun
  | [d] => { results := [.lit (.bool true)], args := [d] }
  | _ => none }
def rankOrdersRow : OpenClaim := { program := "ytencpkmojjbjcaa", sum := "78139d58eb8b042110507fd49e21ff200a3d81d4bbdc71c4e10ba6788e0abca6", func := "quipu/quipulaw.RankOrders", spec := "rankOrders", apart := false }
def RankOrdersSaid : Prop := rankOrdersRow.holds Try.pinned (OpenSpec.ofChange rankOrdersSpec)

/-- ITS FALSE NEIGHBOUR: 'it returns false'. Refute it at one input. -/
def rankOrdersWrong : ChangeSpec := { name := "rankOrders", fn := fun _ => fun
  | [d] => { results := [.lit (.bool false)], args := [d] }
  | _ => none }
def RankOrdersWrongFalsely : Prop := rankOrdersRow.holds Try.pinned (OpenSpec.ofChange rankOrdersWrong)

/-- 'quipulaw.RankLists': WHATEVER THE INPUT: true; the input reads as it did. -/
def rankListsSpec : ChangeSpec := { name := "rankLists", fn := fun _ => fun
  | [d1, d2] => { results := [.lit (.bool true)], args := [d1, d2] }
  | _ => none }
def rankListsRow : OpenClaim := { program := "ytencpkmojjbjcaa", sum := "78139d58eb8b042110507fd49e21ff200a3d81d4bbdc71c4e10ba6788e0abca6", func := "quipu/quipulaw.RankLists", spec := "rankLists", apart := false }
def RankListsSaid : Prop := rankListsRow.holds Try.pinned (OpenSpec.ofChange rankListsSpec)

/-- ITS FALSE NEIGHBOUR: 'it returns false'. Refute it at one input. -/
def rankListsWrong : ChangeSpec := { name := "rankLists", fn := fun _ => fun
  | [d1, d2] => { results := [.lit (.bool false)], args := [d1, d2] }
  | _ => none }
def RankListsWrongFalsely : Prop := rankListsRow.holds Try.pinned (OpenSpec.ofChange rankListsWrong)

/-- 'quipukeep.RankBack': WHATEVER THE INPUT: true; the input reads as it did. -/
def rankBackSpec : ChangeSpec := { name := "rankBack", fn := fun _ => fun
  | [d1, d2, d3] => { results := [.lit (.bool true)], args := [d1, d2, d3] }
  | _ => none }
def rankBackRow : OpenClaim := { program := "ytencpkmojjbjcaa", sum := "78139d58eb8b042110507fd49e21ff200a3d81d4bbdc71c4e10ba6788e0abca6", func := "quipu/quipukeep.RankBack", spec := "rankBack", apart := false }
def RankBackSaid : Prop := rankBackRow.holds Try.pinned (OpenSpec.ofChange rankBackSpec)

/-- ITS FALSE NEIGHBOUR: 'it returns false'. Refute it at one input. -/
def rankBackWrong : ChangeSpec := { name := "rankBack", fn := fun _ => fun
  | [d1, d2, d3] => { results := [.lit (.bool false)], args := [d1, d2, d3] }
  | _ => none }
def RankBackWrongFalsely : Prop := rankBackRow.holds Try.pinned (OpenSpec.ofChange rankBackWrong)

/- THE SECOND FORM. 'bulk': how many values and letters a reading holds, each counted each time it is reached (what is shared counts as often as it is met; a slice's spare places count too). A statement '..UptoSaid' is the law's where the arguments, and the package variables that the reading takes, are together of bulk at most 1048576: NARROWER than '..Said'. Prove '..Said' where nothing that the law and all that it calls make is longer than what came in: it says more and counts as full. Else prove '..UptoSaid'. A law counts once. -/
mutual
def uptoBulk {H : Type} : DataW H → Nat
  | .lit (.string bytes) => bytes.length + 1
  | .lit _ => 1
  | .nil => 1
  | .ptr d => uptoBulk d + 1
  | .slice elems spare => uptoBulkAll elems + uptoBulkAll spare + 1
  | .agg parts => uptoBulkAll parts + 1
  | .iface _ d => uptoBulk d + 1
  | .map entries => uptoBulkEntries entries + 1
  | .held _ => 1
def uptoBulkAll {H : Type} : List (DataW H) → Nat
  | [] => 0
  | d :: r => uptoBulk d + uptoBulkAll r
def uptoBulkEntries {H : Type} : List (Lit × DataW H) → Nat
  | [] => 0
  | x :: r => uptoBulkEntry x + uptoBulkEntries r
def uptoBulkEntry {H : Type} : Lit × DataW H → Nat
  | (.string bytes, d) => bytes.length + uptoBulk d + 1
  | (_, d) => uptoBulk d + 1
 end
def uptoSmall : (H : Type) → List (DataW H) → Bool := fun _ ds => decide (uptoBulkAll ds ≤ 1048576)
def OpenSpec.upto (s : _root_.Go.ChangeSpec) : _root_.Go.OpenSpec := { _root_.Go.OpenSpec.ofChange s with cond := some uptoSmall }

/-- 'quipulaw.RankManies', WHERE WHAT IT READS IS OF BULK AT MOST 1048576: true; the input reads as it did. -/
def rankManiesUptoRow : OpenClaim := { program := "ytencpkmojjbjcaa", sum := "78139d58eb8b042110507fd49e21ff200a3d81d4bbdc71c4e10ba6788e0abca6", func := "quipu/quipulaw.RankManies", spec := "rankManies", apart := false, narrowed := true }
def RankManiesUptoSaid : Prop := rankManiesUptoRow.holds Try.pinned (OpenSpec.upto rankManiesSpec)

/-- 'quipulaw.RankRanks', WHERE WHAT IT READS IS OF BULK AT MOST 1048576: true; the input reads as it did. -/
def rankRanksUptoRow : OpenClaim := { program := "ytencpkmojjbjcaa", sum := "78139d58eb8b042110507fd49e21ff200a3d81d4bbdc71c4e10ba6788e0abca6", func := "quipu/quipulaw.RankRanks", spec := "rankRanks", apart := false, narrowed := true }
def RankRanksUptoSaid : Prop := rankRanksUptoRow.holds Try.pinned (OpenSpec.upto rankRanksSpec)

/-- 'quipulaw.RankWords', WHERE WHAT IT READS IS OF BULK AT MOST 1048576: true; the input reads as it did. -/
def rankWordsUptoRow : OpenClaim := { program := "ytencpkmojjbjcaa", sum := "78139d58eb8b042110507fd49e21ff200a3d81d4bbdc71c4e10ba6788e0abca6", func := "quipu/quipulaw.RankWords", spec := "rankWords", apart := false, narrowed := true }
def RankWordsUptoSaid : Prop := rankWordsUptoRow.holds Try.pinned (OpenSpec.upto rankWordsSpec)

/-- 'quipulaw.RankOrders', WHERE WHAT IT READS IS OF BULK AT MOST 1048576: true; the input reads as it did. -/
def rankOrdersUptoRow : OpenClaim := { program := "ytencpkmojjbjcaa", sum := "78139d58eb8b042110507fd49e21ff200a3d81d4bbdc71c4e10ba6788e0abca6", func := "quipu/quipulaw.RankOrders", spec := "rankOrders", apart := false, narrowed := true }
def RankOrdersUptoSaid : Prop := rankOrdersUptoRow.holds Try.pinned (OpenSpec.upto rankOrdersSpec)

/-- 'quipulaw.RankLists', WHERE WHAT IT READS IS OF BULK AT MOST 1048576: true; the input reads as it did. -/
def rankListsUptoRow : OpenClaim := { program := "ytencpkmojjbjcaa", sum := "78139d58eb8b042110507fd49e21ff200a3d81d4bbdc71c4e10ba6788e0abca6", func := "quipu/quipulaw.RankLists", spec := "rankLists", apart := false, narrowed := true }
def RankListsUptoSaid : Prop := rankListsUptoRow.holds Try.pinned (OpenSpec.upto rankListsSpec)

/-- 'quipukeep.RankBack', WHERE WHAT IT READS IS OF BULK AT MOST 1048576: true; the input reads as it did. -/
def rankBackUptoRow : OpenClaim := { program := "ytencpkmojjbjcaa", sum := "78139d58eb8b042110507fd49e21ff200a3d81d4bbdc71c4e10ba6788e0abca6", func := "quipu/quipukeep.RankBack", spec := "rankBack", apart := false, narrowed := true }
def RankBackUptoSaid : Prop := rankBackUptoRow.holds Try.pinned (OpenSpec.upto rankBackSpec)

end Rows
end Go.Proofs.Ytencpkmojjbjcaa
