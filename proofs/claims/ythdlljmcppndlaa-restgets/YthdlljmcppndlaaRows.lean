/-
  No cell of these rows narrows 'for every input' (looked for: loops, veiled, ifaces, maps, wideKeys, modest, calm, conditions, laid).
  DERIVED. THE GIVEN ROWS OF THIS SEAT. 6 by the template 'for every input the law returns true; each argument reads behind the call as it read before'; 0 by the template 'total and deterministic' (their statements: YthdlljmcppndlaaTotals.lean).
  GIVEN WITH THE SEED: the statements are not yours to turn. If you find one false, say at which input.
  Laid BY PROGRAM, IN A SANDBOX (cutbox-rows.mjs): the forced cells as the released guide's own fill.sh prints them over the translation c74a017c6ddfa02b… (all of the seat's roots in one cut). By AI agents, Wed Nov 11 2026. No macro, syntax, notation, axiom, sorry.
-/
import Derived.Test.YthdlljmcppndlaaChecked
import GoSem.Claim
import GoSem.ClaimJoined
import GoSem.ClaimMapViews
import Derived.JoinedTies
import Derived.KernelRfl
namespace Go.Proofs.Ythdlljmcppndlaa
/- THE CELL 'sum', in the pinned program and in every row, IS THE sha256 OF THE DUMP (.gsa) THAT YthdlljmcppndlaaProg.lean LOADS. Nothing in Lean hashes anything: it is a label: what it is worth is what the hold of that sum in a sandbox is worth. -/
noncomputable def Try.pinned : Pinned := { name := "ythdlljmcppndlaa", sum := "c74a017c6ddfa02b17ab1a910c190f23fd440ffe6af7cc61f68deca62008b51f", checked := Try.checked }
namespace Rows
def none {H : Type} : Left H := { results := [], args := [] }

/-- 'quipulaw.RestTells': WHATEVER THE INPUT: true; the input reads as it did. -/
def restTellsSpec : ChangeSpec := { name := "restTells", fn := fun _ => fun
  | [d1, d2] => { results := [.lit (.bool true)], args := [d1, d2] }
  | _ => none }
def restTellsRow : OpenClaim := { program := "ythdlljmcppndlaa", sum := "c74a017c6ddfa02b17ab1a910c190f23fd440ffe6af7cc61f68deca62008b51f", func := "quipu/quipulaw.RestTells", spec := "restTells", apart := false }
def RestTellsSaid : Prop := restTellsRow.holds Try.pinned (OpenSpec.ofChange restTellsSpec)

/-- ITS FALSE NEIGHBOUR: 'it returns false'. Refute it at one input. -/
def restTellsWrong : ChangeSpec := { name := "restTells", fn := fun _ => fun
  | [d1, d2] => { results := [.lit (.bool false)], args := [d1, d2] }
  | _ => none }
def RestTellsWrongFalsely : Prop := restTellsRow.holds Try.pinned (OpenSpec.ofChange restTellsWrong)

/-- 'quipulaw.RestPuts': WHATEVER THE INPUT: true; the input reads as it did. -/
def restPutsSpec : ChangeSpec := { name := "restPuts", fn := fun _ => fun
  | [d1, d2] => { results := [.lit (.bool true)], args := [d1, d2] }
  | _ => none }
def restPutsRow : OpenClaim := { program := "ythdlljmcppndlaa", sum := "c74a017c6ddfa02b17ab1a910c190f23fd440ffe6af7cc61f68deca62008b51f", func := "quipu/quipulaw.RestPuts", spec := "restPuts", apart := false }
def RestPutsSaid : Prop := restPutsRow.holds Try.pinned (OpenSpec.ofChange restPutsSpec)

/-- ITS FALSE NEIGHBOUR: 'it returns false'. Refute it at one input. -/
def restPutsWrong : ChangeSpec := { name := "restPuts", fn := fun _ => fun
  | [d1, d2] => { results := [.lit (.bool false)], args := [d1, d2] }
  | _ => none }
def RestPutsWrongFalsely : Prop := restPutsRow.holds Try.pinned (OpenSpec.ofChange restPutsWrong)

/-- 'quipulaw.RestGets': WHATEVER THE INPUT: true; the input reads as it did. -/
def restGetsSpec : ChangeSpec := { name := "restGets", fn := fun _ => fun
  | [d1, d2] => { results := [.lit (.bool true)], args := [d1, d2] }
  | _ => none }
def restGetsRow : OpenClaim := { program := "ythdlljmcppndlaa", sum := "c74a017c6ddfa02b17ab1a910c190f23fd440ffe6af7cc61f68deca62008b51f", func := "quipu/quipulaw.RestGets", spec := "restGets", apart := false }
def RestGetsSaid : Prop := restGetsRow.holds Try.pinned (OpenSpec.ofChange restGetsSpec)

/-- ITS FALSE NEIGHBOUR: 'it returns false'. Refute it at one input. -/
def restGetsWrong : ChangeSpec := { name := "restGets", fn := fun _ => fun
  | [d1, d2] => { results := [.lit (.bool false)], args := [d1, d2] }
  | _ => none }
def RestGetsWrongFalsely : Prop := restGetsRow.holds Try.pinned (OpenSpec.ofChange restGetsWrong)

/-- 'quipukeep.RestBack': WHATEVER THE INPUT: true; the input reads as it did. -/
def restBackSpec : ChangeSpec := { name := "restBack", fn := fun _ => fun
  | [d1, d2] => { results := [.lit (.bool true)], args := [d1, d2] }
  | _ => none }
def restBackRow : OpenClaim := { program := "ythdlljmcppndlaa", sum := "c74a017c6ddfa02b17ab1a910c190f23fd440ffe6af7cc61f68deca62008b51f", func := "quipu/quipukeep.RestBack", spec := "restBack", apart := false }
def RestBackSaid : Prop := restBackRow.holds Try.pinned (OpenSpec.ofChange restBackSpec)

/-- ITS FALSE NEIGHBOUR: 'it returns false'. Refute it at one input. -/
def restBackWrong : ChangeSpec := { name := "restBack", fn := fun _ => fun
  | [d1, d2] => { results := [.lit (.bool false)], args := [d1, d2] }
  | _ => none }
def RestBackWrongFalsely : Prop := restBackRow.holds Try.pinned (OpenSpec.ofChange restBackWrong)

/-- 'quipukeep.RestBurst': WHATEVER THE INPUT: true; the input reads as it did. -/
def restBurstSpec : ChangeSpec := { name := "restBurst", fn := fun _ => fun
  | [d1, d2, d3, d4] => { results := [.lit (.bool true)], args := [d1, d2, d3, d4] }
  | _ => none }
def restBurstRow : OpenClaim := { program := "ythdlljmcppndlaa", sum := "c74a017c6ddfa02b17ab1a910c190f23fd440ffe6af7cc61f68deca62008b51f", func := "quipu/quipukeep.RestBurst", spec := "restBurst", apart := false }
def RestBurstSaid : Prop := restBurstRow.holds Try.pinned (OpenSpec.ofChange restBurstSpec)

/-- ITS FALSE NEIGHBOUR: 'it returns false'. Refute it at one input. -/
def restBurstWrong : ChangeSpec := { name := "restBurst", fn := fun _ => fun
  | [d1, d2, d3, d4] => { results := [.lit (.bool false)], args := [d1, d2, d3, d4] }
  | _ => none }
def RestBurstWrongFalsely : Prop := restBurstRow.holds Try.pinned (OpenSpec.ofChange restBurstWrong)

/-- 'quipukeep.RestSums': WHATEVER THE INPUT: true; the input reads as it did. -/
def restSumsSpec : ChangeSpec := { name := "restSums", fn := fun _ => fun
  | [d1, d2, d3] => { results := [.lit (.bool true)], args := [d1, d2, d3] }
  | _ => none }
def restSumsRow : OpenClaim := { program := "ythdlljmcppndlaa", sum := "c74a017c6ddfa02b17ab1a910c190f23fd440ffe6af7cc61f68deca62008b51f", func := "quipu/quipukeep.RestSums", spec := "restSums", apart := false }
def RestSumsSaid : Prop := restSumsRow.holds Try.pinned (OpenSpec.ofChange restSumsSpec)

/-- ITS FALSE NEIGHBOUR: 'it returns false'. Refute it at one input. -/
def restSumsWrong : ChangeSpec := { name := "restSums", fn := fun _ => fun
  | [d1, d2, d3] => { results := [.lit (.bool false)], args := [d1, d2, d3] }
  | _ => none }
def RestSumsWrongFalsely : Prop := restSumsRow.holds Try.pinned (OpenSpec.ofChange restSumsWrong)

/- THE SECOND FORM. 'bulk': how many values and letters a reading holds, each counted each time it is reached (what is shared counts as often as it is met; a slice's spare places count too). A statement '..UptoSaid' is the law's where the arguments, and the package variables that the reading takes, are together of bulk at most 1048576: NARROWER than '..Said'. Prove '..Said' where nothing that the law and all that it calls make is longer than what came in: it says more and counts as full. Else prove '..UptoSaid'. A law counts once. -/
mutual
def uptoBulk {H : Type} : DataW H → Nat
  | .lit (.string bytes) => bytes.length + 1
  | .lit _ => 1
  | .nil => 1
  | .ptr d => uptoBulk d + 1
  | .slice elems spare => uptoBulkAll elems + uptoBulkAll spare + 1
  | .agg parts => uptoBulkAll parts + 1
  | .iface _ d => uptoBulk d + 1
  | .map entries => uptoBulkEntries entries + 1
  | .held _ => 1
def uptoBulkAll {H : Type} : List (DataW H) → Nat
  | [] => 0
  | d :: r => uptoBulk d + uptoBulkAll r
def uptoBulkEntries {H : Type} : List (Lit × DataW H) → Nat
  | [] => 0
  | x :: r => uptoBulkEntry x + uptoBulkEntries r
def uptoBulkEntry {H : Type} : Lit × DataW H → Nat
  | (.string bytes, d) => bytes.length + uptoBulk d + 1
  | (_, d) => uptoBulk d + 1
 end
def uptoSmall : (H : Type) → List (DataW H) → Bool := fun _ ds => decide (uptoBulkAll ds ≤ 1048576)
def OpenSpec.upto (s : _root_.Go.ChangeSpec) : _root_.Go.OpenSpec := { _root_.Go.OpenSpec.ofChange s with cond := some uptoSmall }

/-- 'quipulaw.RestTells', WHERE WHAT IT READS IS OF BULK AT MOST 1048576: true; the input reads as it did. -/
def restTellsUptoRow : OpenClaim := { program := "ythdlljmcppndlaa", sum := "c74a017c6ddfa02b17ab1a910c190f23fd440ffe6af7cc61f68deca62008b51f", func := "quipu/quipulaw.RestTells", spec := "restTells", apart := false, narrowed := true }
def RestTellsUptoSaid : Prop := restTellsUptoRow.holds Try.pinned (OpenSpec.upto restTellsSpec)

/-- 'quipulaw.RestPuts', WHERE WHAT IT READS IS OF BULK AT MOST 1048576: true; the input reads as it did. -/
def restPutsUptoRow : OpenClaim := { program := "ythdlljmcppndlaa", sum := "c74a017c6ddfa02b17ab1a910c190f23fd440ffe6af7cc61f68deca62008b51f", func := "quipu/quipulaw.RestPuts", spec := "restPuts", apart := false, narrowed := true }
def RestPutsUptoSaid : Prop := restPutsUptoRow.holds Try.pinned (OpenSpec.upto restPutsSpec)

/-- 'quipulaw.RestGets', WHERE WHAT IT READS IS OF BULK AT MOST 1048576: true; the input reads as it did. -/
def restGetsUptoRow : OpenClaim := { program := "ythdlljmcppndlaa", sum := "c74a017c6ddfa02b17ab1a910c190f23fd440ffe6af7cc61f68deca62008b51f", func := "quipu/quipulaw.RestGets", spec := "restGets", apart := false, narrowed := true }
def RestGetsUptoSaid : Prop := restGetsUptoRow.holds Try.pinned (OpenSpec.upto restGetsSpec)

/-- 'quipukeep.RestBack', WHERE WHAT IT READS IS OF BULK AT MOST 1048576: true; the input reads as it did. -/
def restBackUptoRow : OpenClaim := { program := "ythdlljmcppndlaa", sum := "c74a017c6ddfa02b17ab1a910c190f23fd440ffe6af7cc61f68deca62008b51f", func := "quipu/quipukeep.RestBack", spec := "restBack", apart := false, narrowed := true }
def RestBackUptoSaid : Prop := restBackUptoRow.holds Try.pinned (OpenSpec.upto restBackSpec)

/-- 'quipukeep.RestBurst', WHERE WHAT IT READS IS OF BULK AT MOST 1048576: true; the input reads as it did. -/
def restBurstUptoRow : OpenClaim := { program := "ythdlljmcppndlaa", sum := "c74a017c6ddfa02b17ab1a910c190f23fd440ffe6af7cc61f68deca62008b51f", func := "quipu/quipukeep.RestBurst", spec := "restBurst", apart := false, narrowed := true }
def RestBurstUptoSaid : Prop := restBurstUptoRow.holds Try.pinned (OpenSpec.upto restBurstSpec)

/-- 'quipukeep.RestSums', WHERE WHAT IT READS IS OF BULK AT MOST 1048576: true; the input reads as it did. -/
def restSumsUptoRow : OpenClaim := { program := "ythdlljmcppndlaa", sum := "c74a017c6ddfa02b17ab1a910c190f23fd440ffe6af7cc61f68deca62008b51f", func := "quipu/quipukeep.RestSums", spec := "restSums", apart := false, narrowed := true }
def RestSumsUptoSaid : Prop := restSumsUptoRow.holds Try.pinned (OpenSpec.upto restSumsSpec)

end Rows
end Go.Proofs.Ythdlljmcppndlaa
