/-
  No cell of these rows narrows 'for every input' (looked for: loops, veiled, ifaces, maps, wideKeys, modest, calm, conditions, laid).
  DERIVED. THE GIVEN ROWS OF THIS SEAT. 4 by the template 'for every input the law returns true; each argument reads behind the call as it read before'; 0 by the template 'total and deterministic' (their statements: YtjgheojfdkfmkaaTotals.lean).
  GIVEN WITH THE SEED: the statements are not yours to turn. If you find one false, say at which input.
  Laid BY PROGRAM, IN A SANDBOX (cutbox-rows.mjs): the forced cells as the released guide's own fill.sh prints them over the translation 06230cc1460b5444… (all of the seat's roots in one cut). By AI agents, Wed Nov 11 2026. No macro, syntax, notation, axiom, sorry.
-/
import Derived.Test.YtjgheojfdkfmkaaChecked
import GoSem.Claim
import GoSem.ClaimJoined
import GoSem.ClaimMapViews
import Derived.JoinedTies
import Derived.KernelRfl
namespace Go.Proofs.Ytjgheojfdkfmkaa
/- THE CELL 'sum', in the pinned program and in every row, IS THE sha256 OF THE DUMP (.gsa) THAT YtjgheojfdkfmkaaProg.lean LOADS. Nothing in Lean hashes anything: it is a label: what it is worth is what the hold of that sum in a sandbox is worth. -/
noncomputable def Try.pinned : Pinned := { name := "ytjgheojfdkfmkaa", sum := "06230cc1460b5444180876eceed3a17a1a1544e06d66722586fa28593bfeaa3a", checked := Try.checked }
namespace Rows
def none {H : Type} : Left H := { results := [], args := [] }

/-- 'quipulaw.PhraseParses': WHATEVER THE INPUT: true; the input reads as it did. -/
def phraseParsesSpec : ChangeSpec := { name := "phraseParses", fn := fun _ => fun
  | [d] => { results := [.lit (.bool true)], args := [d] }
  | _ => none }
def phraseParsesRow : OpenClaim := { program := "ytjgheojfdkfmkaa", sum := "06230cc1460b5444180876eceed3a17a1a1544e06d66722586fa28593bfeaa3a", func := "quipu/quipulaw.PhraseParses", spec := "phraseParses", plainKeys := false, apart := false }
def PhraseParsesSaid : Prop := phraseParsesRow.holds Try.pinned (OpenSpec.ofChange phraseParsesSpec)

/-- ITS FALSE NEIGHBOUR: 'it returns false'. Refute it at one input. -/
def phraseParsesWrong : ChangeSpec := { name := "phraseParses", fn := fun _ => fun
  | [d] => { results := [.lit (.bool false)], args := [d] }
  | _ => none }
def PhraseParsesWrongFalsely : Prop := phraseParsesRow.holds Try.pinned (OpenSpec.ofChange phraseParsesWrong)

/-- 'quipulaw.PhraseJoins': WHATEVER THE INPUT: true; the input reads as it did. -/
def phraseJoinsSpec : ChangeSpec := { name := "phraseJoins", fn := fun _ => fun
  | [d] => { results := [.lit (.bool true)], args := [d] }
  | _ => none }
def phraseJoinsRow : OpenClaim := { program := "ytjgheojfdkfmkaa", sum := "06230cc1460b5444180876eceed3a17a1a1544e06d66722586fa28593bfeaa3a", func := "quipu/quipulaw.PhraseJoins", spec := "phraseJoins", plainKeys := false, apart := false }
def PhraseJoinsSaid : Prop := phraseJoinsRow.holds Try.pinned (OpenSpec.ofChange phraseJoinsSpec)

/-- ITS FALSE NEIGHBOUR: 'it returns false'. Refute it at one input. -/
def phraseJoinsWrong : ChangeSpec := { name := "phraseJoins", fn := fun _ => fun
  | [d] => { results := [.lit (.bool false)], args := [d] }
  | _ => none }
def PhraseJoinsWrongFalsely : Prop := phraseJoinsRow.holds Try.pinned (OpenSpec.ofChange phraseJoinsWrong)

/-- 'quipukeep.PhraseBack': WHATEVER THE INPUT: true; the input reads as it did. -/
def phraseBackSpec : ChangeSpec := { name := "phraseBack", fn := fun _ => fun
  | [d] => { results := [.lit (.bool true)], args := [d] }
  | _ => none }
def phraseBackRow : OpenClaim := { program := "ytjgheojfdkfmkaa", sum := "06230cc1460b5444180876eceed3a17a1a1544e06d66722586fa28593bfeaa3a", func := "quipu/quipukeep.PhraseBack", spec := "phraseBack", plainKeys := false, apart := false }
def PhraseBackSaid : Prop := phraseBackRow.holds Try.pinned (OpenSpec.ofChange phraseBackSpec)

/-- ITS FALSE NEIGHBOUR: 'it returns false'. Refute it at one input. -/
def phraseBackWrong : ChangeSpec := { name := "phraseBack", fn := fun _ => fun
  | [d] => { results := [.lit (.bool false)], args := [d] }
  | _ => none }
def PhraseBackWrongFalsely : Prop := phraseBackRow.holds Try.pinned (OpenSpec.ofChange phraseBackWrong)

/-- 'quipukeep.PhraseNew': WHATEVER THE INPUT: true; the input reads as it did. -/
def phraseNewSpec : ChangeSpec := { name := "phraseNew", fn := fun _ => fun
  | [d1, d2] => { results := [.lit (.bool true)], args := [d1, d2] }
  | _ => none }
def phraseNewRow : OpenClaim := { program := "ytjgheojfdkfmkaa", sum := "06230cc1460b5444180876eceed3a17a1a1544e06d66722586fa28593bfeaa3a", func := "quipu/quipukeep.PhraseNew", spec := "phraseNew", plainKeys := false, apart := false }
def PhraseNewSaid : Prop := phraseNewRow.holds Try.pinned (OpenSpec.ofChange phraseNewSpec)

/-- ITS FALSE NEIGHBOUR: 'it returns false'. Refute it at one input. -/
def phraseNewWrong : ChangeSpec := { name := "phraseNew", fn := fun _ => fun
  | [d1, d2] => { results := [.lit (.bool false)], args := [d1, d2] }
  | _ => none }
def PhraseNewWrongFalsely : Prop := phraseNewRow.holds Try.pinned (OpenSpec.ofChange phraseNewWrong)

/- THE SECOND FORM. 'bulk': how many values and letters a reading holds, each counted each time it is reached (what is shared counts as often as it is met; a slice's spare places count too). A statement '..UptoSaid' is the law's where the arguments, and the package variables that the reading takes, are together of bulk at most 1048576: NARROWER than '..Said'. Prove '..Said' where nothing that the law and all that it calls make is longer than what came in: it says more and counts as full. Else prove '..UptoSaid'. A law counts once. -/
mutual
def uptoBulk {H : Type} : DataW H → Nat
  | .lit (.string bytes) => bytes.length + 1
  | .lit _ => 1
  | .nil => 1
  | .ptr d => uptoBulk d + 1
  | .slice elems spare => uptoBulkAll elems + uptoBulkAll spare + 1
  | .agg parts => uptoBulkAll parts + 1
  | .iface _ d => uptoBulk d + 1
  | .map entries => uptoBulkEntries entries + 1
  | .held _ => 1
def uptoBulkAll {H : Type} : List (DataW H) → Nat
  | [] => 0
  | d :: r => uptoBulk d + uptoBulkAll r
def uptoBulkEntries {H : Type} : List (Lit × DataW H) → Nat
  | [] => 0
  | x :: r => uptoBulkEntry x + uptoBulkEntries r
def uptoBulkEntry {H : Type} : Lit × DataW H → Nat
  | (.string bytes, d) => bytes.length + uptoBulk d + 1
  | (_, d) => uptoBulk d + 1
 end
def uptoSmall : (H : Type) → List (DataW H) → Bool := fun _ ds => decide (uptoBulkAll ds ≤ 1048576)
def OpenSpec.upto (s : _root_.Go.ChangeSpec) : _root_.Go.OpenSpec := { _root_.Go.OpenSpec.ofChange s with cond := some uptoSmall }

/-- 'quipulaw.PhraseParses', WHERE WHAT IT READS IS OF BULK AT MOST 1048576: true; the input reads as it did. -/
def phraseParsesUptoRow : OpenClaim := { program := "ytjgheojfdkfmkaa", sum := "06230cc1460b5444180876eceed3a17a1a1544e06d66722586fa28593bfeaa3a", func := "quipu/quipulaw.PhraseParses", spec := "phraseParses", plainKeys := false, apart := false, narrowed := true }
def PhraseParsesUptoSaid : Prop := phraseParsesUptoRow.holds Try.pinned (OpenSpec.upto phraseParsesSpec)

/-- 'quipulaw.PhraseJoins', WHERE WHAT IT READS IS OF BULK AT MOST 1048576: true; the input reads as it did. -/
def phraseJoinsUptoRow : OpenClaim := { program := "ytjgheojfdkfmkaa", sum := "06230cc1460b5444180876eceed3a17a1a1544e06d66722586fa28593bfeaa3a", func := "quipu/quipulaw.PhraseJoins", spec := "phraseJoins", plainKeys := false, apart := false, narrowed := true }
def PhraseJoinsUptoSaid : Prop := phraseJoinsUptoRow.holds Try.pinned (OpenSpec.upto phraseJoinsSpec)

/-- 'quipukeep.PhraseBack', WHERE WHAT IT READS IS OF BULK AT MOST 1048576: true; the input reads as it did. -/
def phraseBackUptoRow : OpenClaim := { program := "ytjgheojfdkfmkaa", sum := "06230cc1460b5444180876eceed3a17a1a1544e06d66722586fa28593bfeaa3a", func := "quipu/quipukeep.PhraseBack", spec := "phraseBack", plainKeys := false, apart := false, narrowed := true }
def PhraseBackUptoSaid : Prop := phraseBackUptoRow.holds Try.pinned (OpenSpec.upto phraseBackSpec)

/-- 'quipukeep.PhraseNew', WHERE WHAT IT READS IS OF BULK AT MOST 1048576: true; the input reads as it did. -/
def phraseNewUptoRow : OpenClaim := { program := "ytjgheojfdkfmkaa", sum := "06230cc1460b5444180876eceed3a17a1a1544e06d66722586fa28593bfeaa3a", func := "quipu/quipukeep.PhraseNew", spec := "phraseNew", plainKeys := false, apart := false, narrowed := true }
def PhraseNewUptoSaid : Prop := phraseNewUptoRow.holds Try.pinned (OpenSpec.upto phraseNewSpec)

end Rows
end Go.Proofs.Ytjgheojfdkfmkaa
