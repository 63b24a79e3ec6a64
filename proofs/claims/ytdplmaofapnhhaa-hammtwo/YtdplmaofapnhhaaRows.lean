/-
  No cell of these rows narrows 'for every input' (looked for: loops, veiled, ifaces, maps, wideKeys, modest, calm, conditions, laid).
  DERIVED. THE GIVEN ROWS OF THIS SEAT. 6 by the template 'for every input the law returns true; each argument reads behind the call as it read before'; 0 by the template 'total and deterministic' (their statements: YtdplmaofapnhhaaTotals.lean).
  GIVEN WITH THE SEED: the statements are not yours to turn. If you find one false, say at which input.
  Laid BY PROGRAM, IN A SANDBOX (cutbox-rows.mjs): the forced cells as the released guide's own fill.sh prints them over the translation 2fc7dc10e037e231… (all of the seat's roots in one cut). By AI agents, Wed Nov 11 2026. No macro, syntax, notation, axiom, sorry.
-/
import Derived.Test.YtdplmaofapnhhaaChecked
import GoSem.Claim
import GoSem.ClaimJoined
import GoSem.ClaimMapViews
import Derived.JoinedTies
import Derived.KernelRfl
namespace Go.Proofs.Ytdplmaofapnhhaa
/- THE CELL 'sum', in the pinned program and in every row, IS THE sha256 OF THE DUMP (.gsa) THAT YtdplmaofapnhhaaProg.lean LOADS. Nothing in Lean hashes anything: it is a label: what it is worth is what the hold of that sum in a sandbox is worth. -/
noncomputable def Try.pinned : Pinned := { name := "ytdplmaofapnhhaa", sum := "2fc7dc10e037e2318e4cf4192a0576e7135cbe7533c2458c2c31d0485abbdd28", checked := Try.checked }
namespace Rows
def none {H : Type} : Left H := { results := [], args := [] }

/-- 'quipulaw.HammPuts': WHATEVER THE INPUT: true; the input reads as it did. -/
def hammPutsSpec : ChangeSpec := { name := "hammPuts", fn := fun _ => fun
  | [d1, d2] => { results := [.lit (.bool true)], args := [d1, d2] }
  | _ => none }
def hammPutsRow : OpenClaim := { program := "ytdplmaofapnhhaa", sum := "2fc7dc10e037e2318e4cf4192a0576e7135cbe7533c2458c2c31d0485abbdd28", func := "quipu/quipulaw.HammPuts", spec := "hammPuts", apart := false }
def HammPutsSaid : Prop := hammPutsRow.holds Try.pinned (OpenSpec.ofChange hammPutsSpec)

/-- ITS FALSE NEIGHBOUR: 'it returns false'. Refute it at one input. -/
def hammPutsWrong : ChangeSpec := { name := "hammPuts", fn := fun _ => fun
  | [d1, d2] => { results := [.lit (.bool false)], args := [d1, d2] }
  | _ => none }
def HammPutsWrongFalsely : Prop := hammPutsRow.holds Try.pinned (OpenSpec.ofChange hammPutsWrong)

/-- 'quipulaw.HammFixes': WHATEVER THE INPUT: true; the input reads as it did. -/
def hammFixesSpec : ChangeSpec := { name := "hammFixes", fn := fun _ => fun
  | [d1, d2] => { results := [.lit (.bool true)], args := [d1, d2] }
  | _ => none }
def hammFixesRow : OpenClaim := { program := "ytdplmaofapnhhaa", sum := "2fc7dc10e037e2318e4cf4192a0576e7135cbe7533c2458c2c31d0485abbdd28", func := "quipu/quipulaw.HammFixes", spec := "hammFixes", apart := false }
def HammFixesSaid : Prop := hammFixesRow.holds Try.pinned (OpenSpec.ofChange hammFixesSpec)

/-- ITS FALSE NEIGHBOUR: 'it returns false'. Refute it at one input. -/
def hammFixesWrong : ChangeSpec := { name := "hammFixes", fn := fun _ => fun
  | [d1, d2] => { results := [.lit (.bool false)], args := [d1, d2] }
  | _ => none }
def HammFixesWrongFalsely : Prop := hammFixesRow.holds Try.pinned (OpenSpec.ofChange hammFixesWrong)

/-- 'quipulaw.HammPutsTwo': WHATEVER THE INPUT: true; the input reads as it did. -/
def hammPutsTwoSpec : ChangeSpec := { name := "hammPutsTwo", fn := fun _ => fun
  | [d1, d2] => { results := [.lit (.bool true)], args := [d1, d2] }
  | _ => none }
def hammPutsTwoRow : OpenClaim := { program := "ytdplmaofapnhhaa", sum := "2fc7dc10e037e2318e4cf4192a0576e7135cbe7533c2458c2c31d0485abbdd28", func := "quipu/quipulaw.HammPutsTwo", spec := "hammPutsTwo", apart := false }
def HammPutsTwoSaid : Prop := hammPutsTwoRow.holds Try.pinned (OpenSpec.ofChange hammPutsTwoSpec)

/-- ITS FALSE NEIGHBOUR: 'it returns false'. Refute it at one input. -/
def hammPutsTwoWrong : ChangeSpec := { name := "hammPutsTwo", fn := fun _ => fun
  | [d1, d2] => { results := [.lit (.bool false)], args := [d1, d2] }
  | _ => none }
def HammPutsTwoWrongFalsely : Prop := hammPutsTwoRow.holds Try.pinned (OpenSpec.ofChange hammPutsTwoWrong)

/-- 'quipulaw.HammFixesTwo': WHATEVER THE INPUT: true; the input reads as it did. -/
def hammFixesTwoSpec : ChangeSpec := { name := "hammFixesTwo", fn := fun _ => fun
  | [d1, d2] => { results := [.lit (.bool true)], args := [d1, d2] }
  | _ => none }
def hammFixesTwoRow : OpenClaim := { program := "ytdplmaofapnhhaa", sum := "2fc7dc10e037e2318e4cf4192a0576e7135cbe7533c2458c2c31d0485abbdd28", func := "quipu/quipulaw.HammFixesTwo", spec := "hammFixesTwo", apart := false }
def HammFixesTwoSaid : Prop := hammFixesTwoRow.holds Try.pinned (OpenSpec.ofChange hammFixesTwoSpec)

/-- ITS FALSE NEIGHBOUR: 'it returns false'. Refute it at one input. -/
def hammFixesTwoWrong : ChangeSpec := { name := "hammFixesTwo", fn := fun _ => fun
  | [d1, d2] => { results := [.lit (.bool false)], args := [d1, d2] }
  | _ => none }
def HammFixesTwoWrongFalsely : Prop := hammFixesTwoRow.holds Try.pinned (OpenSpec.ofChange hammFixesTwoWrong)

/-- 'quipukeep.HammOne': WHATEVER THE INPUT: true; the input reads as it did. -/
def hammOneSpec : ChangeSpec := { name := "hammOne", fn := fun _ => fun
  | [d1, d2, d3] => { results := [.lit (.bool true)], args := [d1, d2, d3] }
  | _ => none }
def hammOneRow : OpenClaim := { program := "ytdplmaofapnhhaa", sum := "2fc7dc10e037e2318e4cf4192a0576e7135cbe7533c2458c2c31d0485abbdd28", func := "quipu/quipukeep.HammOne", spec := "hammOne", apart := false }
def HammOneSaid : Prop := hammOneRow.holds Try.pinned (OpenSpec.ofChange hammOneSpec)

/-- ITS FALSE NEIGHBOUR: 'it returns false'. Refute it at one input. -/
def hammOneWrong : ChangeSpec := { name := "hammOne", fn := fun _ => fun
  | [d1, d2, d3] => { results := [.lit (.bool false)], args := [d1, d2, d3] }
  | _ => none }
def HammOneWrongFalsely : Prop := hammOneRow.holds Try.pinned (OpenSpec.ofChange hammOneWrong)

/-- 'quipukeep.HammTwo': WHATEVER THE INPUT: true; the input reads as it did. -/
def hammTwoSpec : ChangeSpec := { name := "hammTwo", fn := fun _ => fun
  | [d1, d2, d3, d4] => { results := [.lit (.bool true)], args := [d1, d2, d3, d4] }
  | _ => none }
def hammTwoRow : OpenClaim := { program := "ytdplmaofapnhhaa", sum := "2fc7dc10e037e2318e4cf4192a0576e7135cbe7533c2458c2c31d0485abbdd28", func := "quipu/quipukeep.HammTwo", spec := "hammTwo", apart := false }
def HammTwoSaid : Prop := hammTwoRow.holds Try.pinned (OpenSpec.ofChange hammTwoSpec)

/-- ITS FALSE NEIGHBOUR: 'it returns false'. Refute it at one input. -/
def hammTwoWrong : ChangeSpec := { name := "hammTwo", fn := fun _ => fun
  | [d1, d2, d3, d4] => { results := [.lit (.bool false)], args := [d1, d2, d3, d4] }
  | _ => none }
def HammTwoWrongFalsely : Prop := hammTwoRow.holds Try.pinned (OpenSpec.ofChange hammTwoWrong)

/- THE SECOND FORM. 'bulk': how many values and letters a reading holds, each counted each time it is reached (what is shared counts as often as it is met; a slice's spare places count too). A statement '..UptoSaid' is the law's where the arguments, and the package variables that the reading takes, are together of bulk at most 1048576: NARROWER than '..Said'. Prove '..Said' where nothing that the law and all that it calls make is longer than what came in: it says more and counts as full. Else prove '..UptoSaid'. A law counts once. -/
mutual
def uptoBulk {H : Type} : DataW H → Nat
  | .lit (.string bytes) => bytes.length + 1
  | .lit _ => 1
  | .nil => 1
  | .ptr d => uptoBulk d + 1
  | .slice elems spare => uptoBulkAll elems + uptoBulkAll spare + 1
  | .agg parts => uptoBulkAll parts + 1
  | .iface _ d => uptoBulk d + 1
  | .map entries => uptoBulkEntries entries + 1
  | .held _ => 1
def uptoBulkAll {H : Type} : List (DataW H) → Nat
  | [] => 0
  | d :: r => uptoBulk d + uptoBulkAll r
def uptoBulkEntries {H : Type} : List (Lit × DataW H) → Nat
  | [] => 0
  | x :: r => uptoBulkEntry x + uptoBulkEntries r
def uptoBulkEntry {H : Type} : Lit × DataW H → Nat
  | (.string bytes, d) => bytes.length + uptoBulk d + 1
  | (_, d) => uptoBulk d + 1
 end
def uptoSmall : (H : Type) → List (DataW H) → Bool := fun _ ds => decide (uptoBulkAll ds ≤ 1048576)
def OpenSpec.upto (s : _root_.Go.ChangeSpec) : _root_.Go.OpenSpec := { _root_.Go.OpenSpec.ofChange s with cond := some uptoSmall }

/-- 'quipulaw.HammPuts', WHERE WHAT IT READS IS OF BULK AT MOST 1048576: true; the input reads as it did. -/
def hammPutsUptoRow : OpenClaim := { program := "ytdplmaofapnhhaa", sum := "2fc7dc10e037e2318e4cf4192a0576e7135cbe7533c2458c2c31d0485abbdd28", func := "quipu/quipulaw.HammPuts", spec := "hammPuts", apart := false, narrowed := true }
def HammPutsUptoSaid : Prop := hammPutsUptoRow.holds Try.pinned (OpenSpec.upto hammPutsSpec)

/-- 'quipulaw.HammFixes', WHERE WHAT IT READS IS OF BULK AT MOST 1048576: true; the input reads as it did. -/
def hammFixesUptoRow : OpenClaim := { program := "ytdplmaofapnhhaa", sum := "2fc7dc10e037e2318e4cf4192a0576e7135cbe7533c2458c2c31d0485abbdd28", func := "quipu/quipulaw.HammFixes", spec := "hammFixes", apart := false, narrowed := true }
def HammFixesUptoSaid : Prop := hammFixesUptoRow.holds Try.pinned (OpenSpec.upto hammFixesSpec)

/-- 'quipulaw.HammPutsTwo', WHERE WHAT IT READS IS OF BULK AT MOST 1048576: true; the input reads as it did. -/
def hammPutsTwoUptoRow : OpenClaim := { program := "ytdplmaofapnhhaa", sum := "2fc7dc10e037e2318e4cf4192a0576e7135cbe7533c2458c2c31d0485abbdd28", func := "quipu/quipulaw.HammPutsTwo", spec := "hammPutsTwo", apart := false, narrowed := true }
def HammPutsTwoUptoSaid : Prop := hammPutsTwoUptoRow.holds Try.pinned (OpenSpec.upto hammPutsTwoSpec)

/-- 'quipulaw.HammFixesTwo', WHERE WHAT IT READS IS OF BULK AT MOST 1048576: true; the input reads as it did. -/
def hammFixesTwoUptoRow : OpenClaim := { program := "ytdplmaofapnhhaa", sum := "2fc7dc10e037e2318e4cf4192a0576e7135cbe7533c2458c2c31d0485abbdd28", func := "quipu/quipulaw.HammFixesTwo", spec := "hammFixesTwo", apart := false, narrowed := true }
def HammFixesTwoUptoSaid : Prop := hammFixesTwoUptoRow.holds Try.pinned (OpenSpec.upto hammFixesTwoSpec)

/-- 'quipukeep.HammOne', WHERE WHAT IT READS IS OF BULK AT MOST 1048576: true; the input reads as it did. -/
def hammOneUptoRow : OpenClaim := { program := "ytdplmaofapnhhaa", sum := "2fc7dc10e037e2318e4cf4192a0576e7135cbe7533c2458c2c31d0485abbdd28", func := "quipu/quipukeep.HammOne", spec := "hammOne", apart := false, narrowed := true }
def HammOneUptoSaid : Prop := hammOneUptoRow.holds Try.pinned (OpenSpec.upto hammOneSpec)

/-- 'quipukeep.HammTwo', WHERE WHAT IT READS IS OF BULK AT MOST 1048576: true; the input reads as it did. -/
def hammTwoUptoRow : OpenClaim := { program := "ytdplmaofapnhhaa", sum := "2fc7dc10e037e2318e4cf4192a0576e7135cbe7533c2458c2c31d0485abbdd28", func := "quipu/quipukeep.HammTwo", spec := "hammTwo", apart := false, narrowed := true }
def HammTwoUptoSaid : Prop := hammTwoUptoRow.holds Try.pinned (OpenSpec.upto hammTwoSpec)

end Rows
end Go.Proofs.Ytdplmaofapnhhaa
