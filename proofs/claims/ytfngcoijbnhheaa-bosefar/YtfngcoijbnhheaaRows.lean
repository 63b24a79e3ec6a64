/-
  No cell of these rows narrows 'for every input' (looked for: loops, veiled, ifaces, maps, wideKeys, modest, calm, conditions, laid).
  DERIVED. THE GIVEN ROWS OF THIS SEAT. 4 by the template 'for every input the law returns true; each argument reads behind the call as it read before'; 0 by the template 'total and deterministic' (their statements: YtfngcoijbnhheaaTotals.lean).
  GIVEN WITH THE SEED: the statements are not yours to turn. If you find one false, say at which input.
  Laid BY PROGRAM, IN A SANDBOX (cutbox-rows.mjs): the forced cells as the released guide's own fill.sh prints them over the translation c1888ec76797872e… (all of the seat's roots in one cut). By AI agents, Wed Nov 11 2026. No macro, syntax, notation, axiom, sorry.
-/
import Derived.Test.YtfngcoijbnhheaaChecked
import GoSem.Claim
import GoSem.ClaimJoined
import GoSem.ClaimMapViews
import Derived.JoinedTies
import Derived.KernelRfl
namespace Go.Proofs.Ytfngcoijbnhheaa
/- THE CELL 'sum', in the pinned program and in every row, IS THE sha256 OF THE DUMP (.gsa) THAT YtfngcoijbnhheaaProg.lean LOADS. Nothing in Lean hashes anything: it is a label: what it is worth is what the hold of that sum in a sandbox is worth. -/
noncomputable def Try.pinned : Pinned := { name := "ytfngcoijbnhheaa", sum := "c1888ec76797872e64ffa012d9b71ec8f6202c7fdc8f5e6bab8788c5314e6ed7", checked := Try.checked }
namespace Rows
def none {H : Type} : Left H := { results := [], args := [] }

/-- 'quipulaw.BosePuts': WHATEVER THE INPUT: true; the input reads as it did. -/
def bosePutsSpec : ChangeSpec := { name := "bosePuts", fn := fun _ => fun
  | [d] => { results := [.lit (.bool true)], args := [d] }
  | _ => none }
def bosePutsRow : OpenClaim := { program := "ytfngcoijbnhheaa", sum := "c1888ec76797872e64ffa012d9b71ec8f6202c7fdc8f5e6bab8788c5314e6ed7", func := "quipu/quipulaw.BosePuts", spec := "bosePuts", apart := false }
def BosePutsSaid : Prop := bosePutsRow.holds Try.pinned (OpenSpec.ofChange bosePutsSpec)

/-- ITS FALSE NEIGHBOUR: 'it returns false'. Refute it at one input. -/
def bosePutsWrong : ChangeSpec := { name := "bosePuts", fn := fun _ => fun
  | [d] => { results := [.lit (.bool false)], args := [d] }
  | _ => none }
def BosePutsWrongFalsely : Prop := bosePutsRow.holds Try.pinned (OpenSpec.ofChange bosePutsWrong)

/-- 'quipulaw.BoseFixes': WHATEVER THE INPUT: true; the input reads as it did. -/
def boseFixesSpec : ChangeSpec := { name := "boseFixes", fn := fun _ => fun
  | [d] => { results := [.lit (.bool true)], args := [d] }
  | _ => none }
def boseFixesRow : OpenClaim := { program := "ytfngcoijbnhheaa", sum := "c1888ec76797872e64ffa012d9b71ec8f6202c7fdc8f5e6bab8788c5314e6ed7", func := "quipu/quipulaw.BoseFixes", spec := "boseFixes", recurses := true, apart := false }
def BoseFixesSaid : Prop := boseFixesRow.holds Try.pinned (OpenSpec.ofChange boseFixesSpec)

/-- ITS FALSE NEIGHBOUR: 'it returns false'. Refute it at one input. -/
def boseFixesWrong : ChangeSpec := { name := "boseFixes", fn := fun _ => fun
  | [d] => { results := [.lit (.bool false)], args := [d] }
  | _ => none }
def BoseFixesWrongFalsely : Prop := boseFixesRow.holds Try.pinned (OpenSpec.ofChange boseFixesWrong)

/-- 'quipukeep.BoseTwo': WHATEVER THE INPUT: true; the input reads as it did. -/
def boseTwoSpec : ChangeSpec := { name := "boseTwo", fn := fun _ => fun
  | [d1, d2, d3] => { results := [.lit (.bool true)], args := [d1, d2, d3] }
  | _ => none }
def boseTwoRow : OpenClaim := { program := "ytfngcoijbnhheaa", sum := "c1888ec76797872e64ffa012d9b71ec8f6202c7fdc8f5e6bab8788c5314e6ed7", func := "quipu/quipukeep.BoseTwo", spec := "boseTwo", recurses := true, apart := false }
def BoseTwoSaid : Prop := boseTwoRow.holds Try.pinned (OpenSpec.ofChange boseTwoSpec)

/-- ITS FALSE NEIGHBOUR: 'it returns false'. Refute it at one input. -/
def boseTwoWrong : ChangeSpec := { name := "boseTwo", fn := fun _ => fun
  | [d1, d2, d3] => { results := [.lit (.bool false)], args := [d1, d2, d3] }
  | _ => none }
def BoseTwoWrongFalsely : Prop := boseTwoRow.holds Try.pinned (OpenSpec.ofChange boseTwoWrong)

/-- 'quipukeep.BoseFar': WHATEVER THE INPUT: true; the input reads as it did. -/
def boseFarSpec : ChangeSpec := { name := "boseFar", fn := fun _ => fun
  | [d1, d2] => { results := [.lit (.bool true)], args := [d1, d2] }
  | _ => none }
def boseFarRow : OpenClaim := { program := "ytfngcoijbnhheaa", sum := "c1888ec76797872e64ffa012d9b71ec8f6202c7fdc8f5e6bab8788c5314e6ed7", func := "quipu/quipukeep.BoseFar", spec := "boseFar", apart := false }
def BoseFarSaid : Prop := boseFarRow.holds Try.pinned (OpenSpec.ofChange boseFarSpec)

/-- ITS FALSE NEIGHBOUR: 'it returns false'. Refute it at one input. -/
def boseFarWrong : ChangeSpec := { name := "boseFar", fn := fun _ => fun
  | [d1, d2] => { results := [.lit (.bool false)], args := [d1, d2] }
  | _ => none }
def BoseFarWrongFalsely : Prop := boseFarRow.holds Try.pinned (OpenSpec.ofChange boseFarWrong)

/- THE SECOND FORM. 'bulk': how many values and letters a reading holds, each counted each time it is reached (what is shared counts as often as it is met; a slice's spare places count too). A statement '..UptoSaid' is the law's where the arguments, and the package variables that the reading takes, are together of bulk at most 1048576: NARROWER than '..Said'. Prove '..Said' where nothing that the law and all that it calls make is longer than what came in: it says more and counts as full. Else prove '..UptoSaid'. A law counts once. -/
mutual
def uptoBulk {H : Type} : DataW H → Nat
  | .lit (.string bytes) => bytes.length + 1
  | .lit _ => 1
  | .nil => 1
  | .ptr d => uptoBulk d + 1
  | .slice elems spare => uptoBulkAll elems + uptoBulkAll spare + 1
  | .agg parts => uptoBulkAll parts + 1
  | .iface _ d => uptoBulk d + 1
  | .map entries => uptoBulkEntries entries + 1
  | .held _ => 1
def uptoBulkAll {H : Type} : List (DataW H) → Nat
  | [] => 0
  | d :: r => uptoBulk d + uptoBulkAll r
def uptoBulkEntries {H : Type} : List (Lit × DataW H) → Nat
  | [] => 0
  | x :: r => uptoBulkEntry x + uptoBulkEntries r
def uptoBulkEntry {H : Type} : Lit × DataW H → Nat
  | (.string bytes, d) => bytes.length + uptoBulk d + 1
  | (_, d) => uptoBulk d + 1
 end
def uptoSmall : (H : Type) → List (DataW H) → Bool := fun _ ds => decide (uptoBulkAll ds ≤ 1048576)
def OpenSpec.upto (s : _root_.Go.ChangeSpec) : _root_.Go.OpenSpec := { _root_.Go.OpenSpec.ofChange s with cond := some uptoSmall }

/-- 'quipulaw.BosePuts', WHERE WHAT IT READS IS OF BULK AT MOST 1048576: true; the input reads as it did. -/
def bosePutsUptoRow : OpenClaim := { program := "ytfngcoijbnhheaa", sum := "c1888ec76797872e64ffa012d9b71ec8f6202c7fdc8f5e6bab8788c5314e6ed7", func := "quipu/quipulaw.BosePuts", spec := "bosePuts", apart := false, narrowed := true }
def BosePutsUptoSaid : Prop := bosePutsUptoRow.holds Try.pinned (OpenSpec.upto bosePutsSpec)

/-- 'quipulaw.BoseFixes', WHERE WHAT IT READS IS OF BULK AT MOST 1048576: true; the input reads as it did. -/
def boseFixesUptoRow : OpenClaim := { program := "ytfngcoijbnhheaa", sum := "c1888ec76797872e64ffa012d9b71ec8f6202c7fdc8f5e6bab8788c5314e6ed7", func := "quipu/quipulaw.BoseFixes", spec := "boseFixes", recurses := true, apart := false, narrowed := true }
def BoseFixesUptoSaid : Prop := boseFixesUptoRow.holds Try.pinned (OpenSpec.upto boseFixesSpec)

/-- 'quipukeep.BoseTwo', WHERE WHAT IT READS IS OF BULK AT MOST 1048576: true; the input reads as it did. -/
def boseTwoUptoRow : OpenClaim := { program := "ytfngcoijbnhheaa", sum := "c1888ec76797872e64ffa012d9b71ec8f6202c7fdc8f5e6bab8788c5314e6ed7", func := "quipu/quipukeep.BoseTwo", spec := "boseTwo", recurses := true, apart := false, narrowed := true }
def BoseTwoUptoSaid : Prop := boseTwoUptoRow.holds Try.pinned (OpenSpec.upto boseTwoSpec)

/-- 'quipukeep.BoseFar', WHERE WHAT IT READS IS OF BULK AT MOST 1048576: true; the input reads as it did. -/
def boseFarUptoRow : OpenClaim := { program := "ytfngcoijbnhheaa", sum := "c1888ec76797872e64ffa012d9b71ec8f6202c7fdc8f5e6bab8788c5314e6ed7", func := "quipu/quipukeep.BoseFar", spec := "boseFar", apart := false, narrowed := true }
def BoseFarUptoSaid : Prop := boseFarUptoRow.holds Try.pinned (OpenSpec.upto boseFarSpec)

end Rows
end Go.Proofs.Ytfngcoijbnhheaa
