/-
  No cell of these rows narrows 'for every input' (looked for: loops, veiled, ifaces, maps, wideKeys, modest, calm, conditions, laid).
  DERIVED. THE GIVEN ROWS OF THIS SEAT. 4 by the template 'for every input the law returns true; each argument reads behind the call as it read before'; 0 by the template 'total and deterministic' (their statements: YtjdipgkdaloclaaTotals.lean).
  GIVEN WITH THE SEED: the statements are not yours to turn. If you find one false, say at which input.
  Laid BY PROGRAM, IN A SANDBOX (cutbox-rows.mjs): the forced cells as the released guide's own fill.sh prints them over the translation 1c738f30831535ff… (all of the seat's roots in one cut). By AI agents, Wed Nov 11 2026. No macro, syntax, notation, axiom, sorry.
-/
import Derived.Test.YtjdipgkdaloclaaChecked
import GoSem.Claim
import GoSem.ClaimJoined
import GoSem.ClaimMapViews
import Derived.JoinedTies
import Derived.KernelRfl
namespace Go.Proofs.Ytjdipgkdaloclaa
/- THE CELL 'sum', in the pinned program and in every row, IS THE sha256 OF THE DUMP (.gsa) THAT YtjdipgkdaloclaaProg.lean LOADS. Nothing in Lean hashes anything: it is a label: what it is worth is what the hold of that sum in a sandbox is worth. -/
noncomputable def Try.pinned : Pinned := { name := "ytjdipgkdaloclaa", sum := "1c738f30831535ffa82123f539f434358a4a4fc430696144f6a55c90d33eb550", checked := Try.checked }
namespace Rows
def none {H : Type} : Left H := { results := [], args := [] }

/-- 'quipulaw.PointsPuts': WHATEVER THE INPUT: true; the input reads as it did. -/
def pointsPutsSpec : ChangeSpec := { name := "pointsPuts", fn := fun _ => fun
  | [d1, d2] => { results := [.lit (.bool true)], args := [d1, d2] }
  | _ => none }
def pointsPutsRow : OpenClaim := { program := "ytjdipgkdaloclaa", sum := "1c738f30831535ffa82123f539f434358a4a4fc430696144f6a55c90d33eb550", func := "quipu/quipulaw.PointsPuts", spec := "pointsPuts", unfollowed := true, recurses := true, apart := false }
def PointsPutsSaid : Prop := pointsPutsRow.holds Try.pinned (OpenSpec.ofChange pointsPutsSpec)

/-- ITS FALSE NEIGHBOUR: 'it returns false'. Refute it at one input. -/
def pointsPutsWrong : ChangeSpec := { name := "pointsPuts", fn := fun _ => fun
  | [d1, d2] => { results := [.lit (.bool false)], args := [d1, d2] }
  | _ => none }
def PointsPutsWrongFalsely : Prop := pointsPutsRow.holds Try.pinned (OpenSpec.ofChange pointsPutsWrong)

/-- 'quipulaw.PointsFills': WHATEVER THE INPUT: true; the input reads as it did. -/
def pointsFillsSpec : ChangeSpec := { name := "pointsFills", fn := fun _ => fun
  | [d1, d2, d3] => { results := [.lit (.bool true)], args := [d1, d2, d3] }
  | _ => none }
def pointsFillsRow : OpenClaim := { program := "ytjdipgkdaloclaa", sum := "1c738f30831535ffa82123f539f434358a4a4fc430696144f6a55c90d33eb550", func := "quipu/quipulaw.PointsFills", spec := "pointsFills", unfollowed := true, recurses := true, apart := false }
def PointsFillsSaid : Prop := pointsFillsRow.holds Try.pinned (OpenSpec.ofChange pointsFillsSpec)

/-- ITS FALSE NEIGHBOUR: 'it returns false'. Refute it at one input. -/
def pointsFillsWrong : ChangeSpec := { name := "pointsFills", fn := fun _ => fun
  | [d1, d2, d3] => { results := [.lit (.bool false)], args := [d1, d2, d3] }
  | _ => none }
def PointsFillsWrongFalsely : Prop := pointsFillsRow.holds Try.pinned (OpenSpec.ofChange pointsFillsWrong)

/-- 'quipukeep.PointsAny': WHATEVER THE INPUT: true; the input reads as it did. -/
def pointsAnySpec : ChangeSpec := { name := "pointsAny", fn := fun _ => fun
  | [d1, d2, d3] => { results := [.lit (.bool true)], args := [d1, d2, d3] }
  | _ => none }
def pointsAnyRow : OpenClaim := { program := "ytjdipgkdaloclaa", sum := "1c738f30831535ffa82123f539f434358a4a4fc430696144f6a55c90d33eb550", func := "quipu/quipukeep.PointsAny", spec := "pointsAny", unfollowed := true, recurses := true, apart := false }
def PointsAnySaid : Prop := pointsAnyRow.holds Try.pinned (OpenSpec.ofChange pointsAnySpec)

/-- ITS FALSE NEIGHBOUR: 'it returns false'. Refute it at one input. -/
def pointsAnyWrong : ChangeSpec := { name := "pointsAny", fn := fun _ => fun
  | [d1, d2, d3] => { results := [.lit (.bool false)], args := [d1, d2, d3] }
  | _ => none }
def PointsAnyWrongFalsely : Prop := pointsAnyRow.holds Try.pinned (OpenSpec.ofChange pointsAnyWrong)

/-- 'quipukeep.PointsFar': WHATEVER THE INPUT: true; the input reads as it did. -/
def pointsFarSpec : ChangeSpec := { name := "pointsFar", fn := fun _ => fun
  | [d1, d2, d3] => { results := [.lit (.bool true)], args := [d1, d2, d3] }
  | _ => none }
def pointsFarRow : OpenClaim := { program := "ytjdipgkdaloclaa", sum := "1c738f30831535ffa82123f539f434358a4a4fc430696144f6a55c90d33eb550", func := "quipu/quipukeep.PointsFar", spec := "pointsFar", unfollowed := true, recurses := true, apart := false }
def PointsFarSaid : Prop := pointsFarRow.holds Try.pinned (OpenSpec.ofChange pointsFarSpec)

/-- ITS FALSE NEIGHBOUR: 'it returns false'. Refute it at one input. -/
def pointsFarWrong : ChangeSpec := { name := "pointsFar", fn := fun _ => fun
  | [d1, d2, d3] => { results := [.lit (.bool false)], args := [d1, d2, d3] }
  | _ => none }
def PointsFarWrongFalsely : Prop := pointsFarRow.holds Try.pinned (OpenSpec.ofChange pointsFarWrong)

/- THE SECOND FORM. 'bulk': how many values and letters a reading holds, each counted each time it is reached (what is shared counts as often as it is met; a slice's spare places count too). A statement '..UptoSaid' is the law's where the arguments, and the package variables that the reading takes, are together of bulk at most 1048576: NARROWER than '..Said'. Prove '..Said' where nothing that the law and all that it calls make is longer than what came in: it says more and counts as full. Else prove '..UptoSaid'. A law counts once. -/
mutual
def uptoBulk {H : Type} : DataW H → Nat
  | .lit (.string bytes) => bytes.length + 1
  | .lit _ => 1
  | .nil => 1
  | .ptr d => uptoBulk d + 1
  | .slice elems spare => uptoBulkAll elems + uptoBulkAll spare + 1
  | .agg parts => uptoBulkAll parts + 1
  | .iface _ d => uptoBulk d + 1
  | .map entries => uptoBulkEntries entries + 1
  | .held _ => 1
def uptoBulkAll {H : Type} : List (DataW H) → Nat
  | [] => 0
  | d :: r => uptoBulk d + uptoBulkAll r
def uptoBulkEntries {H : Type} : List (Lit × DataW H) → Nat
  | [] => 0
  | x :: r => uptoBulkEntry x + uptoBulkEntries r
def uptoBulkEntry {H : Type} : Lit × DataW H → Nat
  | (.string bytes, d) => bytes.length + uptoBulk d + 1
  | (_, d) => uptoBulk d + 1
 end
def uptoSmall : (H : Type) → List (DataW H) → Bool := fun _ ds => decide (uptoBulkAll ds ≤ 1048576)
def OpenSpec.upto (s : _root_.Go.ChangeSpec) : _root_.Go.OpenSpec := { _root_.Go.OpenSpec.ofChange s with cond := some uptoSmall }

/-- 'quipulaw.PointsPuts', WHERE WHAT IT READS IS OF BULK AT MOST 1048576: true; the input reads as it did. -/
def pointsPutsUptoRow : OpenClaim := { program := "ytjdipgkdaloclaa", sum := "1c738f30831535ffa82123f539f434358a4a4fc430696144f6a55c90d33eb550", func := "quipu/quipulaw.PointsPuts", spec := "pointsPuts", unfollowed := true, recurses := true, apart := false, narrowed := true }
def PointsPutsUptoSaid : Prop := pointsPutsUptoRow.holds Try.pinned (OpenSpec.upto pointsPutsSpec)

/-- 'quipulaw.PointsFills', WHERE WHAT IT READS IS OF BULK AT MOST 1048576: true; the input reads as it did. -/
def pointsFillsUptoRow : OpenClaim := { program := "ytjdipgkdaloclaa", sum := "1c738f30831535ffa82123f539f434358a4a4fc430696144f6a55c90d33eb550", func := "quipu/quipulaw.PointsFills", spec := "pointsFills", unfollowed := true, recurses := true, apart := false, narrowed := true }
def PointsFillsUptoSaid : Prop := pointsFillsUptoRow.holds Try.pinned (OpenSpec.upto pointsFillsSpec)

/-- 'quipukeep.PointsAny', WHERE WHAT IT READS IS OF BULK AT MOST 1048576: true; the input reads as it did. -/
def pointsAnyUptoRow : OpenClaim := { program := "ytjdipgkdaloclaa", sum := "1c738f30831535ffa82123f539f434358a4a4fc430696144f6a55c90d33eb550", func := "quipu/quipukeep.PointsAny", spec := "pointsAny", unfollowed := true, recurses := true, apart := false, narrowed := true }
def PointsAnyUptoSaid : Prop := pointsAnyUptoRow.holds Try.pinned (OpenSpec.upto pointsAnySpec)

/-- 'quipukeep.PointsFar', WHERE WHAT IT READS IS OF BULK AT MOST 1048576: true; the input reads as it did. -/
def pointsFarUptoRow : OpenClaim := { program := "ytjdipgkdaloclaa", sum := "1c738f30831535ffa82123f539f434358a4a4fc430696144f6a55c90d33eb550", func := "quipu/quipukeep.PointsFar", spec := "pointsFar", unfollowed := true, recurses := true, apart := false, narrowed := true }
def PointsFarUptoSaid : Prop := pointsFarUptoRow.holds Try.pinned (OpenSpec.upto pointsFarSpec)

end Rows
end Go.Proofs.Ytjdipgkdaloclaa
