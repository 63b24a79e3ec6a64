/-
  No cell of these rows narrows 'for every input' (looked for: loops, veiled, ifaces, maps, wideKeys, modest, calm, conditions, laid).
  DERIVED. THE GIVEN ROWS OF THIS SEAT. 5 by the template 'for every input the law returns true; each argument reads behind the call as it read before'; 0 by the template 'total and deterministic' (their statements: YtakojkekelhobaaTotals.lean).
  GIVEN WITH THE SEED: the statements are not yours to turn. If you find one false, say at which input.
  Laid BY PROGRAM, IN A SANDBOX (cutbox-rows.mjs): the forced cells as the released guide's own fill.sh prints them over the translation f53f6025108a1f12… (all of the seat's roots in one cut). By AI agents, Wed Nov 11 2026. No macro, syntax, notation, axiom, sorry.
-/
import Derived.Test.YtakojkekelhobaaChecked
import GoSem.Claim
import GoSem.ClaimJoined
import GoSem.ClaimMapViews
import Derived.JoinedTies
import Derived.KernelRfl
namespace Go.Proofs.Ytakojkekelhobaa
/- THE CELL 'sum', in the pinned program and in every row, IS THE sha256 OF THE DUMP (.gsa) THAT YtakojkekelhobaaProg.lean LOADS. Nothing in Lean hashes anything: it is a label: what it is worth is what the hold of that sum in a sandbox is worth. -/
noncomputable def Try.pinned : Pinned := { name := "ytakojkekelhobaa", sum := "f53f6025108a1f12eed9f27cd87b27c4b1ac75d452312abf42bc83973bee1c22", checked := Try.checked }
namespace Rows
def none {H : Type} : Left H := { results := [], args := [] }

/-- 'quipulaw.MullerSizes': WHATEVER THE INPUT: true; the input reads as it did. -/
def mullerSizesSpec : ChangeSpec := { name := "mullerSizes", fn := fun _ => fun
  | [d1, d2] => { results := [.lit (.bool true)], args := [d1, d2] }
  | _ => none }
def mullerSizesRow : OpenClaim := { program := "ytakojkekelhobaa", sum := "f53f6025108a1f12eed9f27cd87b27c4b1ac75d452312abf42bc83973bee1c22", func := "quipu/quipulaw.MullerSizes", spec := "mullerSizes", unfollowed := true, recurses := true, apart := false }
def MullerSizesSaid : Prop := mullerSizesRow.holds Try.pinned (OpenSpec.ofChange mullerSizesSpec)

/-- ITS FALSE NEIGHBOUR: 'it returns false'. Refute it at one input. -/
def mullerSizesWrong : ChangeSpec := { name := "mullerSizes", fn := fun _ => fun
  | [d1, d2] => { results := [.lit (.bool false)], args := [d1, d2] }
  | _ => none }
def MullerSizesWrongFalsely : Prop := mullerSizesRow.holds Try.pinned (OpenSpec.ofChange mullerSizesWrong)

/-- 'quipulaw.MullerPuts': WHATEVER THE INPUT: true; the input reads as it did. -/
def mullerPutsSpec : ChangeSpec := { name := "mullerPuts", fn := fun _ => fun
  | [d1, d2, d3] => { results := [.lit (.bool true)], args := [d1, d2, d3] }
  | _ => none }
def mullerPutsRow : OpenClaim := { program := "ytakojkekelhobaa", sum := "f53f6025108a1f12eed9f27cd87b27c4b1ac75d452312abf42bc83973bee1c22", func := "quipu/quipulaw.MullerPuts", spec := "mullerPuts", unfollowed := true, recurses := true, apart := false }
def MullerPutsSaid : Prop := mullerPutsRow.holds Try.pinned (OpenSpec.ofChange mullerPutsSpec)

/-- ITS FALSE NEIGHBOUR: 'it returns false'. Refute it at one input. -/
def mullerPutsWrong : ChangeSpec := { name := "mullerPuts", fn := fun _ => fun
  | [d1, d2, d3] => { results := [.lit (.bool false)], args := [d1, d2, d3] }
  | _ => none }
def MullerPutsWrongFalsely : Prop := mullerPutsRow.holds Try.pinned (OpenSpec.ofChange mullerPutsWrong)

/-- 'quipulaw.MullerGets': WHATEVER THE INPUT: true; the input reads as it did. -/
def mullerGetsSpec : ChangeSpec := { name := "mullerGets", fn := fun _ => fun
  | [d1, d2, d3] => { results := [.lit (.bool true)], args := [d1, d2, d3] }
  | _ => none }
def mullerGetsRow : OpenClaim := { program := "ytakojkekelhobaa", sum := "f53f6025108a1f12eed9f27cd87b27c4b1ac75d452312abf42bc83973bee1c22", func := "quipu/quipulaw.MullerGets", spec := "mullerGets", unfollowed := true, recurses := true, apart := false }
def MullerGetsSaid : Prop := mullerGetsRow.holds Try.pinned (OpenSpec.ofChange mullerGetsSpec)

/-- ITS FALSE NEIGHBOUR: 'it returns false'. Refute it at one input. -/
def mullerGetsWrong : ChangeSpec := { name := "mullerGets", fn := fun _ => fun
  | [d1, d2, d3] => { results := [.lit (.bool false)], args := [d1, d2, d3] }
  | _ => none }
def MullerGetsWrongFalsely : Prop := mullerGetsRow.holds Try.pinned (OpenSpec.ofChange mullerGetsWrong)

/-- 'quipukeep.MullerFar': WHATEVER THE INPUT: true; the input reads as it did. -/
def mullerFarSpec : ChangeSpec := { name := "mullerFar", fn := fun _ => fun
  | [d1, d2, d3, d4] => { results := [.lit (.bool true)], args := [d1, d2, d3, d4] }
  | _ => none }
def mullerFarRow : OpenClaim := { program := "ytakojkekelhobaa", sum := "f53f6025108a1f12eed9f27cd87b27c4b1ac75d452312abf42bc83973bee1c22", func := "quipu/quipukeep.MullerFar", spec := "mullerFar", unfollowed := true, recurses := true, apart := false }
def MullerFarSaid : Prop := mullerFarRow.holds Try.pinned (OpenSpec.ofChange mullerFarSpec)

/-- ITS FALSE NEIGHBOUR: 'it returns false'. Refute it at one input. -/
def mullerFarWrong : ChangeSpec := { name := "mullerFar", fn := fun _ => fun
  | [d1, d2, d3, d4] => { results := [.lit (.bool false)], args := [d1, d2, d3, d4] }
  | _ => none }
def MullerFarWrongFalsely : Prop := mullerFarRow.holds Try.pinned (OpenSpec.ofChange mullerFarWrong)

/-- 'quipukeep.MullerBack': WHATEVER THE INPUT: true; the input reads as it did. -/
def mullerBackSpec : ChangeSpec := { name := "mullerBack", fn := fun _ => fun
  | [d1, d2, d3, d4] => { results := [.lit (.bool true)], args := [d1, d2, d3, d4] }
  | _ => none }
def mullerBackRow : OpenClaim := { program := "ytakojkekelhobaa", sum := "f53f6025108a1f12eed9f27cd87b27c4b1ac75d452312abf42bc83973bee1c22", func := "quipu/quipukeep.MullerBack", spec := "mullerBack", unfollowed := true, recurses := true, apart := false }
def MullerBackSaid : Prop := mullerBackRow.holds Try.pinned (OpenSpec.ofChange mullerBackSpec)

/-- ITS FALSE NEIGHBOUR: 'it returns false'. Refute it at one input. -/
def mullerBackWrong : ChangeSpec := { name := "mullerBack", fn := fun _ => fun
  | [d1, d2, d3, d4] => { results := [.lit (.bool false)], args := [d1, d2, d3, d4] }
  | _ => none }
def MullerBackWrongFalsely : Prop := mullerBackRow.holds Try.pinned (OpenSpec.ofChange mullerBackWrong)

/- THE SECOND FORM. 'bulk': how many values and letters a reading holds, each counted each time it is reached (what is shared counts as often as it is met; a slice's spare places count too). A statement '..UptoSaid' is the law's where the arguments, and the package variables that the reading takes, are together of bulk at most 1048576: NARROWER than '..Said'. Prove '..Said' where nothing that the law and all that it calls make is longer than what came in: it says more and counts as full. Else prove '..UptoSaid'. A law counts once. -/
mutual
def uptoBulk {H : Type} : DataW H → Nat
  | .lit (.string bytes) => bytes.length + 1
  | .lit _ => 1
  | .nil => 1
  | .ptr d => uptoBulk d + 1
  | .slice elems spare => uptoBulkAll elems + uptoBulkAll spare + 1
  | .agg parts => uptoBulkAll parts + 1
  | .iface _ d => uptoBulk d + 1
  | .map entries => uptoBulkEntries entries + 1
  | .held _ => 1
def uptoBulkAll {H : Type} : List (DataW H) → Nat
  | [] => 0
  | d :: r => uptoBulk d + uptoBulkAll r
def uptoBulkEntries {H : Type} : List (Lit × DataW H) → Nat
  | [] => 0
  | x :: r => uptoBulkEntry x + uptoBulkEntries r
def uptoBulkEntry {H : Type} : Lit × DataW H → Nat
  | (.string bytes, d) => bytes.length + uptoBulk d + 1
  | (_, d) => uptoBulk d + 1
 end
def uptoSmall : (H : Type) → List (DataW H) → Bool := fun _ ds => decide (uptoBulkAll ds ≤ 1048576)
def OpenSpec.upto (s : _root_.Go.ChangeSpec) : _root_.Go.OpenSpec := { _root_.Go.OpenSpec.ofChange s with cond := some uptoSmall }

/-- 'quipulaw.MullerSizes', WHERE WHAT IT READS IS OF BULK AT MOST 1048576: true; the input reads as it did. -/
def mullerSizesUptoRow : OpenClaim := { program := "ytakojkekelhobaa", sum := "f53f6025108a1f12eed9f27cd87b27c4b1ac75d452312abf42bc83973bee1c22", func := "quipu/quipulaw.MullerSizes", spec := "mullerSizes", unfollowed := true, recurses := true, apart := false, narrowed := true }
def MullerSizesUptoSaid : Prop := mullerSizesUptoRow.holds Try.pinned (OpenSpec.upto mullerSizesSpec)

/-- 'quipulaw.MullerPuts', WHERE WHAT IT READS IS OF BULK AT MOST 1048576: true; the input reads as it did. -/
def mullerPutsUptoRow : OpenClaim := { program := "ytakojkekelhobaa", sum := "f53f6025108a1f12eed9f27cd87b27c4b1ac75d452312abf42bc83973bee1c22", func := "quipu/quipulaw.MullerPuts", spec := "mullerPuts", unfollowed := true, recurses := true, apart := false, narrowed := true }
def MullerPutsUptoSaid : Prop := mullerPutsUptoRow.holds Try.pinned (OpenSpec.upto mullerPutsSpec)

/-- 'quipulaw.MullerGets', WHERE WHAT IT READS IS OF BULK AT MOST 1048576: true; the input reads as it did. -/
def mullerGetsUptoRow : OpenClaim := { program := "ytakojkekelhobaa", sum := "f53f6025108a1f12eed9f27cd87b27c4b1ac75d452312abf42bc83973bee1c22", func := "quipu/quipulaw.MullerGets", spec := "mullerGets", unfollowed := true, recurses := true, apart := false, narrowed := true }
def MullerGetsUptoSaid : Prop := mullerGetsUptoRow.holds Try.pinned (OpenSpec.upto mullerGetsSpec)

/-- 'quipukeep.MullerFar', WHERE WHAT IT READS IS OF BULK AT MOST 1048576: true; the input reads as it did. -/
def mullerFarUptoRow : OpenClaim := { program := "ytakojkekelhobaa", sum := "f53f6025108a1f12eed9f27cd87b27c4b1ac75d452312abf42bc83973bee1c22", func := "quipu/quipukeep.MullerFar", spec := "mullerFar", unfollowed := true, recurses := true, apart := false, narrowed := true }
def MullerFarUptoSaid : Prop := mullerFarUptoRow.holds Try.pinned (OpenSpec.upto mullerFarSpec)

/-- 'quipukeep.MullerBack', WHERE WHAT IT READS IS OF BULK AT MOST 1048576: true; the input reads as it did. -/
def mullerBackUptoRow : OpenClaim := { program := "ytakojkekelhobaa", sum := "f53f6025108a1f12eed9f27cd87b27c4b1ac75d452312abf42bc83973bee1c22", func := "quipu/quipukeep.MullerBack", spec := "mullerBack", unfollowed := true, recurses := true, apart := false, narrowed := true }
def MullerBackUptoSaid : Prop := mullerBackUptoRow.holds Try.pinned (OpenSpec.upto mullerBackSpec)

end Rows
end Go.Proofs.Ytakojkekelhobaa
