/-
  Bytes and numbers that a call is handed, whatever they are, lie in memory as words of bytes and lists of numbers.
-/
import Derived.Test.YtabjliijojidmaaRows
import Derived.Test.YtabjliijojidmaaOwn
import Derived.ProofKit
import Derived.OpenShut
import Derived.ShutString
import Derived.ChangeOld
import Derived.SizedLaws
import Derived.Deep.Grids
import Derived.Deep.Modes
import Derived.Deep.Frames
import Derived.Deep.CondSized
namespace Go.Proofs.Ytabjliijojidmaa
open Go.ChangeShapes Go.WideShapes Go.ChangeAt Go.RowKit Go.Deep

theorem cells5 : Try.prog.cellsOf 5 = 1 := by kernel_rfl

/-- Bytes. -/
def Byt (l : List Int) : Prop := ∀ b ∈ l, (Lit.int .u8 b).wf = true

theorem laidOut : laidOutB Try.prog = true := by kernel_rfl

theorem own : ownKnob Try.prog.godebug = none := by kernel_rfl

theorem addr_plain {w : World} {a : Addr} {v : Value} (h : w.cell? (a.add 0) = some v) : a = ⟨a.block, a.off, none⟩ := by
  have := World.cell?_spot h
  obtain ⟨b, o, s⟩ := a
  simp [Addr.add] at this
  simp [this]

theorem cell_at {w : World} {a : Addr} {i : Nat} {u v : Value} (h : w.cell? (a.add 0) = some u) (hi : w.cell? (a.add i) = some v) : w.cell? ⟨a.block, a.off + i, none⟩ = some v := by
  rw [addr_plain h, add_plain] at hi
  exact hi

theorem bytes5 : Try.prog.bytesOf 5 = 1 := by kernel_rfl

end Go.Proofs.Ytabjliijojidmaa
